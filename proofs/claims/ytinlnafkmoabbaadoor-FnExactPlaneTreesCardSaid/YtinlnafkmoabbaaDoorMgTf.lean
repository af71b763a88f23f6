/- Several texts in one: LeOnes, TiMath, TiElt, TiUnc. -/
import Derived.Test.YtinlnafkmoabbaaDoorMgE
import Derived.Test.YtinlnafkmoabbaaDoorMgL
import Derived.Test.YtinlnafkmoabbaaDoorHuFacts
import Derived.Test.YtinlnafkmoabbaaDoorMgO
import Derived.Test.YtinlnafkmoabbaaDoorMgTw
import Derived.Test.YtinlnafkmoabbaaDoorMgKs
/- math/bits.OnesCount of small sets. -/
namespace Go.Proofs.YtinlnafkmoabbaaDoor.Sg
open Go.RowKit Pt NewI
/-- The steps of OnesCount64. -/
def oc1 (x : Nat) : Nat := (x / 2 &&& 6148914691236517205) + (x &&& 6148914691236517205)
def oc2 (y : Nat) : Nat := (y / 4 &&& 3689348814741910323) + (y &&& 3689348814741910323)
def oc3 (y : Nat) : Nat := (y / 16 + y) &&& 1085102592571150095
end Go.Proofs.YtinlnafkmoabbaaDoor.Sg
/- Full sets of edges, as impl tells them: by the edges that none of a set crosses. Plain mathematics. -/
namespace Go.Proofs.YtinlnafkmoabbaaDoor.Sg
open Go.RowKit Pt NewI
theorem sizeI_succ (x U : Nat) : sizE (x + 1) U = sizE x U + if U.testBit x = true then 1 else 0 := by
  unfold sizE
  rw [List.range_succ, List.countP_append]
  simp [List.countP_cons]
theorem bit_set (S x y : Nat) : (S ||| 2 ^ x).testBit y = (S.testBit y || decide (y = x)) := by
  rw [Nat.testBit_or, Nat.testBit_two_pow]
  by_cases h : y = x
  · subst h; simp
  · rw [decide_eq_false h, decide_eq_false (fun e => h e.symm)]
theorem sizeI_set {S x : Nat} (h : S.testBit x = false) : ∀ n, sizE n (S ||| 2 ^ x) = sizE n S + if x < n then 1 else 0
  | 0 => by simp [sizE]
  | n + 1 => by
    have ih := sizeI_set h n
    rw [sizeI_succ, sizeI_succ, ih, bit_set]
    by_cases e : n = x
    · subst e
      simp [h]
    · rw [decide_eq_false e, Bool.or_false]
      by_cases hl : x < n
      · have h2 : x < n + 1 := by omega
        simp only [hl, h2, if_true]
        omega
      · have h2 : ¬ x < n + 1 := by omega
        simp only [hl, h2, if_false]
        omega
section
variable {c : Nat → Nat} {E : Nat} (hs : ∀ x y, x < E → y < E → (c x).testBit y = (c y).testBit x) (hi : ∀ x, (c x).testBit x = false)
include hs hi
end
/-- The edges that no edge of a set crosses. -/
def uncN (c : Nat → Nat) (E T : Nat) : Nat := setN (fun x => T &&& c x == 0) E
theorem unc_bit (c : Nat → Nat) (E T x : Nat) : (uncN c E T).testBit x = (decide (x < E) && (c x &&& T == 0)) := by
  unfold uncN
  rw [setN_bit, Nat.and_comm]
section
variable {n : Nat} {s : List UInt8}
theorem cS_bit (h : aciB n s = true) {x : Nat} (hx : x < eN n) (y : Nat) : (cS n s x).testBit y = (decide (y < eN n) && crE (sgnF (lookS n s)) n (x, y)) := by
  show (crC (sgS n s) n x).testBit y = _
  rw [← crS_crC h hx]
  unfold crS
  rw [setN_bit]
theorem cS_sym (h : aciB n s = true) (x y : Nat) (hx : x < eN n) (hy : y < eN n) : (cS n s x).testBit y = (cS n s y).testBit x := by
  rw [cS_bit h hx, cS_bit h hy, decide_eq_true hx, decide_eq_true hy, crE_sym h hy hx]
theorem cS_self (x : Nat) : (cS n s x).testBit x = false := by
  show (crC (sgS n s) n x).testBit x = false
  unfold crC crG
  rw [setN_bit]
  simp
end
def elN (T : Nat) : List Nat := (List.range 21).filter fun k => T.testBit k
theorem mem_elN {T x : Nat} : x ∈ elN T ↔ x < 21 ∧ T.testBit x = true := by unfold elN; rw [List.mem_filter, List.mem_range]
theorem elN_len (T : Nat) : (elN T).length ≤ 21 := by
  have := List.length_filter_le (fun k => T.testBit k) (List.range 21)
  rw [List.length_range] at this
  exact this
end Go.Proofs.YtinlnafkmoabbaaDoor.Sg
/- impl.elementsOf of any set of edges; math/bits.OnesCount of sets of fifteen edges. -/
namespace Go.Proofs.YtinlnafkmoabbaaDoor.Sg
open Go.RowKit Pt NewI
theorem elN_asc (T : Nat) : (elN T).Pairwise (· < ·) := List.pairwise_lt_range.filter _
theorem elN_zero : elN 0 = [] := by unfold elN; rw [List.filter_eq_nil_iff]; intro x _; rw [Nat.zero_testBit]; simp
/-- The lowest bit of a number, and the number without it. -/
theorem low_bitG {r : Nat} (h0 : 0 < r) (h : r < 2097152) : ∃ k, k < 21 ∧ r &&& (18446744073709551616 - r) = 2 ^ k ∧ r &&& (r - 1) = r - 2 ^ k ∧ r.testBit k = true ∧ elN r = k :: elN (r - 2 ^ k) ∧ r - 2 ^ k < r := by
  have hne : elN r ≠ [] := fun e => by
    have : r = 0 := Nat.eq_of_testBit_eq fun y => by
      rw [Nat.zero_testBit]
      cases hb : r.testBit y
      · rfl
      · have hy : y < 21 := by
          refine Classical.byContradiction fun hn => ?_
          rw [bits_of_lt (E := 21) (by omega) y (by omega)] at hb
          cases hb
        have := mem_elN.2 ⟨hy, hb⟩
        rw [e] at this
        cases this
    omega
  obtain ⟨k, L, hL⟩ : ∃ k L, elN r = k :: L := by
    cases hc : elN r with
    | nil => exact absurd hc hne
    | cons a l => exact ⟨a, l, rfl⟩
  obtain ⟨hk, hb⟩ := mem_elN.1 (by rw [hL]; exact List.mem_cons_self : k ∈ elN r)
  have hasc := elN_asc r
  rw [hL] at hasc
  obtain ⟨ha1, ha2⟩ := List.pairwise_cons.1 hasc
  have hlow : ∀ y, y < k → r.testBit y = false := fun y hy => by
    cases hc : r.testBit y
    · rfl
    · have : y ∈ elN r := mem_elN.2 ⟨by omega, hc⟩
      rw [hL] at this
      rcases List.mem_cons.1 this with rfl | hm
      · omega
      · have := ha1 y hm; omega
  have hle := sub_le hb
  have hp := Nat.pow_pos (n := k) (show 0 < 2 by omega)
  obtain ⟨q, r', hr', hr⟩ := bit_parts r k
  rw [if_pos hb] at hr
  have hp1 : 2 ^ (k + 1) = 2 * 2 ^ k := by rw [Nat.pow_succ]; omega
  have hz : r' = 0 := Nat.eq_of_testBit_eq fun y => by
    rw [Nat.zero_testBit]
    rcases Nat.lt_or_ge y k with hy | hy
    · have := hlow y hy
      rw [hr, Nat.testBit_two_pow_mul_add q (show 2 ^ k + r' < 2 ^ (k + 1) by omega), if_pos (by omega), show 2 ^ k + r' = 2 ^ k * 1 + r' by omega, Nat.testBit_two_pow_mul_add 1 hr', if_pos hy] at this
      exact this
    · exact bits_of_lt hr' y hy
  subst hz
  have hm1 : ∀ y, (r - 1).testBit y = if y < k then true else r.testBit y && decide (y ≠ k) := fun y => by
    have e : r - 1 = 2 ^ (k + 1) * q + (2 ^ k - 1) := by omega
    have hbit : r.testBit y = if y < k + 1 then (2 ^ k + 0).testBit y else q.testBit (y - (k + 1)) := by
      conv => lhs; rw [hr]
      exact Nat.testBit_two_pow_mul_add q (show 2 ^ k + 0 < 2 ^ (k + 1) by omega) y
    rw [hbit, e, Nat.testBit_two_pow_mul_add q (show 2 ^ k - 1 < 2 ^ (k + 1) by omega), Nat.testBit_two_pow_sub_one]
    by_cases h1 : y < k
    · rw [if_pos (by omega), if_pos h1, decide_eq_true h1]
    · rw [if_neg h1]
      by_cases h2 : y = k
      · subst h2
        rw [if_pos (by omega), decide_eq_false (by omega)]
        simp
      · rw [if_neg (by omega), if_neg (by omega), decide_eq_true h2, Bool.and_true]
  have e1 : r &&& (r - 1) = r - 2 ^ k := Nat.eq_of_testBit_eq fun y => by
    rw [Nat.testBit_and, hm1, bit_sub hb]
    by_cases h1 : y < k
    · rw [hlow y h1]; rfl
    · rw [if_neg h1]
      cases r.testBit y <;> rfl
  refine ⟨k, hk, ?_, e1, hb, ?_, by omega⟩
  · refine Nat.eq_of_testBit_eq fun y => ?_
    have e : 18446744073709551616 - r = 2 ^ 64 - (r - 1 + 1) := by omega
    rw [e, Nat.testBit_and, Nat.testBit_two_pow_sub_succ (by omega), Nat.testBit_two_pow, hm1]
    by_cases h1 : y < k
    · rw [hlow y h1, decide_eq_false (show ¬ k = y by omega)]; rfl
    · rw [if_neg h1]
      by_cases h2 : y = k
      · subst h2
        rw [hb, decide_eq_true (show y < 64 by omega)]
        simp
      · rw [decide_eq_false (show ¬ k = y from fun e => h2 e.symm), decide_eq_true h2, Bool.and_true]
        cases r.testBit y <;> simp
  · rw [hL]
    congr 1
    refine List.Perm.eq_of_pairwise (le := fun a b => a < b) (fun a b _ _ h1 h2 => by omega) ha2 (elN_asc _) ?_
    refine (List.perm_ext_iff_of_nodup (ha2.imp fun h => by omega) ((elN_asc _).imp fun h => by omega)).2 fun y => ?_
    rw [mem_elN, bit_sub hb, Bool.and_eq_true, decide_eq_true_eq]
    constructor
    · intro hy
      have h1 := mem_elN.1 (by rw [hL]; exact List.mem_cons_of_mem _ hy : y ∈ elN r)
      have := ha1 y hy
      exact ⟨h1.1, h1.2, by omega⟩
    · rintro ⟨h1, h2, h3⟩
      have : y ∈ elN r := mem_elN.2 ⟨h1, h2⟩
      rw [hL] at this
      rcases List.mem_cons.1 this with h | h
      · exact absurd h h3
      · exact h
set_option maxHeartbeats 1600000 in
set_option maxRecDepth 100000 in
theorem elementsG_any (T : Nat) (hT21 : T < 2097152) (w : World) (hT : Tab w) :
    Calls Tryd.prog 40 #[.int .i64 T] w fun e w' => ∃ v, e = .returned v ∧ ArgZ w' w.heap.size v (zl (elN T)) ∧ Below w.heap.size w w' := by
  have HTAB := Lib.hid hT
  have HTZ := Lib.hid tzE_any
  obtain ⟨i0, hi, hz0, hz1, hz2⟩ := info_parts infoI
  have hcv : IntKind.u64.wrap ((T : Nat) : Int) = ((T : Nat) : Int) := by rw [IntKind.wrap_u64]; omega
  have HO0 : Hid (OwnsZ w w.heap.size (.slice none 0 0) (zl [])) := Lib.hid (World.ownsRow_nil _ _ _ _)
  have HLEN := Lib.hid (elN_len T)
  have H0 : Hid (elN T = [] ++ elN T) := Lib.hid rfl
  obtain ⟨els, hels⟩ : ∃ els, els = elN T := ⟨_, rfl⟩
  rw [← hels] at H0 HLEN ⊢
  have H0 : Hid (els = [] ++ elN T) := Lib.hid hels
  clear hT hels
  go_enter Tryd.func40, Tryd.ntmps40
  go_wp2
  go_loopw [3, 4] (fun vv rv wr => ∃ (r : Nat) (D : List Nat), rv = .int .u64 r ∧ r < 2097152 ∧ Hid (els = D ++ elN r) ∧ Hid (OwnsZ wr w.heap.size vv (zl D)) ∧ Hid (D = [] → vv = .slice none 0 0) ∧ Hid (Below w.heap.size w wr)) (fun _ rv _ => (intOf rv).toNat)
  case atStart => exact ⟨T, [], rfl, hT21, H0, HO0, Lib.hid (fun _ => rfl), Lib.hid (Below.refl _ _)⟩
  case round =>
    obtain ⟨r, D, rfl, hr, HR, HO, HN, HB⟩ := hrel
    by_cases hz : r = 0
    · subst hz
      have hD : els = D := by rw [HR.out, elN_zero, List.append_nil]
      subst hD
      have HA : Hid (ArgZ wr w.heap.size _ (zl els)) := Lib.hid (ArgZ.of_own HO.out (fun e => HN.out (zl_nil e)))
      clear HO HN
      go_wp2
      go_ret
      exact ⟨_, rfl, HA.out, HB.out⟩
    · obtain ⟨k, hk, l1, l2, -, l3, l4⟩ := low_bitG (r := r) (by omega) hr
      have HC := Lib.hid (fun W hW => HTZ.out r k (by omega) hr hk l1 W hW)
      obtain ⟨p, hp⟩ : ∃ p, p = r - 1 := ⟨_, rfl⟩
      have hp1 : IntKind.u64.wrap ((r : Int) - 1) = (p : Int) := by rw [IntKind.wrap_u64]; omega
      have hba : bits BinOp.and IntKind.u64 (r : Int) ((p : Nat) : Int) = ((r - 2 ^ k : Nat) : Int) := by rw [bits_andU r p (by omega) (by omega), hp, l2]
      have hnz : ((r : Int) != 0) = true := by simp; omega
      have HR2 : Hid (els = (D ++ [k]) ++ elN (r - 2 ^ k)) := Lib.hid (by rw [HR.out, l3, List.append_assoc, List.singleton_append])
      generalize r - 2 ^ k = q at hba l4 HR2
      have hlen : D.length ≤ 20 := by
        have h1 := congrArg List.length HR2.out
        have h2 := HLEN.out
        rw [List.length_append, List.length_append, List.length_singleton] at h1
        omega
      have hzl : (zl D).length ≤ 20 := by rw [zl_length]; omega
      have hwr := HB.out.size
      clear l1 l2 l3 hp HR hlen
      go_wp2_with fail
      refine (HC.out _ (HTAB.out.on HB.out)).mono ?_
      rintro e w' ⟨rfl, rfl⟩
      go_wp2_with (at_builtin; refine wpList_append_own _ rfl (.tmp 13) (.tmp 16) 22 rfl w.heap.size 3 i0 _ 1 8 Tryd.underlying22 hi hz0 hz1 hz2 rfl (by decide) _ _ _ rfl (World.ownsRow.alloc HO.out _) ⟨_, 0, none⟩ 1 1 [.int .i64 (k : Int)] rfl rfl (news1 _ _ _) (one1 _) (by simp only [maxLen]; omega) (by omega) (by simp; omega) ?_)
      intro v6 w6 hown6 hg6 _
      have HB6 := Lib.hid ((HB.out.alloc hwr (.cells #[.int .i64 (k : Int)] 3)).grown hg6 (by simp; omega) (fun k hk => (World.ownsRow.lt HO.out k hk).1))
      have HO6 : Hid (OwnsZ w6 w.heap.size v6 (zl (D ++ [k]))) := Lib.hid (by
        have := ownsZ_snoc (ys := [(k : Int)]) hown6
        rw [zl_snoc]
        exact this)
      clear hown6 hg6
      go_wp2
      exact ⟨⟨q, D ++ [k], rfl, by omega, HR2, HO6, Lib.hid (fun e => absurd e (by simp)), HB6⟩, by simp only [intOf]; omega⟩
/-- OnesCount's steps at x, with its count. -/
def ocOk (x k : Nat) : Bool := decide (oc1 x < 65536) && (decide (oc2 (oc1 x) < 65536) && (decide (oc3 (oc2 (oc1 x)) + oc3 (oc2 (oc1 x)) / 256 < 65536) && ((oc3 (oc2 (oc1 x)) + oc3 (oc2 (oc1 x)) / 256) &&& 127 == k)))
def ocAll : Nat → Nat → Nat → Bool
  | 0, x, k => ocOk x k
  | d + 1, x, k => ocAll d x k && ocAll d (x + 2 ^ d) (k + 1)
theorem oc_all15 : ocAll 15 0 0 = true := by decide +kernel
theorem sizeI_low {y E d : Nat} (h : y < 2 ^ d) (hd : d ≤ E) : sizE E y = sizE d y := by
  obtain ⟨j, rfl⟩ : ∃ j, E = d + j := ⟨E - d, by omega⟩
  induction j with
  | zero => rfl
  | succ j ih =>
    rw [← Nat.add_assoc, sizeI_succ, bits_of_lt h _ (by omega), ih (by omega)]
    simp
theorem oc_at : ∀ d x k y, ocAll d x k = true → y < 2 ^ d → ocOk (x + y) (k + sizE d y) = true
  | 0, x, k, y, h, hy => by
    obtain rfl : y = 0 := by simpa using hy
    exact h
  | d + 1, x, k, y, h, hy => by
    unfold ocAll at h
    rw [Bool.and_eq_true] at h
    have hp : 2 ^ (d + 1) = 2 * 2 ^ d := by rw [Nat.pow_succ]; omega
    rcases Nat.lt_or_ge y (2 ^ d) with hl | hl
    · have := oc_at d x k y h.1 hl
      rw [sizeI_low hl (by omega : d ≤ d + 1)]
      exact this
    · obtain ⟨z, rfl⟩ : ∃ z, y = 2 ^ d + z := ⟨y - 2 ^ d, by omega⟩
      have hz : z < 2 ^ d := by omega
      have := oc_at d (x + 2 ^ d) (k + 1) z h.2 hz
      have hb : z.testBit d = false := bits_of_lt hz d (Nat.le_refl _)
      have e : 2 ^ d + z = z ||| 2 ^ d := Nat.eq_of_testBit_eq fun v => by rw [Nat.add_comm, bit_add hb, bit_set]
      have e2 : sizE (d + 1) (2 ^ d + z) = sizE d z + 1 := by
        rw [e, sizeI_set hb, if_pos (by omega), sizeI_low hz (by omega : d ≤ d + 1)]
      rw [e2, show x + (2 ^ d + z) = x + 2 ^ d + z by omega, show k + (sizE d z + 1) = k + 1 + sizE d z by omega]
      exact this
theorem oc15 {x : Nat} (h : x < 32768) : oc1 x < 65536 ∧ oc2 (oc1 x) < 65536 ∧ oc3 (oc2 (oc1 x)) + oc3 (oc2 (oc1 x)) / 256 < 65536 ∧ ((oc3 (oc2 (oc1 x)) + oc3 (oc2 (oc1 x)) / 256) &&& 127) = sizE 15 x := by
  have := oc_at 15 0 0 x oc_all15 (by omega)
  unfold ocOk at this
  simp only [Bool.and_eq_true, decide_eq_true_eq, beq_iff_eq, Nat.zero_add] at this
  exact ⟨this.1, this.2.1, this.2.2.1, this.2.2.2⟩
theorem and_i64W (a b : Nat) (ha : a < 2097152) (hb : b < 2097152) : bits BinOp.and IntKind.i64 (a : Int) (b : Int) = ((a &&& b : Nat) : Int) := bits_andE a b ha hb
set_option maxHeartbeats 800000 in
set_option maxRecDepth 100000 in
theorem onesW_core (x a1 a2 y1 b1 b2 y2 z1 y3 y4 r : Nat) (w : World) (_hy3 : y4 < 1048576)
    (h1 : bits BinOp.and IntKind.u64 ((x : Int) / 2) 6148914691236517205 = (a1 : Int)) (h2 : bits BinOp.and IntKind.u64 (x : Int) 6148914691236517205 = (a2 : Int)) (h3 : IntKind.u64.wrap ((a1 : Int) + (a2 : Int)) = (y1 : Int))
    (h4 : bits BinOp.and IntKind.u64 ((y1 : Int) / 4) 3689348814741910323 = (b1 : Int)) (h5 : bits BinOp.and IntKind.u64 (y1 : Int) 3689348814741910323 = (b2 : Int)) (h6 : IntKind.u64.wrap ((b1 : Int) + (b2 : Int)) = (y2 : Int))
    (h7 : IntKind.u64.wrap ((y2 : Int) / 16 + (y2 : Int)) = (z1 : Int)) (h8 : bits BinOp.and IntKind.u64 (z1 : Int) 1085102592571150095 = (y3 : Int))
    (h9 : IntKind.u64.wrap ((y3 : Int) + (y3 : Int) / 256) = (y4 : Int)) (h10 : IntKind.u64.wrap ((y4 : Int) + (y4 : Int) / 65536) = (y4 : Int)) (h11 : IntKind.u64.wrap ((y4 : Int) + (y4 : Int) / 4294967296) = (y4 : Int))
    (h12 : IntKind.i64.wrap (y4 : Int) = (y4 : Int)) (h13 : bits BinOp.and IntKind.i64 (y4 : Int) 127 = (r : Int)) :
    Calls Tryd.prog 85 #[.int .u64 x] w fun e w' => e = .returned (.int .i64 r) ∧ w = w' := by
  go_enter Tryd.func85, Tryd.ntmps85
  go_wp2
  go_ret
  exact ⟨rfl, rfl⟩
theorem onesW_any (x : Nat) (h7 : x < 32768) (w : World) :
    Calls Tryd.prog 85 #[.int .u64 x] w fun e w' => e = .returned (.int .i64 (sizE 15 x : Nat)) ∧ w = w' := by
  obtain ⟨k1, k2, k3, k4⟩ := oc15 h7
  have e2 : (x : Int) / 2 = ((x / 2 : Nat) : Int) := by omega
  have n1 : (x / 2 &&& 6148914691236517205) < 32768 := Nat.lt_of_le_of_lt Nat.and_le_left (by omega)
  have n2 : (x &&& 6148914691236517205) < 32768 := Nat.lt_of_le_of_lt Nat.and_le_left (by omega)
  have e4 : ((oc1 x : Nat) : Int) / 4 = ((oc1 x / 4 : Nat) : Int) := by omega
  have n4 : (oc1 x / 4 &&& 3689348814741910323) < 65536 := Nat.lt_of_le_of_lt Nat.and_le_left (by omega)
  have n5 : (oc1 x &&& 3689348814741910323) < 65536 := Nat.lt_of_le_of_lt Nat.and_le_left (by omega)
  obtain ⟨y4, hy4⟩ : ∃ y4, y4 = oc3 (oc2 (oc1 x)) + oc3 (oc2 (oc1 x)) / 256 := ⟨_, rfl⟩
  rw [← hy4] at k3 k4
  refine onesW_core x (x / 2 &&& 6148914691236517205) (x &&& 6148914691236517205) (oc1 x) (oc1 x / 4 &&& 3689348814741910323) (oc1 x &&& 3689348814741910323) (oc2 (oc1 x)) (oc2 (oc1 x) / 16 + oc2 (oc1 x)) (oc3 (oc2 (oc1 x))) y4 (sizE 15 x) w (by omega) ?_ ?_ ?_ ?_ ?_ ?_ ?_ ?_ ?_ ?_ ?_ ?_ ?_
  · rw [e2]; exact bits_andU _ 6148914691236517205 (by omega) (by omega)
  · exact bits_andU _ 6148914691236517205 (by omega) (by omega)
  · rw [IntKind.wrap_u64]; unfold oc1 at k1 ⊢; omega
  · rw [e4]; exact bits_andU _ 3689348814741910323 (by omega) (by omega)
  · exact bits_andU _ 3689348814741910323 (by omega) (by omega)
  · rw [IntKind.wrap_u64]; generalize oc1 x = y at *; unfold oc2 at k2 ⊢; omega
  · rw [IntKind.wrap_u64]; omega
  · exact bits_andU _ 1085102592571150095 (by omega) (by omega)
  · rw [IntKind.wrap_u64]; omega
  · rw [IntKind.wrap_u64]; omega
  · rw [IntKind.wrap_u64]; omega
  · rw [IntKind.wrap_i64]; omega
  · rw [← k4]; exact and_i64W _ 127 (by omega) (by omega)
set_option maxRecDepth 100000 in
theorem onesG_any (x : Nat) (h7 : x < 32768) (w : World) :
    Calls Tryd.prog 67 #[.int .u64 x] w fun e w' => e = .returned (.int .i64 (sizE 15 x : Nat)) ∧ w = w' := by
  have HC := Lib.hid (onesW_any x h7 w)
  have hw : IntKind.u64.wrap (x : Int) = (x : Int) := by rw [IntKind.wrap_u64]; omega
  generalize sizE 15 x = r at HC ⊢
  go_enter Tryd.func67, Tryd.ntmps67
  go_wp2_with fail
  refine HC.out.mono ?_
  rintro e w' ⟨rfl, rfl⟩
  go_wp2
  go_ret
  exact ⟨rfl, rfl⟩
theorem sizeG_any (S : Nat) (hS : S < 32768) (w : World) :
    Calls Tryd.prog 44 #[.int .i64 S] w fun e w' => e = .returned (.int .i64 (sizE 15 S : Nat)) ∧ w = w' := by
  have HC := Lib.hid (onesG_any S hS w)
  have hcv : IntKind.u64.wrap (S : Int) = (S : Int) := by rw [IntKind.wrap_u64]; omega
  generalize sizE 15 S = r at HC ⊢
  go_enter Tryd.func44, Tryd.ntmps44
  go_wp2_with fail
  refine HC.out.mono ?_
  rintro e w' ⟨rfl, rfl⟩
  go_wp2
  go_ret
  exact ⟨rfl, rfl⟩
end Go.Proofs.YtinlnafkmoabbaaDoor.Sg
/- The edges that no edge of a set crosses, as impl finds them: uncrossed, isTriangulation. -/
namespace Go.Proofs.YtinlnafkmoabbaaDoor.Sg
open Go.RowKit Pt NewI
def uncQ (c : Nat → Nat) (T : Int) (k : Nat) : Bool := bits BinOp.and IntKind.i64 T (c k : Nat) == 0
def uncZ (c : Nat → Nat) (E : Nat) (T : Int) : Nat := setN (uncQ c T) E
theorem uncZ_N {c : Nat → Nat} (hc : ∀ x, c x < 2097152) {E T : Nat} (hT : T < 2097152) : uncZ c E T = uncN c E T := by
  unfold uncZ uncN
  refine setN_congr fun k _ => ?_
  unfold uncQ
  rw [bits_andE T (c k) hT (hc k)]
  rw [Bool.eq_iff_iff, beq_iff_eq, beq_iff_eq]
  omega
/-- How many edges impl's list has. -/
def eZ (n : Int) (s : List UInt8) : Nat := if fitB n s = true then eN n.toNat else 0
theorem eZ_le (n : Int) (s : List UInt8) : eZ n s ≤ 15 := by
  unfold eZ
  split
  · rename_i hf
    obtain ⟨h, h6⟩ := fitB_n hf
    obtain ⟨h3, -⟩ := aciB_n h
    have : ∀ m, m ≤ 6 → eN m ≤ 15 := by decide
    exact this _ (by omega)
  · omega
set_option maxHeartbeats 800000 in
set_option maxRecDepth 100000 in
theorem unc_any (E : Nat) (hE : E ≤ 21) (c : Nat → Nat) (_hc : ∀ x, c x < 2097152) (T : Int) (a : Option Addr) (cc : Nat) (w : World) (hr : RdL w a (crTo c E)) :
    Calls Tryd.prog 86 #[.slice a E cc, .int .i64 T] w fun e w' => e = .returned (.int .i64 (uncZ c E T : Nat)) ∧ w = w' := by
  have HR : Hid (∀ k, k < E → ∃ g, a = some ⟨g, 0, none⟩ ∧ w.cell? ⟨g, k, none⟩ = some (.int .i64 (c k : Nat))) := Lib.hid (fun k hk => by
    obtain ⟨g, h1, h2⟩ := hr k (by rw [crTo_len]; exact hk)
    rw [crTo_get c hk] at h2
    exact ⟨g, h1, h2⟩)
  have HO : Hid (∀ k, uncQ c T k = true → setN (uncQ c T) (k + 1) = setN (uncQ c T) k ||| 2 ^ k) := Lib.hid (fun k h => setN_or h)
  have HN : Hid (∀ k, uncQ c T k = false → setN (uncQ c T) (k + 1) = setN (uncQ c T) k) := Lib.hid (fun k h => setN_no h)
  have HL : Hid (∀ k, k ≤ 21 → setN (uncQ c T) k < 2097152) := Lib.hid (fun k h => setN_ltT _ h)
  have H0 : Hid (setN (uncQ c T) 0 = 0) := Lib.hid rfl
  have HQ : Hid (∀ k, uncQ c T k = (bits BinOp.and IntKind.i64 T (c k : Nat) == 0)) := Lib.hid (fun _ => rfl)
  unfold uncZ
  generalize setN (uncQ c T) = st at HO HN HL H0 ⊢
  generalize uncQ c T = q at HO HN HQ
  clear hr
  go_enter Tryd.func86, Tryd.ntmps86
  go_wp2
  go_loopw [5, 10] (fun ov kv wr => ∃ k t : Nat, k ≤ E ∧ kv = .int .i64 k ∧ ov = .int .i64 t ∧ t < 2097152 ∧ Hid (t = st k) ∧ wr = w) (fun _ kv _ => E - (intOf kv).toNat)
  case atStart => exact ⟨0, 0, Nat.zero_le _, rfl, rfl, by omega, Lib.hid H0.out.symm, rfl⟩
  case round =>
    obtain ⟨k, t, hk, rfl, rfl, ht, HTT, rfl⟩ := hrel
    by_cases hlt : k < E
    · obtain ⟨g, rfl, hcell⟩ := HR.out k hlt
      have hQ := HQ.out k
      have hl1 := HL.out (k + 1) (by omega)
      obtain ⟨s1, p1⟩ := shl_edge k (by omega)
      have o1 := bits_orE t (2 ^ k) ht p1
      have HTK : Hid (q k = true → st (k + 1) = t ||| 2 ^ k) := Lib.hid (fun e => by rw [HO.out k e, HTT.out])
      have HTN : Hid (q k = false → st (k + 1) = t) := Lib.hid (fun e => by rw [HN.out k e, HTT.out])
      generalize t ||| 2 ^ k = o at o1 HTK
      generalize (2 : Nat) ^ k = P at s1 o1 p1
      generalize c k = d at hcell hQ
      cases hb : (bits BinOp.and IntKind.i64 T (d : Int) == 0)
      · rw [hb] at hQ
        have HR2 := Lib.hid (HTN.out hQ)
        clear hQ
        go_wp2
        exact ⟨⟨k + 1, t, by omega, by go_num, by trivial, ht, Lib.hid HR2.out.symm, by trivial⟩, by simp only [intOf]; omega⟩
      · rw [hb] at hQ
        have HR2 := Lib.hid (HTK.out hQ)
        have ho : o < 2097152 := by rw [← HR2.out]; exact hl1
        clear hQ
        go_wp2
        exact ⟨⟨k + 1, o, by omega, by go_num, by trivial, ho, Lib.hid HR2.out.symm, by trivial⟩, by simp only [intOf]; omega⟩
    · obtain rfl : k = E := by omega
      go_wp2
      go_ret
      exact ⟨ret_int (by rw [HTT.out]), rfl⟩
/-- What impl's list of crossing sets reads as. -/
def CrL (w : World) (v : Value) (n : Int) (s : List UInt8) : Prop := ∃ a cc, v = .slice a (eZ n s) cc ∧ RdL w a (crTo (cS n.toNat s) (eZ n s))
theorem CrL.on {w w' : World} {v : Value} {n : Int} {s : List UInt8} (h : CrL w v n s) (hb : Below w.heap.size w w') : CrL w' v n s := by
  obtain ⟨a, cc, e, hr⟩ := h
  exact ⟨a, cc, e, hr.on hb⟩
theorem cS_ltZ (n : Int) (s : List UInt8) (hf : fitB n s = true) (x : Nat) : cS n.toNat s x < 2097152 := by
  obtain ⟨h, h6⟩ := fitB_n hf
  obtain ⟨h3, -⟩ := aciB_n h
  exact cS_lt (by omega) s x
/-- The sets that cross each edge; none where there are no triangulations. -/
def cZ (n : Int) (s : List UInt8) : Nat → Nat := if fitB n s = true then cS n.toNat s else fun _ => 0
theorem cZ_lt (n : Int) (s : List UInt8) (x : Nat) : cZ n s x < 2097152 := by
  unfold cZ
  split
  · rename_i hf; exact cS_ltZ n s hf x
  · show (0 : Nat) < 2097152
    omega
theorem cZ_to (n : Int) (s : List UInt8) : crTo (cS n.toNat s) (eZ n s) = crTo (cZ n s) (eZ n s) := by
  unfold cZ
  split
  · rfl
  · rename_i hf
    unfold eZ
    rw [if_neg hf]
    unfold crTo
    rw [List.range_zero, List.map_nil, List.map_nil]
end Go.Proofs.YtinlnafkmoabbaaDoor.Sg
