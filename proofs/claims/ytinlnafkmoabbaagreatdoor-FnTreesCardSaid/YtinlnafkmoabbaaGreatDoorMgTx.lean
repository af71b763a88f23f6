/- Several texts in one: Fmt, JoinMath, Join, JoinImpl. -/
import Derived.Test.YtinlnafkmoabbaaGreatDoorProg
import Derived.WalkKit
import Derived.Below
import Derived.Lib.Hide
import Derived.Lib.ItoaNum
import Derived.Laws.IdiomStrings
import Derived.Handy
import Derived.Test.YtinlnafkmoabbaaGreatDoorMgU
import Derived.Lib.Join
import Derived.Lib.AppendStr
import Derived.Laws.OwnMore
import Derived.Test.YtinlnafkmoabbaaGreatDoorShelf
/- spec.FormatInt gives the decimal numeral of every int. -/
namespace Go.Proofs.YtinlnafkmoabbaaGreatDoor.Fmt
open Go.RowKit

def digs (u : Nat) : List UInt8 := if u = 0 then [] else Lib.decDigits u
theorem digs_step (u : Nat) (h : u ≠ 0) : digs u = digs (u / 10) ++ [UInt8.ofNat (48 + u % 10)] := by
  unfold digs
  rw [if_neg h]
  by_cases h10 : u < 10
  · rw [if_pos (by omega), Lib.decDigits_one h10, Nat.mod_eq_of_lt h10]; rfl
  · rw [if_neg (by omega)]; conv => lhs; rw [Lib.decDigits, dif_neg h10]

theorem tmod_neg (m : Int) (h : m ≤ 0) : m.tmod 10 = -((m.natAbs % 10 : Nat) : Int) := by
  obtain ⟨k, rfl⟩ : ∃ k : Nat, m = -(k : Int) := ⟨m.natAbs, by omega⟩
  rw [Int.neg_tmod, Int.natAbs_neg, Int.natAbs_natCast, Int.tmod_eq_emod_of_nonneg (by omega)]; rfl
theorem tdiv_neg (m : Int) (h : m ≤ 0) : m.tdiv 10 = -((m.natAbs / 10 : Nat) : Int) := by
  obtain ⟨k, rfl⟩ : ∃ k : Nat, m = -(k : Int) := ⟨m.natAbs, by omega⟩
  rw [Int.neg_tdiv, Int.natAbs_neg, Int.natAbs_natCast, Int.tdiv_eq_ediv_of_nonneg (by omega)]; rfl
theorem digs_length (u : Nat) (h : u ≤ 9223372036854775808) : (digs u).length ≤ 20 := by
  unfold digs
  split
  · simp
  · rw [Lib.decDigits_length]
    by_cases h1 : 10 ^ 19 ≤ u
    · omega
    · clear h
      have key : ∀ (k u : Nat), u < 10 ^ (k + 1) → Lib.nDigits u ≤ k + 1 := by
        intro k
        induction k with
        | zero => intro u hu; rw [Lib.nDigits_small (by simpa using hu)]; exact Nat.le_refl _
        | succ k ih =>
          intro u hu
          by_cases h10 : u < 10
          · rw [Lib.nDigits_small h10]; omega
          · rw [Lib.nDigits_big h10]
            have := ih (u / 10) (by rw [Nat.pow_succ] at hu; omega)
            omega
      have := key 18 u (by omega)
      omega
theorem conv_one (w : World) (x : Int) (b : UInt8) (hx : x = (b.toNat : Int)) :
    (convert 22 9 (.slice (some ⟨w.heap.size, 0, none⟩) 1 1)).run Tryz.prog (w.alloc (.cells #[.int .u8 x] 5)) = .ok (.string ⟨#[b]⟩) (w.alloc (.cells #[.int .u8 x] 5)) := by
  subst hx
  exact run_convert_bytes_back (P := Tryz.prog) (w.alloc (.cells #[.int .u8 (b.toNat : Int)] 5)) 22 9 5 ⟨w.heap.size, 0, none⟩ 1 [b] Tryz.underlying22 Tryz.underlying5 Tryz.underlying9 (fun j hj => by
    have hj0 : j = 0 := by simpa using hj
    subst hj0
    rw [show Addr.add ⟨w.heap.size, 0, none⟩ 0 = ⟨w.heap.size, 0, none⟩ from rfl, World.cell?_alloc_new]
    rfl)
set_option maxHeartbeats 400000 in
set_option maxRecDepth 100000 in
theorem spec_any (n : Int) (h0 : -9223372036854775808 ≤ n) (h1 : n ≤ 9223372036854775807) (w : World) :
    Calls Tryz.prog 120 #[.int .i64 n] w fun e w' => e = .returned (.string ⟨(Lib.itoa n).toArray⟩) ∧ Below w.heap.size w w' := by
  by_cases hz : n = 0
  · subst hz
    go_enter Tryz.func120, Tryz.ntmps120
    go_wp2
    go_ret
    exact ⟨by rw [show Lib.itoa 0 = [48] from by decide +kernel]; rfl, Below.refl _ _⟩
  · have t1 : (n == 0) = false := by simpa using hz
    by_cases hneg : n < 0
    · have t2 : decide (n < 0) = true := by simpa using hneg
      go_enter Tryz.func120, Tryz.ntmps120
      go_wp2
      go_loopw [0, 4] (fun mv o wr => ∃ (m : Int) (l : List UInt8), -9223372036854775808 ≤ m ∧ m ≤ 0 ∧ mv = .int .i64 m ∧ o = .string ⟨l.toArray⟩ ∧ Hid (digs n.natAbs = digs m.natAbs ++ l) ∧ Below w.heap.size w wr) (fun m _ _ => (intOf m).natAbs)
      case atStart => exact ⟨n, [], by omega, by omega, rfl, rfl, Lib.hid (by simp), Below.refl _ _⟩
      case round =>
        obtain ⟨m, l, hm0, hm1, rfl, rfl, hd, hb⟩ := hrel
        have hl : l.length ≤ 20 := by
          have := digs_length n.natAbs (by omega)
          rw [hd.out] at this; simp at this; omega
        by_cases hk0 : m = 0
        · subst hk0
          have t3 : ((0 : Int) != 0) = false := rfl
          go_wp2
          go_ret
          refine ⟨?_, hb⟩
          have hd := hd.out
          unfold Lib.itoa
          rw [if_pos hneg]
          unfold digs at hd
          rw [if_neg (by omega)] at hd
          rw [hd]
          rfl
        · have t3 : (m != 0) = true := by simpa using hk0
          obtain ⟨r, hr⟩ : ∃ r : Nat, r = m.natAbs % 10 := ⟨_, rfl⟩
          have hr10 : r < 10 := by omega
          have hm : m.tmod 10 = -(r : Int) := by subst hr; exact tmod_neg m (by omega)
          have hq : m.tdiv 10 = -((m.natAbs / 10 : Nat) : Int) := tdiv_neg m (by omega)
          have hd' : digs n.natAbs = digs (m.natAbs / 10) ++ (UInt8.ofNat (48 + r) :: l) := by
            rw [hd.out, digs_step m.natAbs (by omega), ← hr]; simp
          have Hd := Lib.hid hd'
          have Hq := Lib.hid hq
          clear hr hd' hd hq
          by_cases hr0 : r = 0
          · subst hr0
            have hcv := conv_one wr 48 48 rfl
            go_wp2
            have hq := Hq.out
            exact ⟨⟨m.tdiv 10, 48 :: l, by omega, by omega, rfl, rfl, Lib.hid (by rw [hq, Int.natAbs_neg, Int.natAbs_natCast]; exact Hd.out), by go_grown; exact hb.size⟩, by simp only [intOf]; omega⟩
          · have hcv := conv_one wr (48 + (r : Int)) (UInt8.ofNat (48 + r)) (by simp; omega)
            go_wp2
            have hq := Hq.out
            exact ⟨⟨m.tdiv 10, UInt8.ofNat (48 + r) :: l, by omega, by omega, rfl, by simp; rfl, Lib.hid (by rw [hq, Int.natAbs_neg, Int.natAbs_natCast]; exact Hd.out), by go_grown; exact hb.size⟩, by simp only [intOf]; omega⟩
    · have t2 : decide (n < 0) = false := by simpa using hneg
      go_enter Tryz.func120, Tryz.ntmps120
      go_wp2
      go_loopw [0, 4] (fun mv o wr => ∃ (m : Nat) (l : List UInt8), m ≤ 9223372036854775807 ∧ mv = .int .i64 m ∧ o = .string ⟨l.toArray⟩ ∧ Hid (digs n.natAbs = digs m ++ l) ∧ Below w.heap.size w wr) (fun m _ _ => (intOf m).natAbs)
      case atStart => exact ⟨n.natAbs, [], by omega, by congr 1; omega, rfl, Lib.hid (by simp), Below.refl _ _⟩
      case round =>
        obtain ⟨m, l, hm1, rfl, rfl, hd, hb⟩ := hrel
        have hl : l.length ≤ 20 := by
          have := digs_length n.natAbs (by omega)
          rw [hd.out] at this; simp at this; omega
        by_cases hk0 : m = 0
        · subst hk0
          have t3 : ((0 : Int) != 0) = false := rfl
          go_wp2
          go_ret
          refine ⟨?_, hb⟩
          have hd := hd.out
          unfold Lib.itoa
          rw [if_neg (by omega), show n.toNat = n.natAbs from by omega]
          unfold digs at hd
          rw [if_neg (by omega)] at hd
          rw [hd]
          rfl
        · have t3 : ((m : Int) != 0) = true := by simpa using hk0
          obtain ⟨r, hr⟩ : ∃ r : Nat, r = m % 10 := ⟨_, rfl⟩
          have hr10 : r < 10 := by omega
          have hm : (m : Int) % 10 = (r : Int) := by omega
          have hd' : digs n.natAbs = digs (m / 10) ++ (UInt8.ofNat (48 + r) :: l) := by
            rw [hd.out, digs_step m (by omega), ← hr]; simp
          have Hd := Lib.hid hd'
          clear hr hd' hd
          have hcv := conv_one wr (48 + (r : Int)) (UInt8.ofNat (48 + r)) (by simp; omega)
          go_wp2
          exact ⟨⟨m / 10, UInt8.ofNat (48 + r) :: l, by omega, by simp, by simp; rfl, Hd, by go_grown; exact hb.size⟩, by simp only [intOf]; omega⟩
end Go.Proofs.YtinlnafkmoabbaaGreatDoor.Fmt
/- Joined texts, plainly. -/
namespace Go.Proofs.YtinlnafkmoabbaaGreatDoor.Join
open Go.RowKit Strs
def dat (xs : List ByteArray) : List (List UInt8) := xs.map (·.data.toList)
/-- What is joined of the first k. -/
def J (xs : List ByteArray) (sep : ByteArray) (k : Nat) : List UInt8 := Lib.join (dat (xs.take k)) sep.data.toList
def cs (l : List UInt8) : List Value := l.map fun b => Value.int .u8 b.toNat
theorem cs_append (a b : List UInt8) : cs (a ++ b) = cs a ++ cs b := by simp [cs]
theorem cs_str (s : ByteArray) : Lib.strCells s = cs s.data.toList := rfl
theorem J_one (xs : List ByteArray) (sep : ByteArray) (h : 0 < xs.length) : J xs sep 1 = xs[0].data.toList := by
  cases xs with
  | nil => simp at h
  | cons x r => simp [J, dat, Lib.join_one]
theorem J_step (xs : List ByteArray) (sep : ByteArray) (k : Nat) (hk : k + 1 < xs.length) : J xs sep (k + 2) = J xs sep (k + 1) ++ sep.data.toList ++ xs[k + 1].data.toList := by
  cases xs with
  | nil => simp at hk
  | cons x r =>
    have hk' : k < r.length := by simpa using hk
    simp only [J, dat, List.take_succ_cons, List.map_cons, Lib.join_cons, List.getElem_cons_succ]
    rw [List.map_take, List.map_take, Lib.joinTail_take_succ _ _ k r[k].data.toList (by simp [hk'])]
    simp [List.append_assoc]
theorem lens_dat (xs : List ByteArray) : Lib.lens (dat xs) = tot xs := by
  induction xs with
  | nil => rfl
  | cons x r ih => simp only [dat, List.map_cons, Lib.lens, tot, List.sum_cons] at ih ⊢; simp at ih ⊢; omega
theorem tot_take (xs : List ByteArray) : ∀ k, tot (xs.take k) ≤ tot xs := by
  induction xs with
  | nil => intro k; simp
  | cons x r ih =>
    intro k
    cases k with
    | zero => simp [tot]
    | succ k => have := ih k; simp only [tot, List.take_succ_cons, List.map_cons, List.sum_cons] at this ⊢; omega
theorem J_length (xs : List ByteArray) (sep : ByteArray) (k : Nat) : (J xs sep k).length ≤ sep.size * xs.length + tot xs := by
  unfold J
  have ht := tot_take xs k
  cases h : xs.take k with
  | nil => simp [dat, Lib.join_nil]
  | cons x r =>
    rw [h] at ht
    have e : dat (x :: r) = x.data.toList :: dat r := rfl
    rw [e, Lib.join_length, ← e, lens_dat]
    have hl : r.length + 1 ≤ xs.length := by
      have := congrArg List.length h
      simp at this
      omega
    have h1 : (dat r).length ≤ xs.length := by simp [dat]; omega
    have h2 := Nat.mul_le_mul_left sep.data.toList.length h1
    have h3 : sep.data.toList.length = sep.size := by simp
    rw [h3] at h2 ⊢
    omega
end Go.Proofs.YtinlnafkmoabbaaGreatDoor.Join
/- spec.Join by the library's plain 'join'. -/
namespace Go.Proofs.YtinlnafkmoabbaaGreatDoor.Join
open Go.RowKit Strs
theorem info5 : (Tryz.prog.info? 5).map (fun i => (i.zero, i.size, i.bytes)) = some (some (.int .u8 0), 1, 1) := by kernel_rfl

theorem conv_own (w : World) (v : Value) (B : Nat) (l : List UInt8) (h : w.ownsRow B 5 1 v l.length (cs l)) : (convert 22 9 v).run Tryz.prog w = .ok (.string ⟨l.toArray⟩) w := by
  obtain ⟨hl, ⟨rfl, h0⟩ | ⟨g, cap, cur, hv, hB, hh, hr⟩⟩ := id h
  · obtain rfl : l = [] := List.eq_nil_of_length_eq_zero h0
    show (convert 22 9 (.slice none 0 0)).run Tryz.prog w = _
    rw [run_convert_bytes_string w 22 9 5 none 0 0 Tryz.underlying22 Tryz.underlying5 Tryz.underlying9]
    simp [Conv.bytesToString]
    rfl
  · subst hv
    have hc := h.cells (g := g) rfl
    exact run_convert_bytes_back (P := Tryz.prog) w 22 9 5 ⟨g, 0, none⟩ cap l Tryz.underlying22 Tryz.underlying5 Tryz.underlying9 (fun j hj => hc j _ (by simp [cs, hj]))

set_option maxHeartbeats 400000 in
set_option maxRecDepth 100000 in
theorem spec_any (b o c : Nat) (xs : List ByteArray) (sep : ByteArray) (hx : xs.length ≤ 1048576) (hs : sep.size ≤ 1048576) (ht : tot xs ≤ 1048576) (w : World) (hc : At w b o xs) (hbw : b < w.heap.size) :
    Calls Tryz.prog 121 #[.slice (some ⟨b, o, none⟩) xs.length c, .string sep] w fun e w' => e = .returned (.string ⟨(J xs sep xs.length).toArray⟩) ∧ Below w.heap.size w w' := by
  obtain ⟨i0, hi, hz0, hz1, hz2⟩ := info_parts info5
  have HJ0 : Hid (J xs sep 0 = []) := Lib.hid rfl
  have HL : Hid (∀ k, (J xs sep k).length ≤ 1099512676352) := Lib.hid (fun k => by
    have h1 := J_length xs sep k
    have h2 := Nat.mul_le_mul hs hx
    omega)
  have hown0 : (w.alloc (.cells #[] 5)).ownsRow w.heap.size 5 1 (.slice (some ⟨w.heap.size, 0, none⟩) 0 0) 0 [] := World.ownsRow_made w #[] 0 (Nat.le_refl _) (by decide) rfl
  have HO := Lib.hid hown0
  have HB0 := Lib.hid ((Below.refl w.heap.size w).alloc (Nat.le_refl _) (.cells #[] 5))
  clear hown0
  go_enter Tryz.func121, Tryz.ntmps121
  go_wp2
  go_loopw [5, 6] (fun vv i wr => ∃ (k : Nat) (v : Value), k ≤ xs.length ∧ i = .int .i64 k ∧ vv = v ∧ wr.ownsRow w.heap.size 5 1 v (J xs sep k).length (cs (J xs sep k)) ∧ Below w.heap.size w wr) (fun _ i _ => xs.length - (intOf i).toNat)
  case atStart => exact ⟨0, _, Nat.zero_le _, rfl, rfl, by rw [HJ0.out]; exact HO.out, HB0.out⟩
  case round =>
    obtain ⟨k, v, hk, rfl, rfl, hown, hb⟩ := hrel
    by_cases hlt : k < xs.length
    · have hcell := (hc.on hb hbw).get k hlt
      have hB := hb.size
      have hL0 := HL.out k
      have hL1 := HL.out (k + 1)
      by_cases hk0 : k ≤ 0
      · have H1 : Hid (J xs sep (k + 1) = J xs sep k ++ xs[k].data.toList) := Lib.hid (by
          obtain rfl : k = 0 := by omega
          rw [J_one xs sep hlt, HJ0.out]; rfl)
        have hz : xs[k].size ≤ 1099512676352 := by rw [H1.out] at hL1; simp at hL1; omega
        have hcs : Hid (cs (J xs sep k) ++ Lib.strCells xs[k] = cs (J xs sep (k + 1))) := Lib.hid (by rw [H1.out, cs_append, cs_str])
        have hln : Hid ((J xs sep k).length + xs[k].size = (J xs sep (k + 1)).length) := Lib.hid (by rw [H1.out]; simp)
        go_wp2_with (at_builtin; refine Lib.wpList_append_own_string _ rfl (.tmp 19) (.tmp 23) 22 9 rfl w.heap.size 5 i0 Tryz.underlying22 Tryz.underlying9 hi hz0 hz1 hz2 _ _ _ rfl hown xs[k] rfl ?_ ?_ (hb.size) ?_)
        · unfold maxLen; omega
        · omega
        intro v1 w1 hown1 hg1 _
        rw [hcs.out, hln.out] at hown1
        have hb1 := hb.grown hg1 hb.size (fun q hq => (hown.lt q hq).1)
        have HO1 := Lib.hid hown1
        clear hown1 hown
        go_wp2
        exact ⟨⟨k + 1, _, by omega, by go_num, rfl, HO1.out, hb1⟩, by simp only [intOf]; omega⟩
      · have hk1 : 0 < k := by omega
        have H1 : Hid (J xs sep (k + 1) = J xs sep k ++ sep.data.toList ++ xs[k].data.toList) := Lib.hid (by
          obtain ⟨m, rfl⟩ : ∃ m, k = m + 1 := ⟨k - 1, by omega⟩
          exact J_step xs sep m hlt)
        have hz : (J xs sep k).length + sep.size + xs[k].size ≤ 1099512676352 := by rw [H1.out] at hL1; simp at hL1; omega
        have hcs : Hid (cs (J xs sep k) ++ (Lib.strCells sep ++ Lib.strCells xs[k]) = cs (J xs sep (k + 1))) := Lib.hid (by rw [H1.out, cs_append, cs_append, cs_str, cs_str, List.append_assoc])
        have hln : Hid ((J xs sep k).length + sep.size + xs[k].size = (J xs sep (k + 1)).length) := Lib.hid (by rw [H1.out]; simp [Nat.add_assoc])
        go_wp2_with (at_builtin; refine Lib.wpList_append_own_string _ rfl (.tmp 16) (.tmp 17) 22 9 rfl w.heap.size 5 i0 Tryz.underlying22 Tryz.underlying9 hi hz0 hz1 hz2 _ _ _ rfl hown sep rfl ?_ ?_ (hb.size) ?_)
        · unfold maxLen; omega
        · omega
        intro v1 w1 hown1 hg1 _
        have hb1 := hb.grown hg1 hb.size (fun q hq => (hown.lt q hq).1)
        have hcell1 := (hc.on hb1 hbw).get k hlt
        have HO1 := Lib.hid hown1
        clear hown1 hown
        go_wp2_with (at_builtin; refine Lib.wpList_append_own_string _ rfl (.tmp 19) (.tmp 23) 22 9 rfl w.heap.size 5 i0 Tryz.underlying22 Tryz.underlying9 hi hz0 hz1 hz2 _ _ _ rfl HO1.out xs[k] rfl ?_ ?_ (hb1.size) ?_)
        · unfold maxLen; omega
        · omega
        intro v2 w2 hown2 hg2 _
        rw [hcs.out, hln.out] at hown2
        have hb2 := hb1.grown hg2 hb1.size (fun q hq => (HO1.out.lt q hq).1)
        have HO2 := Lib.hid hown2
        clear hown2
        go_wp2
        exact ⟨⟨k + 1, _, by omega, by go_num, rfl, HO2.out, hb2⟩, by simp only [intOf]; omega⟩
    · obtain rfl : k = xs.length := by omega
      have hconv := conv_own wr _ _ _ hown
      have HO := Lib.hid hown
      clear hown
      go_wp2
      go_ret
      exact ⟨rfl, hb⟩
end Go.Proofs.YtinlnafkmoabbaaGreatDoor.Join
/- impl.Join by the plain 'J'. -/
namespace Go.Proofs.YtinlnafkmoabbaaGreatDoor.Join
open Go.RowKit Strs

set_option maxRecDepth 100000 in
theorem impl_any (b o c : Nat) (xs : List ByteArray) (sep : ByteArray) (hx : xs.length ≤ 1048576) (hcap : xs.length ≤ c) (hs : sep.size ≤ 1048576) (ht : tot xs ≤ 1048576) (w : World) (hc : At w b o xs) (hbw : b < w.heap.size) :
    Calls Tryz.prog 119 #[.slice (some ⟨b, o, none⟩) xs.length c, .string sep] w fun e w' => e = .returned (.string ⟨(J xs sep xs.length).toArray⟩) ∧ Below w.heap.size w w' := by
  have hl : (Lib.join (xs.map (·.data.toList)) sep.data.toList).length ≤ 140737488355328 := by
    have h1 := J_length xs sep xs.length
    have h2 := Nat.mul_le_mul hs hx
    rw [J, List.take_length] at h1
    exact Nat.le_trans h1 (by omega)
  have HC := Lib.hid (Tryz.strings_Join b o c xs sep w hc hbw (by omega) hcap hl)
  have HJ : Hid (Lib.join (xs.map (·.data.toList)) sep.data.toList = J xs sep xs.length) := Lib.hid (by rw [J, List.take_length]; rfl)
  clear hl
  go_enter Tryz.func119, Tryz.ntmps119
  go_wp2_with fail
  refine HC.out.mono ?_
  rintro e w1 ⟨rfl, hb⟩
  go_wp2
  go_ret
  exact ⟨ret_str HJ.out, hb⟩
end Go.Proofs.YtinlnafkmoabbaaGreatDoor.Join
