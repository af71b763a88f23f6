/- Several texts in one: FtiDeg, FtOnes, FtiCon, FtiAll, FtImpl. -/
import Derived.Test.YtinlnafkmoabbaaGreatDoorMgFd
import Derived.Test.YtinlnafkmoabbaaGreatDoorMgTf
import Derived.Test.YtinlnafkmoabbaaGreatDoorMgTt
import Derived.BigQuiet
import Derived.Test.YtinlnafkmoabbaaGreatDoorMgE
import Derived.Test.YtinlnafkmoabbaaGreatDoorMgTg
/- impl's DegreesOf. -/
namespace Go.Proofs.YtinlnafkmoabbaaGreatDoor.Sg
open Go.RowKit Pt NewI
/-- How many of the first x edges of a list an element has. -/
def dgE (n : Nat) (els : List Nat) (x i : Nat) : Nat := (els.take x).countP fun k => (edL n k).1 == i || (edL n k).2 == i
theorem dgE_succ (n : Nat) {els : List Nat} {x : Nat} (h : x < els.length) (i : Nat) : dgE n els (x + 1) i = dgE n els x i + (if ((edL n (els.getD x 0)).1 == i || (edL n (els.getD x 0)).2 == i) = true then 1 else 0) := by
  unfold dgE
  rw [getD_take h, List.countP_append, List.countP_singleton]
theorem dgE_le (n : Nat) (els : List Nat) (x i : Nat) : dgE n els x i ≤ x := by
  unfold dgE
  exact Nat.le_trans List.countP_le_length (by rw [List.length_take]; omega)
theorem dgE_all {n t : Nat} (h7 : n ≤ 7) (ht : t < 2 ^ eN n) (i : Nat) : dgE n (elN t) (elN t).length i = dgN n t i := by
  unfold dgE dgN sizE
  rw [List.take_length, TrText.elN_low (eN_bd n (by omega)) ht, List.countP_filter]
  refine List.countP_congr fun k hk => ?_
  rw [Nat.testBit_and, inc_bit, decide_eq_true (List.mem_range.1 hk), Bool.true_and, Bool.and_comm]
/-- What EdgeAt tells of the edges of a set. -/
theorem els_edge {n t k : Nat} (h3 : 3 ≤ n) (h7 : n ≤ 7) (ht : t < 2 ^ eN n) (hk : k ∈ elN t) : (edL n k).1 < (edL n k).2 ∧ (edL n k).2 < n ∧ ∀ W, Calls Tryz.prog 31 #[.int .i64 n, .int .i64 k] W fun e w' => e = .returned (.tuple #[.int .i64 ((edL n k).1 : Nat), .int .i64 ((edL n k).2 : Nat)]) ∧ W = w' := by
  have hkE : k < eN n := by
    refine Classical.byContradiction fun hn => ?_
    have := (mem_elN.1 hk).2
    rw [bits_of_lt ht k (by omega)] at this
    cases this
  have hE := eN_bd n (by omega)
  have h2 := edL_lt h7 hkE
  refine ⟨h2.1, h2.2, fun W => ?_⟩
  have := edgeAt_any (n : Int) (k : Int) (i64_nat (by omega)) W
  rw [edZ_in h3 h7 hkE] at this
  exact this
theorem lsA_above {W : World} {B : Nat} {v : Value} {L : List Nat} (h : ArgZ W B v (zl L)) : ∃ a c, v = .slice a L.length c ∧ LsA W a L ∧ ∀ g, a = some ⟨g, 0, none⟩ → B ≤ g := by
  obtain ⟨a, c, e, hl⟩ := lsA_of h
  refine ⟨a, c, e, hl, fun g hg => ?_⟩
  rcases h with ⟨-, rfl⟩ | ⟨-, g', c', rfl, hB, -⟩
  · injection e with e
    rw [hg] at e
    cases e
  · injection e with e
    rw [hg] at e
    injection e with e
    injection e with e
    omega
/-- Written to another block: the list is as it was. -/
theorem LsA.other {W W' : World} {a : Option Addr} {L : List Nat} {b : Nat} (h : LsA W a L) (hg : W.grownBy W' (some b)) (hb : ∀ g, a = some ⟨g, 0, none⟩ → g ≠ b) : LsA W' a L := fun k hk => by
  obtain ⟨g, h1, h2⟩ := h k hk
  refine ⟨g, h1, ?_⟩
  have hlt := Kit.cell_lt h2
  rw [World.cell?_of_block (w := W) (a := ⟨g, k, none⟩) (hg.block g hlt (fun e => hb g h1 (by injection e)))]
  exact h2
theorem below_grown {w W W' : World} (h : Below w.heap.size w W) (hg : W.grownBy W' (some w.heap.size)) : Below w.heap.size w W' :=
  h.grown hg h.size (fun q hq => by injection hq with hq; omega)
set_option maxHeartbeats 3200000 in
set_option maxRecDepth 100000 in
theorem implDegrees (n T : Int) (_hn : I64 n) (_hI : I64 T) (w : World) (hT : Tab w) :
    Calls Tryz.prog 21 #[.int .i64 n, .int .i64 T] w fun e w' => Got w.heap.size (zl (degZ n T)) e w' ∧ Below w.heap.size w w' := by
  obtain ⟨K, hK, hKb⟩ := allZ_small n
  have HES := Lib.hid (fun W => edgeSet_any n T W)
  rw [hK] at HES
  have HB0 := Lib.hid (Below.refl w.heap.size w)
  by_cases hin : (inB n 3 7 && inB T 0 (K : Int)) = false
  · have HE : Hid (degZ n T = []) := Lib.hid (by
      unfold degZ
      rw [if_neg]
      rintro ⟨h1, h2⟩
      rw [h1, ← hK, h2] at hin
      cases hin)
    rw [HE.out]
    rw [hin] at HES
    clear HE hK hT hin
    go_enter Tryz.func21, Tryz.ntmps21
    go_wp2_with fail
    refine (HES.out _).mono ?_
    rintro e w' ⟨rfl, rfl⟩
    go_wp2
    go_ret
    exact ⟨⟨_, _, rfl, .inl rfl⟩, HB0.out⟩
  have hin : (inB n 3 7 && inB T 0 (K : Int)) = true := by simpa using hin
  rw [hin] at HES
  rw [Bool.and_eq_true] at hin
  have hn37 := inB_mem hin.1
  obtain ⟨hT0, hTK⟩ := inB_mem hin.2
  obtain ⟨t, rfl⟩ : ∃ t : Nat, T = t := ⟨T.toNat, by omega⟩
  obtain ⟨m, rfl⟩ : ∃ m : Nat, n = m := ⟨n.toNat, by omega⟩
  have m3 : 3 ≤ m := by omega
  have m7 : m ≤ 7 := by omega
  have hp := allZ_pow (n := m) (.inr ⟨m3, m7⟩)
  have htE : t < 2 ^ eN m := by
    have := Nat.pow_pos (n := eN m) (show 0 < 2 by omega)
    omega
  have ht21 : t < 2097152 := by omega
  have HE : Hid (degZ m t = degL m t) := Lib.hid (by unfold degZ; rw [if_pos ⟨hin.1, by rw [hK]; exact hin.2⟩, Int.toNat_natCast, Int.toNat_natCast])
  rw [HE.out]
  have HEL := Lib.hid (fun W hW => elementsG_any t ht21 W (hT.on (w' := W) hW))
  have HED : Hid (∀ k ∈ elN t, (edL m k).1 < m ∧ (edL m k).2 < m ∧ (edL m k).1 ≠ (edL m k).2 ∧ ∀ W, Calls Tryz.prog 31 #[.int .i64 m, .int .i64 k] W fun e w' => e = .returned (.tuple #[.int .i64 ((edL m k).1 : Nat), .int .i64 ((edL m k).2 : Nat)]) ∧ W = w') := Lib.hid (fun k hk => by
    obtain ⟨h1, h2, h3⟩ := els_edge m3 m7 htE hk
    exact ⟨by omega, h2, by omega, h3⟩)
  have HDA := Lib.hid (dgE_all m7 htE)
  obtain ⟨els, hels⟩ : ∃ els, els = elN t := ⟨_, rfl⟩
  have hM : els.length ≤ 21 := by rw [hels]; exact elN_len t
  rw [← hels] at HEL HED HDA
  have HDS : Hid (∀ x, x < els.length → ∀ i, dgE m els (x + 1) i = dgE m els x i + (if ((edL m (els.getD x 0)).1 == i || (edL m (els.getD x 0)).2 == i) = true then 1 else 0)) := Lib.hid (fun x hx i => dgE_succ m hx i)
  have HD0 : Hid (∀ i, dgE m els 0 i = 0) := Lib.hid (fun i => rfl)
  have HDL : Hid (∀ x i, dgE m els x i ≤ x) := Lib.hid (fun x i => dgE_le m els x i)
  obtain ⟨M, hMe⟩ : ∃ M, M = els.length := ⟨_, rfl⟩
  have HDE : Hid (∀ i, i < m → zc (zl (degL m t)) i = .int .i64 (dgE m els M i : Nat)) := Lib.hid (fun i hi => by rw [hMe, HDA.out, degL_zc hi])
  have HDN : Hid ((zl (degL m t)).length = m) := Lib.hid (by rw [zl_length, degL_len])
  generalize zl (degL m t) = zs at HDE HDN ⊢
  generalize dgE m els = dg at HDS HD0 HDL HDE
  generalize edL m = ed at HED HDS
  rw [← hMe] at hM
  have HML := Lib.hid hMe
  have hmk := run_make_row' (P := Tryz.prog) 27 3 (.int .i64 0) 8 Tryz.underlying27 infoD rfl .i64 .i64 m (by omega) (by omega)
  have HR0 := Lib.hid ((World.rowIs_made w (.int .i64 0) m 3).congr (g := fun i => .int .i64 (dg 0 i : Nat)) (fun i _ => by rw [HD0.out]; rfl))
  have HB1 := Lib.hid ((Below.refl w.heap.size w).alloc (Nat.le_refl _) (.cells (madeCells #[.int .i64 0] m) 3))
  have hbs : w.heap.size < (w.alloc (.cells (madeCells #[.int .i64 0] m) 3)).heap.size := by simp
  clear hin hK hT0 hTK hn37 HE hp htE ht21 hKb HDA hels hMe hT HD0 HB0
  go_enter Tryz.func21, Tryz.ntmps21
  go_wp2_with fail
  refine (HES.out _).mono ?_
  rintro e w' ⟨rfl, rfl⟩
  go_wp2_with fail
  refine (HEL.out _ HB1.out).mono ?_
  rintro e w1 ⟨v1, rfl, hv1, hb1⟩
  obtain ⟨a1, c1, rfl, hls, hab⟩ := lsA_above hv1
  have LS := Lib.hid hls
  have HR1 := Lib.hid (HR0.out.of_block (hb1.block _ hbs))
  have HB2 := Lib.hid (HB1.out.trans (hb1.mono HB1.out.size))
  have HAB : Hid (∀ g, a1 = some ⟨g, 0, none⟩ → g ≠ w.heap.size) := Lib.hid (fun g hg => by have := hab g hg; omega)
  have HG0 := Lib.hid (grown_refl w1 (some w.heap.size))
  rw [← HML.out]
  clear hv1 hls hb1 hmk hab hbs HR0
  go_wp2
  go_loopw [19] (fun i wr => ∃ x : Nat, x ≤ M ∧ i = .int .i64 x ∧ Hid (wr.rowIs w.heap.size 3 m (fun i => .int .i64 (dg x i : Nat))) ∧ Hid (w1.grownBy wr (some w.heap.size))) (fun i _ => M - (intOf i).toNat)
  case atStart => exact ⟨0, Nat.zero_le _, rfl, HR1, HG0⟩
  case round =>
    obtain ⟨x, hx, rfl, HR, HG⟩ := hrel
    by_cases hlt : x < M
    · have hql : x < els.length := by have := HML.out; omega
      have hDS := HDS.out x hql
      obtain ⟨g, rfl, hcell⟩ := LS.out.other HG.out HAB.out x hql
      obtain ⟨e1, e2, e3, e4⟩ := HED.out _ (getD_mem hql)
      have HED1 := Lib.hid e4
      have HDSk := Lib.hid hDS
      have hdl0 := fun i => HDL.out x i
      clear hDS e4
      generalize els.getD x 0 = k at hcell e1 e2 e3 HED1 HDSk
      generalize ed k = q at e1 e2 e3 HED1 HDSk
      obtain ⟨i, j⟩ := q
      dsimp only at e1 e2 e3 HED1 HDSk
      have hc0 := HR.out.cell e1
      have hfz := HR.out.frozen i
      have hl0 := hdl0 i
      have hl1 := hdl0 j
      obtain ⟨h1, hh1⟩ : ∃ h1 : Nat → Nat, ∀ y, h1 y = if y = i then dg x i + 1 else dg x y := ⟨_, fun _ => rfl⟩
      have HR1 : Hid ((wr.setCell ⟨w.heap.size, i, none⟩ (.int .i64 ((dg x i + 1 : Nat) : Int))).rowIs w.heap.size 3 m (fun y => .int .i64 (h1 y : Nat))) := Lib.hid ((HR.out.set i (.int .i64 ((dg x i + 1 : Nat) : Int))).congr (fun y _ => by
        rw [hh1]
        by_cases e : y = i
        · rw [if_pos e, if_pos e]
        · rw [if_neg e, if_neg e]))
      have HGa := Lib.hid (NewI.grown_set HG.out i (.int .i64 ((dg x i + 1 : Nat) : Int)))
      have hj : h1 j = dg x j := by rw [hh1, if_neg (fun e => e3 e.symm)]
      have hc1 := HR1.out.cell e2
      have hfz1 := HR1.out.frozen j
      rw [hj] at hc1
      have HRN : Hid (((wr.setCell ⟨w.heap.size, i, none⟩ (.int .i64 ((dg x i + 1 : Nat) : Int))).setCell ⟨w.heap.size, j, none⟩ (.int .i64 ((dg x j + 1 : Nat) : Int))).rowIs w.heap.size 3 m (fun y => .int .i64 (dg (x + 1) y : Nat))) := Lib.hid ((HR1.out.set j (.int .i64 ((dg x j + 1 : Nat) : Int))).congr (fun y _ => by
        rw [HDSk.out y]
        by_cases e : y = j
        · subst e; simp
        · rw [if_neg e, hh1]
          by_cases e5 : y = i
          · subst e5; simp
          · rw [if_neg e5]
            have n1 : (i == y) = false := beq_eq_false_iff_ne.2 (fun h => e5 h.symm)
            have n2 : (j == y) = false := beq_eq_false_iff_ne.2 (fun h => e h.symm)
            rw [n1, n2]
            simp))
      have HGN := Lib.hid (NewI.grown_set HGa.out j (.int .i64 ((dg x j + 1 : Nat) : Int)))
      obtain ⟨P, hP⟩ : ∃ P, P = dg x i + 1 := ⟨_, rfl⟩
      obtain ⟨Q, hQ⟩ : ∃ Q, Q = dg x j + 1 := ⟨_, rfl⟩
      rw [← hP] at HRN HGN HR1 HGa hc1 hfz1
      rw [← hQ] at HRN HGN
      have va : IntKind.i64.wrap ((dg x i : Int) + 1) = (P : Int) := by rw [show (dg x i : Int) + 1 = (P : Int) by omega]; exact IntWalk.i64_in _ (by omega)
      have vb : IntKind.i64.wrap ((dg x j : Int) + 1) = (Q : Int) := by rw [show (dg x j : Int) + 1 = (Q : Int) by omega]; exact IntWalk.i64_in _ (by omega)
      generalize dg x i = u1 at hc0 va
      generalize dg x j = u2 at hc1 vb
      clear hP hQ hl0 hl1 hh1 hj HR1 HGa hdl0
      go_wp2_with fail
      refine (HED1.out _).mono ?_
      rintro e w' ⟨rfl, rfl⟩
      go_wp2
      exact ⟨⟨x + 1, by omega, by go_num, HRN, HGN⟩, by simp only [intOf]; omega⟩
    · obtain rfl : x = M := by omega
      have HN : Hid (NewI.New wr w.heap.size wr.heap.size (some ⟨w.heap.size, 0, none⟩) zs.length (zc zs)) := Lib.hid (.inr ⟨w.heap.size, rfl, Nat.le_refl _, HR.out.lt, ⟨fun y hy => by
        rw [HDN.out] at hy
        rw [HR.out.cell hy, HDE.out y hy], fun y => HR.out.frozen y, HR.out.lt⟩⟩)
      have HBN := Lib.hid (below_grown HB2.out HG.out)
      go_wp2
      go_ret
      exact ⟨⟨some ⟨w.heap.size, 0, none⟩, m, by rw [HDN.out]; rfl, HN.out⟩, HBN.out⟩
end Go.Proofs.YtinlnafkmoabbaaGreatDoor.Sg
/- math/bits.OnesCount of sets of 21 edges. -/
namespace Go.Proofs.YtinlnafkmoabbaaGreatDoor.Sg
open Go.RowKit Pt NewI
theorem and_split {k a b m p : Nat} (ha : a < 2 ^ k) (hm : m < 2 ^ k) : (2 ^ k * b + a) &&& (2 ^ k * p + m) = 2 ^ k * (b &&& p) + (a &&& m) := by
  have hl : a &&& m < 2 ^ k := Nat.lt_of_le_of_lt Nat.and_le_left ha
  refine Nat.eq_of_testBit_eq fun j => ?_
  rw [Nat.testBit_and, Nat.testBit_two_pow_mul_add b ha, Nat.testBit_two_pow_mul_add p hm, Nat.testBit_two_pow_mul_add _ hl]
  split
  · rw [Nat.testBit_and]
  · rw [Nat.testBit_and]
theorem and_low {k a b m : Nat} (ha : a < 2 ^ k) (hm : m < 2 ^ k) : (2 ^ k * b + a) &&& m = a &&& m := by
  have := and_split (b := b) (p := 0) ha hm
  rw [Nat.mul_zero, Nat.zero_add, Nat.and_zero, Nat.mul_zero, Nat.zero_add] at this
  exact this
/-- The steps of the low sixteen bits. -/
def ol1 (x : Nat) : Nat := (x / 2 &&& 21845) + (x &&& 21845)
def ol2 (y : Nat) : Nat := (y / 4 &&& 13107) + (y &&& 13107)
def ol3 (y : Nat) : Nat := (y / 16 + y) &&& 3855
/-- The steps of the bits above. -/
def oh1 (x : Nat) : Nat := (x / 2 &&& 93824992236885) + (x &&& 93824992236885)
def oh2 (y : Nat) : Nat := (y / 4 &&& 56294995342131) + (y &&& 56294995342131)
def oh3 (y : Nat) : Nat := (y / 16 + y) &&& 16557351571215
theorem oh_all : ∀ x : Nat, x < 32 → oh1 x < 64 ∧ oh2 (oh1 x) < 64 ∧ oh2 (oh1 x) % 16 < 5 ∧ oh3 (oh2 (oh1 x)) = sizE 5 x := by decide +kernel
def olOk (x k : Nat) : Bool := decide (ol1 x < 65536) && (decide (ol2 (ol1 x) < 17477) && (decide (ol3 (ol2 (ol1 x)) < 4096) && (ol3 (ol2 (ol1 x)) % 256 + ol3 (ol2 (ol1 x)) / 256 == k)))
def olAll : Nat → Nat → Nat → Bool
  | 0, x, k => olOk x k
  | d + 1, x, k => olAll d x k && olAll d (x + 2 ^ d) (k + 1)
theorem ol_all : olAll 16 0 0 = true := by decide +kernel
theorem ol_at : ∀ d x k y, olAll d x k = true → y < 2 ^ d → olOk (x + y) (k + sizE d y) = true
  | 0, x, k, y, h, hy => by
    obtain rfl : y = 0 := by simpa using hy
    exact h
  | d + 1, x, k, y, h, hy => by
    unfold olAll at h
    rw [Bool.and_eq_true] at h
    have hp : 2 ^ (d + 1) = 2 * 2 ^ d := by rw [Nat.pow_succ]; omega
    rcases Nat.lt_or_ge y (2 ^ d) with hl | hl
    · have := ol_at d x k y h.1 hl
      rw [sizeI_low hl (by omega : d ≤ d + 1)]
      exact this
    · obtain ⟨z, rfl⟩ : ∃ z, y = 2 ^ d + z := ⟨y - 2 ^ d, by omega⟩
      have hz : z < 2 ^ d := by omega
      have := ol_at d (x + 2 ^ d) (k + 1) z h.2 hz
      have hb : z.testBit d = false := bits_of_lt hz d (Nat.le_refl _)
      have e : 2 ^ d + z = z ||| 2 ^ d := Nat.eq_of_testBit_eq fun v => by rw [Nat.add_comm, bit_add hb, bit_set]
      have e2 : sizE (d + 1) (2 ^ d + z) = sizE d z + 1 := by
        rw [e, sizeI_set hb, if_pos (by omega), sizeI_low hz (by omega : d ≤ d + 1)]
      rw [e2, show x + (2 ^ d + z) = x + 2 ^ d + z by omega, show k + (sizE d z + 1) = k + 1 + sizE d z by omega]
      exact this
theorem ol16 {x : Nat} (h : x < 65536) : ol1 x < 65536 ∧ ol2 (ol1 x) < 17477 ∧ ol3 (ol2 (ol1 x)) < 4096 ∧ ol3 (ol2 (ol1 x)) % 256 + ol3 (ol2 (ol1 x)) / 256 = sizE 16 x := by
  have := ol_at 16 0 0 x ol_all (by omega)
  unfold olOk at this
  simp only [Bool.and_eq_true, decide_eq_true_eq, beq_iff_eq, Nat.zero_add] at this
  exact ⟨this.1, this.2.1, this.2.2.1, this.2.2.2⟩
theorem oc1_split {h l : Nat} (hl : l < 65536) : oc1 (65536 * h + l) = 65536 * oh1 h + ol1 l := by
  have e1 := and_split (k := 16) (a := l) (b := h) (m := 21845) (p := 93824992236885) (by omega) (by omega)
  have e2 := and_split (k := 16) (a := 2 ^ 15 * (h % 2) + l / 2) (b := h / 2) (m := 21845) (p := 93824992236885) (by omega) (by omega)
  have e3 := and_low (k := 15) (a := l / 2) (b := h % 2) (m := 21845) (by omega) (by omega)
  rw [e3] at e2
  have e4 : 2 ^ 16 * (h / 2) + (2 ^ 15 * (h % 2) + l / 2) = (65536 * h + l) / 2 := by omega
  rw [e4] at e2
  unfold oc1 oh1 ol1
  rw [show (6148914691236517205 : Nat) = 2 ^ 16 * 93824992236885 + 21845 by decide, e2, show 65536 * h + l = 2 ^ 16 * h + l by omega, e1]
  omega
theorem oc2_split {h l : Nat} (hl : l < 65536) : oc2 (65536 * h + l) = 65536 * oh2 h + ol2 l := by
  have e1 := and_split (k := 16) (a := l) (b := h) (m := 13107) (p := 56294995342131) (by omega) (by omega)
  have e2 := and_split (k := 16) (a := 2 ^ 14 * (h % 4) + l / 4) (b := h / 4) (m := 13107) (p := 56294995342131) (by omega) (by omega)
  have e3 := and_low (k := 14) (a := l / 4) (b := h % 4) (m := 13107) (by omega) (by omega)
  rw [e3] at e2
  have e4 : 2 ^ 16 * (h / 4) + (2 ^ 14 * (h % 4) + l / 4) = (65536 * h + l) / 4 := by omega
  rw [e4] at e2
  unfold oc2 oh2 ol2
  rw [show (3689348814741910323 : Nat) = 2 ^ 16 * 56294995342131 + 13107 by decide, e2, show 65536 * h + l = 2 ^ 16 * h + l by omega, e1]
  omega
theorem oc3_split {h l : Nat} (hl : l < 17477) (hh : h % 16 < 5) : oc3 (65536 * h + l) = 65536 * oh3 h + ol3 l := by
  have e1 := and_split (k := 16) (a := 2 ^ 12 * (h % 16) + (l / 16 + l)) (b := h / 16 + h) (m := 3855) (p := 16557351571215) (by omega) (by omega)
  have e2 := and_low (k := 12) (a := (l / 16 + l) % 4096) (b := h % 16 + (l / 16 + l) / 4096) (m := 3855) (by omega) (by omega)
  have e3 := and_low (k := 12) (a := (l / 16 + l) % 4096) (b := (l / 16 + l) / 4096) (m := 3855) (by omega) (by omega)
  rw [show 2 ^ 12 * (h % 16 + (l / 16 + l) / 4096) + (l / 16 + l) % 4096 = 2 ^ 12 * (h % 16) + (l / 16 + l) by omega] at e2
  rw [show 2 ^ 12 * ((l / 16 + l) / 4096) + (l / 16 + l) % 4096 = l / 16 + l by omega] at e3
  rw [e2, ← e3] at e1
  have e4 : 2 ^ 16 * (h / 16 + h) + (2 ^ 12 * (h % 16) + (l / 16 + l)) = (65536 * h + l) / 16 + (65536 * h + l) := by omega
  rw [e4] at e1
  unfold oc3 oh3 ol3
  rw [show (1085102592571150095 : Nat) = 2 ^ 16 * 16557351571215 + 3855 by decide, e1]
theorem size_split {h l : Nat} (hl : l < 65536) : ∀ d, sizE (16 + d) (65536 * h + l) = sizE 16 l + sizE d h
  | 0 => by
    have e0 : sizE 0 h = 0 := rfl
    rw [e0, Nat.add_zero, Nat.add_zero]
    unfold sizE
    refine List.countP_congr fun x hx => ?_
    have hx := List.mem_range.1 hx
    rw [show 65536 * h + l = 2 ^ 16 * h + l by omega, Nat.testBit_two_pow_mul_add h (show l < 2 ^ 16 by omega), if_pos hx]
  | d + 1 => by
    have e := sizeI_succ (16 + d) (65536 * h + l)
    have e2 := sizeI_succ d h
    have hb : (65536 * h + l).testBit (16 + d) = h.testBit d := by
      rw [show 65536 * h + l = 2 ^ 16 * h + l by omega, Nat.testBit_two_pow_mul_add h (show l < 2 ^ 16 by omega), if_neg (by omega), show 16 + d - 16 = d by omega]
    have ih := size_split (h := h) hl d
    show sizE (16 + d + 1) (65536 * h + l) = _
    rw [e, e2, hb, ih, Nat.add_assoc]
/-- OnesCount's steps of 21 bits. -/
theorem oc21 {x : Nat} (h : x < 2097152) : oc1 x < 4194304 ∧ oc2 (oc1 x) < 4194304 ∧ oc3 (oc2 (oc1 x)) < 2097152 ∧ ∃ y4 y5, y4 = oc3 (oc2 (oc1 x)) + oc3 (oc2 (oc1 x)) / 256 ∧ y5 = y4 + y4 / 65536 ∧ y5 < 2097152 ∧ (y5 &&& 127) = sizE 21 x := by
  obtain ⟨a, b, ha, hb, rfl⟩ : ∃ a b, a < 32 ∧ b < 65536 ∧ x = 65536 * a + b := ⟨x / 65536, x % 65536, by omega, by omega, by omega⟩
  obtain ⟨k1, k2, k3, k4⟩ := oh_all a ha
  obtain ⟨l1, l2, l3, l4⟩ := ol16 hb
  have hs : sizE 5 a ≤ 5 := Nat.le_trans List.countP_le_length (by simp)
  have hs2 : sizE 16 b ≤ 16 := Nat.le_trans List.countP_le_length (by simp)
  have e := size_split (h := a) hb 5
  rw [show 16 + 5 = 21 by rfl] at e
  rw [oc1_split hb, oc2_split l1, oc3_split l2 k3, k4]
  generalize ol3 (ol2 (ol1 b)) = L at l3 l4 ⊢
  generalize ol2 (ol1 b) = L2 at l2 ⊢
  generalize oh2 (oh1 a) = H2 at k2 ⊢
  refine ⟨by omega, by omega, by omega, _, _, rfl, rfl, by omega, ?_⟩
  have p1 : (65536 * sizE 5 a + L) / 256 = 256 * sizE 5 a + L / 256 := by omega
  have q1 : (65536 * sizE 5 a + L + (256 * sizE 5 a + L / 256)) / 65536 = sizE 5 a := by omega
  rw [e, show (127 : Nat) = 2 ^ 7 - 1 by rfl, Nat.and_two_pow_sub_one_eq_mod, p1, q1, ← l4]
  generalize sizE 5 a = H at hs ⊢
  clear p1 q1 e k1 l1 k2 l2 k3
  omega
set_option maxHeartbeats 800000 in
set_option maxRecDepth 100000 in
theorem onesX_core (x a1 a2 y1 b1 b2 y2 z1 y3 y4 y5 r : Nat) (w : World)
    (h1 : bits BinOp.and IntKind.u64 ((x : Int) / 2) 6148914691236517205 = (a1 : Int)) (h2 : bits BinOp.and IntKind.u64 (x : Int) 6148914691236517205 = (a2 : Int)) (h3 : IntKind.u64.wrap ((a1 : Int) + (a2 : Int)) = (y1 : Int))
    (h4 : bits BinOp.and IntKind.u64 ((y1 : Int) / 4) 3689348814741910323 = (b1 : Int)) (h5 : bits BinOp.and IntKind.u64 (y1 : Int) 3689348814741910323 = (b2 : Int)) (h6 : IntKind.u64.wrap ((b1 : Int) + (b2 : Int)) = (y2 : Int))
    (h7 : IntKind.u64.wrap ((y2 : Int) / 16 + (y2 : Int)) = (z1 : Int)) (h8 : bits BinOp.and IntKind.u64 (z1 : Int) 1085102592571150095 = (y3 : Int))
    (h9 : IntKind.u64.wrap ((y3 : Int) + (y3 : Int) / 256) = (y4 : Int)) (h10 : IntKind.u64.wrap ((y4 : Int) + (y4 : Int) / 65536) = (y5 : Int)) (h11 : IntKind.u64.wrap ((y5 : Int) + (y5 : Int) / 4294967296) = (y5 : Int))
    (h12 : IntKind.i64.wrap (y5 : Int) = (y5 : Int)) (h13 : bits BinOp.and IntKind.i64 (y5 : Int) 127 = (r : Int)) :
    Calls Tryz.prog 165 #[.int .u64 x] w fun e w' => e = .returned (.int .i64 r) ∧ w = w' := by
  go_enter Tryz.func165, Tryz.ntmps165
  go_wp2
  go_ret
  exact ⟨rfl, rfl⟩
theorem onesX_any (x : Nat) (h : x < 2097152) (w : World) :
    Calls Tryz.prog 165 #[.int .u64 x] w fun e w' => e = .returned (.int .i64 (sizE 21 x : Nat)) ∧ w = w' := by
  obtain ⟨k1, k2, k3, y4, y5, hy4, hy5, k4, k5⟩ := oc21 h
  have e2 : (x : Int) / 2 = ((x / 2 : Nat) : Int) := by omega
  have n1 : (x / 2 &&& 6148914691236517205) < 2097152 := Nat.lt_of_le_of_lt Nat.and_le_left (by omega)
  have n2 : (x &&& 6148914691236517205) < 2097152 := Nat.lt_of_le_of_lt Nat.and_le_left (by omega)
  have e4 : ((oc1 x : Nat) : Int) / 4 = ((oc1 x / 4 : Nat) : Int) := by omega
  have n4 : (oc1 x / 4 &&& 3689348814741910323) < 4194304 := Nat.lt_of_le_of_lt Nat.and_le_left (by omega)
  have n5 : (oc1 x &&& 3689348814741910323) < 4194304 := Nat.lt_of_le_of_lt Nat.and_le_left (by omega)
  refine onesX_core x (x / 2 &&& 6148914691236517205) (x &&& 6148914691236517205) (oc1 x) (oc1 x / 4 &&& 3689348814741910323) (oc1 x &&& 3689348814741910323) (oc2 (oc1 x)) (oc2 (oc1 x) / 16 + oc2 (oc1 x)) (oc3 (oc2 (oc1 x))) y4 y5 (sizE 21 x) w ?_ ?_ ?_ ?_ ?_ ?_ ?_ ?_ ?_ ?_ ?_ ?_ ?_
  · rw [e2]; exact bits_andU _ 6148914691236517205 (by omega) (by omega)
  · exact bits_andU _ 6148914691236517205 (by omega) (by omega)
  · rw [IntKind.wrap_u64]; unfold oc1 at k1 ⊢; omega
  · rw [e4]; exact bits_andU _ 3689348814741910323 (by omega) (by omega)
  · exact bits_andU _ 3689348814741910323 (by omega) (by omega)
  · rw [IntKind.wrap_u64]; generalize oc1 x = y at *; unfold oc2 at k2 ⊢; omega
  · rw [IntKind.wrap_u64]; omega
  · exact bits_andU _ 1085102592571150095 (by omega) (by omega)
  · rw [IntKind.wrap_u64]; omega
  · rw [IntKind.wrap_u64]; omega
  · rw [IntKind.wrap_u64]; omega
  · rw [IntKind.wrap_i64]; omega
  · rw [← k5]; exact and_i64W _ 127 (by omega) (by omega)
set_option maxRecDepth 100000 in
theorem onesY_any (x : Nat) (h : x < 2097152) (w : World) :
    Calls Tryz.prog 135 #[.int .u64 x] w fun e w' => e = .returned (.int .i64 (sizE 21 x : Nat)) ∧ w = w' := by
  have HC := Lib.hid (onesX_any x h w)
  have hw : IntKind.u64.wrap (x : Int) = (x : Int) := by rw [IntKind.wrap_u64]; omega
  generalize sizE 21 x = r at HC ⊢
  go_enter Tryz.func135, Tryz.ntmps135
  go_wp2_with fail
  refine HC.out.mono ?_
  rintro e w' ⟨rfl, rfl⟩
  go_wp2
  go_ret
  exact ⟨rfl, rfl⟩
theorem sizeY_any (S : Nat) (hS : S < 2097152) (w : World) :
    Calls Tryz.prog 86 #[.int .i64 S] w fun e w' => e = .returned (.int .i64 (sizE 21 S : Nat)) ∧ w = w' := by
  have HC := Lib.hid (onesY_any S hS w)
  have hcv : IntKind.u64.wrap (S : Int) = (S : Int) := by rw [IntKind.wrap_u64]; omega
  generalize sizE 21 S = r at HC ⊢
  go_enter Tryz.func86, Tryz.ntmps86
  go_wp2_with fail
  refine HC.out.mono ?_
  rintro e w' ⟨rfl, rfl⟩
  go_wp2
  go_ret
  exact ⟨rfl, rfl⟩
end Go.Proofs.YtinlnafkmoabbaaGreatDoor.Sg
/- impl's isConnected and IsTree. -/
namespace Go.Proofs.YtinlnafkmoabbaaGreatDoor.Sg
open Go.RowKit Pt NewI
/-- One edge of the search. -/
def stC (n R k : Nat) : Nat := if (R.testBit (edL n k).1 || R.testBit (edL n k).2) = true then R ||| 2 ^ (edL n k).1 ||| 2 ^ (edL n k).2 else R
def fdC (n : Nat) (els : List Nat) (x R : Nat) : Nat := (els.take x).foldl (stC n) R
theorem fdC_succ (n : Nat) {els : List Nat} {x : Nat} (h : x < els.length) (R : Nat) : fdC n els (x + 1) R = stC n (fdC n els x R) (els.getD x 0) := by
  unfold fdC
  rw [getD_take h, List.foldl_append]
  rfl
theorem rchK_fold {n : Nat} (h7 : n ≤ 7) (T p : Nat) : ∀ k, k ≤ eN n → rchK n T p k = ((List.range k).filter fun j => T.testBit j).foldl (stC n) (rchP n T p)
  | 0, _ => rchK_zero n T p
  | k + 1, hk => by
    rw [rchK_step h7 T p (by omega), rchK_fold h7 T p k (by omega), List.range_succ, List.filter_append, List.foldl_append]
    cases hb : T.testBit k
    · simp [hb]
    · simp [hb, stC]
theorem rchP_fold {n t : Nat} (h7 : n ≤ 7) (ht : t < 2 ^ eN n) (p : Nat) : fdC n (elN t) (elN t).length (rchP n t p) = rchP n t (p + 1) := by
  unfold fdC
  rw [List.take_length, ← rchK_end h7 t p, rchK_fold h7 t p _ (Nat.le_refl _), TrText.elN_low (eN_bd n (by omega)) ht]
theorem stC_lt {n k R : Nat} (h1 : (edL n k).1 < 7) (h2 : (edL n k).2 < 7) (hR : R < 128) : stC n R k < 128 := by
  unfold stC
  split
  · exact Nat.or_lt_two_pow (n := 7) (Nat.or_lt_two_pow hR (Nat.pow_lt_pow_right (by omega) (by omega))) (Nat.pow_lt_pow_right (by omega) (by omega))
  · exact hR
/-- An edge meets a set. -/
theorem meet_bits (r i j : Nat) : ((((r &&& (2 ^ i ||| 2 ^ j) : Nat) : Int)) != 0) = (r.testBit i || r.testBit j) := by
  have hz : (r &&& (2 ^ i ||| 2 ^ j) = 0) ↔ (r.testBit i = false ∧ r.testBit j = false) := by
    constructor
    · intro h
      have k : ∀ y, (r.testBit y && (decide (i = y) || decide (j = y))) = false := fun y => by
        have e : (r &&& (2 ^ i ||| 2 ^ j)).testBit y = false := by rw [h, Nat.zero_testBit]
        rw [Nat.testBit_and, Nat.testBit_or, Nat.testBit_two_pow, Nat.testBit_two_pow] at e
        exact e
      have a := k i
      have b := k j
      simp at a b
      exact ⟨a, b⟩
    · rintro ⟨a, b⟩
      refine Nat.eq_of_testBit_eq fun y => ?_
      rw [Nat.testBit_and, Nat.testBit_or, Nat.testBit_two_pow, Nat.testBit_two_pow, Nat.zero_testBit]
      by_cases e1 : i = y
      · subst e1; rw [a]; rfl
      · by_cases e2 : j = y
        · subst e2; rw [b]; rfl
        · rw [decide_eq_false e1, decide_eq_false e2]; simp
  rw [Bool.eq_iff_iff, bne_iff_ne, Bool.or_eq_true]
  constructor
  · intro h
    refine Classical.byContradiction fun hn => h ?_
    have : r &&& (2 ^ i ||| 2 ^ j) = 0 := hz.2 ⟨by cases hb : r.testBit i; rfl; exact absurd (.inl hb) hn, by cases hb : r.testBit j; rfl; exact absurd (.inr hb) hn⟩
    omega
  · rintro h e
    have : r &&& (2 ^ i ||| 2 ^ j) = 0 := by omega
    obtain ⟨a, b⟩ := hz.1 this
    rw [a, b] at h
    simp at h
set_option maxHeartbeats 3200000 in
set_option maxRecDepth 100000 in
theorem isConnected_any (n t : Nat) (h3 : 3 ≤ n) (h7 : n ≤ 7) (htE : t < 2 ^ eN n) (w : World) (hT : Tab w) :
    Calls Tryz.prog 77 #[.int .i64 n, .int .i64 t] w fun e w' => e = .returned (.bool (conB n t)) ∧ Below w.heap.size w w' := by
  have hE := eN_bd n (by omega)
  have hpE := Nat.pow_le_pow_right (n := 2) (by omega) hE
  have HEL := Lib.hid (elementsG_any t (by omega) w hT)
  have HED : Hid (∀ k ∈ elN t, (edL n k).1 < 7 ∧ (edL n k).2 < 7 ∧ ∀ W, Calls Tryz.prog 31 #[.int .i64 n, .int .i64 k] W fun e w' => e = .returned (.tuple #[.int .i64 ((edL n k).1 : Nat), .int .i64 ((edL n k).2 : Nat)]) ∧ W = w') := Lib.hid (fun k hk => by
    obtain ⟨h1, h2, h3⟩ := els_edge h3 h7 htE hk
    exact ⟨by omega, by omega, h3⟩)
  have HEN := Lib.hid (rchP_fold h7 htE)
  have H0 : Hid (rchP n t 0 = 1) := Lib.hid rfl
  have hp2 : (2 : Nat) ^ n ≤ 2 ^ 7 := Nat.pow_le_pow_right (by omega) h7
  have wsh : IntKind.i64.wrap ((2 : Int) ^ n) = ((2 ^ n : Nat) : Int) := (shl_edge n (by omega)).1
  have HCB : Hid (conB n t = ((rchP n t (n - 1) : Int) == ((2 ^ n : Nat) : Int) - 1)) := Lib.hid (by
    rw [← con_prev h7 (by omega)]
    have := Nat.pow_pos (n := n) (show 0 < 2 by omega)
    rw [Bool.eq_iff_iff, beq_iff_eq, beq_iff_eq]
    omega)
  rw [HCB.out]
  obtain ⟨els, hels⟩ : ∃ els, els = elN t := ⟨_, rfl⟩
  have hM : els.length ≤ 21 := by rw [hels]; exact elN_len t
  rw [← hels] at HEL HED HEN
  have HST : Hid (∀ x R, x < els.length → fdC n els (x + 1) R = stC n (fdC n els x R) (els.getD x 0)) := Lib.hid (fun x R hx => fdC_succ n hx R)
  have HZ : Hid (∀ R, fdC n els 0 R = R) := Lib.hid (fun R => rfl)
  have HSD : Hid (∀ R k, stC n R k = if (R.testBit (edL n k).1 || R.testBit (edL n k).2) = true then R ||| 2 ^ (edL n k).1 ||| 2 ^ (edL n k).2 else R) := Lib.hid (fun _ _ => rfl)
  have HSL : Hid (∀ R, ∀ k ∈ els, R < 128 → stC n R k < 128) := Lib.hid (fun R k hk hR => stC_lt (HED.out k hk).1 (HED.out k hk).2.1 hR)
  generalize stC n = sc at HST HSD HSL
  generalize fdC n els = fd at HEN HST HZ
  generalize rchP n t = rp at HEN H0 ⊢
  generalize edL n = ed at HED HSD
  generalize (2 : Nat) ^ n = P2 at hp2 wsh ⊢
  obtain ⟨M, hMe⟩ : ∃ M, M = els.length := ⟨_, rfl⟩
  rw [← hMe] at hM
  have HML := Lib.hid hMe
  clear HCB hpE hels hMe hT htE
  go_enter Tryz.func77, Tryz.ntmps77
  go_wp2_with fail
  refine HEL.out.mono ?_
  rintro e w1 ⟨v1, rfl, hv1, hb1⟩
  obtain ⟨a1, c1, rfl, hls⟩ := lsA_of hv1
  have LS := Lib.hid hls
  have HB1 := Lib.hid hb1
  rw [← HML.out]
  clear hv1 hls hb1
  go_wp2
  go_loopw [6, 16] (fun rv pv wr => ∃ p r : Nat, p ≤ n - 1 ∧ pv = .int .i64 p ∧ rv = .int .i64 r ∧ r < 128 ∧ Hid (r = rp p) ∧ Hid (Below w1.heap.size w1 wr)) (fun _ pv _ => n - 1 - (intOf pv).toNat)
  case atStart => exact ⟨0, 1, Nat.zero_le _, rfl, rfl, by omega, Lib.hid H0.out.symm, Lib.hid (Below.refl _ _)⟩
  case round =>
    rename World => wA
    obtain ⟨p, r, hp, rfl, rfl, hr, HR, HB⟩ := hrel
    by_cases hlt : p < n - 1
    · have kp : decide ((p : Int) < (n : Int) - 1) = true := decide_eq_true (by omega)
      go_wp2
      go_loopw [6, 20] (fun rv kv wr => ∃ k r : Nat, k ≤ M ∧ kv = .int .i64 k ∧ rv = .int .i64 r ∧ r < 128 ∧ Hid (r = fd k (rp p)) ∧ Hid (Below w1.heap.size w1 wr)) (fun _ kv _ => M - (intOf kv).toNat)
      case atStart => exact ⟨0, r, Nat.zero_le _, rfl, rfl, hr, Lib.hid (by rw [HZ.out, HR.out]), HB⟩
      case round =>
        rename World => wB
        obtain ⟨k, r, hk, rfl, rfl, hr, HR, HB⟩ := hrel
        by_cases hlt2 : k < M
        · have hql : k < els.length := by have := HML.out; omega
          obtain ⟨g, rfl, hcell⟩ := LS.out.on HB.out k hql
          have hwB := HB.out.size
          have hS := HST.out k (rp p) hql
          rw [← HR.out, HSD.out] at hS
          have hm := getD_mem hql
          have hb1 := HSL.out r _ hm hr
          rw [HSD.out] at hb1
          obtain ⟨e1, e2, e4⟩ := HED.out _ hm
          have HED1 := Lib.hid e4
          clear e4 hm
          generalize els.getD k 0 = d at hcell HED1 hS hb1 e1 e2
          generalize ed d = q at e1 e2 HED1 hS hb1
          obtain ⟨i, j⟩ := q
          dsimp only at e1 e2 HED1 hS hb1
          obtain ⟨s1, p1⟩ := shl_edge i (by omega)
          obtain ⟨s2, p2⟩ := shl_edge j (by omega)
          have o1 := bits_orE (2 ^ i) (2 ^ j) p1 p2
          have q1 : 2 ^ i ||| 2 ^ j < 2097152 := Nat.or_lt_two_pow (n := 21) p1 p2
          have o2 := bits_orE r (2 ^ i ||| 2 ^ j) (by omega) q1
          have a2 := bits_andE r (2 ^ i ||| 2 ^ j) (by omega) q1
          have mb := meet_bits r i j
          rw [← Nat.or_assoc] at o2
          generalize (r.testBit i || r.testBit j) = bb at mb hS hb1
          generalize r ||| 2 ^ i ||| 2 ^ j = z at o2 hS hb1
          generalize r &&& (2 ^ i ||| 2 ^ j) = y at a2 mb
          generalize 2 ^ i ||| 2 ^ j = u at o1 o2 a2 q1
          generalize (2 : Nat) ^ i = P at s1 o1 p1
          generalize (2 : Nat) ^ j = Q at s2 o1 p2
          have HS := Lib.hid hS
          clear hS
          cases bb
          · have HN : Hid (fd (k + 1) (rp p) = r) := Lib.hid (by rw [HS.out]; rfl)
            clear hb1
            go_wp2_with fail
            refine (HED1.out _).mono ?_
            rintro e w' ⟨rfl, rfl⟩
            go_wp2
            go_quiet (fail)
            go_wp2
            exact ⟨⟨k + 1, r, by omega, by go_num, by trivial, hr, Lib.hid HN.out.symm, Lib.hid (drewN_below HB.out _)⟩, by simp only [intOf]; omega⟩
          · have HN : Hid (fd (k + 1) (rp p) = z) := Lib.hid (by rw [HS.out]; rfl)
            have hz : z < 128 := by simpa using hb1
            clear hb1
            go_wp2_with fail
            refine (HED1.out _).mono ?_
            rintro e w' ⟨rfl, rfl⟩
            go_wp2
            go_quiet (fail)
            go_wp2
            exact ⟨⟨k + 1, z, by omega, by go_num, by trivial, hz, Lib.hid HN.out.symm, Lib.hid (drewN_below HB.out _)⟩, by simp only [intOf]; omega⟩
        · obtain rfl : k = M := by omega
          have HN : Hid (r = rp (p + 1)) := Lib.hid (by rw [HR.out, HML.out, HEN.out])
          go_wp2
          exact ⟨⟨p + 1, r, by omega, by go_num, by trivial, hr, HN, HB⟩, by simp only [intOf]; omega⟩
    · obtain rfl : p = n - 1 := by omega
      go_wp2
      go_ret
      exact ⟨ret_bool (by rw [HR.out]), HB1.out.trans (HB.out.mono HB1.out.size)⟩
set_option maxHeartbeats 1600000 in
set_option maxRecDepth 100000 in
theorem implIsTree (n T : Int) (_hn : I64 n) (_hI : I64 T) (w : World) (hT : Tab w) :
    Calls Tryz.prog 19 #[.int .i64 n, .int .i64 T] w fun e w' => e = .returned (.bool (trB n T)) ∧ Below w.heap.size w w' := by
  have HES := Lib.hid (fun W => edgeSet_any n T W)
  have HB0 := Lib.hid (Below.refl w.heap.size w)
  unfold trB
  rw [← Bool.and_assoc]
  cases hin : (inB n 3 7 && inB T 0 (allZ n))
  · rw [Bool.false_and]
    rw [hin] at HES
    clear hin hT
    go_enter Tryz.func19, Tryz.ntmps19
    go_wp2_with fail
    refine (HES.out _).mono ?_
    rintro e w' ⟨rfl, rfl⟩
    go_wp2
    go_ret
    exact ⟨rfl, HB0.out⟩
  rw [Bool.true_and]
  rw [hin] at HES
  rw [Bool.and_eq_true] at hin
  have hn37 := inB_mem hin.1
  obtain ⟨hT0, hTK⟩ := inB_mem hin.2
  obtain ⟨t, rfl⟩ : ∃ t : Nat, T = t := ⟨T.toNat, by omega⟩
  obtain ⟨m, rfl⟩ : ∃ m : Nat, n = m := ⟨n.toNat, by omega⟩
  have m3 : 3 ≤ m := by omega
  have m7 : m ≤ 7 := by omega
  have hp := allZ_pow (n := m) (.inr ⟨m3, m7⟩)
  have htE : t < 2 ^ eN m := by
    have := Nat.pow_pos (n := eN m) (show 0 < 2 by omega)
    omega
  have hE := eN_bd m (by omega)
  have hpE := Nat.pow_le_pow_right (n := 2) (by omega) hE
  rw [Int.toNat_natCast, Int.toNat_natCast, size_szF hE htE, ← sizeI_low htE hE]
  have HSZ := Lib.hid (fun W => sizeY_any t (by omega) W)
  have HCO := Lib.hid (isConnected_any m t m3 m7 htE w hT)
  have hzl := sizE_le t 21
  generalize sizE 21 t = z at HSZ hzl ⊢
  generalize conB m t = cb at HCO ⊢
  clear hin hn37 hT0 hTK hp hT htE
  by_cases hz : ((z : Nat) : Int) = (m : Int) - 1
  · rw [decide_eq_true hz, Bool.true_and]
    have hzb : ((z : Int) == (m : Int) - 1) = true := beq_iff_eq.2 hz
    go_enter Tryz.func19, Tryz.ntmps19
    go_wp2_with fail
    refine (HES.out _).mono ?_
    rintro e w' ⟨rfl, rfl⟩
    go_wp2_with fail
    refine (HSZ.out _).mono ?_
    rintro e w' ⟨rfl, rfl⟩
    go_wp2_with fail
    refine HCO.out.mono ?_
    rintro e w' ⟨rfl, hb⟩
    go_wp2
    go_ret
    exact ⟨rfl, hb⟩
  · rw [decide_eq_false hz, Bool.false_and]
    have hzb : ((z : Int) == (m : Int) - 1) = false := beq_eq_false_iff_ne.2 hz
    clear HCO
    go_enter Tryz.func19, Tryz.ntmps19
    go_wp2_with fail
    refine (HES.out _).mono ?_
    rintro e w' ⟨rfl, rfl⟩
    go_wp2_with fail
    refine (HSZ.out _).mono ?_
    rintro e w' ⟨rfl, rfl⟩
    go_wp2
    go_ret
    exact ⟨rfl, HB0.out⟩
end Go.Proofs.YtinlnafkmoabbaaGreatDoor.Sg
/- impl's allDegrees over whatever function of a degree; the functions of degrees that are asked for. -/
namespace Go.Proofs.YtinlnafkmoabbaaGreatDoor.Sg
open Go.RowKit Pt NewI
theorem idxIs_any {q : Nat → Bool} {L : List Nat} {r : Int} (h : IdxIs q L r) : decide (0 ≤ r) = L.any q := by
  rcases h with ⟨rfl, h⟩ | ⟨i, rfl, hi, hq, -⟩
  · have e : L.any q = false := by
      cases ha : L.any q
      · rfl
      · obtain ⟨x, hx, hq⟩ := List.any_eq_true.1 ha
        rw [h x hx] at hq
        cases hq
    rw [e]
    rfl
  · have e : L.any q = true := List.any_eq_true.2 ⟨_, getD_mem hi, hq⟩
    rw [e]
    exact decide_eq_true (by omega)
set_option maxHeartbeats 800000 in
set_option maxRecDepth 100000 in
theorem containsZ_fn (g c : Nat) (L : List Nat) (h7 : L.length ≤ 1000) (q : Nat → Bool) (k : Nat) (lb : Array Value) (eg : ∀ args w, (callFunc k args).run Tryz.prog w = .ok (.enter k args) w) (w : World) (hc : NewI.Cells w g L.length (zc (zl L)))
    (HF : Hid (∀ (W : World) (x : Nat), Below w.heap.size w W → x ∈ L → Calls Tryz.prog k (#[.int .i64 x] ++ lb) W fun e w' => e = .returned (.bool (q x)) ∧ Below W.heap.size W w')) :
    Calls Tryz.prog 131 #[.slice (some ⟨g, 0, none⟩) L.length c, .func (.func k) #[] lb] w fun e w' => e = .returned (.bool (L.any q)) ∧ Below w.heap.size w w' := by
  have HI := Lib.hid (indexFunc_any g c L h7 q k lb eg w hc HF)
  clear hc HF
  go_enter Tryz.func131, Tryz.ntmps131
  go_wp2_with fail
  refine HI.out.mono ?_
  rintro e w1 ⟨⟨r, rfl, hr⟩, hb1⟩
  have hr := idxIs_any hr
  generalize hd : decide (0 ≤ r) = d at hr
  go_wp2
  go_ret
  exact ⟨rfl, hb1⟩
theorem alD_list (q : Nat → Bool) (n t : Nat) : (!((degL n t).any fun x => !q x)) = alD q n t := by
  unfold degL alD
  rw [List.any_map, List.not_any_eq_all_not]
  refine all_congr' fun i _ => ?_
  show (!!q (dgN n t i)) = q (dgN n t i)
  rw [Bool.not_not]
set_option maxHeartbeats 800000 in
set_option maxRecDepth 100000 in
/-- The function within: not wanted. -/
theorem allDeg1_any (x p k : Nat) (b : Bool) (eg : ∀ args w, (callFunc k args).run Tryz.prog w = .ok (.enter k args) w) (w : World) (hp : w.cell? ⟨p, 0, none⟩ = some (.func (.func k) #[] #[]))
    (HF : Hid (∀ W : World, Below w.heap.size w W → Calls Tryz.prog k #[.int .i64 x] W fun e w' => e = .returned (.bool b) ∧ Below W.heap.size W w')) :
    Calls Tryz.prog 132 #[.int .i64 x, .pointer (some ⟨p, 0, none⟩)] w fun e w' => e = .returned (.bool (!b)) ∧ Below w.heap.size w w' := by
  have HC := Lib.hid (HF.out w (Below.refl _ _))
  clear HF
  go_enter Tryz.func132, Tryz.ntmps132
  go_wp2_with (go_at_fn k; refine HC.out.mono ?_; rintro e w2 ⟨rfl, hb2⟩)
  go_ret
  exact ⟨rfl, hb2⟩
set_option maxHeartbeats 1600000 in
set_option maxRecDepth 100000 in
theorem allDeg_any (n t : Nat) (h3 : 3 ≤ n) (h7 : n ≤ 7) (htE : t < 2 ^ eN n) (q : Nat → Bool) (k : Nat) (eg : ∀ args w, (callFunc k args).run Tryz.prog w = .ok (.enter k args) w) (w : World) (hT : Tab w)
    (HF : Hid (∀ (W : World) (x : Nat), Calls Tryz.prog k #[.int .i64 x] W fun e w' => e = .returned (.bool (q x)) ∧ Below W.heap.size W w')) :
    Calls Tryz.prog 73 #[.int .i64 n, .int .i64 t, .func (.func k) #[] #[]] w fun e w' => e = .returned (.bool (alD q n t)) ∧ Below w.heap.size w w' := by
  have hmf : ∀ (fn : Fn) (first cap : Array Value) (w : World), (Instr.makeFunc fn first cap).run Tryz.prog w = .ok (.func fn first cap) w := fun _ _ _ _ => rfl
  have eg1 : ∀ args w, (callFunc 132 args).run Tryz.prog w = .ok (.enter 132 args) w := enters_of Tryz.func132 (by kernel_rfl) rfl
  have hE := eN_bd n (by omega)
  have hpE := Nat.pow_le_pow_right (n := 2) (by omega) hE
  have hp := allZ_pow (n := n) (.inr ⟨h3, h7⟩)
  have hp0 := Nat.pow_pos (n := eN n) (show 0 < 2 by omega)
  obtain ⟨w0, hw0⟩ : ∃ w0, w0 = w.alloc (.cells #[.func (.func k) #[] #[]] 63) := ⟨_, rfl⟩
  have B0 : Below w.heap.size w w0 := by rw [hw0]; exact (Below.refl _ _).alloc (Nat.le_refl _) _
  have c0 : w0.cell? ⟨w.heap.size, 0, none⟩ = some (.func (.func k) #[] #[]) := by rw [hw0]; go_simp
  have HD := Lib.hid (implDegrees (n : Int) (t : Int) (by unfold I64; omega) (by unfold I64; omega) w0 (hT.on B0))
  have hdz : degZ (n : Int) (t : Int) = degL n t := by
    unfold degZ
    rw [if_pos ⟨inB_yes (by omega) (by omega), by rw [hp]; exact inB_yes (by omega) (by omega)⟩, Int.toNat_natCast, Int.toNat_natCast]
  rw [hdz] at HD
  have hdl := degL_len n t
  rw [← alD_list]
  generalize degL n t = L at HD hdl ⊢
  obtain ⟨ab, hab⟩ : ∃ ab, ab = L.any fun x => !q x := ⟨_, rfl⟩
  rw [← hab]
  have HAB := Lib.hid hab
  have HW0 := Lib.hid hw0
  have HB0 := Lib.hid B0
  have HC0 := Lib.hid c0
  clear hab hT hw0 B0 c0 hdz hp htE hp0 hpE hE
  go_enter Tryz.func73, Tryz.ntmps73
  go_wp2_with fail
  rw [← HW0.out]
  refine HD.out.mono ?_
  rintro e w1 ⟨⟨a, c, rfl, hn⟩, hb1⟩
  have hzl : (zl L).length = n := by rw [zl_length]; exact hdl
  rcases hn with hn | ⟨g, rfl, -, -, hc⟩
  · omega
  rw [hzl] at hc ⊢
  have HB1 := Lib.hid (HB0.out.trans (hb1.mono HB0.out.size))
  have HP1 : Hid (w1.cell? ⟨w.heap.size, 0, none⟩ = some (.func (.func k) #[] #[])) := Lib.hid (by rw [hb1.cell (Kit.cell_lt HC0.out)]; exact HC0.out)
  have HCF := Lib.hid (containsZ_fn g c L (by omega) (fun x => !q x) 132 #[.pointer (some ⟨w.heap.size, 0, none⟩)] eg1 w1 (by rw [hdl]; exact hc) (Lib.hid (fun W x hW _ => allDeg1_any x w.heap.size k (q x) eg W (by rw [hW.cell (Kit.cell_lt HP1.out)]; exact HP1.out) (Lib.hid (fun W' _ => HF.out W' x)))))
  rw [hdl, ← HAB.out] at HCF
  clear hc hb1 hzl
  go_wp2_with fail
  refine HCF.out.mono ?_
  rintro e w2 ⟨rfl, hb2⟩
  have B2 := HB1.out.trans (hb2.mono HB1.out.size)
  go_wp2
  go_ret
  exact ⟨rfl, B2⟩
set_option maxRecDepth 100000 in
theorem degTwo_any (x : Nat) (w : World) : Calls Tryz.prog 74 #[.int .i64 x] w fun e w' => e = .returned (.bool (decide (x ≤ 2))) ∧ Below w.heap.size w w' := by
  have HB := Lib.hid (Below.refl w.heap.size w)
  have hd : decide ((x : Int) ≤ 2) = decide (x ≤ 2) := by rw [Bool.eq_iff_iff, decide_eq_true_eq, decide_eq_true_eq]; omega
  generalize decide (x ≤ 2) = d at hd ⊢
  go_enter Tryz.func74, Tryz.ntmps74
  go_wp2
  go_ret
  exact ⟨rfl, HB.out⟩
set_option maxRecDepth 100000 in
theorem degRing_any (x : Nat) (w : World) : Calls Tryz.prog 76 #[.int .i64 x] w fun e w' => e = .returned (.bool (x == 2)) ∧ Below w.heap.size w w' := by
  have HB := Lib.hid (Below.refl w.heap.size w)
  have hd : ((x : Int) == 2) = (x == 2) := by rw [Bool.eq_iff_iff, beq_iff_eq, beq_iff_eq]; omega
  generalize (x == 2) = d at hd ⊢
  go_enter Tryz.func76, Tryz.ntmps76
  go_wp2
  go_ret
  exact ⟨rfl, HB.out⟩
set_option maxRecDepth 100000 in
theorem degPair_any (x : Nat) (w : World) : Calls Tryz.prog 79 #[.int .i64 x] w fun e w' => e = .returned (.bool (x == 1)) ∧ Below w.heap.size w w' := by
  have HB := Lib.hid (Below.refl w.heap.size w)
  have hd : ((x : Int) == 1) = (x == 1) := by rw [Bool.eq_iff_iff, beq_iff_eq, beq_iff_eq]; omega
  generalize (x == 1) = d at hd ⊢
  go_enter Tryz.func79, Tryz.ntmps79
  go_wp2
  go_ret
  exact ⟨rfl, HB.out⟩
end Go.Proofs.YtinlnafkmoabbaaGreatDoor.Sg
/- impl's planeSets over whatever function of a set of edges; PlaneTrees, PlanePaths, PolygonsOf and PlaneMatchings. -/
namespace Go.Proofs.YtinlnafkmoabbaaGreatDoor.Sg
open Go.RowKit Pt NewI
theorem fit_parts {n : Int} {s : List UInt8} (hf : Sg.fitB n s = true) : ∃ m : Nat, n = m ∧ aciB m s = true ∧ m ≤ 6 ∧ 3 ≤ m ∧ eZ n s = eN m ∧ cZ n s = cS m s := by
  obtain ⟨h, h6⟩ := fitB_n hf
  obtain ⟨h3, -⟩ := aciB_n h
  obtain ⟨m, rfl⟩ : ∃ m : Nat, n = m := ⟨n.toNat, by omega⟩
  refine ⟨m, rfl, h, by omega, by omega, ?_, ?_⟩
  · unfold eZ; rw [if_pos hf, Int.toNat_natCast]
  · unfold cZ; rw [if_pos hf, Int.toNat_natCast]
theorem plTo_out {n : Int} {s : List UInt8} (hf : Sg.fitB n s = false) (p : Nat → Bool) : plTo p (2 ^ eZ n s) = [] := by
  unfold eZ
  rw [if_neg (by rw [hf]; simp)]
  rfl
theorem setZ_out {n : Int} {s : List UInt8} (hf : Sg.fitB n s = false) (a b c : Nat) (d : Bool) : setZ n s a b c d = [] := by
  unfold setZ
  rw [hf]
  rfl
theorem tree_both (n : Int) (s : List UInt8) : plTo (fun U => plU (cZ n s) (eZ n s) U && trB n U) (2 ^ eZ n s) = treeZ n s := by
  cases hf : Sg.fitB n s
  · rw [plTo_out hf]; exact (setZ_out hf _ _ _ _).symm
  · obtain ⟨m, rfl, h, h6, h3, e1, e2⟩ := fit_parts hf
    rw [e1, e2]; exact tree_list h h6
theorem path_both (n : Int) (s : List UInt8) : plTo (fun U => plU (cZ n s) (eZ n s) U && (trB n U && alD (fun x => decide (x ≤ 2)) n.toNat U)) (2 ^ eZ n s) = pathZ n s := by
  cases hf : Sg.fitB n s
  · rw [plTo_out hf]; exact (setZ_out hf _ _ _ _).symm
  · obtain ⟨m, rfl, h, h6, h3, e1, e2⟩ := fit_parts hf
    rw [e1, e2, Int.toNat_natCast]; exact path_list h h6
theorem ring_both (n : Int) (s : List UInt8) : plTo (fun U => plU (cZ n s) (eZ n s) U && (alD (fun x => x == 2) n.toNat U && conB n.toNat U)) (2 ^ eZ n s) = ringZ n s := by
  cases hf : Sg.fitB n s
  · rw [plTo_out hf]; exact (setZ_out hf _ _ _ _).symm
  · obtain ⟨m, rfl, h, h6, h3, e1, e2⟩ := fit_parts hf
    rw [e1, e2, Int.toNat_natCast]; exact ring_list h h6
theorem pair_both (n : Int) (s : List UInt8) : plTo (fun U => plU (cZ n s) (eZ n s) U && alD (fun x => x == 1) n.toNat U) (2 ^ eZ n s) = pairZ n s := by
  cases hf : Sg.fitB n s
  · rw [plTo_out hf]
    unfold pairZ
    split
    · exact (setZ_out hf _ _ _ _).symm
    · rfl
  · obtain ⟨m, rfl, h, h6, h3, e1, e2⟩ := fit_parts hf
    rw [e1, e2, Int.toNat_natCast]; exact pair_list h h6
set_option maxHeartbeats 800000 in
set_option maxRecDepth 100000 in
theorem isPlane_any (n : Int) (s : List UInt8) (U : Nat) (hU : U < 2097152) (v : Value) (w : World) (hv : CrL w v n s) :
    Calls Tryz.prog 130 #[v, .int .i64 U] w fun e w' => e = .returned (.bool (plU (cZ n s) (eZ n s) U)) ∧ w = w' := by
  obtain ⟨a, cc, rfl, hr⟩ := hv
  rw [cZ_to] at hr
  have hE : eZ n s ≤ 21 := Nat.le_trans (eZ_le n s) (by omega)
  have HC := Lib.hid (unc_any (eZ n s) hE (cZ n s) (cZ_lt n s) (U : Int) a cc w hr)
  rw [uncZ_N (cZ_lt n s) hU] at HC
  have hl : uncN (cZ n s) (eZ n s) U < 2097152 := setN_ltT _ hE
  have hb := (bits_andNotE U (uncN (cZ n s) (eZ n s) U) hU hl).1
  unfold plU
  have hz := beq_castN (U ^^^ (U &&& uncN (cZ n s) (eZ n s) U)) 0
  have hz : ((((U ^^^ (U &&& uncN (cZ n s) (eZ n s) U) : Nat) : Int)) == 0) = ((U ^^^ (U &&& uncN (cZ n s) (eZ n s) U)) == 0) := hz
  generalize uncN (cZ n s) (eZ n s) U = u at HC hb hz ⊢
  generalize U ^^^ (U &&& u) = d at hb hz ⊢
  generalize (d == 0) = z at hz ⊢
  generalize eZ n s = E at HC ⊢
  clear hr hE hl
  go_enter Tryz.func130, Tryz.ntmps130
  go_wp2_with fail
  refine HC.out.mono ?_
  rintro e w' ⟨rfl, rfl⟩
  go_wp2
  go_ret
  exact ⟨rfl, rfl⟩
set_option maxHeartbeats 3200000 in
set_option maxRecDepth 100000 in
theorem planeSets_any (n : Int) (s : ByteArray) (hs : s.size ≤ 9223372036854775807) (kf : Nat) (eg : ∀ args w, (callFunc kf args).run Tryz.prog w = .ok (.enter kf args) w) (wt : Nat → Bool) (w : World) (hT : Tab w)
    (HF : Hid (∀ (U : Nat), 0 < U → U < 2 ^ eZ n s.data.toList → ∀ W, Below w.heap.size w W → Calls Tryz.prog kf #[.int .i64 n, .int .i64 U] W fun e w' => e = .returned (.bool (wt U)) ∧ Below W.heap.size W w')) :
    Calls Tryz.prog 71 #[sg n s, .func (.func kf) #[] #[]] w fun e w' => Got w.heap.size (zl (plTo (fun U => plU (cZ n s.data.toList) (eZ n s.data.toList) U && wt U) (2 ^ eZ n s.data.toList))) e w' ∧ Below w.heap.size w w' := by
  have HS := Lib.hid (box_made w n s 25)
  have HC := Lib.hid (crossersOf_any n s hs _ (hT.on HS.out.2.2))
  have hE := eZ_le n s.data.toList
  have hP := Nat.pow_le_pow_right (n := 2) (by omega) hE
  have hp0 := Nat.pow_pos (n := eZ n s.data.toList) (show 0 < 2 by omega)
  have HI := Lib.hid (fun (x : Nat) (hx : x < 2 ^ eZ n s.data.toList) v W hv => isPlane_any n s.data.toList x (by omega) v W hv)
  obtain ⟨pl, hpl⟩ : ∃ pl, pl = fun U => plU (cZ n s.data.toList) (eZ n s.data.toList) U := ⟨_, rfl⟩
  have HI : Hid (∀ (x : Nat), x < 2 ^ eZ n s.data.toList → ∀ v W, CrL W v n s.data.toList → Calls Tryz.prog 130 #[v, .int .i64 x] W fun e w' => e = .returned (.bool (pl x)) ∧ W = w') := Lib.hid (by rw [hpl]; exact HI.out)
  have hpl2 : (fun U => plU (cZ n s.data.toList) (eZ n s.data.toList) U && wt U) = fun U => pl U && wt U := by rw [hpl]
  rw [hpl2]
  have HSU : Hid (∀ T, 0 < T → plTo (fun U => pl U && wt U) (T + 1) = plTo (fun U => pl U && wt U) T ++ if (pl T && wt T) = true then [T] else []) := Lib.hid (fun T h => plTo_succ _ h)
  have HLN := Lib.hid (plTo_len (fun U => pl U && wt U))
  have H1 : Hid (plTo (fun U => pl U && wt U) 1 = []) := Lib.hid rfl
  have HCV : Hid (∀ w v, CrL w v n s.data.toList → ∃ a cc, v = .slice a (eZ n s.data.toList) cc) := Lib.hid (fun w v ⟨a, cc, h, _⟩ => ⟨a, cc, h⟩)
  generalize plTo (fun U => pl U && wt U) = L at HSU HLN H1 ⊢
  generalize eZ n s.data.toList = E at hE HCV hP hp0 HF HI ⊢
  have wsh : IntKind.i64.wrap ((2 : Int) ^ E) = ((2 ^ E : Nat) : Int) := (shl_edge E (by omega)).1
  generalize hPe : (2 : Nat) ^ E = P at hP hp0 wsh HF HI ⊢
  obtain ⟨i0, hi, hz0, hz1, hz2⟩ := info_parts infoI
  obtain ⟨x0, x1, -⟩ := HS.out
  clear hT hpl hpl2 hPe
  go_enter Tryz.func71, Tryz.ntmps71
  go_wp2_with fail
  refine HC.out.mono ?_
  rintro e w1 ⟨v, rfl, hv, hb1⟩
  have X1 := Lib.hid (HS.out.on hb1)
  obtain ⟨a, cc, rfl⟩ := HCV.out _ _ hv
  have HV := Lib.hid hv
  have HO0 : Hid (OwnsZ w1 w1.heap.size (.slice none 0 0) (zl (L 1))) := Lib.hid (by rw [H1.out]; exact World.ownsRow_nil _ _ _ _)
  clear hb1 hv x0 x1
  go_wp2
  go_loopw [6, 7] (fun vv kv wr => ∃ k : Nat, 0 < k ∧ k ≤ P ∧ kv = .int .i64 k ∧ Hid (OwnsZ wr w1.heap.size vv (zl (L k))) ∧ Hid (L k = [] → vv = .slice none 0 0) ∧ Hid (Below w1.heap.size w1 wr)) (fun _ kv _ => P - (intOf kv).toNat)
  case atStart => exact ⟨1, by omega, by omega, rfl, HO0, Lib.hid (fun _ => rfl), Lib.hid (Below.refl _ _)⟩
  case round =>
    rename World => wA
    obtain ⟨k, hk0, hk, rfl, HO, HN, HB⟩ := hrel
    by_cases hlt : k < P
    · have HCL := Lib.hid (HI.out k hlt _ _ (HV.out.on HB.out))
      have hSU := HSU.out k hk0
      have hln := HLN.out k
      have hzl : (zl (L k)).length ≤ 32768 := by rw [zl_length]; omega
      have hwr := HB.out.size
      have HXA := Lib.hid (X1.out.on HB.out)
      obtain ⟨c0, c1, B0⟩ := HXA.out
      have HFK := Lib.hid (HF.out k hk0 hlt _ B0)
      cases hit : pl k
      · rw [hit] at HCL
        have HLN2 : Hid (L (k + 1) = L k) := Lib.hid (by rw [hSU, hit]; simp)
        have HO2 : Hid (OwnsZ wA w1.heap.size u6 (zl (L (k + 1)))) := Lib.hid (by rw [HLN2.out]; exact HO.out)
        have HN2 : Hid (L (k + 1) = [] → u6 = .slice none 0 0) := Lib.hid (by rw [HLN2.out]; exact HN.out)
        clear hSU hit hln HFK
        go_wp2_with fail
        refine HCL.out.mono ?_
        rintro e w' ⟨rfl, rfl⟩
        go_wp2
        exact ⟨⟨k + 1, by omega, by omega, by go_num, HO2, HN2, HB⟩, by simp only [intOf]; omega⟩
      · rw [hit, Bool.true_and] at hSU
        rw [hit] at HCL
        cases hw : wt k
        · rw [hw] at HFK
          have HLN2 : Hid (L (k + 1) = L k) := Lib.hid (by rw [hSU, hw]; simp)
          have HN2 : Hid (L (k + 1) = [] → u6 = .slice none 0 0) := Lib.hid (by rw [HLN2.out]; exact HN.out)
          clear hSU hit hln hw
          go_wp2_with fail
          refine HCL.out.mono ?_
          rintro e w' ⟨rfl, rfl⟩
          go_wp2_with (go_at_fn kf; refine HFK.out.mono ?_; rintro e w2 ⟨rfl, hb2⟩)
          have HO2 : Hid (OwnsZ w2 w1.heap.size u6 (zl (L (k + 1)))) := Lib.hid (by rw [HLN2.out]; exact ownsZ_on HO.out hb2)
          have HB2 := Lib.hid (HB.out.trans (hb2.mono hwr))
          exact ⟨⟨k + 1, by omega, by omega, by go_num, HO2, HN2, HB2⟩, by simp only [intOf]; omega⟩
        · rw [hw] at HFK
          have HLN2 : Hid (L (k + 1) = L k ++ [k]) := Lib.hid (by rw [hSU, hw, if_pos rfl])
          clear hSU hit hln hw
          go_wp2_with fail
          refine HCL.out.mono ?_
          rintro e w' ⟨rfl, rfl⟩
          go_wp2_with fail
          go_at_fn kf
          refine HFK.out.mono ?_
          rintro e w2 ⟨rfl, hb2⟩
          have HO2 := Lib.hid (ownsZ_on HO.out hb2)
          have HB2 := Lib.hid (HB.out.trans (hb2.mono hwr))
          have hw2 := HB2.out.size
          clear hb2 c0 c1 B0
          go_wp2_with (at_builtin; refine wpList_append_own _ rfl (.tmp 27) (.tmp 29) 27 rfl w1.heap.size 3 i0 _ 1 8 Tryz.underlying27 hi hz0 hz1 hz2 rfl (by decide) _ _ _ rfl (World.ownsRow.alloc HO2.out _) ⟨_, 0, none⟩ 1 1 [.int .i64 (k : Int)] rfl rfl (news1 _ _ _) (one1 _) (by simp only [maxLen]; omega) (by omega) (by simp; omega) ?_)
          intro v6 w6 hown6 hg6 _
          have HB6 := Lib.hid ((HB2.out.alloc hw2 (.cells #[.int .i64 (k : Int)] 3)).grown hg6 (by simp; omega) (fun q hq => (World.ownsRow.lt HO2.out q hq).1))
          have HO6 : Hid (OwnsZ w6 w1.heap.size v6 (zl (L (k + 1)))) := Lib.hid (by
            have := ownsZ_snoc (ys := [(k : Int)]) hown6
            rw [HLN2.out, zl_snoc]
            exact this)
          clear hown6 hg6
          go_wp2
          exact ⟨⟨k + 1, by omega, by omega, by go_num, HO6, Lib.hid (fun e => absurd e (by rw [HLN2.out]; simp)), HB6⟩, by simp only [intOf]; omega⟩
    · obtain rfl : k = P := by omega
      have B1 := X1.out.2.2
      have HA : Hid (∃ a c, u6 = Value.slice a (zl (L k)).length c ∧ NewI.New wA w.heap.size wA.heap.size a (zl (L k)).length (zc (zl (L k)))) := Lib.hid (((ArgZ.of_own HO.out (fun e => HN.out (zl_nil e))).low B1.size).new)
      have BB := Lib.hid (B1.trans (HB.out.mono B1.size))
      clear HO HN
      obtain ⟨a', c', rfl, hn'⟩ := HA.out
      clear HA
      go_wp2
      go_ret
      exact ⟨⟨a', c', rfl, hn'⟩, BB.out⟩
/-- The sets of edges that are asked about. -/
theorem in_edges {n : Int} {s : List UInt8} {U : Nat} (hu : 0 < U) (hU : U < 2 ^ eZ n s) : ∃ m : Nat, n = m ∧ 3 ≤ m ∧ m ≤ 7 ∧ U < 2 ^ eN m ∧ U < 2097152 := by
  have hf : Sg.fitB n s = true := by
    refine Classical.byContradiction fun hn => ?_
    unfold eZ at hU
    rw [if_neg hn] at hU
    omega
  obtain ⟨m, rfl, h, h6, h3, e1, -⟩ := fit_parts hf
  rw [e1] at hU
  have hp := Nat.pow_le_pow_right (n := 2) (by omega) (eN_bd m (by omega))
  exact ⟨m, rfl, h3, by omega, hU, by omega⟩
set_option maxHeartbeats 800000 in
set_option maxRecDepth 100000 in
theorem path1_any (m U : Nat) (h3 : 3 ≤ m) (h7 : m ≤ 7) (hE : U < 2 ^ eN m) (hU : U < 2097152) (w : World) (hT : Tab w) :
    Calls Tryz.prog 72 #[.int .i64 m, .int .i64 U] w fun e w' => e = .returned (.bool (trB m U && alD (fun x => decide (x ≤ 2)) m U)) ∧ Below w.heap.size w w' := by
  have hmf : ∀ (fn : Fn) (first cap : Array Value) (w : World), (Instr.makeFunc fn first cap).run Tryz.prog w = .ok (.func fn first cap) w := fun _ _ _ _ => rfl
  have eg : ∀ args w, (callFunc 74 args).run Tryz.prog w = .ok (.enter 74 args) w := enters_of Tryz.func74 (by kernel_rfl) rfl
  have HTR := Lib.hid (implIsTree m U (by unfold I64; omega) (by unfold I64; omega) w hT)
  have HAL := Lib.hid (fun W hW => allDeg_any m U h3 h7 hE (fun x => decide (x ≤ 2)) 74 eg W (hT.on (w' := W) hW) (Lib.hid (fun W' x => degTwo_any x W')))
  generalize alD (fun x => decide (x ≤ 2)) m U = z at HAL ⊢
  clear hT hE eg
  cases hb : trB m U
  · rw [hb] at HTR
    rw [Bool.false_and]
    clear HAL hb
    go_enter Tryz.func72, Tryz.ntmps72
    go_wp2_with fail
    refine HTR.out.mono ?_
    rintro e w1 ⟨rfl, hb1⟩
    go_wp2
    go_ret
    exact ⟨rfl, hb1⟩
  · rw [hb] at HTR
    rw [Bool.true_and]
    clear hb
    go_enter Tryz.func72, Tryz.ntmps72
    go_wp2_with fail
    refine HTR.out.mono ?_
    rintro e w1 ⟨rfl, hb1⟩
    have HB1 := Lib.hid hb1
    clear hb1
    go_wp2_with fail
    refine (HAL.out _ HB1.out).mono ?_
    rintro e w2 ⟨rfl, hb2⟩
    have B2 := HB1.out.trans (hb2.mono HB1.out.size)
    go_wp2
    go_ret
    exact ⟨rfl, B2⟩
set_option maxHeartbeats 800000 in
set_option maxRecDepth 100000 in
theorem ring1_any (m U : Nat) (h3 : 3 ≤ m) (h7 : m ≤ 7) (hE : U < 2 ^ eN m) (w : World) (hT : Tab w) :
    Calls Tryz.prog 75 #[.int .i64 m, .int .i64 U] w fun e w' => e = .returned (.bool (alD (fun x => x == 2) m U && conB m U)) ∧ Below w.heap.size w w' := by
  have hmf : ∀ (fn : Fn) (first cap : Array Value) (w : World), (Instr.makeFunc fn first cap).run Tryz.prog w = .ok (.func fn first cap) w := fun _ _ _ _ => rfl
  have eg : ∀ args w, (callFunc 76 args).run Tryz.prog w = .ok (.enter 76 args) w := enters_of Tryz.func76 (by kernel_rfl) rfl
  have HAL := Lib.hid (allDeg_any m U h3 h7 hE (fun x => x == 2) 76 eg w hT (Lib.hid (fun W' x => degRing_any x W')))
  have HCO := Lib.hid (fun W hW => isConnected_any m U h3 h7 hE W (hT.on (w' := W) hW))
  generalize conB m U = z at HCO ⊢
  clear hT hE eg
  cases hb : alD (fun x => x == 2) m U
  · rw [hb] at HAL
    rw [Bool.false_and]
    clear HCO hb
    go_enter Tryz.func75, Tryz.ntmps75
    go_wp2_with fail
    refine HAL.out.mono ?_
    rintro e w1 ⟨rfl, hb1⟩
    go_wp2
    go_ret
    exact ⟨rfl, hb1⟩
  · rw [hb] at HAL
    rw [Bool.true_and]
    clear hb
    go_enter Tryz.func75, Tryz.ntmps75
    go_wp2_with fail
    refine HAL.out.mono ?_
    rintro e w1 ⟨rfl, hb1⟩
    have HB1 := Lib.hid hb1
    clear hb1
    go_wp2_with fail
    refine (HCO.out _ HB1.out).mono ?_
    rintro e w2 ⟨rfl, hb2⟩
    have B2 := HB1.out.trans (hb2.mono HB1.out.size)
    go_wp2
    go_ret
    exact ⟨rfl, B2⟩
set_option maxHeartbeats 800000 in
set_option maxRecDepth 100000 in
theorem pair1_any (m U : Nat) (h3 : 3 ≤ m) (h7 : m ≤ 7) (hE : U < 2 ^ eN m) (w : World) (hT : Tab w) :
    Calls Tryz.prog 78 #[.int .i64 m, .int .i64 U] w fun e w' => e = .returned (.bool (alD (fun x => x == 1) m U)) ∧ Below w.heap.size w w' := by
  have hmf : ∀ (fn : Fn) (first cap : Array Value) (w : World), (Instr.makeFunc fn first cap).run Tryz.prog w = .ok (.func fn first cap) w := fun _ _ _ _ => rfl
  have eg : ∀ args w, (callFunc 79 args).run Tryz.prog w = .ok (.enter 79 args) w := enters_of Tryz.func79 (by kernel_rfl) rfl
  have HAL := Lib.hid (allDeg_any m U h3 h7 hE (fun x => x == 1) 79 eg w hT (Lib.hid (fun W' x => degPair_any x W')))
  generalize alD (fun x => x == 1) m U = z at HAL ⊢
  clear hT hE eg
  go_enter Tryz.func78, Tryz.ntmps78
  go_wp2_with fail
  refine HAL.out.mono ?_
  rintro e w1 ⟨rfl, hb1⟩
  go_wp2
  go_ret
  exact ⟨rfl, hb1⟩
set_option maxHeartbeats 1600000 in
set_option maxRecDepth 100000 in
theorem implTrees (n : Int) (_hn : I64 n) (s : ByteArray) (hs : s.size ≤ 9223372036854775807) (w : World) (hT : Tab w) :
    Calls Tryz.prog 8 #[sg n s] w fun e w' => Got w.heap.size (zl (treeZ n s.data.toList)) e w' ∧ Below w.heap.size w w' := by
  have hmf : ∀ (fn : Fn) (first cap : Array Value) (w : World), (Instr.makeFunc fn first cap).run Tryz.prog w = .ok (.func fn first cap) w := fun _ _ _ _ => rfl
  have eg : ∀ args w, (callFunc 19 args).run Tryz.prog w = .ok (.enter 19 args) w := enters_of Tryz.func19 (by kernel_rfl) rfl
  obtain ⟨w0, hw0⟩ : ∃ w0, w0 = w.alloc (.cells #[.int .i64 n, .string s] 25) := ⟨_, rfl⟩
  have B0 : Below w.heap.size w w0 := by rw [hw0]; exact (Below.refl _ _).alloc (Nat.le_refl _) _
  have HC := Lib.hid (planeSets_any n s hs 19 eg (fun U => trB n U) w0 (hT.on B0) (Lib.hid (fun U hu hU W hW => by
    have hW := hT.on (B0.trans (hW.mono B0.size))
    obtain ⟨m, rfl, k3, k7, kE, kU⟩ := in_edges hu hU
    first | exact (implIsTree m U (by unfold I64; omega) (by unfold I64; omega) W hW) | (rw [Int.toNat_natCast]; exact (implIsTree m U (by unfold I64; omega) (by unfold I64; omega) W hW)))))
  rw [tree_both] at HC
  have HW0 := Lib.hid hw0
  have HB0 := Lib.hid B0
  have x0 : w0.cell? ⟨w.heap.size, 0, none⟩ = some (.int .i64 n) := by rw [hw0]; go_simp
  have x1 : w0.cell? ⟨w.heap.size, 1, none⟩ = some (.string s) := by rw [hw0]; go_simp
  rw [hw0] at x0 x1
  clear hT hw0 B0 eg
  go_enter Tryz.func8, Tryz.ntmps8
  go_wp2_with fail
  rw [← HW0.out]
  refine HC.out.mono ?_
  rintro e w1 ⟨hg, hb1⟩
  obtain ⟨a, c, rfl, hn⟩ := hg
  have B1 := Lib.hid (HB0.out.trans (hb1.mono HB0.out.size))
  have HN := Lib.hid (new_low hn HB0.out.size)
  clear hn hb1 x0 x1
  go_wp2
  go_ret
  exact ⟨⟨a, c, rfl, HN.out⟩, B1.out⟩
set_option maxHeartbeats 1600000 in
set_option maxRecDepth 100000 in
theorem implPaths (n : Int) (_hn : I64 n) (s : ByteArray) (hs : s.size ≤ 9223372036854775807) (w : World) (hT : Tab w) :
    Calls Tryz.prog 9 #[sg n s] w fun e w' => Got w.heap.size (zl (pathZ n s.data.toList)) e w' ∧ Below w.heap.size w w' := by
  have hmf : ∀ (fn : Fn) (first cap : Array Value) (w : World), (Instr.makeFunc fn first cap).run Tryz.prog w = .ok (.func fn first cap) w := fun _ _ _ _ => rfl
  have eg : ∀ args w, (callFunc 72 args).run Tryz.prog w = .ok (.enter 72 args) w := enters_of Tryz.func72 (by kernel_rfl) rfl
  obtain ⟨w0, hw0⟩ : ∃ w0, w0 = w.alloc (.cells #[.int .i64 n, .string s] 25) := ⟨_, rfl⟩
  have B0 : Below w.heap.size w w0 := by rw [hw0]; exact (Below.refl _ _).alloc (Nat.le_refl _) _
  have HC := Lib.hid (planeSets_any n s hs 72 eg (fun U => trB n U && alD (fun x => decide (x ≤ 2)) n.toNat U) w0 (hT.on B0) (Lib.hid (fun U hu hU W hW => by
    have hW := hT.on (B0.trans (hW.mono B0.size))
    obtain ⟨m, rfl, k3, k7, kE, kU⟩ := in_edges hu hU
    first | exact (path1_any m U k3 k7 kE kU W hW) | (rw [Int.toNat_natCast]; exact (path1_any m U k3 k7 kE kU W hW)))))
  rw [path_both] at HC
  have HW0 := Lib.hid hw0
  have HB0 := Lib.hid B0
  have x0 : w0.cell? ⟨w.heap.size, 0, none⟩ = some (.int .i64 n) := by rw [hw0]; go_simp
  have x1 : w0.cell? ⟨w.heap.size, 1, none⟩ = some (.string s) := by rw [hw0]; go_simp
  rw [hw0] at x0 x1
  clear hT hw0 B0 eg
  go_enter Tryz.func9, Tryz.ntmps9
  go_wp2_with fail
  rw [← HW0.out]
  refine HC.out.mono ?_
  rintro e w1 ⟨hg, hb1⟩
  obtain ⟨a, c, rfl, hn⟩ := hg
  have B1 := Lib.hid (HB0.out.trans (hb1.mono HB0.out.size))
  have HN := Lib.hid (new_low hn HB0.out.size)
  clear hn hb1 x0 x1
  go_wp2
  go_ret
  exact ⟨⟨a, c, rfl, HN.out⟩, B1.out⟩
set_option maxHeartbeats 1600000 in
set_option maxRecDepth 100000 in
theorem implRings (n : Int) (_hn : I64 n) (s : ByteArray) (hs : s.size ≤ 9223372036854775807) (w : World) (hT : Tab w) :
    Calls Tryz.prog 10 #[sg n s] w fun e w' => Got w.heap.size (zl (ringZ n s.data.toList)) e w' ∧ Below w.heap.size w w' := by
  have hmf : ∀ (fn : Fn) (first cap : Array Value) (w : World), (Instr.makeFunc fn first cap).run Tryz.prog w = .ok (.func fn first cap) w := fun _ _ _ _ => rfl
  have eg : ∀ args w, (callFunc 75 args).run Tryz.prog w = .ok (.enter 75 args) w := enters_of Tryz.func75 (by kernel_rfl) rfl
  obtain ⟨w0, hw0⟩ : ∃ w0, w0 = w.alloc (.cells #[.int .i64 n, .string s] 25) := ⟨_, rfl⟩
  have B0 : Below w.heap.size w w0 := by rw [hw0]; exact (Below.refl _ _).alloc (Nat.le_refl _) _
  have HC := Lib.hid (planeSets_any n s hs 75 eg (fun U => alD (fun x => x == 2) n.toNat U && conB n.toNat U) w0 (hT.on B0) (Lib.hid (fun U hu hU W hW => by
    have hW := hT.on (B0.trans (hW.mono B0.size))
    obtain ⟨m, rfl, k3, k7, kE, kU⟩ := in_edges hu hU
    first | exact (ring1_any m U k3 k7 kE W hW) | (rw [Int.toNat_natCast]; exact (ring1_any m U k3 k7 kE W hW)))))
  rw [ring_both] at HC
  have HW0 := Lib.hid hw0
  have HB0 := Lib.hid B0
  have x0 : w0.cell? ⟨w.heap.size, 0, none⟩ = some (.int .i64 n) := by rw [hw0]; go_simp
  have x1 : w0.cell? ⟨w.heap.size, 1, none⟩ = some (.string s) := by rw [hw0]; go_simp
  rw [hw0] at x0 x1
  clear hT hw0 B0 eg
  go_enter Tryz.func10, Tryz.ntmps10
  go_wp2_with fail
  rw [← HW0.out]
  refine HC.out.mono ?_
  rintro e w1 ⟨hg, hb1⟩
  obtain ⟨a, c, rfl, hn⟩ := hg
  have B1 := Lib.hid (HB0.out.trans (hb1.mono HB0.out.size))
  have HN := Lib.hid (new_low hn HB0.out.size)
  clear hn hb1 x0 x1
  go_wp2
  go_ret
  exact ⟨⟨a, c, rfl, HN.out⟩, B1.out⟩
set_option maxHeartbeats 1600000 in
set_option maxRecDepth 100000 in
theorem implPairs (n : Int) (_hn : I64 n) (s : ByteArray) (hs : s.size ≤ 9223372036854775807) (w : World) (hT : Tab w) :
    Calls Tryz.prog 11 #[sg n s] w fun e w' => Got w.heap.size (zl (pairZ n s.data.toList)) e w' ∧ Below w.heap.size w w' := by
  have hmf : ∀ (fn : Fn) (first cap : Array Value) (w : World), (Instr.makeFunc fn first cap).run Tryz.prog w = .ok (.func fn first cap) w := fun _ _ _ _ => rfl
  have eg : ∀ args w, (callFunc 78 args).run Tryz.prog w = .ok (.enter 78 args) w := enters_of Tryz.func78 (by kernel_rfl) rfl
  obtain ⟨w0, hw0⟩ : ∃ w0, w0 = w.alloc (.cells #[.int .i64 n, .string s] 25) := ⟨_, rfl⟩
  have B0 : Below w.heap.size w w0 := by rw [hw0]; exact (Below.refl _ _).alloc (Nat.le_refl _) _
  have HC := Lib.hid (planeSets_any n s hs 78 eg (fun U => alD (fun x => x == 1) n.toNat U) w0 (hT.on B0) (Lib.hid (fun U hu hU W hW => by
    have hW := hT.on (B0.trans (hW.mono B0.size))
    obtain ⟨m, rfl, k3, k7, kE, kU⟩ := in_edges hu hU
    first | exact (pair1_any m U k3 k7 kE W hW) | (rw [Int.toNat_natCast]; exact (pair1_any m U k3 k7 kE W hW)))))
  rw [pair_both] at HC
  have HW0 := Lib.hid hw0
  have HB0 := Lib.hid B0
  have x0 : w0.cell? ⟨w.heap.size, 0, none⟩ = some (.int .i64 n) := by rw [hw0]; go_simp
  have x1 : w0.cell? ⟨w.heap.size, 1, none⟩ = some (.string s) := by rw [hw0]; go_simp
  rw [hw0] at x0 x1
  clear hT hw0 B0 eg
  go_enter Tryz.func11, Tryz.ntmps11
  go_wp2_with fail
  rw [← HW0.out]
  refine HC.out.mono ?_
  rintro e w1 ⟨hg, hb1⟩
  obtain ⟨a, c, rfl, hn⟩ := hg
  have B1 := Lib.hid (HB0.out.trans (hb1.mono HB0.out.size))
  have HN := Lib.hid (new_low hn HB0.out.size)
  clear hn hb1 x0 x1
  go_wp2
  go_ret
  exact ⟨⟨a, c, rfl, HN.out⟩, B1.out⟩
end Go.Proofs.YtinlnafkmoabbaaGreatDoor.Sg
