/- Several texts in one: HuLeft, LeSpec, LeApSpec, LeCutSpec. -/
import Derived.Test.YtflcpgdgoencgaaGreatDoorHuFacts
import Derived.Test.YtflcpgdgoencgaaGreatDoorMgO
import Derived.Test.YtflcpgdgoencgaaGreatDoorMgL
/- LeftCount, as spec answers it of two different elements of order signs. -/
namespace Go.Proofs.YtflcpgdgoencgaaGreatDoor.Sg
open Go.RowKit Pt NewI
theorem cells2_made (w : World) (a b : Int) (t : TypeId) : Cells (w.alloc (.cells #[.int .i64 a, .int .i64 b] t)) w.heap.size 2 (zc [a, b]) := by
  refine ⟨fun j hj => ?_, fun j => by go_simp, by simp⟩
  rcases (by omega : j = 0 ∨ j = 1) with rfl | rfl <;> go_simp <;> rfl
/-- How many of the first k elements are to the left of two. -/
def leftK (F : Int → Int → Int → Int) (i j k : Nat) : Nat := (List.range k).countP fun k => k != i && (k != j && decide (0 < F i j k))
theorem leftK_succ (F : Int → Int → Int → Int) (i j k : Nat) : leftK F i j (k + 1) = leftK F i j k + bit (k != i && (k != j && decide (0 < F i j k))) := by
  unfold leftK
  rw [List.range_succ, List.countP_append, List.countP_singleton]
  cases (k != i && (k != j && decide (0 < F i j k))) <;> rfl
theorem leftK_le (F : Int → Int → Int → Int) (i j k : Nat) : leftK F i j k ≤ k := by
  unfold leftK
  have := List.countP_le_length (p := fun k => k != i && (k != j && decide (0 < F i j k))) (l := List.range k)
  rwa [List.length_range] at this
set_option maxHeartbeats 1600000 in
set_option maxRecDepth 100000 in
theorem l7Left_any (n : Nat) (s : ByteArray) (h : arB n s.data.toList = true) (i j : Nat) (hi : i < n) (hj : j < n) (hij : i ≠ j) (w : World) :
    Calls Tryz.prog 81 #[sg n s, .int .i64 i, .int .i64 j] w fun e w' => e = .returned (.int .i64 (leftN (sgnF (lookS n s.data.toList)) n i j : Nat)) ∧ Below w.heap.size w w' := by
  obtain ⟨_, h7, -, -⟩ := arB_yes h
  have h7 : n ≤ 7 := by omega
  have HS := Lib.hid (box_made w n s 25)
  have HAT := Lib.hid (fun (k : Nat) (hk : k < n) (h1 : k ≠ i) (h2 : k ≠ j) W => l3At_any n s i j k h hi hj hk hij (fun e => h2 e.symm) (fun e => h1 e.symm) W)
  generalize sgnF (lookS n s.data.toList) = F at HAT ⊢
  have HSU := Lib.hid (leftK_succ F i j)
  have HLE := Lib.hid (leftK_le F i j)
  have HB0 : Hid (∀ W, Calls Tryz.prog 57 #[.bool false] W fun e w' => e = .returned (.int .i64 0) ∧ w' = W) := Lib.hid (fun W => l1Bit_any false W)
  have HB1 : Hid (∀ W, Calls Tryz.prog 57 #[.bool true] W fun e w' => e = .returned (.int .i64 1) ∧ w' = W) := Lib.hid (fun W => l1Bit_any true W)
  have HEN : Hid (leftK F i j n = leftN F n i j) := Lib.hid rfl
  clear h
  go_enter Tryz.func81, Tryz.ntmps81
  go_wp2
  go_loopw [7, 8] (fun sv x wr => ∃ k : Nat, k ≤ n ∧ x = .int .i64 k ∧ sv = .int .i64 (leftK F i j k : Nat) ∧ Hid (Box w n s wr)) (fun _ x _ => n - (intOf x).toNat)
  case atStart => exact ⟨0, Nat.zero_le _, rfl, rfl, HS⟩
  case round =>
    obtain ⟨k, hk, rfl, rfl, HB⟩ := hrel
    obtain ⟨c0, c1, B0⟩ := HB.out
    have hle := HLE.out k
    by_cases hlt : k < n
    · have HN := Lib.hid (HSU.out k)
      by_cases e1 : k = i
      · have t1 : ((k : Int) != (i : Int)) = false := by simp; omega
        have HN2 : Hid (leftK F i j (k + 1) = leftK F i j k) := Lib.hid (by rw [HN.out]; simp [e1, bit])
        clear e1
        go_wp2_with fail
        refine (HB0.out _).mono ?_
        rintro e w' ⟨rfl, rfl⟩
        go_wp2
        exact ⟨⟨k + 1, by omega, by go_num, by rw [HN2.out], HB⟩, by simp only [intOf]; omega⟩
      · have t1 : ((k : Int) != (i : Int)) = true := by simp; omega
        by_cases e2 : k = j
        · have t2 : ((k : Int) != (j : Int)) = false := by simp; omega
          have HN2 : Hid (leftK F i j (k + 1) = leftK F i j k) := Lib.hid (by rw [HN.out]; simp [e2, bit])
          clear e1 e2
          go_wp2_with fail
          refine (HB0.out _).mono ?_
          rintro e w' ⟨rfl, rfl⟩
          go_wp2
          exact ⟨⟨k + 1, by omega, by go_num, by rw [HN2.out], HB⟩, by simp only [intOf]; omega⟩
        · have t2 : ((k : Int) != (j : Int)) = true := by simp; omega
          have HC := Lib.hid (HAT.out k hlt e1 e2)
          have ka : (k != i) = true := by simpa using e1
          have kb : (k != j) = true := by simpa using e2
          rw [ka, kb] at HN
          generalize F i j k = v at HC HN
          by_cases hv : 0 < v
          · have HN2 : Hid (leftK F i j (k + 1) = leftK F i j k + 1) := Lib.hid (by rw [HN.out]; simp [hv, bit])
            have tv : decide (0 < v) = true := decide_eq_true hv
            clear e1 e2 ka kb HN
            go_wp2_with fail
            refine (HC.out _).mono ?_
            rintro e w2 ⟨rfl, hb2⟩
            have X2 := Lib.hid (HB.out.on hb2)
            clear hb2 c0 c1
            go_wp2_with fail
            refine (HB1.out _).mono ?_
            rintro e w' ⟨rfl, rfl⟩
            go_wp2
            exact ⟨⟨k + 1, by omega, by go_num, by rw [HN2.out]; go_num, X2⟩, by simp only [intOf]; omega⟩
          · have HN2 : Hid (leftK F i j (k + 1) = leftK F i j k) := Lib.hid (by rw [HN.out]; simp [hv, bit])
            have tv : decide (0 < v) = false := decide_eq_false hv
            clear e1 e2 ka kb HN
            go_wp2_with fail
            refine (HC.out _).mono ?_
            rintro e w2 ⟨rfl, hb2⟩
            have X2 := Lib.hid (HB.out.on hb2)
            clear hb2 c0 c1
            go_wp2_with fail
            refine (HB0.out _).mono ?_
            rintro e w' ⟨rfl, rfl⟩
            go_wp2
            exact ⟨⟨k + 1, by omega, by go_num, by rw [HN2.out], X2⟩, by simp only [intOf]; omega⟩
    · obtain rfl : k = n := by omega
      go_wp2
      go_ret
      exact ⟨ret_int (by rw [HEN.out]), B0⟩
theorem difB2 {n a b : Int} (h0 : 0 ≤ a ∧ a < n) (h1 : 0 ≤ b ∧ b < n) (h2 : a ≠ b) : difB n [a, b] = true := by
  unfold difB
  rw [decide_eq_true_eq]
  intro i hi
  simp only [List.length_cons, List.length_nil] at hi
  rcases (by omega : i = 0 ∨ i = 1) with rfl | rfl
  · exact ⟨h0, fun j hj => by omega⟩
  · refine ⟨h1, fun j hj => ?_⟩
    obtain rfl : j = 0 := by omega
    exact fun e => h2 e.symm
set_option maxHeartbeats 1600000 in
set_option maxRecDepth 100000 in
theorem specLeftCount (n : Nat) (s : ByteArray) (h : aciB n s.data.toList = true) (hs : s.size ≤ 9223372036854775807) (i j : Nat) (hi : i < n) (hj : j < n) (hij : i ≠ j) (w : World) :
    Calls Tryz.prog 40 #[sg n s, .int .i64 i, .int .i64 j] w fun e w' => e = .returned (.int .i64 (leftN (sgnF (lookS n s.data.toList)) n i j : Nat)) ∧ Below w.heap.size w w' := by
  obtain ⟨h3, h7⟩ := aciB_n h
  have HA := Lib.hid (fun W => specAci n s hs W)
  have HS := Lib.hid (box_made w n s 25)
  have HL := Lib.hid (fun W => l7Left_any n s (matB_ar (aciB_mat h)) i j hi hj hij W)
  have HD : Hid (∀ g W, Cells W g 2 (zc [(i : Int), (j : Int)]) → Calls Tryz.prog 83 #[.int .i64 n, .slice (some ⟨g, 0, none⟩) 2 2] W fun e w' => e = .returned (.bool true) ∧ Below W.heap.size W w') := Lib.hid (fun g W hW => by
    have := l5Different_any n (by omega) [(i : Int), (j : Int)] (by simp) g 2 W hW
    rw [difB2 (by omega) (by omega) (by omega)] at this
    exact this)
  generalize leftN (sgnF (lookS n s.data.toList)) n i j = q at HL ⊢
  obtain ⟨x0, x1, -⟩ := HS.out
  rw [h] at HA
  clear h
  go_enter Tryz.func40, Tryz.ntmps40
  go_wp2_with fail
  refine (HA.out _).mono ?_
  rintro e w1 ⟨rfl, hb1⟩
  have X1 := Lib.hid (HS.out.on hb1)
  clear hb1 x0 x1
  obtain ⟨x0, x1, B1⟩ := X1.out
  have G1 := Lib.hid (cells2_made w1 i j 3)
  have X1a := Lib.hid (X1.out.alloc (.cells #[.int .i64 i, .int .i64 j] 3))
  go_wp2_with fail
  refine (HD.out _ _ G1.out).mono ?_
  rintro e w2 ⟨rfl, hb2⟩
  have X2 := Lib.hid (X1a.out.on hb2)
  clear hb2 x0 x1 B1
  obtain ⟨x0, x1, B2⟩ := X2.out
  go_wp2_with fail
  refine (HL.out _).mono ?_
  rintro e w3 ⟨rfl, hb3⟩
  have B3 := Lib.hid (B2.trans (hb3.mono B2.size))
  clear hb3 x0 x1
  go_wp2
  go_ret
  exact ⟨rfl, B3.out⟩
end Go.Proofs.YtflcpgdgoencgaaGreatDoor.Sg
/- What lies left, as spec tells it: l7Bits, LeftCount, CrossingSum. -/
namespace Go.Proofs.YtflcpgdgoencgaaGreatDoor.Sg
open Go.RowKit Pt NewI
theorem pcS_step : ∀ x, x < 128 → pcS x = x % 2 + pcS (x / 2) := by decide +kernel
theorem pcS_le (x : Nat) : pcS x ≤ 7 := by
  rw [pcS_eq]
  exact Nat.le_trans List.countP_le_length (by simp)
set_option maxHeartbeats 400000 in
set_option maxRecDepth 100000 in
theorem l7Bits_any (set : Nat) (hs : set < 128) (w : World) :
    Calls Tryz.prog 84 #[.int .i64 set] w fun e w' => e = .returned (.int .i64 (pcS set : Nat)) ∧ w = w' := by
  have HST := Lib.hid pcS_step
  have HLE := Lib.hid pcS_le
  have H0 : Hid (pcS 0 = 0) := Lib.hid rfl
  obtain ⟨p, hp⟩ : ∃ p : Nat → Nat, p = pcS := ⟨_, rfl⟩
  rw [← hp] at HST HLE H0
  rw [← hp]
  clear hp
  go_enter Tryz.func84, Tryz.ntmps84
  go_wp2
  go_loop [0, 3] (fun x sv => ∃ k t : Nat, x = .int .i64 k ∧ sv = .int .i64 t ∧ k < 128 ∧ t ≤ 7 ∧ Hid (t + p k = p set)) (fun x _ => (intOf x).toNat)
  case atStart => exact ⟨set, 0, rfl, rfl, hs, by omega, Lib.hid (by omega)⟩
  case round =>
    obtain ⟨k, t, rfl, rfl, hk, ht, HT⟩ := hrel
    by_cases hz : k = 0
    · subst hz
      have HR : Hid (t = p set) := Lib.hid (by have := HT.out; have := H0.out; omega)
      go_wp2
      go_ret
      exact ⟨ret_int (by rw [HR.out]), rfl⟩
    · have hb := bits_andH k (by omega)
      have HT2 : Hid (t + k % 2 + p (k / 2) = p set) := Lib.hid (by have := HT.out; have := HST.out k hk; omega)
      have ht2 : t + k % 2 ≤ 7 := by have := HT2.out; have := HLE.out set; omega
      go_wp2
      go_round
      case rel => exact ⟨k / 2, t + k % 2, by go_num, by go_num, by omega, ht2, HT2⟩
      case measure => simp only [intOf]; omega
/-- What LeftCount answers. -/
def leftZ (n : Int) (s : List UInt8) (i j : Int) : Int := if aciB n s = true ∧ difB n [i, j] = true then (leftN (sgnF (lookS n s)) n.toNat i.toNat j.toNat : Nat) else -1
theorem difB2_iff {n a b : Int} : difB n [a, b] = true ↔ (0 ≤ a ∧ a < n) ∧ (0 ≤ b ∧ b < n) ∧ a ≠ b := by
  constructor
  · intro h
    unfold difB at h
    rw [decide_eq_true_eq] at h
    have h0 := h 0 (by simp)
    have h1 := h 1 (by simp)
    have e10 := h1.2 0 (by omega)
    have q0 := h0.1
    have q1 := h1.1
    simp at q0 q1 e10
    exact ⟨q0, q1, fun e => e10 e.symm⟩
  · rintro ⟨h0, h1, h2⟩
    exact difB2 h0 h1 h2
set_option maxHeartbeats 1600000 in
set_option maxRecDepth 100000 in
theorem specLeftCountZ (n : Int) (s : ByteArray) (hs : s.size ≤ 9223372036854775807) (i j : Int) (w : World) :
    Calls Tryz.prog 40 #[sg n s, .int .i64 i, .int .i64 j] w fun e w' => e = .returned (.int .i64 (leftZ n s.data.toList i j)) ∧ Below w.heap.size w w' := by
  cases h : aciB n s.data.toList
  · have HE : Hid (leftZ n s.data.toList i j = -1) := Lib.hid (by unfold leftZ; rw [h]; simp)
    have HA := Lib.hid (fun W => specAci n s hs W)
    have HS := Lib.hid (box_made w n s 25)
    obtain ⟨x0, x1, -⟩ := HS.out
    rw [h] at HA
    clear h
    go_enter Tryz.func40, Tryz.ntmps40
    go_wp2_with fail
    refine (HA.out _).mono ?_
    rintro e w1 ⟨rfl, hb1⟩
    have B1 := Lib.hid (HS.out.on hb1).2.2
    clear hb1 x0 x1
    go_wp2
    go_ret
    exact ⟨ret_int HE.out.symm, B1.out⟩
  · obtain ⟨h3, h7⟩ := aciB_n h
    obtain ⟨n, rfl⟩ : ∃ m : Nat, n = m := ⟨n.toNat, by omega⟩
    cases hdf : difB n [i, j]
    · have HE : Hid (leftZ n s.data.toList i j = -1) := Lib.hid (by unfold leftZ; rw [hdf]; simp)
      have HA := Lib.hid (fun W => specAci n s hs W)
      have HS := Lib.hid (box_made w n s 25)
      have HD : Hid (∀ g W, Cells W g 2 (zc [i, j]) → Calls Tryz.prog 83 #[.int .i64 n, .slice (some ⟨g, 0, none⟩) 2 2] W fun e w' => e = .returned (.bool false) ∧ Below W.heap.size W w') := Lib.hid (fun g W hW => by
        have := l5Different_any n (by omega) [i, j] (by simp) g 2 W hW
        rw [hdf] at this
        exact this)
      obtain ⟨x0, x1, -⟩ := HS.out
      rw [h] at HA
      clear h hdf
      go_enter Tryz.func40, Tryz.ntmps40
      go_wp2_with fail
      refine (HA.out _).mono ?_
      rintro e w1 ⟨rfl, hb1⟩
      have X1 := Lib.hid (HS.out.on hb1)
      clear hb1 x0 x1
      obtain ⟨x0, x1, B1⟩ := X1.out
      have G1 := Lib.hid (cells2_made w1 i j 3)
      have X1a := Lib.hid (X1.out.alloc (.cells #[.int .i64 i, .int .i64 j] 3))
      go_wp2_with fail
      refine (HD.out _ _ G1.out).mono ?_
      rintro e w2 ⟨rfl, hb2⟩
      have X2 := Lib.hid (X1a.out.on hb2)
      clear hb2 x0 x1 B1
      obtain ⟨x0, x1, B2⟩ := X2.out
      go_wp2
      go_ret
      exact ⟨ret_int HE.out.symm, B2⟩
    · obtain ⟨⟨i0, i1⟩, ⟨j0, j1⟩, hij⟩ := difB2_iff.1 hdf
      obtain ⟨i, rfl⟩ : ∃ m : Nat, i = m := ⟨i.toNat, by omega⟩
      obtain ⟨j, rfl⟩ : ∃ m : Nat, j = m := ⟨j.toNat, by omega⟩
      have HE : leftZ n s.data.toList i j = (leftN (sgnF (lookS n s.data.toList)) n i j : Nat) := by unfold leftZ; rw [h, hdf]; simp
      rw [HE]
      exact specLeftCount n s h hs i j (by omega) (by omega) (by omega) w
end Go.Proofs.YtflcpgdgoencgaaGreatDoor.Sg
/- What lies left, as spec tells it: l7Apart. -/
namespace Go.Proofs.YtflcpgdgoencgaaGreatDoor.Sg
open Go.RowKit Pt NewI
/-- Tuples ahead of one. -/
def Ahead (a b c d a' b' c' d' : Nat) : Prop := a' < a ∨ a' = a ∧ (b' < b ∨ b' = b ∧ (c' < c ∨ c' = c ∧ d' < d))
def NoQ7 (F : Int → Int → Int → Int) (n S a b c d : Nat) : Prop := ∀ a' b' c' d', a' < b' → b' < n → c' < d' → d' < n → Ahead a b c d a' b' c' d' → apQ F S a' b' c' d' = false
theorem noQ7_zero (F : Int → Int → Int → Int) (n S : Nat) : NoQ7 F n S 0 (0 + 1) 0 (0 + 1) := fun a' b' c' d' h1 h2 h3 h4 ha => by
  unfold Ahead at ha; omega
theorem noQ7_step {F : Int → Int → Int → Int} {n S a b c d : Nat} (h : NoQ7 F n S a b c d) (hq : apQ F S a b c d = false) : NoQ7 F n S a b c (d + 1) := fun a' b' c' d' h1 h2 h3 h4 ha => by
  by_cases e : a' = a ∧ b' = b ∧ c' = c ∧ d' = d
  · obtain ⟨rfl, rfl, rfl, rfl⟩ := e; exact hq
  · exact h a' b' c' d' h1 h2 h3 h4 (by unfold Ahead at ha ⊢; omega)
theorem noQ7_c {F : Int → Int → Int → Int} {n S a b c : Nat} (h : NoQ7 F n S a b c n) : NoQ7 F n S a b (c + 1) (c + 1 + 1) := fun a' b' c' d' h1 h2 h3 h4 ha => h a' b' c' d' h1 h2 h3 h4 (by unfold Ahead at ha ⊢; omega)
theorem noQ7_b {F : Int → Int → Int → Int} {n S a b d : Nat} (h : NoQ7 F n S a b n d) : NoQ7 F n S a (b + 1) 0 (0 + 1) := fun a' b' c' d' h1 h2 h3 h4 ha => h a' b' c' d' h1 h2 h3 h4 (by unfold Ahead at ha ⊢; omega)
theorem noQ7_a {F : Int → Int → Int → Int} {n S a c d : Nat} (h : NoQ7 F n S a n c d) : NoQ7 F n S (a + 1) (a + 1 + 1) 0 (0 + 1) := fun a' b' c' d' h1 h2 h3 h4 ha => h a' b' c' d' h1 h2 h3 h4 (by unfold Ahead at ha ⊢; omega)
theorem noQ7_end {F : Int → Int → Int → Int} {n S b c d : Nat} (h : NoQ7 F n S n b c d) : ∀ a b c d, a < b → b < n → c < d → d < n → apQ F S a b c d = false := fun a' b' c' d' h1 h2 h3 h4 => h a' b' c' d' h1 h2 h3 h4 (by unfold Ahead; omega)
set_option maxHeartbeats 6400000 in
set_option maxRecDepth 100000 in
theorem l7Apart_any (n : Nat) (s : ByteArray) (h : aciB n s.data.toList = true) (set : Nat) (hset : set < 2 ^ n) (w : World) :
    Calls Tryz.prog 85 #[sg n s, .int .i64 set] w fun e w' => e = .returned (.bool (acS n s.data.toList set)) ∧ Below w.heap.size w w' := by
  obtain ⟨h3, h7⟩ := aciB_n h
  have h7 : n ≤ 7 := by omega
  have har := matB_ar (aciB_mat h)
  obtain ⟨M, hM⟩ := allS_of (m := n) (by omega) (by omega)
  obtain ⟨⟨hM8, hMl⟩, v2, hMe, hMc⟩ := hM
  have hpw := Nat.pow_pos (n := n) (show 0 < 2 by omega)
  have hsM : set ≤ M - 1 := by omega
  have v3 : IntKind.i64.wrap ((M : Int) - 1) = ((M - 1 : Nat) : Int) := by rw [hMc]; exact IntWalk.i64_in _ (by omega)
  have v4 : IntKind.i64.wrap (((M - 1 : Nat) : Int) - (set : Int)) = ((M - 1 - set : Nat) : Int) := by rw [show ((M - 1 : Nat) : Int) - (set : Int) = ((M - 1 - set : Nat) : Int) by omega]; exact IntWalk.i64_in _ (by omega)
  have HS := Lib.hid (box_made w n s 25)
  have HI1 : Hid (∀ p, p < n → ∀ W, Calls Tryz.prog 109 #[sg n s, .int .i64 (M - 1 - set : Nat), .int .i64 p] W fun e w' => e = .returned (.bool (inT (sgnF (lookS n s.data.toList)) n (2 ^ n - 1 - set) p)) ∧ Below W.heap.size W w') := Lib.hid (fun p hp W => by
    rw [hMe]; exact l6In_any n s h (M - 1 - set) p (by omega) hp W)
  have HI2 : Hid (∀ p, p < n → ∀ W, Calls Tryz.prog 109 #[sg n s, .int .i64 set, .int .i64 p] W fun e w' => e = .returned (.bool (inT (sgnF (lookS n s.data.toList)) n set p)) ∧ Below W.heap.size W w') := Lib.hid (fun p hp W => l6In_any n s h set p (by omega) hp W)
  have HH1 : Hid (∀ k : Nat, k < 64 → ∀ W, Calls Tryz.prog 108 #[.int .i64 set, .int .i64 k] W fun e w' => e = .returned (.bool (set.testBit k)) ∧ W = w') := Lib.hid (fun k hk W => l6Has_any set k (by omega) hk W)
  have HH2 : Hid (∀ p, p < n → ∀ W, Calls Tryz.prog 108 #[.int .i64 (M - 1 - set : Nat), .int .i64 p] W fun e w' => e = .returned (.bool (!set.testBit p)) ∧ W = w') := Lib.hid (fun p hp W => by
    have := l6Has_any (M - 1 - set) p (by omega) (by omega) W
    rw [← hMe, rest_bit hset, decide_eq_true hp, Bool.true_and, hMe] at this
    exact this)
  have HSP : Hid (∀ a b c d : Nat, a < n → b < n → c < n → d < n → a ≠ b → a ≠ c → a ≠ d → b ≠ c → b ≠ d → c ≠ d → ∀ g W, Cells W g 4 (zc [(a : Int), (b : Int), (c : Int), (d : Int)]) → Calls Tryz.prog 121 #[sg n s, .slice (some ⟨g, 0, none⟩) 4 4] W fun e w' => e = .returned (.tuple #[.int .i64 (sets4 (cir (sgnF (lookS n s.data.toList)) a b c d) a b c d).1, .int .i64 (sets4 (cir (sgnF (lookS n s.data.toList)) a b c d) a b c d).2]) ∧ Below W.heap.size W w') := Lib.hid (fun a b c d ha hb hc hd d1 d2 d3 d4 d5 d6 g W hW => l5Split_any n s a b c d har ha hb hc hd d1 d2 d3 d4 d5 d6 g 4 W hW)
  have HP : Hid (∀ p, p < n → apP (sgnF (lookS n s.data.toList)) n set p = ((set.testBit p && inT (sgnF (lookS n s.data.toList)) n (2 ^ n - 1 - set) p) || (!set.testBit p && inT (sgnF (lookS n s.data.toList)) n set p))) := Lib.hid (fun p hp => by
    unfold apP; rw [rest_bit hset, decide_eq_true hp, Bool.true_and])
  have HBP : Hid (∀ p, p < n → apP (sgnF (lookS n s.data.toList)) n set p = true → acS n s.data.toList set = false) := Lib.hid (fun p hp e => (bad_iff h hset).1 (.inl ⟨p, hp, e⟩))
  have HBQ : Hid (∀ a b c d, a < b → b < n → c < d → d < n → apQ (sgnF (lookS n s.data.toList)) set a b c d = true → acS n s.data.toList set = false) := Lib.hid (fun a b c d h1 h2 h3 h4 e => (bad_iff h hset).1 (.inr ⟨a, b, c, d, h1, h2, h3, h4, e⟩))
  have HALL : Hid ((∀ p, p < n → apP (sgnF (lookS n s.data.toList)) n set p = false) → (∀ a b c d, a < b → b < n → c < d → d < n → apQ (sgnF (lookS n s.data.toList)) set a b c d = false) → acS n s.data.toList set = true) := Lib.hid (fun hp hq => by
    cases e : acS n s.data.toList set
    · rcases (bad_iff h hset).2 e with ⟨p, k1, k2⟩ | ⟨a, b, c, d, k1, k2, k3, k4, k5⟩
      · rw [hp p k1] at k2; cases k2
      · rw [hq a b c d k1 k2 k3 k4] at k5; cases k5
    · rfl)
  have hpl := pow_le7 h7
  have hs10 : set < 1024 := by omega
  generalize acS n s.data.toList set = r at HBP HBQ HALL ⊢
  generalize sgnF (lookS n s.data.toList) = F at HI1 HI2 HSP HP HBP HBQ HALL
  generalize 2 ^ n - 1 - set = rest at HI1 HP
  have HQZ := Lib.hid (noQ7_zero F n set)
  clear h har hset hpw hMe hMc hpl
  go_enter Tryz.func85, Tryz.ntmps85
  go_wp2
  go_loopw [6] (fun x wr => ∃ p : Nat, p ≤ n ∧ x = .int .i64 p ∧ Hid (∀ q, q < p → apP F n set q = false) ∧ Hid (Box w n s wr)) (fun x _ => n - (intOf x).toNat)
  case atStart => exact ⟨0, Nat.zero_le _, rfl, Lib.hid (fun q hq => by omega), HS⟩
  case round =>
    obtain ⟨p, hpn, rfl, HNP, HB⟩ := hrel
    obtain ⟨c0, c1, B0⟩ := HB.out
    by_cases hlt : p < n
    · have HC1 := Lib.hid (HH1.out p (by omega))
      have HC2 := Lib.hid (HH2.out p hlt)
      have HJ1 := Lib.hid (HI1.out p hlt)
      have HJ2 := Lib.hid (HI2.out p hlt)
      have HPP := Lib.hid (HP.out p hlt)
      have HYES := Lib.hid (fun e => HBP.out p hlt e)
      have HNO : Hid (apP F n set p = false → ∀ q, q < p + 1 → apP F n set q = false) := Lib.hid (fun e q hq => by
        by_cases hqp : q = p
        · subst hqp; exact e
        · exact HNP.out q (by omega))
      cases hb : set.testBit p
      · rw [hb] at HC1 HC2 HPP
        simp only [Bool.not_false, Bool.false_and, Bool.true_and, Bool.false_or] at HC2 HPP
        clear hb HJ1
        cases hi : inT F n set p
        · rw [hi] at HJ2 HPP
          have HN2 := Lib.hid (HNO.out HPP.out)
          clear hi
          go_wp2_with fail
          refine (HC1.out _).mono ?_
          rintro e w' ⟨rfl, rfl⟩
          go_wp2_with fail
          refine (HC2.out _).mono ?_
          rintro e w' ⟨rfl, rfl⟩
          go_wp2_with fail
          refine (HJ2.out _).mono ?_
          rintro e w2 ⟨rfl, hb2⟩
          have X2 := Lib.hid (HB.out.on hb2)
          clear hb2 c0 c1
          go_wp2
          exact ⟨⟨p + 1, by omega, by go_num, HN2, X2⟩, by simp only [intOf]; omega⟩
        · rw [hi] at HJ2 HPP
          have HR := Lib.hid (HYES.out HPP.out)
          clear hi
          go_wp2_with fail
          refine (HC1.out _).mono ?_
          rintro e w' ⟨rfl, rfl⟩
          go_wp2_with fail
          refine (HC2.out _).mono ?_
          rintro e w' ⟨rfl, rfl⟩
          go_wp2_with fail
          refine (HJ2.out _).mono ?_
          rintro e w2 ⟨rfl, hb2⟩
          have B2 := Lib.hid (HB.out.on hb2).2.2
          clear hb2 c0 c1
          go_wp2
          go_ret
          exact ⟨ret_bool HR.out.symm, B2.out⟩
      · rw [hb] at HC1 HC2 HPP
        simp only [Bool.not_true, Bool.true_and, Bool.false_and, Bool.or_false] at HC2 HPP
        clear hb HJ2
        cases hi : inT F n rest p
        · rw [hi] at HJ1 HPP
          have HN2 := Lib.hid (HNO.out HPP.out)
          clear hi
          go_wp2_with fail
          refine (HC1.out _).mono ?_
          rintro e w' ⟨rfl, rfl⟩
          go_wp2_with fail
          refine (HJ1.out _).mono ?_
          rintro e w2 ⟨rfl, hb2⟩
          have X2 := Lib.hid (HB.out.on hb2)
          clear hb2 c0 c1
          go_wp2_with fail
          refine (HC2.out _).mono ?_
          rintro e w' ⟨rfl, rfl⟩
          go_wp2
          exact ⟨⟨p + 1, by omega, by go_num, HN2, X2⟩, by simp only [intOf]; omega⟩
        · rw [hi] at HJ1 HPP
          have HR := Lib.hid (HYES.out HPP.out)
          clear hi
          go_wp2_with fail
          refine (HC1.out _).mono ?_
          rintro e w' ⟨rfl, rfl⟩
          go_wp2_with fail
          refine (HJ1.out _).mono ?_
          rintro e w2 ⟨rfl, hb2⟩
          have B2 := Lib.hid (HB.out.on hb2).2.2
          clear hb2 c0 c1
          go_wp2
          go_ret
          exact ⟨ret_bool HR.out.symm, B2.out⟩
    · obtain rfl : p = n := by omega
      have HNP2 := Lib.hid HNP.out
      clear HI1 HI2 HH2 HP HBP
      go_wp2
      go_loopw [7] (fun x wr => ∃ a : Nat, a ≤ p ∧ x = .int .i64 a ∧ Hid (NoQ7 F p set a (a + 1) 0 (0 + 1)) ∧ Hid (Box w p s wr)) (fun x _ => p - (intOf x).toNat)
      case atStart => exact ⟨0, Nat.zero_le _, rfl, HQZ, HB⟩
      case round =>
        obtain ⟨a, han, rfl, HU, HB⟩ := hrel
        obtain ⟨c0, c1, B0⟩ := HB.out
        by_cases hlt : a < p
        · go_wp2
          go_loopw [8] (fun x wr => ∃ b : Nat, a < b ∧ b ≤ p ∧ x = .int .i64 b ∧ Hid (NoQ7 F p set a b 0 (0 + 1)) ∧ Hid (Box w p s wr)) (fun x _ => p - (intOf x).toNat)
          case atStart => exact ⟨a + 1, by omega, by omega, by go_num, HU, HB⟩
          case round =>
            obtain ⟨b, hab, hbn, rfl, HU, HB⟩ := hrel
            obtain ⟨c0, c1, B0⟩ := HB.out
            by_cases hlt2 : b < p
            · go_wp2
              go_loopw [9] (fun x wr => ∃ c : Nat, c ≤ p ∧ x = .int .i64 c ∧ Hid (NoQ7 F p set a b c (c + 1)) ∧ Hid (Box w p s wr)) (fun x _ => p - (intOf x).toNat)
              case atStart => exact ⟨0, Nat.zero_le _, rfl, HU, HB⟩
              case round =>
                obtain ⟨c, hcn, rfl, HU, HB⟩ := hrel
                obtain ⟨c0, c1, B0⟩ := HB.out
                by_cases hlt3 : c < p
                · go_wp2
                  go_loopw [10] (fun x wr => ∃ d : Nat, c < d ∧ d ≤ p ∧ x = .int .i64 d ∧ Hid (NoQ7 F p set a b c d) ∧ Hid (Box w p s wr)) (fun x _ => p - (intOf x).toNat)
                  case atStart => exact ⟨c + 1, by omega, by omega, by go_num, HU, HB⟩
                  case round =>
                    obtain ⟨d, hcd, hdn, rfl, HU, HB⟩ := hrel
                    obtain ⟨c0, c1, B0⟩ := HB.out
                    by_cases hlt4 : d < p
                    · have HA := Lib.hid (HH1.out a (by omega))
                      have HBT := Lib.hid (HH1.out b (by omega))
                      have HCT := Lib.hid (HH1.out c (by omega))
                      have HDT := Lib.hid (HH1.out d (by omega))
                      have HNO : Hid (apQ F set a b c d = false → NoQ7 F p set a b c (d + 1)) := Lib.hid (fun e => noQ7_step HU.out e)
                      have HYES : Hid (apQ F set a b c d = true → r = false) := Lib.hid (fun e => HBQ.out a b c d hab hlt2 hcd hlt4 e)
                      cases ta : set.testBit a
                      · have HU2 := Lib.hid (HNO.out (by unfold apQ; rw [ta]; rfl))
                        rw [ta] at HA
                        clear ta
                        go_wp2_with fail
                        refine (HA.out _).mono ?_
                        rintro e w' ⟨rfl, rfl⟩
                        go_wp2
                        exact ⟨⟨d + 1, by omega, by omega, by go_num, HU2, HB⟩, by simp only [intOf]; omega⟩
                      · rw [ta] at HA
                        cases tb : set.testBit b
                        · have HU2 := Lib.hid (HNO.out (by unfold apQ; rw [tb]; simp))
                          rw [tb] at HBT
                          clear ta tb
                          go_wp2_with fail
                          refine (HA.out _).mono ?_
                          rintro e w' ⟨rfl, rfl⟩
                          go_wp2_with fail
                          refine (HBT.out _).mono ?_
                          rintro e w' ⟨rfl, rfl⟩
                          go_wp2
                          exact ⟨⟨d + 1, by omega, by omega, by go_num, HU2, HB⟩, by simp only [intOf]; omega⟩
                        · rw [tb] at HBT
                          cases tc : set.testBit c
                          · rw [tc] at HCT
                            cases td : set.testBit d
                            · rw [td] at HDT
                              have hne : a ≠ c ∧ a ≠ d ∧ b ≠ c ∧ b ≠ d := ⟨fun e => (by rw [e, tc] at ta; cases ta), fun e => (by rw [e, td] at ta; cases ta), fun e => (by rw [e, tc] at tb; cases tb), fun e => (by rw [e, td] at tb; cases tb)⟩
                              have HCALL := Lib.hid (HSP.out a b c d hlt hlt2 hlt3 hlt4 (by omega) hne.1 hne.2.1 hne.2.2.1 hne.2.2.2 (by omega))
                              have hap : apQ F set a b c d = ((sets4 (cir F a b c d) a b c d).1 == ((2 ^ a + 2 ^ b : Nat) : Int)) := by unfold apQ; rw [ta, tb, tc, td]; rfl
                              rw [hap] at HNO HYES
                              have pa := pow_le7 (show a ≤ 7 by omega)
                              have pb := pow_le7 (show b ≤ 7 by omega)
                              have ca : ((2 ^ a : Nat) : Int) = (2 : Int) ^ a := by push_cast; rfl
                              have cb : ((2 ^ b : Nat) : Int) = (2 : Int) ^ b := by push_cast; rfl
                              generalize 2 ^ a = A at HNO HYES pa ca
                              generalize 2 ^ b = C at HNO HYES pb cb
                              have va : IntKind.i64.wrap ((2 : Int) ^ a) = (A : Int) := by rw [← ca]; exact IntWalk.i64_in _ (by omega)
                              have vb : IntKind.i64.wrap ((2 : Int) ^ b) = (C : Int) := by rw [← cb]; exact IntWalk.i64_in _ (by omega)
                              have vc : IntKind.i64.wrap ((A : Int) + (C : Int)) = ((A + C : Nat) : Int) := by rw [show (A : Int) + (C : Int) = ((A + C : Nat) : Int) by push_cast; rfl]; exact IntWalk.i64_in _ (by omega)
                              generalize (sets4 (cir F a b c d) a b c d).1 = y at HCALL HNO HYES
                              generalize (sets4 (cir F a b c d) a b c d).2 = y2 at HCALL
                              clear ta tb tc td hap ca cb hne
                              have G1 := Lib.hid (cells4_made wr a b c d 3)
                              have X1 := Lib.hid (HB.out.alloc (.cells #[.int .i64 a, .int .i64 b, .int .i64 c, .int .i64 d] 3))
                              cases hq : (y == ((A + C : Nat) : Int))
                              · have HU2 := Lib.hid (HNO.out hq)
                                go_wp2_with fail
                                refine (HA.out _).mono ?_
                                rintro e w' ⟨rfl, rfl⟩
                                go_wp2_with fail
                                refine (HBT.out _).mono ?_
                                rintro e w' ⟨rfl, rfl⟩
                                go_wp2_with fail
                                refine (HCT.out _).mono ?_
                                rintro e w' ⟨rfl, rfl⟩
                                go_wp2_with fail
                                refine (HDT.out _).mono ?_
                                rintro e w' ⟨rfl, rfl⟩
                                go_wp2_with fail
                                refine (HCALL.out _ _ G1.out).mono ?_
                                rintro e w2 ⟨rfl, hb2⟩
                                have X2 := Lib.hid (X1.out.on hb2)
                                clear hb2
                                go_wp2
                                exact ⟨⟨d + 1, by omega, by omega, by go_num, HU2, X2⟩, by simp only [intOf]; omega⟩
                              · have HE := Lib.hid (HYES.out hq)
                                go_wp2_with fail
                                refine (HA.out _).mono ?_
                                rintro e w' ⟨rfl, rfl⟩
                                go_wp2_with fail
                                refine (HBT.out _).mono ?_
                                rintro e w' ⟨rfl, rfl⟩
                                go_wp2_with fail
                                refine (HCT.out _).mono ?_
                                rintro e w' ⟨rfl, rfl⟩
                                go_wp2_with fail
                                refine (HDT.out _).mono ?_
                                rintro e w' ⟨rfl, rfl⟩
                                go_wp2_with fail
                                refine (HCALL.out _ _ G1.out).mono ?_
                                rintro e w2 ⟨rfl, hb2⟩
                                have B2 := Lib.hid (X1.out.on hb2).2.2
                                clear hb2
                                go_wp2
                                go_ret
                                exact ⟨ret_bool HE.out.symm, B2.out⟩
                            · have HU2 := Lib.hid (HNO.out (by unfold apQ; rw [td]; simp))
                              rw [td] at HDT
                              clear ta tb tc td
                              go_wp2_with fail
                              refine (HA.out _).mono ?_
                              rintro e w' ⟨rfl, rfl⟩
                              go_wp2_with fail
                              refine (HBT.out _).mono ?_
                              rintro e w' ⟨rfl, rfl⟩
                              go_wp2_with fail
                              refine (HCT.out _).mono ?_
                              rintro e w' ⟨rfl, rfl⟩
                              go_wp2_with fail
                              refine (HDT.out _).mono ?_
                              rintro e w' ⟨rfl, rfl⟩
                              go_wp2
                              exact ⟨⟨d + 1, by omega, by omega, by go_num, HU2, HB⟩, by simp only [intOf]; omega⟩
                          · have HU2 := Lib.hid (HNO.out (by unfold apQ; rw [tc]; simp))
                            rw [tc] at HCT
                            clear ta tb tc
                            go_wp2_with fail
                            refine (HA.out _).mono ?_
                            rintro e w' ⟨rfl, rfl⟩
                            go_wp2_with fail
                            refine (HBT.out _).mono ?_
                            rintro e w' ⟨rfl, rfl⟩
                            go_wp2_with fail
                            refine (HCT.out _).mono ?_
                            rintro e w' ⟨rfl, rfl⟩
                            go_wp2
                            exact ⟨⟨d + 1, by omega, by omega, by go_num, HU2, HB⟩, by simp only [intOf]; omega⟩
                    · obtain rfl : d = p := by omega
                      go_wp2
                      exact ⟨⟨c + 1, by omega, by go_num, Lib.hid (noQ7_c HU.out), HB⟩, by simp only [intOf]; omega⟩
                · obtain rfl : c = p := by omega
                  go_wp2
                  exact ⟨⟨b + 1, by omega, by omega, by go_num, Lib.hid (noQ7_b HU.out), HB⟩, by simp only [intOf]; omega⟩
            · obtain rfl : b = p := by omega
              go_wp2
              exact ⟨⟨a + 1, by omega, by go_num, Lib.hid (noQ7_a HU.out), HB⟩, by simp only [intOf]; omega⟩
        · obtain rfl : a = p := by omega
          have HE := Lib.hid (HALL.out HNP2.out (noQ7_end HU.out))
          go_wp2
          go_ret
          exact ⟨ret_bool HE.out.symm, B0⟩
end Go.Proofs.YtflcpgdgoencgaaGreatDoor.Sg
/- What lies left, as spec tells it: CutSets. -/
namespace Go.Proofs.YtflcpgdgoencgaaGreatDoor.Sg
open Go.RowKit Pt NewI
/-- A set of k elements that can be cut off. -/
def cutQ (n : Nat) (s : List UInt8) (k : Int) (S : Nat) : Bool := (((pcS S : Nat) : Int) == k) && acS n s S
/-- What CutSets answers. -/
def cutZ (n : Int) (s : List UInt8) (k : Int) : List Int := if aciB n s = true ∧ inB k 0 n = true then setsTo (cutQ n.toNat s k) (2 ^ n.toNat) else []
theorem new_low {w : World} {lo lo' hi n : Nat} {a : Option Addr} {f : Nat → Value} (h : New w lo hi a n f) (hl : lo' ≤ lo) : New w lo' hi a n f := by
  rcases h with h | ⟨b, h1, h2, h3, h4⟩
  · exact .inl h
  · exact .inr ⟨b, h1, Nat.le_trans hl h2, h3, h4⟩
set_option maxHeartbeats 3200000 in
set_option maxRecDepth 100000 in
theorem specCutSets (n : Int) (s : ByteArray) (k : Int) (hs : s.size ≤ 9223372036854775807) (w : World) :
    Calls Tryz.prog 43 #[sg n s, .int .i64 k] w fun e w' => Got w.heap.size (cutZ n s.data.toList k) e w' ∧ Below w.heap.size w w' := by
  have HA := Lib.hid (fun W => specAci n s hs W)
  have HS := Lib.hid ((box_made w n s 25).alloc (.cells #[] 3))
  have hsz : (w.alloc (.cells #[.int .i64 n, .string s] 25)).heap.size = w.heap.size + 1 := by simp
  obtain ⟨x0, x1, -⟩ := HS.out
  cases h : aciB n s.data.toList
  · have HE : Hid (cutZ n s.data.toList k = []) := Lib.hid (by unfold cutZ; rw [h]; simp)
    rw [h] at HA
    clear h
    go_enter Tryz.func43, Tryz.ntmps43
    go_wp2_with fail
    refine (HA.out _).mono ?_
    rintro e w1 ⟨rfl, hb1⟩
    have B1 := Lib.hid (HS.out.on hb1).2.2
    clear hb1 x0 x1
    go_wp2
    go_ret
    exact ⟨by rw [HE.out]; exact ⟨_, _, rfl, .inl rfl⟩, B1.out⟩
  · obtain ⟨h3, h7⟩ := aciB_n h
    obtain ⟨m, rfl⟩ : ∃ m : Nat, n = m := ⟨n.toNat, by omega⟩
    have h7 : m ≤ 7 := by omega
    have HL := Lib.hid (fun W => l1In_any k 0 (m : Int) W)
    cases hin : inB k 0 (m : Int)
    · have HE : Hid (cutZ m s.data.toList k = []) := Lib.hid (by unfold cutZ; rw [hin]; simp)
      rw [h] at HA
      rw [hin] at HL
      clear h hin
      go_enter Tryz.func43, Tryz.ntmps43
      go_wp2_with fail
      refine (HA.out _).mono ?_
      rintro e w1 ⟨rfl, hb1⟩
      have X1 := Lib.hid (HS.out.on hb1)
      clear hb1 x0 x1
      obtain ⟨x0, x1, B1⟩ := X1.out
      go_wp2_with fail
      refine (HL.out _).mono ?_
      rintro e w' ⟨rfl, rfl⟩
      go_wp2
      go_ret
      exact ⟨by rw [HE.out]; exact ⟨_, _, rfl, .inl rfl⟩, B1⟩
    · obtain ⟨M, hM⟩ := allS_of (m := m) (by omega) (by omega)
      obtain ⟨⟨hM8, hMl⟩, v2, hMe, -⟩ := hM
      have hpw := Nat.pow_pos (n := m) (show 0 < 2 by omega)
      have hMM : 2 ^ m = M := by omega
      have HE : cutZ m s.data.toList k = setsTo (cutQ m s.data.toList k) M := by unfold cutZ; rw [h, hin, Int.toNat_natCast, hMM]; simp
      rw [HE]
      have HBI := Lib.hid (fun (S : Nat) (hS : S < M) W => l7Bits_any S (by omega) W)
      have HAP := Lib.hid (fun (S : Nat) (hS : S < M) W => l7Apart_any m s h S (by omega) W)
      have HQ : Hid (∀ S, cutQ m s.data.toList k S = ((((pcS S : Nat) : Int) == k) && acS m s.data.toList S)) := Lib.hid (fun S => rfl)
      obtain ⟨i0, hi, hz0, hz1, hz2⟩ := info_parts infoI
      rw [h] at HA
      rw [hin] at HL
      generalize cutQ m s.data.toList k = q at HQ ⊢
      generalize acS m s.data.toList = ac at HAP HQ
      generalize pcS = pc at HBI HQ
      have HSL := Lib.hid (setsTo_length q)
      have HH := Lib.hid (fun p => setsTo_hit (q := q) (p := p))
      have HMI := Lib.hid (fun p => setsTo_miss (q := q) (p := p))
      have HO0 : Hid (OwnsZ ((w.alloc (.cells #[.int .i64 m, .string s] 25)).alloc (.cells #[] 3)) (w.heap.size + 1) (.slice (some ⟨w.heap.size + 1, 0, none⟩) 0 0) (setsTo q 0)) := Lib.hid (by
        have := World.ownsRow_made (base := w.heap.size + 1) (e := 3) (size := 1) (w.alloc (.cells #[.int .i64 m, .string s] 25)) #[] 0 (by rw [hsz]; exact Nat.le_refl _) (by decide) rfl
        rw [hsz] at this
        exact this)
      clear h hin HE hMe hMM hpw
      go_enter Tryz.func43, Tryz.ntmps43
      go_wp2_with fail
      refine (HA.out _).mono ?_
      rintro e w1 ⟨rfl, hb1⟩
      have X1 := Lib.hid (HS.out.on hb1)
      have HO1 : Hid (OwnsZ w1 (w.heap.size + 1) (.slice (some ⟨w.heap.size + 1, 0, none⟩) 0 0) (setsTo q 0)) := Lib.hid (ownsZ_on HO0.out hb1)
      clear hb1 x0 x1 HO0
      obtain ⟨x0, x1, -⟩ := X1.out
      go_wp2_with fail
      refine (HL.out _).mono ?_
      rintro e w' ⟨rfl, rfl⟩
      go_wp2
      go_loopw [5, 6] (fun vv c wr => ∃ p : Nat, p ≤ M ∧ c = .int .i64 p ∧ Hid (OwnsZ wr (w.heap.size + 1) vv (setsTo q p)) ∧ Hid (Box w m s wr)) (fun _ c _ => M - (intOf c).toNat)
      case atStart => exact ⟨0, Nat.zero_le _, rfl, HO1, X1⟩
      case round =>
        obtain ⟨p, hp, rfl, HO, HB⟩ := hrel
        obtain ⟨c0, c1, B0⟩ := HB.out
        have hw0 : w.heap.size < wr.heap.size := Kit.cell_lt c0
        by_cases hlt : p < M
        · have hpl := HSL.out p
          have HC := Lib.hid (HBI.out p hlt)
          have HD := Lib.hid (HAP.out p hlt)
          have HQP := Lib.hid (HQ.out p)
          have HHP := Lib.hid (HH.out p)
          have HMP := Lib.hid (HMI.out p)
          generalize pc p = t at HC HQP
          generalize ac p = r at HD HQP
          generalize setsTo q p = xs at HO hpl HHP HMP
          cases ht : (((t : Nat) : Int) == k)
          · have HE := Lib.hid (HMP.out (by rw [HQP.out, ht]; rfl))
            have HO5 := HO
            rw [← HE.out] at HO5
            go_wp2_with fail
            refine (HC.out _).mono ?_
            rintro e w' ⟨rfl, rfl⟩
            go_wp2
            exact ⟨⟨p + 1, by omega, by go_num, HO5, HB⟩, by simp only [intOf]; omega⟩
          · cases r
            · have HE := Lib.hid (HMP.out (by rw [HQP.out, ht]; rfl))
              go_wp2_with fail
              refine (HC.out _).mono ?_
              rintro e w' ⟨rfl, rfl⟩
              go_wp2_with fail
              refine (HD.out _).mono ?_
              rintro e w2 ⟨rfl, hb2⟩
              have X2 := Lib.hid (HB.out.on hb2)
              have HO5 := Lib.hid (ownsZ_on HO.out hb2)
              rw [← HE.out] at HO5
              clear hb2 c0 c1
              go_wp2
              exact ⟨⟨p + 1, by omega, by go_num, HO5, X2⟩, by simp only [intOf]; omega⟩
            · have HE := Lib.hid (HHP.out (by rw [HQP.out, ht]; rfl))
              go_wp2_with fail
              refine (HC.out _).mono ?_
              rintro e w' ⟨rfl, rfl⟩
              go_wp2_with fail
              refine (HD.out _).mono ?_
              rintro e w2 ⟨rfl, hb2⟩
              have X2 := Lib.hid (HB.out.on hb2)
              have HO2 := Lib.hid (ownsZ_on HO.out hb2)
              have hs2 := hb2.size
              have B2 := X2.out.2.2
              clear hb2 c0 c1
              go_wp2_with (at_builtin; refine wpList_append_own _ rfl (.tmp 36) (.tmp 38) 28 rfl (w.heap.size + 1) 3 i0 _ 1 8 Tryz.underlying28 hi hz0 hz1 hz2 rfl (by decide) _ _ _ rfl (World.ownsRow.alloc HO2.out _) ⟨_, 0, none⟩ 1 1 [.int .i64 (p : Int)] rfl rfl (news1 _ _ _) (one1 _) (by simp only [maxLen]; omega) (by omega) (by simp; omega) ?_)
              intro v6 w6 hown6 hg6 _
              have HX6 : Hid (Box w m s w6) := Lib.hid (by
                have hbx := X2.out.alloc (.cells #[.int .i64 (p : Int)] 3)
                refine hbx.block (hg6.block _ (by simp; omega) (fun e => ?_)) (hbx.2.2.grown hg6 (by simp; omega) (fun q hq => by have := (World.ownsRow.lt HO2.out q hq).1; omega))
                have := (World.ownsRow.lt HO2.out _ e.symm).1
                omega)
              have HO6 : Hid (OwnsZ w6 (w.heap.size + 1) v6 (xs ++ [(p : Int)])) := Lib.hid (ownsZ_snoc (ys := [(p : Int)]) hown6)
              rw [← HE.out] at HO6
              clear hown6 hg6
              go_wp2
              exact ⟨⟨p + 1, by omega, by go_num, HO6, HX6⟩, by simp only [intOf]; omega⟩
        · obtain rfl : p = M := by omega
          obtain ⟨ra, rc, rfl, hnew, -⟩ := New.of_own HO.out
          have HN := Lib.hid hnew
          clear hnew
          go_wp2
          go_ret
          exact ⟨⟨_, _, rfl, new_low HN.out (by omega)⟩, B0⟩
end Go.Proofs.YtflcpgdgoencgaaGreatDoor.Sg
