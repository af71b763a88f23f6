/- Several texts in one: HuLeft, LeSpec. -/
import Derived.Test.YtinlnafkmoabbaaGreatDoorHuFacts
import Derived.Test.YtinlnafkmoabbaaGreatDoorMgO
import Derived.Test.YtinlnafkmoabbaaGreatDoorMgL
/- LeftCount, as spec answers it of two different elements of order signs. -/
namespace Go.Proofs.YtinlnafkmoabbaaGreatDoor.Sg
open Go.RowKit Pt NewI
theorem cells2_made (w : World) (a b : Int) (t : TypeId) : Cells (w.alloc (.cells #[.int .i64 a, .int .i64 b] t)) w.heap.size 2 (zc [a, b]) := by
  refine ⟨fun j hj => ?_, fun j => by go_simp, by simp⟩
  rcases (by omega : j = 0 ∨ j = 1) with rfl | rfl <;> go_simp <;> rfl
/-- How many of the first k elements are to the left of two. -/
def leftK (F : Int → Int → Int → Int) (i j k : Nat) : Nat := (List.range k).countP fun k => k != i && (k != j && decide (0 < F i j k))
theorem leftK_succ (F : Int → Int → Int → Int) (i j k : Nat) : leftK F i j (k + 1) = leftK F i j k + bit (k != i && (k != j && decide (0 < F i j k))) := by
  unfold leftK
  rw [List.range_succ, List.countP_append, List.countP_singleton]
  cases (k != i && (k != j && decide (0 < F i j k))) <;> rfl
theorem leftK_le (F : Int → Int → Int → Int) (i j k : Nat) : leftK F i j k ≤ k := by
  unfold leftK
  have := List.countP_le_length (p := fun k => k != i && (k != j && decide (0 < F i j k))) (l := List.range k)
  rwa [List.length_range] at this
set_option maxHeartbeats 1600000 in
set_option maxRecDepth 100000 in
theorem l7Left_any (n : Nat) (s : ByteArray) (h : arB n s.data.toList = true) (i j : Nat) (hi : i < n) (hj : j < n) (hij : i ≠ j) (w : World) :
    Calls Tryz.prog 105 #[sg n s, .int .i64 i, .int .i64 j] w fun e w' => e = .returned (.int .i64 (leftN (sgnF (lookS n s.data.toList)) n i j : Nat)) ∧ Below w.heap.size w w' := by
  obtain ⟨_, h7, -, -⟩ := arB_yes h
  have h7 : n ≤ 7 := by omega
  have HS := Lib.hid (box_made w n s 25)
  have HAT := Lib.hid (fun (k : Nat) (hk : k < n) (h1 : k ≠ i) (h2 : k ≠ j) W => l3At_any n s i j k h hi hj hk hij (fun e => h2 e.symm) (fun e => h1 e.symm) W)
  generalize sgnF (lookS n s.data.toList) = F at HAT ⊢
  have HSU := Lib.hid (leftK_succ F i j)
  have HLE := Lib.hid (leftK_le F i j)
  have HB0 : Hid (∀ W, Calls Tryz.prog 82 #[.bool false] W fun e w' => e = .returned (.int .i64 0) ∧ w' = W) := Lib.hid (fun W => l1Bit_any false W)
  have HB1 : Hid (∀ W, Calls Tryz.prog 82 #[.bool true] W fun e w' => e = .returned (.int .i64 1) ∧ w' = W) := Lib.hid (fun W => l1Bit_any true W)
  have HEN : Hid (leftK F i j n = leftN F n i j) := Lib.hid rfl
  clear h
  go_enter Tryz.func105, Tryz.ntmps105
  go_wp2
  go_loopw [7, 8] (fun sv x wr => ∃ k : Nat, k ≤ n ∧ x = .int .i64 k ∧ sv = .int .i64 (leftK F i j k : Nat) ∧ Hid (Box w n s wr)) (fun _ x _ => n - (intOf x).toNat)
  case atStart => exact ⟨0, Nat.zero_le _, rfl, rfl, HS⟩
  case round =>
    obtain ⟨k, hk, rfl, rfl, HB⟩ := hrel
    obtain ⟨c0, c1, B0⟩ := HB.out
    have hle := HLE.out k
    by_cases hlt : k < n
    · have HN := Lib.hid (HSU.out k)
      by_cases e1 : k = i
      · have t1 : ((k : Int) != (i : Int)) = false := by simp; omega
        have HN2 : Hid (leftK F i j (k + 1) = leftK F i j k) := Lib.hid (by rw [HN.out]; simp [e1, bit])
        clear e1
        go_wp2_with fail
        refine (HB0.out _).mono ?_
        rintro e w' ⟨rfl, rfl⟩
        go_wp2
        exact ⟨⟨k + 1, by omega, by go_num, by rw [HN2.out], HB⟩, by simp only [intOf]; omega⟩
      · have t1 : ((k : Int) != (i : Int)) = true := by simp; omega
        by_cases e2 : k = j
        · have t2 : ((k : Int) != (j : Int)) = false := by simp; omega
          have HN2 : Hid (leftK F i j (k + 1) = leftK F i j k) := Lib.hid (by rw [HN.out]; simp [e2, bit])
          clear e1 e2
          go_wp2_with fail
          refine (HB0.out _).mono ?_
          rintro e w' ⟨rfl, rfl⟩
          go_wp2
          exact ⟨⟨k + 1, by omega, by go_num, by rw [HN2.out], HB⟩, by simp only [intOf]; omega⟩
        · have t2 : ((k : Int) != (j : Int)) = true := by simp; omega
          have HC := Lib.hid (HAT.out k hlt e1 e2)
          have ka : (k != i) = true := by simpa using e1
          have kb : (k != j) = true := by simpa using e2
          rw [ka, kb] at HN
          generalize F i j k = v at HC HN
          by_cases hv : 0 < v
          · have HN2 : Hid (leftK F i j (k + 1) = leftK F i j k + 1) := Lib.hid (by rw [HN.out]; simp [hv, bit])
            have tv : decide (0 < v) = true := decide_eq_true hv
            clear e1 e2 ka kb HN
            go_wp2_with fail
            refine (HC.out _).mono ?_
            rintro e w2 ⟨rfl, hb2⟩
            have X2 := Lib.hid (HB.out.on hb2)
            clear hb2 c0 c1
            go_wp2_with fail
            refine (HB1.out _).mono ?_
            rintro e w' ⟨rfl, rfl⟩
            go_wp2
            exact ⟨⟨k + 1, by omega, by go_num, by rw [HN2.out]; go_num, X2⟩, by simp only [intOf]; omega⟩
          · have HN2 : Hid (leftK F i j (k + 1) = leftK F i j k) := Lib.hid (by rw [HN.out]; simp [hv, bit])
            have tv : decide (0 < v) = false := decide_eq_false hv
            clear e1 e2 ka kb HN
            go_wp2_with fail
            refine (HC.out _).mono ?_
            rintro e w2 ⟨rfl, hb2⟩
            have X2 := Lib.hid (HB.out.on hb2)
            clear hb2 c0 c1
            go_wp2_with fail
            refine (HB0.out _).mono ?_
            rintro e w' ⟨rfl, rfl⟩
            go_wp2
            exact ⟨⟨k + 1, by omega, by go_num, by rw [HN2.out], X2⟩, by simp only [intOf]; omega⟩
    · obtain rfl : k = n := by omega
      go_wp2
      go_ret
      exact ⟨ret_int (by rw [HEN.out]), B0⟩
theorem difB2 {n a b : Int} (h0 : 0 ≤ a ∧ a < n) (h1 : 0 ≤ b ∧ b < n) (h2 : a ≠ b) : difB n [a, b] = true := by
  unfold difB
  rw [decide_eq_true_eq]
  intro i hi
  simp only [List.length_cons, List.length_nil] at hi
  rcases (by omega : i = 0 ∨ i = 1) with rfl | rfl
  · exact ⟨h0, fun j hj => by omega⟩
  · refine ⟨h1, fun j hj => ?_⟩
    obtain rfl : j = 0 := by omega
    exact fun e => h2 e.symm
end Go.Proofs.YtinlnafkmoabbaaGreatDoor.Sg
/- What lies left, as spec tells it: l7Bits, LeftCount, CrossingSum. -/
namespace Go.Proofs.YtinlnafkmoabbaaGreatDoor.Sg
open Go.RowKit Pt NewI
theorem difB2_iff {n a b : Int} : difB n [a, b] = true ↔ (0 ≤ a ∧ a < n) ∧ (0 ≤ b ∧ b < n) ∧ a ≠ b := by
  constructor
  · intro h
    unfold difB at h
    rw [decide_eq_true_eq] at h
    have h0 := h 0 (by simp)
    have h1 := h 1 (by simp)
    have e10 := h1.2 0 (by omega)
    have q0 := h0.1
    have q1 := h1.1
    simp at q0 q1 e10
    exact ⟨q0, q1, fun e => e10 e.symm⟩
  · rintro ⟨h0, h1, h2⟩
    exact difB2 h0 h1 h2
end Go.Proofs.YtinlnafkmoabbaaGreatDoor.Sg
