/- FnExactSignAt: for all signs by value and any three numbers impl.SignAt and spec.SignAt answer alike. -/
import Derived.Test.YtohihlhkheeemaaSgAt
namespace Go.Proofs.Ytohihlhkheeemaa.Sg
open Go.RowKit Pt
theorem sgnF_bd {f : Int → Int → Int → Int} (h : ∀ x y z, -1 ≤ f x y z ∧ f x y z ≤ 1) (i j k : Int) : -1 ≤ sgnF f i j k ∧ sgnF f i j k ≤ 1 := by
  have hp : (srt i j k).2.2.2 = 1 ∨ (srt i j k).2.2.2 = -1 := by
    unfold srt
    by_cases h1 : j < i
    · by_cases h2 : k < i
      · by_cases h3 : k < j
        · simp [h1, h2, h3]
        · simp [h1, h2, h3]
      · have h3 : ¬ i < j := by omega
        simp [h1, h2, h3]
    · by_cases h2 : k < j
      · by_cases h3 : k < i
        · simp [h1, h2, h3]
        · simp [h1, h2, h3]
      · simp [h1, h2]
  have := h (srt i j k).1 (srt i j k).2.1 (srt i j k).2.2.1
  unfold sgnF
  rcases hp with hp | hp <;> rw [hp] <;> omega
set_option maxHeartbeats 800000 in
set_option maxRecDepth 100000 in
theorem walkSignAt (n : Int) (_ : -9223372036854775808 ≤ n ∧ n ≤ 9223372036854775807) (s : ByteArray) (hs : s.size ≤ 9223372036854775807) (i : Int) (wi : (Lit.int .i64 i).wf = true) (j : Int) (wj : (Lit.int .i64 j).wf = true) (k : Int) (wk : (Lit.int .i64 k).wf = true) (w : World) :
    Calls Try.prog 4 #[sg n s, .int .i64 i, .int .i64 j, .int .i64 k] w fun e w' => e = .returned (.bool true) ∧ Below w.heap.size w w' := by
  have HS := Lib.hid (fun t => box_made w n s t)
  by_cases hz : (1048576 : Int) - s.size < 0
  · have z1 := left_neg (left := 1048576) hz
    go_enter Try.func4, Try.ntmps4
    go_wp2_with fail
    refine (sz_sg n s _ (by omega) (by omega) hs _).mono ?_
    rintro e w1 ⟨rfl, hb1⟩
    have B1 := ((HS.out _).on hb1).2.2
    go_wp2
    go_ret
    exact ⟨rfl, B1⟩
  · have z1 := left_pos (left := 1048576) (s := s) (by omega)
    have hself : (sgnF (lookS n s.data.toList) i j k != sgnF (lookS n s.data.toList) i j k) = false := by simp
    have HA := Lib.hid (fun W => specAt_sg n s i j k hs W)
    have HI := Lib.hid (fun W => implAt_sg n s i j k (bounds_i64 wi) (bounds_i64 wj) (bounds_i64 wk) hs W)
    generalize sgnF (lookS n s.data.toList) i j k = z at hself HA HI
    go_enter Try.func4, Try.ntmps4
    go_wp2_with fail
    refine (sz_sg n s _ (by omega) (by omega) hs _).mono ?_
    rintro e w1 ⟨rfl, hb1⟩
    obtain ⟨c1, c2, B1⟩ := (HS.out _).on hb1
    go_wp2_with fail
    refine (to_sg n s _).mono ?_
    rintro e w2 ⟨rfl, hb2⟩
    have X2 := Box.on ⟨c1, c2, B1⟩ hb2
    clear c1 c2
    obtain ⟨c1, c2, B2⟩ := X2
    go_wp2_with fail
    refine (HA.out _).mono ?_
    rintro e w3 ⟨rfl, hb3⟩
    have X3 := Box.on ⟨c1, c2, B2⟩ hb3
    clear c1 c2
    obtain ⟨c1, c2, B3⟩ := X3
    go_wp2_with fail
    refine (to_sg n s _).mono ?_
    rintro e w4 ⟨rfl, hb4⟩
    have X4 := Box.on ⟨c1, c2, B3⟩ hb4
    clear c1 c2
    obtain ⟨c1, c2, B4⟩ := X4
    go_wp2_with fail
    refine (HI.out _).mono ?_
    rintro e w5 ⟨rfl, hb5⟩
    have B5 := B4.trans (hb5.mono B4.size)
    go_wp2
    go_ret
    exact ⟨rfl, B5⟩
end Go.Proofs.Ytohihlhkheeemaa.Sg
