/- FnExactAreSigns: for all signs by value impl.AreSigns and spec.AreSigns answer alike. -/
import Derived.Test.YtohihlhkheeemaaSgAreImpl
namespace Go.Proofs.Ytohihlhkheeemaa.Sg
open Go.RowKit Pt
set_option maxHeartbeats 800000 in
set_option maxRecDepth 100000 in
theorem walkAreSigns (n : Int) (_ : -9223372036854775808 ≤ n ∧ n ≤ 9223372036854775807) (s : ByteArray) (hs : s.size ≤ 9223372036854775807) (w : World) :
    Calls Try.prog 3 #[sg n s] w fun e w' => e = .returned (.bool true) ∧ Below w.heap.size w w' := by
  have HS := Lib.hid (fun t => box_made w n s t)
  by_cases hz : (1048576 : Int) - s.size < 0
  · have z1 := left_neg (left := 1048576) hz
    go_enter Try.func3, Try.ntmps3
    go_wp2_with fail
    refine (sz_sg n s _ (by omega) (by omega) hs _).mono ?_
    rintro e w1 ⟨rfl, hb1⟩
    have X1 := (HS.out _).on hb1
    have B1 := X1.2.2
    go_wp2
    go_ret
    exact ⟨rfl, B1⟩
  · have z1 := left_pos (left := 1048576) (s := s) (by omega)
    have hself : (arB n s.data.toList != arB n s.data.toList) = false := by simp
    have HA := Lib.hid (fun W => specAre_sg n s hs W)
    have HI := Lib.hid (fun W => implAre_sg n s hs W)
    generalize arB n s.data.toList = z at hself HA HI
    go_enter Try.func3, Try.ntmps3
    go_wp2_with fail
    refine (sz_sg n s _ (by omega) (by omega) hs _).mono ?_
    rintro e w1 ⟨rfl, hb1⟩
    have X1 := (HS.out _).on hb1
    obtain ⟨c1, c2, B1⟩ := X1
    go_wp2_with fail
    refine (to_sg n s _).mono ?_
    rintro e w2 ⟨rfl, hb2⟩
    have X2 := Box.on ⟨c1, c2, B1⟩ hb2
    clear c1 c2
    obtain ⟨c1, c2, B2⟩ := X2
    go_wp2_with fail
    refine (HA.out _).mono ?_
    rintro e w3 ⟨rfl, hb3⟩
    have X3 := Box.on ⟨c1, c2, B2⟩ hb3
    clear c1 c2
    obtain ⟨c1, c2, B3⟩ := X3
    go_wp2_with fail
    refine (to_sg n s _).mono ?_
    rintro e w4 ⟨rfl, hb4⟩
    have X4 := Box.on ⟨c1, c2, B3⟩ hb4
    clear c1 c2
    obtain ⟨c1, c2, B4⟩ := X4
    go_wp2_with fail
    refine (HI.out _).mono ?_
    rintro e w5 ⟨rfl, hb5⟩
    have B5 := B4.trans (hb5.mono B4.size)
    go_wp2
    go_ret
    exact ⟨rfl, B5⟩
end Go.Proofs.Ytohihlhkheeemaa.Sg
