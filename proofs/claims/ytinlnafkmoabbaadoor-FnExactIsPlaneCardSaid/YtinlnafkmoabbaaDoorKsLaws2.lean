/- The laws of CrossingPairs, IsPlane, HullEdges and FreeEdges. -/
import Derived.Test.YtinlnafkmoabbaaDoorMgKs
namespace Go.Proofs.YtinlnafkmoabbaaDoor.Sg
open Go.RowKit Pt NewI
set_option maxHeartbeats 1600000 in
set_option maxRecDepth 100000 in
theorem walkCrossingPairs (n : Int) (_ : -9223372036854775808 ≤ n ∧ n ≤ 9223372036854775807) (s : ByteArray) (hs : s.size ≤ 9223372036854775807) (edges : Int) (_hedges : (Lit.int .i64 edges).wf = true) (w : World) (ht : Lib.TabIs Tryd.prog w "math/bits.deBruijn64tab" .u8 tab64) :
    Calls Tryd.prog 9 #[sg n s, .int .i64 edges] w fun e w' => e = .returned (.bool true) ∧ Below w.heap.size w w' := by
  have HT := Lib.hid (Tab.of ht)
  have HS := Lib.hid (fun t => box_made w n s t)
  clear ht
  by_cases hz : (1048576 : Int) - s.size < 0
  · have z1 := left_neg (left := 1048576) hz
    go_enter Tryd.func9, Tryd.ntmps9
    go_wp2_with fail
    refine (sz_sg n s _ (by omega) (by omega) hs _).mono ?_
    rintro e w1 ⟨rfl, hb1⟩
    have B1 := ((HS.out _).on hb1).2.2
    go_wp2
    go_ret
    exact ⟨rfl, B1⟩
  · have z1 := left_pos (left := 1048576) (s := s) (by omega)
    have HA := Lib.hid (fun W => specCrossings n s hs edges W)
    have HI := Lib.hid (fun W hW => implCrossings n s hs edges W hW)
    generalize cpZ n s.data.toList edges = v at HA HI
    have hself : (v != v) = false := by simp
    go_enter Tryd.func9, Tryd.ntmps9
    go_wp2_with fail
    refine (sz_sg n s _ (by omega) (by omega) hs _).mono ?_
    rintro e w1 ⟨rfl, hb1⟩
    have X1 := Lib.hid ((HS.out _).on hb1)
    obtain ⟨c1, c2, B1⟩ := X1.out
    go_wp2_with fail
    refine (to_sg n s _).mono ?_
    rintro e w2 ⟨rfl, hb2⟩
    have X2 := Lib.hid (X1.out.on hb2)
    clear c1 c2
    obtain ⟨c1, c2, B2⟩ := X2.out
    go_wp2_with fail
    refine (HA.out _).mono ?_
    rintro e w3 ⟨rfl, hb3⟩
    have X3 := Lib.hid (X2.out.on hb3)
    clear c1 c2
    obtain ⟨c1, c2, B3⟩ := X3.out
    go_wp2_with fail
    refine (to_sg n s _).mono ?_
    rintro e w4 ⟨rfl, hb4⟩
    have X4 := Lib.hid (X3.out.on hb4)
    clear c1 c2
    obtain ⟨c1, c2, B4⟩ := X4.out
    go_wp2_with fail
    refine (HI.out _ (HT.out.on B4)).mono ?_
    rintro e w5 ⟨rfl, hb5⟩
    have B5 := B4.trans (hb5.mono B4.size)
    clear c1 c2
    go_wp2
    go_ret
    exact ⟨rfl, B5⟩
set_option maxHeartbeats 1600000 in
set_option maxRecDepth 100000 in
theorem walkIsPlane (n : Int) (_ : -9223372036854775808 ≤ n ∧ n ≤ 9223372036854775807) (s : ByteArray) (hs : s.size ≤ 9223372036854775807) (edges : Int) (_hedges : (Lit.int .i64 edges).wf = true) (w : World) (ht : Lib.TabIs Tryd.prog w "math/bits.deBruijn64tab" .u8 tab64) :
    Calls Tryd.prog 10 #[sg n s, .int .i64 edges] w fun e w' => e = .returned (.bool true) ∧ Below w.heap.size w w' := by
  have HT := Lib.hid (Tab.of ht)
  have HS := Lib.hid (fun t => box_made w n s t)
  clear ht
  by_cases hz : (1048576 : Int) - s.size < 0
  · have z1 := left_neg (left := 1048576) hz
    go_enter Tryd.func10, Tryd.ntmps10
    go_wp2_with fail
    refine (sz_sg n s _ (by omega) (by omega) hs _).mono ?_
    rintro e w1 ⟨rfl, hb1⟩
    have B1 := ((HS.out _).on hb1).2.2
    go_wp2
    go_ret
    exact ⟨rfl, B1⟩
  · have z1 := left_pos (left := 1048576) (s := s) (by omega)
    have HA := Lib.hid (fun W => specPlane n s hs edges W)
    have HI := Lib.hid (fun W hW => implPlane n s hs edges W hW)
    generalize (cpZ n s.data.toList edges == 0) = v at HA HI
    have hself : (v != v) = false := by simp
    go_enter Tryd.func10, Tryd.ntmps10
    go_wp2_with fail
    refine (sz_sg n s _ (by omega) (by omega) hs _).mono ?_
    rintro e w1 ⟨rfl, hb1⟩
    have X1 := Lib.hid ((HS.out _).on hb1)
    obtain ⟨c1, c2, B1⟩ := X1.out
    go_wp2_with fail
    refine (to_sg n s _).mono ?_
    rintro e w2 ⟨rfl, hb2⟩
    have X2 := Lib.hid (X1.out.on hb2)
    clear c1 c2
    obtain ⟨c1, c2, B2⟩ := X2.out
    go_wp2_with fail
    refine (HA.out _).mono ?_
    rintro e w3 ⟨rfl, hb3⟩
    have X3 := Lib.hid (X2.out.on hb3)
    clear c1 c2
    obtain ⟨c1, c2, B3⟩ := X3.out
    go_wp2_with fail
    refine (to_sg n s _).mono ?_
    rintro e w4 ⟨rfl, hb4⟩
    have X4 := Lib.hid (X3.out.on hb4)
    clear c1 c2
    obtain ⟨c1, c2, B4⟩ := X4.out
    go_wp2_with fail
    refine (HI.out _ (HT.out.on B4)).mono ?_
    rintro e w5 ⟨rfl, hb5⟩
    have B5 := B4.trans (hb5.mono B4.size)
    clear c1 c2
    go_wp2
    go_ret
    exact ⟨rfl, B5⟩
end Go.Proofs.YtinlnafkmoabbaaDoor.Sg
