/- The laws of QuadsOf and CountQuads. -/
import Derived.Test.YtinlnafkmoabbaaGreatDoorMgO
namespace Go.Proofs.YtinlnafkmoabbaaGreatDoor.Sg
open Go.RowKit Pt NewI NewII
set_option maxHeartbeats 1600000 in
set_option maxRecDepth 100000 in
theorem specCountQuads (n : Int) (s : ByteArray) (hs : s.size ≤ 9223372036854775807) (w : World) :
    Calls Tryz.prog 49 #[sg n s] w fun e w' => e = .returned (.int .i64 (quadsN n s.data.toList)) ∧ Below w.heap.size w w' := by
  have HA := Lib.hid (fun W => specAci n s hs W)
  have HQ := Lib.hid (fun W => specQuads n s hs W)
  have HRL := Lib.hid (rows4_length (quadsL n s.data.toList))
  have HS := Lib.hid (box_made w n s 25)
  cases h : aciB n s.data.toList
  · have HE : Hid (quadsN n s.data.toList = -1) := Lib.hid (by unfold quadsN; rw [h]; rfl)
    rw [h] at HA
    clear h
    go_enter Tryz.func49, Tryz.ntmps49
    go_wp2_with fail
    refine (HA.out _).mono ?_
    rintro e w1 ⟨rfl, hb1⟩
    have B1 := Lib.hid (HS.out.on hb1).2.2
    clear hb1
    go_wp2
    go_ret
    exact ⟨ret_int HE.out.symm, B1.out⟩
  · have HE : Hid (quadsN n s.data.toList = ((quadsL n s.data.toList).length : Nat)) := Lib.hid (by unfold quadsN; rw [if_pos h])
    rw [h] at HA
    clear h
    go_enter Tryz.func49, Tryz.ntmps49
    go_wp2_with fail
    refine (HA.out _).mono ?_
    rintro e w1 ⟨rfl, hb1⟩
    have X1 := Lib.hid (HS.out.on hb1)
    clear hb1
    obtain ⟨c0, c1, B1⟩ := X1.out
    go_wp2_with fail
    refine (HQ.out _).mono ?_
    rintro e w2 ⟨⟨a2, cp, rfl, hli⟩, hb2⟩
    have B2 := Lib.hid (B1.trans (hb2.mono B1.size))
    clear hli hb2 c0 c1
    go_wp2
    go_ret
    exact ⟨ret_int (by rw [HE.out, HRL.out]), B2.out⟩
end Go.Proofs.YtinlnafkmoabbaaGreatDoor.Sg
