/- IsMatroid, as impl and spec answer it; the law. -/
import Derived.Test.YtfjimdmoindepaaRuFirstBoth
import Derived.WalkSpells
import Derived.Lib.LazyBuf
namespace Go.Proofs.Ytfjimdmoindepaa.Sg
open Go.RowKit Pt NewI
set_option maxHeartbeats 800000 in
set_option maxRecDepth 100000 in
theorem implMat (n : Int) (s : ByteArray) (hs : s.size ≤ 9223372036854775807) (w : World) :
    Calls Try.prog 66 #[sg n s] w fun e w' => e = .returned (.bool (matB n s.data.toList)) ∧ Below w.heap.size w w' := by
  have HA := Lib.hid (fun W => implAre_sg n s hs W)
  have HE := Lib.hid (matB_first n s.data.toList)
  have HF := Lib.hid (fun W => implFirstN n s hs W)
  have HS := Lib.hid (fun t => box_made w n s t)
  generalize firstZ n s.data.toList = zs at HE HF
  have hnil : ∀ (W : World) (a : Option Addr) (c : Nat), (binOp .eql 40 (.slice a zs.length c) (.slice none 0 0)).run Try.prog W = .ok (.bool a.isNone) W := fun W a c => Go.run_eql_slice_nil W 40 3 a zs.length c Try.underlying40
  cases h : arB n s.data.toList
  · rw [h] at HA HE
    go_enter Try.func66, Try.ntmps66
    go_wp2_with fail
    refine (HA.out _).mono ?_
    rintro e w1 ⟨rfl, hb1⟩
    have B1 := ((HS.out _).on hb1).2.2
    go_wp2
    go_ret
    exact ⟨ret_bool (by rw [HE.out]; rfl), B1⟩
  · rw [h] at HA HE
    go_enter Try.func66, Try.ntmps66
    go_wp2_with fail
    refine (HA.out _).mono ?_
    rintro e w1 ⟨rfl, hb1⟩
    obtain ⟨c0, c1, B1⟩ := (HS.out _).on hb1
    go_wp2_with fail
    refine (HF.out _).mono ?_
    rintro e w2 ⟨⟨a, c, rfl, -, hn⟩, hb2⟩
    have B2 := B1.trans (hb2.mono B1.size)
    have HN := Lib.hid hn
    clear hn
    go_wp2
    go_ret
    exact ⟨ret_bool (by rw [HE.out, HN.out]; rfl), B2⟩
set_option maxHeartbeats 800000 in
set_option maxRecDepth 100000 in
theorem specMat (n : Int) (s : ByteArray) (hs : s.size ≤ 9223372036854775807) (w : World) :
    Calls Try.prog 47 #[sg n s] w fun e w' => e = .returned (.bool (matB n s.data.toList)) ∧ Below w.heap.size w w' := by
  have HA := Lib.hid (fun W => specAre_sg n s hs W)
  have HE := Lib.hid (matB_first n s.data.toList)
  have HF := Lib.hid (fun W => specFirst n s hs W)
  have HS := Lib.hid (fun t => box_made w n s t)
  have hzl := firstZ_length n s.data.toList
  generalize firstZ n s.data.toList = zs at HE HF hzl
  have HZ : Hid (zs.isEmpty = ((zs.length : Int) == 0)) := Lib.hid (by cases zs <;> rfl)
  cases h : arB n s.data.toList
  · rw [h] at HA HE
    go_enter Try.func47, Try.ntmps47
    go_wp2_with fail
    refine (HA.out _).mono ?_
    rintro e w1 ⟨rfl, hb1⟩
    have B1 := ((HS.out _).on hb1).2.2
    go_wp2
    go_ret
    exact ⟨ret_bool (by rw [HE.out]; rfl), B1⟩
  · rw [h] at HA HE
    go_enter Try.func47, Try.ntmps47
    go_wp2_with fail
    refine (HA.out _).mono ?_
    rintro e w1 ⟨rfl, hb1⟩
    obtain ⟨c0, c1, B1⟩ := (HS.out _).on hb1
    go_wp2_with fail
    refine (HF.out _).mono ?_
    rintro e w2 ⟨⟨a, c, rfl, -⟩, hb2⟩
    have B2 := B1.trans (hb2.mono B1.size)
    go_wp2
    go_ret
    exact ⟨ret_bool (by rw [HE.out, HZ.out]; rfl), B2⟩
end Go.Proofs.Ytfjimdmoindepaa.Sg
