/- IsMatroid, as impl and spec answer it; the law. -/
import Derived.Test.YtdnbocmfgofhcaaRuFirstBoth
import Derived.WalkSpells
import Derived.Lib.LazyBuf
namespace Go.Proofs.Ytdnbocmfgofhcaa.Sg
open Go.RowKit Pt NewI
set_option maxHeartbeats 800000 in
set_option maxRecDepth 100000 in
theorem implMat (n : Int) (s : ByteArray) (hs : s.size ≤ 9223372036854775807) (w : World) :
    Calls Try.prog 24 #[sg n s] w fun e w' => e = .returned (.bool (matB n s.data.toList)) ∧ Below w.heap.size w w' := by
  have HA := Lib.hid (fun W => implAre_sg n s hs W)
  have HE := Lib.hid (matB_first n s.data.toList)
  have HF := Lib.hid (fun W => implFirstN n s hs W)
  have HS := Lib.hid (fun t => box_made w n s t)
  generalize firstZ n s.data.toList = zs at HE HF
  have hnil : ∀ (W : World) (a : Option Addr) (c : Nat), (binOp .eql 27 (.slice a zs.length c) (.slice none 0 0)).run Try.prog W = .ok (.bool a.isNone) W := fun W a c => Go.run_eql_slice_nil W 27 3 a zs.length c Try.underlying27
  cases h : arB n s.data.toList
  · rw [h] at HA HE
    go_enter Try.func24, Try.ntmps24
    go_wp2_with fail
    refine (HA.out _).mono ?_
    rintro e w1 ⟨rfl, hb1⟩
    have B1 := ((HS.out _).on hb1).2.2
    go_wp2
    go_ret
    exact ⟨ret_bool (by rw [HE.out]; rfl), B1⟩
  · rw [h] at HA HE
    go_enter Try.func24, Try.ntmps24
    go_wp2_with fail
    refine (HA.out _).mono ?_
    rintro e w1 ⟨rfl, hb1⟩
    obtain ⟨c0, c1, B1⟩ := (HS.out _).on hb1
    go_wp2_with fail
    refine (HF.out _).mono ?_
    rintro e w2 ⟨⟨a, c, rfl, -, hn⟩, hb2⟩
    have B2 := B1.trans (hb2.mono B1.size)
    have HN := Lib.hid hn
    clear hn
    go_wp2
    go_ret
    exact ⟨ret_bool (by rw [HE.out, HN.out]; rfl), B2⟩
set_option maxHeartbeats 800000 in
set_option maxRecDepth 100000 in
theorem specMat (n : Int) (s : ByteArray) (hs : s.size ≤ 9223372036854775807) (w : World) :
    Calls Try.prog 25 #[sg n s] w fun e w' => e = .returned (.bool (matB n s.data.toList)) ∧ Below w.heap.size w w' := by
  have HA := Lib.hid (fun W => specAre_sg n s hs W)
  have HE := Lib.hid (matB_first n s.data.toList)
  have HF := Lib.hid (fun W => specFirst n s hs W)
  have HS := Lib.hid (fun t => box_made w n s t)
  have hzl := firstZ_length n s.data.toList
  generalize firstZ n s.data.toList = zs at HE HF hzl
  have HZ : Hid (zs.isEmpty = ((zs.length : Int) == 0)) := Lib.hid (by cases zs <;> rfl)
  cases h : arB n s.data.toList
  · rw [h] at HA HE
    go_enter Try.func25, Try.ntmps25
    go_wp2_with fail
    refine (HA.out _).mono ?_
    rintro e w1 ⟨rfl, hb1⟩
    have B1 := ((HS.out _).on hb1).2.2
    go_wp2
    go_ret
    exact ⟨ret_bool (by rw [HE.out]; rfl), B1⟩
  · rw [h] at HA HE
    go_enter Try.func25, Try.ntmps25
    go_wp2_with fail
    refine (HA.out _).mono ?_
    rintro e w1 ⟨rfl, hb1⟩
    obtain ⟨c0, c1, B1⟩ := (HS.out _).on hb1
    go_wp2_with fail
    refine (HF.out _).mono ?_
    rintro e w2 ⟨⟨a, c, rfl, -⟩, hb2⟩
    have B2 := B1.trans (hb2.mono B1.size)
    go_wp2
    go_ret
    exact ⟨ret_bool (by rw [HE.out, HZ.out]; rfl), B2⟩
set_option maxRecDepth 100000 in
set_option maxHeartbeats 1600000 in
theorem walkIsMatroid (n : Int) (_ : -9223372036854775808 ≤ n ∧ n ≤ 9223372036854775807) (s : ByteArray) (hs : s.size ≤ 9223372036854775807) (w : World) :
    Calls Try.prog 5 #[sg n s] w fun e w' => e = .returned (.bool true) ∧ Below w.heap.size w w' := by
  have HS := Lib.hid (fun t => box_made w n s t)
  by_cases hz : (1048576 : Int) - s.size < 0
  · have z1 := left_neg (left := 1048576) hz
    go_enter Try.func5, Try.ntmps5
    go_wp2_with fail
    refine (sz_sg n s _ (by omega) (by omega) hs _).mono ?_
    rintro e w1 ⟨rfl, hb1⟩
    have B1 := ((HS.out _).on hb1).2.2
    go_wp2
    go_ret
    exact ⟨rfl, B1⟩
  · have z1 := left_pos (left := 1048576) (s := s) (by omega)
    have HA := Lib.hid (fun W => specMat n s hs W)
    have HI := Lib.hid (fun W => implMat n s hs W)
    generalize matB n s.data.toList = b at HA HI
    have hself : (b != b) = false := by simp
    go_enter Try.func5, Try.ntmps5
    go_wp2_with fail
    refine (sz_sg n s _ (by omega) (by omega) hs _).mono ?_
    rintro e w1 ⟨rfl, hb1⟩
    have X1 := Lib.hid ((HS.out _).on hb1)
    obtain ⟨c1, c2, B1⟩ := X1.out
    go_wp2_with fail
    refine (to_sg n s _).mono ?_
    rintro e w2 ⟨rfl, hb2⟩
    have X2 := Lib.hid (X1.out.on hb2)
    clear c1 c2
    obtain ⟨c1, c2, B2⟩ := X2.out
    go_wp2_with fail
    refine (HA.out _).mono ?_
    rintro e w3 ⟨rfl, hb3⟩
    have X3 := Lib.hid (X2.out.on hb3)
    clear c1 c2
    obtain ⟨c1, c2, B3⟩ := X3.out
    go_wp2_with fail
    refine (to_sg n s _).mono ?_
    rintro e w4 ⟨rfl, hb4⟩
    have X4 := Lib.hid (X3.out.on hb4)
    clear c1 c2
    obtain ⟨c1, c2, B4⟩ := X4.out
    go_wp2_with fail
    refine (HI.out _).mono ?_
    rintro e w5 ⟨rfl, hb5⟩
    have B5 := B4.trans (hb5.mono B4.size)
    clear c1 c2
    go_wp2
    go_ret
    exact ⟨rfl, B5⟩
end Go.Proofs.Ytdnbocmfgofhcaa.Sg
