/- FnExactWiringText: for every number and every list of ints impl.WiringText and spec.WiringText answer alike, and the list is left as it was. -/
import Derived.Test.YtfpbehnpaedpmaaDoorWiLawIs
import Derived.Test.YtfpbehnpaedpmaaDoorWjText
namespace Go.Proofs.YtfpbehnpaedpmaaDoor.Sg
open Go.RowKit Pt NewI Wi
set_option maxHeartbeats 400000 in
set_option maxRecDepth 100000 in
theorem walkTxt_big (n : Int) (a : Option Addr) (c m : Nat) (hm : m ≤ 9223372036854775807) (hb : 1048576 < m) (w : World) :
    Calls Tryd.prog 4 #[.int .i64 n, .slice a m c] w fun e w' => e = .returned (.bool true) ∧ Below w.heap.size w w' := by
  have B0 := Below.refl w.heap.size w
  have hd : decide ((1048576 : Int) < (m : Int)) = true := by simp; omega
  go_enter Tryd.func4, Tryd.ntmps4
  go_wp2
  go_ret
  exact ⟨rfl, B0⟩
set_option maxHeartbeats 1600000 in
set_option maxRecDepth 100000 in
theorem walkTxt_in (n : Int) (v : Value) (a : Option Addr) (c : Nat) (zs : List Int) (hx : zs.length ≤ 1048576) (w : World) (h : Kit.IntsArg w v zs) (hv : v = .slice a zs.length c) :
    Calls Tryd.prog 4 #[.int .i64 n, .slice a zs.length c] w fun e w' => e = .returned (.bool true) ∧ Below w.heap.size w w' := by
  have hd : decide ((1048576 : Int) < (zs.length : Int)) = false := by simp; omega
  subst hv
  have HX := Lib.hid (fun W hb => toI_arg (.slice a zs.length c) zs hx w h W hb)
  have HE := Lib.hid (fun b c b2 c2 W h1 h2 => eqI_any b c b2 c2 zs hx W h1 h2)
  have HS : Hid (∀ b c W, RowZ W b zs → Calls Tryd.prog 28 #[.int .i64 n, .slice (some ⟨b, 0, none⟩) zs.length c] W fun e w' => e = .returned (.string (wtZ n zs)) ∧ Below W.heap.size W w') := Lib.hid (fun b c W hr => specWiringText n _ c zs hx W (src_row hr))
  have HI : Hid (∀ b c W, RowZ W b zs → Calls Tryd.prog 27 #[.int .i64 n, .slice (some ⟨b, 0, none⟩) zs.length c] W fun e w' => e = .returned (.string (wtZ n zs)) ∧ Below W.heap.size W w') := Lib.hid (fun b c W hr => implWiringText n _ c zs hx W (src_row hr))
  generalize wtZ n zs = z at HS HI
  have B0 := Lib.hid (Below.refl w.heap.size w)
  clear h
  go_enter Tryd.func4, Tryd.ntmps4
  go_wp2_with fail
  refine (HX.out _ B0.out).mono ?_
  rintro e w1 ⟨rfl, hr1, hb1⟩
  have B1 := Lib.hid (B0.out.trans (hb1.mono B0.out.size))
  have R1 := Lib.hid hr1
  clear hr1 hb1
  go_wp2_with fail
  refine (HS.out _ _ _ R1.out).mono ?_
  rintro e w2 ⟨rfl, hb2⟩
  have B2 := Lib.hid (B1.out.trans (hb2.mono B1.out.size))
  clear hb2 R1
  go_wp2_with fail
  refine (HX.out _ B2.out).mono ?_
  rintro e w3 ⟨rfl, hr3, hb3⟩
  have B3 := Lib.hid (B2.out.trans (hb3.mono B2.out.size))
  have R3 := Lib.hid hr3
  clear hr3 hb3
  go_wp2_with fail
  refine (HI.out _ _ _ R3.out).mono ?_
  rintro e w4 ⟨rfl, hb4⟩
  have B4 := Lib.hid (B3.out.trans (hb4.mono B3.out.size))
  have R4 := Lib.hid (R3.out.on hb4)
  clear hb4 R3
  go_wp2_with fail
  refine (HX.out _ B4.out).mono ?_
  rintro e w5 ⟨rfl, hr5, hb5⟩
  have B5 := Lib.hid (B4.out.trans (hb5.mono B4.out.size))
  have R5 := Lib.hid hr5
  have R5' := Lib.hid (R4.out.on hb5)
  clear hr5 hb5
  go_wp2_with fail
  refine (HE.out _ _ _ _ _ R5'.out R5.out).mono ?_
  rintro e w6 ⟨rfl, hb6⟩
  have B6 := B5.out.trans (hb6.mono B5.out.size)
  go_wp2
  go_ret
  exact ⟨rfl, B6⟩
theorem walkWiringText (n : Int) (_hn : (Lit.int .i64 n).wf = true) (v : Value) (zs : List Int) (w : World) (h : Kit.IntsArg w v zs) :
    Calls Tryd.prog 4 #[.int .i64 n, v] w fun e w' => e = .returned (.bool true) ∧ Below w.heap.size w w' := by
  obtain ⟨a, c, rfl, hl⟩ := len_ints h
  by_cases hx : zs.length ≤ 1048576
  · exact walkTxt_in n _ a c zs hx w h rfl
  · exact walkTxt_big n a c _ hl (by omega) w
end Go.Proofs.YtfpbehnpaedpmaaDoor.Sg
