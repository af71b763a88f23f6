/- FnExactIsWiring: for every number and every list of ints impl.IsWiring and spec.IsWiring answer alike, and the list is left as it was. -/
import Derived.Test.YtfpbehnpaedpmaaSgInts
import Derived.Test.YtfpbehnpaedpmaaWjAft
import Derived.Test.YtfpbehnpaedpmaaWjSwaps
import Derived.Test.YtfpbehnpaedpmaaWjFlip
import Derived.Test.YtfpbehnpaedpmaaWjTurn
import Derived.Test.YtfpbehnpaedpmaaWjFrom
namespace Go.Proofs.Ytfpbehnpaedpmaa.Sg
open Go.RowKit Pt NewI Wi
theorem src_row {w : World} {b : Nat} {zs : List Int} (h : RowZ w b zs) : SrcZ w w.heap.size (some ⟨b, 0, none⟩) zs := fun j hj =>
  ⟨b, 0, rfl, h.lt, h.at j _ (by rw [List.getD_eq_getElem?_getD, List.getElem?_eq_getElem hj]; rfl)⟩
theorem len_ints {w : World} {v : Value} {zs : List Int} (h : Kit.IntsArg w v zs) : ∃ a c, v = .slice a zs.length c ∧ zs.length ≤ 9223372036854775807 := by
  obtain ⟨a, c, rfl, h1, -⟩ := h
  exact ⟨a, c, rfl, by omega⟩
set_option maxHeartbeats 400000 in
set_option maxRecDepth 100000 in
theorem walkIsW_big (n : Int) (a : Option Addr) (c m : Nat) (hm : m ≤ 9223372036854775807) (hb : 1048576 < m) (w : World) :
    Calls Try.prog 3 #[.int .i64 n, .slice a m c] w fun e w' => e = .returned (.bool true) ∧ Below w.heap.size w w' := by
  have B0 := Below.refl w.heap.size w
  have hd : decide ((1048576 : Int) < (m : Int)) = true := by simp; omega
  go_enter Try.func3, Try.ntmps3
  go_wp2
  go_ret
  exact ⟨rfl, B0⟩
set_option maxHeartbeats 1600000 in
set_option maxRecDepth 100000 in
theorem walkIsW_in (n : Int) (v : Value) (a : Option Addr) (c : Nat) (zs : List Int) (hx : zs.length ≤ 1048576) (w : World) (h : Kit.IntsArg w v zs) (hv : v = .slice a zs.length c) :
    Calls Try.prog 3 #[.int .i64 n, .slice a zs.length c] w fun e w' => e = .returned (.bool true) ∧ Below w.heap.size w w' := by
  have hd : decide ((1048576 : Int) < (zs.length : Int)) = false := by simp; omega
  subst hv
  have HX := Lib.hid (fun W hb => toI_arg (.slice a zs.length c) zs hx w h W hb)
  have HE := Lib.hid (fun b c b2 c2 W h1 h2 => eqI_any b c b2 c2 zs hx W h1 h2)
  have HS : Hid (∀ b c W, RowZ W b zs → Calls Try.prog 9 #[.int .i64 n, .slice (some ⟨b, 0, none⟩) zs.length c] W fun e w' => e = .returned (.bool (wiB n zs)) ∧ Below W.heap.size W w') := Lib.hid (fun b c W hr => specIsWiring n _ c zs hx W (src_row hr))
  have HI : Hid (∀ b c W, RowZ W b zs → Calls Try.prog 11 #[.int .i64 n, .slice (some ⟨b, 0, none⟩) zs.length c] W fun e w' => e = .returned (.bool (wiB n zs)) ∧ Below W.heap.size W w') := Lib.hid (fun b c W hr => implIsWiring n _ c zs hx W (src_row hr))
  generalize wiB n zs = z at HS HI
  have hself : (z != z) = false := by simp
  have B0 := Lib.hid (Below.refl w.heap.size w)
  clear h
  go_enter Try.func3, Try.ntmps3
  go_wp2_with fail
  refine (HX.out _ B0.out).mono ?_
  rintro e w1 ⟨rfl, hr1, hb1⟩
  have B1 := Lib.hid (B0.out.trans (hb1.mono B0.out.size))
  have R1 := Lib.hid hr1
  clear hr1 hb1
  go_wp2_with fail
  refine (HS.out _ _ _ R1.out).mono ?_
  rintro e w2 ⟨rfl, hb2⟩
  have B2 := Lib.hid (B1.out.trans (hb2.mono B1.out.size))
  clear hb2 R1
  go_wp2_with fail
  refine (HX.out _ B2.out).mono ?_
  rintro e w3 ⟨rfl, hr3, hb3⟩
  have B3 := Lib.hid (B2.out.trans (hb3.mono B2.out.size))
  have R3 := Lib.hid hr3
  clear hr3 hb3
  go_wp2_with fail
  refine (HI.out _ _ _ R3.out).mono ?_
  rintro e w4 ⟨rfl, hb4⟩
  have B4 := Lib.hid (B3.out.trans (hb4.mono B3.out.size))
  have R4 := Lib.hid (R3.out.on hb4)
  clear hb4 R3
  go_wp2_with fail
  refine (HX.out _ B4.out).mono ?_
  rintro e w5 ⟨rfl, hr5, hb5⟩
  have B5 := Lib.hid (B4.out.trans (hb5.mono B4.out.size))
  have R5 := Lib.hid hr5
  have R5' := Lib.hid (R4.out.on hb5)
  clear hr5 hb5
  go_wp2_with fail
  refine (HE.out _ _ _ _ _ R5'.out R5.out).mono ?_
  rintro e w6 ⟨rfl, hb6⟩
  have B6 := B5.out.trans (hb6.mono B5.out.size)
  go_wp2
  go_ret
  exact ⟨rfl, B6⟩
theorem walkIsWiring (n : Int) (_hn : (Lit.int .i64 n).wf = true) (v : Value) (zs : List Int) (w : World) (h : Kit.IntsArg w v zs) :
    Calls Try.prog 3 #[.int .i64 n, v] w fun e w' => e = .returned (.bool true) ∧ Below w.heap.size w w' := by
  obtain ⟨a, c, rfl, hl⟩ := len_ints h
  by_cases hx : zs.length ≤ 1048576
  · exact walkIsW_in n _ a c zs hx w h rfl
  · exact walkIsW_big n a c _ hl (by omega) w
end Go.Proofs.Ytfpbehnpaedpmaa.Sg
