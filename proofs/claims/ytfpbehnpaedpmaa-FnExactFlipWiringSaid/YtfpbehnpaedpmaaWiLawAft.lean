/- FnExactWiresAfter: impl.WiresAfter and spec.WiresAfter answer alike for every argument; the list is left as it was, and what is handed back is shared with nothing. -/
import Derived.Test.YtfpbehnpaedpmaaWiLawIs
import Derived.Test.YtfpbehnpaedpmaaWiAfter
import Derived.Test.YtfpbehnpaedpmaaWiLens
import Derived.Test.YtfpbehnpaedpmaaWjAft
import Derived.Test.YtfpbehnpaedpmaaWjSwaps
import Derived.Test.YtfpbehnpaedpmaaWjFlip
import Derived.Test.YtfpbehnpaedpmaaWjTurn
import Derived.Test.YtfpbehnpaedpmaaWjFrom
namespace Go.Proofs.Ytfpbehnpaedpmaa.Sg
open Go.RowKit Pt NewI Wi
theorem new_rowZ {w : World} {b : Nat} {zs : List Int} (h : RowZ w b zs) : NewI.New w b (b + 1) (some ⟨b, 0, none⟩) zs.length (zc zs) := .inr ⟨b, rfl, Nat.le_refl _, Nat.lt_succ_self _, ⟨fun _ hj => World.rowIs.cell h hj, World.rowIs.frozen h, World.rowIs.lt h⟩⟩
theorem aft_le (n : Int) (zs : List Int) (k : Int) : (wl (wiAft n zs k)).length ≤ 1000000 := by
  by_cases hw : wiB n zs = true
  · obtain ⟨-, -, -, h15⟩ := wiB_len hw
    exact Nat.le_trans (aft_len n zs k h15) (by omega)
  · unfold wiAft; rw [if_neg (fun h => hw h.1)]; simp [wl]
set_option maxHeartbeats 400000 in
set_option maxRecDepth 100000 in
theorem walkAft_big (n k : Int) (a : Option Addr) (c m : Nat) (hm : m ≤ 9223372036854775807) (hb : 1048576 < m) (w : World) :
    Calls Try.prog 4 #[.int .i64 n, .slice a m c, .int .i64 k] w fun e w' => e = .returned (.bool true) ∧ Below w.heap.size w w' := by
  have B0 := Below.refl w.heap.size w
  have hd : decide ((1048576 : Int) < (m : Int)) = true := by simp; omega
  go_enter Try.func4, Try.ntmps4
  go_wp2
  go_ret
  exact ⟨rfl, B0⟩
set_option maxHeartbeats 1600000 in
set_option maxRecDepth 100000 in
theorem walkAft_in (n : Int) (k : Int) (v : Value) (a : Option Addr) (c : Nat) (zs : List Int) (hx : zs.length ≤ 1048576) (w : World) (h : Kit.IntsArg w v zs) (hv : v = .slice a zs.length c) :
    Calls Try.prog 4 #[.int .i64 n, .slice a zs.length c, .int .i64 k] w fun e w' => e = .returned (.bool true) ∧ Below w.heap.size w w' := by
  have hd : decide ((1048576 : Int) < (zs.length : Int)) = false := by simp; omega
  subst hv
  have HX := Lib.hid (fun W hb => toI_arg (.slice a zs.length c) zs hx w h W hb)
  have HS : Hid (∀ b W, RowZ W b zs → Calls Try.prog 13 #[.int .i64 n, .slice (some ⟨b, 0, none⟩) zs.length zs.length, .int .i64 k] W fun e w' => Got W.heap.size (wl (wiAft n zs k)) e w' ∧ Below W.heap.size W w') := Lib.hid (fun b W hr => specWiresAfter n _ _ zs k hx W (src_row hr))
  have HI : Hid (∀ b W, RowZ W b zs → Calls Try.prog 14 #[.int .i64 n, .slice (some ⟨b, 0, none⟩) zs.length zs.length, .int .i64 k] W fun e w' => Got W.heap.size (wl (wiAft n zs k)) e w' ∧ Below W.heap.size W w') := Lib.hid (fun b W hr => implWiresAfter n _ _ zs hx k W (src_row hr))
  have hyl := aft_le n zs k
  generalize wl (wiAft n zs k) = ys at HS HI hyl
  have hself2 : (((1 + ys.length : Nat) : Int) != ((1 + ys.length : Nat) : Int)) = false := by simp
  have B0 := Lib.hid (Below.refl w.heap.size w)
  clear h
  go_enter Try.func4, Try.ntmps4
  go_wp2_with fail
  refine (HX.out _ B0.out).mono ?_
  rintro e w1 ⟨rfl, hr, hb1⟩
  have B1 := Lib.hid (B0.out.trans (hb1.mono B0.out.size))
  have R1 := Lib.hid (hr)
  have z1 : w.heap.size ≤ w1.heap.size := hb1.size
  clear hb1 B0 hr
  go_wp2_with fail
  refine (HS.out _ _ R1.out).mono ?_
  rintro e w2 ⟨⟨a2, c2, rfl, hn'⟩, hb2⟩
  have B2 := Lib.hid (B1.out.trans (hb2.mono B1.out.size))
  have S2 := Lib.hid (hn')
  have z2 : w1.heap.size ≤ w2.heap.size := hb2.size
  clear hb2 B1 R1 hn'
  go_wp2_with fail
  refine (HX.out _ B2.out).mono ?_
  rintro e w3 ⟨rfl, hr, hb3⟩
  have B3 := Lib.hid (B2.out.trans (hb3.mono B2.out.size))
  have S3 := Lib.hid (S2.out.on hb3)
  have R3 := Lib.hid (hr)
  have X3 := Lib.hid (new_rowZ hr)
  have z3 : w2.heap.size ≤ w3.heap.size := hb3.size
  clear hb3 B2 S2
  have zx : w2.heap.size + 1 ≤ w3.heap.size := World.rowIs.lt hr
  clear hr
  go_wp2_with fail
  refine (HI.out _ _ R3.out).mono ?_
  rintro e w4 ⟨⟨a4, c4, rfl, hn'⟩, hb4⟩
  have B4 := Lib.hid (B3.out.trans (hb4.mono B3.out.size))
  have S4 := Lib.hid (S3.out.on hb4)
  have X4 := Lib.hid (X3.out.on hb4)
  have G4 := Lib.hid (hn')
  have z4 : w3.heap.size ≤ w4.heap.size := hb4.size
  clear hb4 B3 S3 R3 X3 hn'
  go_wp2_with fail
  refine (NewI.eq_new _ _ _ _ _ _ _ _ ys (by omega) _ G4.out S4.out).mono ?_
  rintro e w5 ⟨rfl, hb5⟩
  have B5 := Lib.hid (B4.out.trans (hb5.mono B4.out.size))
  have S5 := Lib.hid (S4.out.on hb5)
  have X5 := Lib.hid (X4.out.on hb5)
  have G5 := Lib.hid (G4.out.on hb5)
  have z5 : w4.heap.size ≤ w5.heap.size := hb5.size
  clear hb5 B4 S4 X4 G4
  go_wp2_with fail
  refine (HX.out _ B5.out).mono ?_
  rintro e w6 ⟨rfl, hr, hb6⟩
  have B6 := Lib.hid (B5.out.trans (hb6.mono B5.out.size))
  have S6 := Lib.hid (S5.out.on hb6)
  have X6 := Lib.hid (X5.out.on hb6)
  have G6 := Lib.hid (G5.out.on hb6)
  have Q6 := Lib.hid (new_rowZ hr)
  have z6 : w5.heap.size ≤ w6.heap.size := hb6.size
  clear hb6 B5 S5 X5 G5 hr
  go_wp2_with fail
  refine (NewI.eq_new _ _ _ _ _ _ _ _ zs (by omega) _ X6.out Q6.out).mono ?_
  rintro e w7 ⟨rfl, hb7⟩
  have B7 := Lib.hid (B6.out.trans (hb7.mono B6.out.size))
  have S7 := Lib.hid (S6.out.on hb7)
  have X7 := Lib.hid (X6.out.on hb7)
  have G7 := Lib.hid (G6.out.on hb7)
  have z7 : w6.heap.size ≤ w7.heap.size := hb7.size
  clear hb7 B6 S6 X6 G6 Q6
  have y2 : w.heap.size ≤ w2.heap.size := by omega
  have y3 : w.heap.size ≤ w3.heap.size := by omega
  go_wp2_with fail
  refine (NewI.mark_new _ _ _ _ _ _ (zc_int zs) (by omega) _ X7.out).mono ?_
  rintro e w8 ⟨rfl, hn', ho⟩
  have sw : w.heap.size ≤ w7.heap.size := B7.out.size
  have B8 := Lib.hid (B7.out.trans (ho.below (by omega) (by omega)))
  have S8 := Lib.hid (S7.out.far ho (.inl (Nat.le_refl _)))
  have G8 := Lib.hid (G7.out.far ho (.inr zx))
  have X8 := Lib.hid hn'
  clear B7 ho hn' sw S7 X7 G7
  clear X8
  go_wp2_with fail
  refine (NewI.eq_new _ _ _ _ _ _ _ _ ys (by omega) _ G8.out S8.out).mono ?_
  rintro e w9 ⟨rfl, hb9⟩
  have B9 := Lib.hid (B8.out.trans (hb9.mono B8.out.size))
  have S9 := Lib.hid (S8.out.on hb9)
  have G9 := Lib.hid (G8.out.on hb9)
  have z9 : w8.heap.size ≤ w9.heap.size := hb9.size
  clear hb9 B8 S8 G8
  go_wp2_with fail
  refine (NewI.mark_new _ _ _ _ _ _ (zc_int ys) (by omega) _ G9.out).mono ?_
  rintro e w10 ⟨rfl, hn', ho⟩
  have sw : w.heap.size ≤ w9.heap.size := B9.out.size
  have B10 := Lib.hid (B9.out.trans (ho.below (by omega) (by omega)))
  have S10 := Lib.hid (S9.out.far ho (.inl z3))
  have G10 := Lib.hid hn'
  clear B9 ho hn' sw S9 G9
  go_wp2_with fail
  refine (NewI.held_new _ _ _ _ _ _ (by omega) _ G10.out).mono ?_
  rintro e w' ⟨rfl, hw'⟩
  subst hw'
  go_wp2_with fail
  refine (HX.out _ B10.out).mono ?_
  rintro e w11 ⟨rfl, hr, hb11⟩
  have B11 := Lib.hid (B10.out.trans (hb11.mono B10.out.size))
  have S11 := Lib.hid (S10.out.on hb11)
  have G11 := Lib.hid (G10.out.on hb11)
  have R11 := Lib.hid (hr)
  have z11 : w10.heap.size ≤ w11.heap.size := hb11.size
  clear hb11 B10 S10 G10 hr
  go_wp2_with fail
  refine (HI.out _ _ R11.out).mono ?_
  rintro e w12 ⟨⟨a12, c12, rfl, hn'⟩, hb12⟩
  have B12 := Lib.hid (B11.out.trans (hb12.mono B11.out.size))
  have S12 := Lib.hid (S11.out.on hb12)
  have G12 := Lib.hid (G11.out.on hb12)
  have H12 := Lib.hid (hn')
  have z12 : w11.heap.size ≤ w12.heap.size := hb12.size
  clear hb12 B11 S11 G11 R11 hn'
  go_wp2_with fail
  refine (NewI.eq_new _ _ _ _ _ _ _ _ ys (by omega) _ H12.out S12.out).mono ?_
  rintro e w13 ⟨rfl, hb13⟩
  have B13 := Lib.hid (B12.out.trans (hb13.mono B12.out.size))
  have G13 := Lib.hid (G12.out.on hb13)
  have z13 : w12.heap.size ≤ w13.heap.size := hb13.size
  clear hb13 B12 S12 G12 H12
  go_wp2_with fail
  refine (NewI.held_new _ _ _ _ _ _ (by omega) _ G13.out).mono ?_
  rintro e w' ⟨rfl, hw'⟩
  subst hw'
  go_wp2
  go_ret
  exact ⟨rfl, B13.out⟩
theorem walkWiresAfter (n : Int) (_hn : (Lit.int .i64 n).wf = true) (v : Value) (zs : List Int) (k : Int) (_hk : (Lit.int .i64 k).wf = true) (w : World) (h : Kit.IntsArg w v zs) :
    Calls Try.prog 4 #[.int .i64 n, v, .int .i64 k] w fun e w' => e = .returned (.bool true) ∧ Below w.heap.size w w' := by
  obtain ⟨a, c, rfl, hl⟩ := len_ints h
  by_cases hx : zs.length ≤ 1048576
  · exact walkAft_in n k _ a c zs hx w h rfl
  · exact walkAft_big n k a c _ hl (by omega) w
end Go.Proofs.Ytfpbehnpaedpmaa.Sg
