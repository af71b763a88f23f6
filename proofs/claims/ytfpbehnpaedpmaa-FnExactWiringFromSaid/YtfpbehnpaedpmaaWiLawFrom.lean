/- FnExactWiringFrom: impl.WiringFrom and spec.WiringFrom answer alike for every argument; the rows are left as they were, and what is handed back is shared with nothing. -/
import Derived.Test.YtfpbehnpaedpmaaRowsLaw
import Derived.Test.YtfpbehnpaedpmaaWiLens
import Derived.Test.YtfpbehnpaedpmaaWjAft
import Derived.Test.YtfpbehnpaedpmaaWjSwaps
import Derived.Test.YtfpbehnpaedpmaaWjFlip
import Derived.Test.YtfpbehnpaedpmaaWjTurn
import Derived.Test.YtfpbehnpaedpmaaWjFrom
namespace Go.Proofs.Ytfpbehnpaedpmaa.Sg
open Go.RowKit Pt NewI NewII Wi
theorem rows_src {w : World} {lo hi b : Nat} {gs : List (Nat × Nat)} {S : List (List Int)} (h : NewII.Rows w lo hi b gs S (org S)) : SrcLL w w.heap.size (some ⟨b, 0, none⟩) S := fun j hj => by
  obtain ⟨g, hg⟩ : ∃ g, gs[j]? = some g := ⟨_, List.getElem?_eq_getElem (by rw [h.len]; exact hj)⟩
  obtain ⟨-, -, -, hc⟩ := h.row j g hg
  exact ⟨b, 0, some ⟨g.1, 0, none⟩, g.2, rfl, h.lt, by rw [Nat.zero_add]; exact h.outer j g hg, fun i hi => ⟨g.1, 0, rfl, hc.lt, by rw [Nat.zero_add, hc.cell i hi]; rfl⟩⟩
set_option maxHeartbeats 3200000 in
set_option maxRecDepth 100000 in
theorem walkWiringFrom (n : Int) (_hn : (Lit.int .i64 n).wf = true) (v : Value) (S : List (List Int)) (w : World) (h : Kit.RowsArg w v S) :
    Calls Try.prog 6 #[.int .i64 n, v] w fun e w' => e = .returned (.bool true) ∧ Below w.heap.size w w' := by
  have HSZ := Lib.hid (szSS_any v S w h)
  have HTO := Lib.hid (fun hl hp W hb => toSS_any v S hl hp w h W hb)
  have B0 := Lib.hid (Below.refl w.heap.size w)
  have hpp := pre_pos S S.length
  clear h
  go_enter Try.func6, Try.ntmps6
  go_wp2_with fail
  refine HSZ.out.mono ?_
  rintro e w' ⟨⟨r, rfl, rfl | ⟨hr0, hr1⟩⟩, hw'⟩
  · subst hw'
    clear HSZ HTO
    go_wp2
    go_ret
    exact ⟨rfl, B0.out⟩
  subst hw'
  have hl : S.length ≤ 1048576 := by omega
  have hp : pre S S.length ≤ 1048577 := by omega
  have hl2 : S.length ≤ 2000000 := by omega
  have hp2 : pre S S.length ≤ 2000000 := by omega
  have k0 : decide (r < 0) = false := decide_eq_false (by omega)
  have hsl : ∀ j, j < S.length → (S.getD j []).length ≤ 1048576 := fun j hj => by
    have h2 := pre_mono S (show j + 1 ≤ S.length by omega)
    rw [pre_step] at h2
    have h3 := pre_pos S j
    omega
  have HX : Hid (∀ W, Below w.heap.size w W → Calls Try.prog 24 #[v] W fun e w' => e = .returned (.slice (some ⟨W.heap.size, 0, none⟩) S.length S.length) ∧ (∃ gs, NewII.Rows w' W.heap.size w'.heap.size W.heap.size gs S (org S)) ∧ Below W.heap.size W w') := Lib.hid (fun W hb => HTO.out hl hp W hb)
  have HS : Hid (∀ lo hi b gs W, NewII.Rows W lo hi b gs S (org S) → Calls Try.prog 23 #[.int .i64 n, .slice (some ⟨b, 0, none⟩) S.length S.length] W fun e w' => Got2Z W.heap.size (wfA (wfZ n S)) (wfZ n S).isSome e w' ∧ Below W.heap.size W w') := Lib.hid (fun lo hi b gs W hr => specWiringFrom n _ _ S hl hsl W (rows_src hr))
  have HI : Hid (∀ lo hi b gs W, NewII.Rows W lo hi b gs S (org S) → Calls Try.prog 25 #[.int .i64 n, .slice (some ⟨b, 0, none⟩) S.length S.length] W fun e w' => Got2Z W.heap.size (wfA (wfZ n S)) (wfZ n S).isSome e w' ∧ Below W.heap.size W w') := Lib.hid (fun lo hi b gs W hr => implWiringFrom n _ _ S hl hsl W (rows_src hr))
  have hyl := wfA_len n S
  generalize wfA (wfZ n S) = ys at HS HI hyl
  generalize (wfZ n S).isSome = qb at HS HI
  have hself1 : (qb != qb) = false := by simp
  have hself2 : (((1 + ys.length : Nat) : Int) != ((1 + ys.length : Nat) : Int)) = false := by simp
  have kp : decide (((pre S S.length : Nat) : Int) < 0) = false := decide_eq_false (by omega)
  clear HSZ HTO hsl hr1 hr0
  go_wp2_with fail
  refine (HX.out _ B0.out).mono ?_
  rintro e w1 ⟨rfl, ⟨gs1, hr⟩, hb1⟩
  have B1 := Lib.hid (B0.out.trans (hb1.mono B0.out.size))
  have R1 := Lib.hid (hr)
  have z1 : w.heap.size ≤ w1.heap.size := hb1.size
  clear hb1 B0 hr
  go_wp2_with fail
  refine (HS.out _ _ _ _ _ R1.out).mono ?_
  rintro e w2 ⟨⟨a2, c2, rfl, hn'⟩, hb2⟩
  have B2 := Lib.hid (B1.out.trans (hb2.mono B1.out.size))
  have S2 := Lib.hid (hn')
  have z2 : w1.heap.size ≤ w2.heap.size := hb2.size
  clear hb2 B1 R1 hn'
  go_wp2_with fail
  refine (HX.out _ B2.out).mono ?_
  rintro e w3 ⟨rfl, ⟨gs3, hr⟩, hb3⟩
  have B3 := Lib.hid (B2.out.trans (hb3.mono B2.out.size))
  have S3 := Lib.hid (S2.out.on hb3)
  have X3 := Lib.hid (hr)
  have z3 : w2.heap.size ≤ w3.heap.size := hb3.size
  clear hb3 B2 S2 hr
  go_wp2_with fail
  refine (HI.out _ _ _ _ _ X3.out).mono ?_
  rintro e w4 ⟨⟨a4, c4, rfl, hn'⟩, hb4⟩
  have B4 := Lib.hid (B3.out.trans (hb4.mono B3.out.size))
  have S4 := Lib.hid (S3.out.on hb4)
  have X4 := Lib.hid (X3.out.on hb4)
  have G4 := Lib.hid (hn')
  have z4 : w3.heap.size ≤ w4.heap.size := hb4.size
  clear hb4 B3 S3 X3 hn'
  go_wp2_with fail
  refine (NewI.eq_new _ _ _ _ _ _ _ _ ys (by omega) _ G4.out S4.out).mono ?_
  rintro e w5 ⟨rfl, hb5⟩
  have B5 := Lib.hid (B4.out.trans (hb5.mono B4.out.size))
  have S5 := Lib.hid (S4.out.on hb5)
  have X5 := Lib.hid (X4.out.on hb5)
  have G5 := Lib.hid (G4.out.on hb5)
  have z5 : w4.heap.size ≤ w5.heap.size := hb5.size
  clear hb5 B4 S4 X4 G4
  go_wp2_with fail
  refine (HX.out _ B5.out).mono ?_
  rintro e w6 ⟨rfl, ⟨gs6, hr⟩, hb6⟩
  have B6 := Lib.hid (B5.out.trans (hb6.mono B5.out.size))
  have S6 := Lib.hid (S5.out.on hb6)
  have X6 := Lib.hid (X5.out.on hb6)
  have G6 := Lib.hid (G5.out.on hb6)
  have Q6 := Lib.hid (hr)
  have z6 : w5.heap.size ≤ w6.heap.size := hb6.size
  clear hb6 B5 S5 X5 G5 hr
  go_wp2_with fail
  refine (eq_rows _ _ _ _ _ _ _ _ _ _ S hp2 hl2 _ X6.out Q6.out).mono ?_
  rintro e w7 ⟨rfl, hb7⟩
  have B7 := Lib.hid (B6.out.trans (hb7.mono B6.out.size))
  have S7 := Lib.hid (S6.out.on hb7)
  have X7 := Lib.hid (X6.out.on hb7)
  have G7 := Lib.hid (G6.out.on hb7)
  have z7 : w6.heap.size ≤ w7.heap.size := hb7.size
  clear hb7 B6 S6 X6 G6 Q6
  have y2 : w.heap.size ≤ w2.heap.size := by omega
  go_wp2_with fail
  refine (mark_rows _ _ _ _ _ S hp2 hl2 _ X7.out).mono ?_
  rintro e w8 ⟨rfl, -, ho⟩
  have sw : w.heap.size ≤ w7.heap.size := B7.out.size
  have B8 := Lib.hid (B7.out.trans (ho.below (by omega) (by omega)))
  have S8 := Lib.hid (S7.out.far ho (.inl (Nat.le_refl _)))
  have G8 := Lib.hid (G7.out.far ho (.inr (Nat.le_refl _)))
  clear ho sw B7 S7 G7 X7
  go_wp2_with fail
  refine (NewI.eq_new _ _ _ _ _ _ _ _ ys (by omega) _ G8.out S8.out).mono ?_
  rintro e w9 ⟨rfl, hb9⟩
  have B9 := Lib.hid (B8.out.trans (hb9.mono B8.out.size))
  have S9 := Lib.hid (S8.out.on hb9)
  have G9 := Lib.hid (G8.out.on hb9)
  have z9 : w8.heap.size ≤ w9.heap.size := hb9.size
  clear hb9 B8 S8 G8
  go_wp2_with fail
  refine (NewI.mark_new _ _ _ _ _ _ (zc_int ys) (by omega) _ G9.out).mono ?_
  rintro e w10 ⟨rfl, hn', ho⟩
  have sw : w.heap.size ≤ w9.heap.size := B9.out.size
  have B10 := Lib.hid (B9.out.trans (ho.below (by omega) (by omega)))
  have S10 := Lib.hid (S9.out.far ho (.inl z3))
  have G10 := Lib.hid hn'
  clear ho sw hn' B9 S9 G9
  go_wp2_with fail
  refine (NewI.held_new _ _ _ _ _ _ (by omega) _ G10.out).mono ?_
  rintro e w' ⟨rfl, hw'⟩
  subst hw'
  go_wp2_with fail
  refine (HX.out _ B10.out).mono ?_
  rintro e w11 ⟨rfl, ⟨gs11, hr⟩, hb11⟩
  have B11 := Lib.hid (B10.out.trans (hb11.mono B10.out.size))
  have S11 := Lib.hid (S10.out.on hb11)
  have G11 := Lib.hid (G10.out.on hb11)
  have R11 := Lib.hid (hr)
  have z11 : w10.heap.size ≤ w11.heap.size := hb11.size
  clear hb11 B10 S10 G10 hr
  go_wp2_with fail
  refine (HI.out _ _ _ _ _ R11.out).mono ?_
  rintro e w12 ⟨⟨a12, c12, rfl, hn'⟩, hb12⟩
  have B12 := Lib.hid (B11.out.trans (hb12.mono B11.out.size))
  have S12 := Lib.hid (S11.out.on hb12)
  have G12 := Lib.hid (G11.out.on hb12)
  have H12 := Lib.hid (hn')
  have z12 : w11.heap.size ≤ w12.heap.size := hb12.size
  clear hb12 B11 S11 G11 R11 hn'
  go_wp2_with fail
  refine (NewI.eq_new _ _ _ _ _ _ _ _ ys (by omega) _ H12.out S12.out).mono ?_
  rintro e w13 ⟨rfl, hb13⟩
  have B13 := Lib.hid (B12.out.trans (hb13.mono B12.out.size))
  have G13 := Lib.hid (G12.out.on hb13)
  have z13 : w12.heap.size ≤ w13.heap.size := hb13.size
  clear hb13 B12 S12 G12 H12
  go_wp2_with fail
  refine (NewI.held_new _ _ _ _ _ _ (by omega) _ G13.out).mono ?_
  rintro e w' ⟨rfl, hw'⟩
  subst hw'
  go_wp2
  go_ret
  exact ⟨rfl, B13.out⟩
end Go.Proofs.Ytfpbehnpaedpmaa.Sg
