/- impl.PointsText; FnExactPointsText. -/
import Derived.Test.YticekiniljemeaaDoorPtText
import Derived.Test.YticekiniljemeaaDoorFmtImpl
namespace Go.Proofs.YticekiniljemeaaDoor.PtText
open Go.RowKit Pt
/-- A call beside which two cells and a row of strings are kept. -/
theorem heldRow (w0 : World) (a1 a2 : Addr) (v1 v2 : Value) (B n : Nat) (f : Nat → Value) {g : FuncId} {args : Array Value} {W : World} {r : Value} (h : Calls Tryd.prog g args W fun e w' => e = .returned r ∧ Below W.heap.size W w')
    (hS : W.cell? a1 = some v1 ∧ W.cell? a2 = some v2 ∧ W.rowIs B 9 n f ∧ Below w0.heap.size w0 W) :
    Calls Tryd.prog g args W fun e w' => e = .returned r ∧ w'.cell? a1 = some v1 ∧ w'.cell? a2 = some v2 ∧ w'.rowIs B 9 n f ∧ Below w0.heap.size w0 w' :=
  h.mono fun _ _ ⟨he, hb⟩ => ⟨he, by rw [hb.cell (lt_of_cell hS.1)]; exact hS.1, by rw [hb.cell (lt_of_cell hS.2.1)]; exact hS.2.1, Pt.row_on hS.2.2.1 hb hS.2.2.1.lt, hS.2.2.2.trans (hb.mono hS.2.2.2.size)⟩
theorem after_store {w0 W : World} {b o1 o2 g k : Nat} {v1 v2 u : Value} (hS : W.cell? ⟨b, o1, none⟩ = some v1 ∧ W.cell? ⟨b, o2, none⟩ = some v2 ∧ Below w0.heap.size w0 W) (hne : g ≠ b) (hg : w0.heap.size ≤ g) :
    (W.setCell ⟨g, k, none⟩ u).cell? ⟨b, o1, none⟩ = some v1 ∧ (W.setCell ⟨g, k, none⟩ u).cell? ⟨b, o2, none⟩ = some v2 ∧ Below w0.heap.size w0 (W.setCell ⟨g, k, none⟩ u) :=
  ⟨by rw [World.cell?_setCell_other W _ _ u (fun e => hne (by injection e))]; exact hS.1, by rw [World.cell?_setCell_other W _ _ u (fun e => hne (by injection e))]; exact hS.2.1, hS.2.2.setCell (p := ⟨g, k, none⟩) hg u⟩
theorem sofar_next (ys : List ByteArray) (k : Nat) (s : ByteArray) (h : ys[k]? = some s) (n i : Nat) (_ : i < n) : (if i = k then Value.string s else Strs.sofar ys k i) = Strs.sofar ys (k + 1) i := by
  obtain ⟨hlt, rfl⟩ := List.getElem?_eq_some_iff.1 h
  unfold Strs.sofar
  by_cases e : i = k
  · subst e; rw [if_pos rfl, if_pos (by omega), Strs.strAt_lt ys i hlt]
  · rw [if_neg e]
    by_cases h2 : i < k
    · rw [if_pos h2, if_pos (by omega)]
    · rw [if_neg h2, if_neg (by omega)]

set_option maxHeartbeats 1600000 in
set_option maxRecDepth 100000 in
theorem implText_good (b c : Nat) (xs : List P2) (w0 w : World) (hw : Below w0.heap.size w0 w) (HTab : Hid (∀ W, Below w0.heap.size w0 W → Lib.TabIs Tryd.prog W "internal/strconv.uint64pow10" .u64 Lib.pow10Tab)) (hr : RowP w b xs) (h : okB xs = true) :
    Calls Tryd.prog 8 #[.slice (some ⟨b, 0, none⟩) xs.length c] w fun e w' => e = .returned (.string ⟨(Join.J (xs.map txt) ⟨#[32]⟩ (xs.map txt).length).toArray⟩) ∧ Below w.heap.size w w' := by
  obtain ⟨⟨h3, h7⟩, hfit, -⟩ := okB_ok h
  have HF := Lib.hid hfit
  clear hfit
  have hc := hr.at
  have hbw := hr.lt
  have HC := Lib.hid hc
  have HA := Lib.hid (implAre_any b 0 c xs h3 h7 w hc hbw)
  rw [h] at HA
  have HFI : Hid (∀ (n : Int) (W : World), Below w.heap.size w W → -50 ≤ n → n ≤ 50 → Calls Tryd.prog 19 #[.int .i64 n] W fun e w' => e = .returned (.string ⟨(Lib.itoa n).toArray⟩) ∧ Below W.heap.size W w') :=
    Lib.hid (fun n W hW h1 h2 => FmtImpl.impl_any n (by omega) (by omega) W (HTab.out W (hw.trans (hW.mono hw.size))))
  clear HTab hw
  obtain ⟨ys, hys⟩ : ∃ ys, ys = xs.map txt := ⟨_, rfl⟩
  have HY := Lib.hid hys
  have HYL : Hid (ys.length = xs.length) := Lib.hid (by rw [hys, List.length_map])
  have hmk := run_make_row' (P := Tryd.prog) 34 9 (.string ⟨#[]⟩) 16 Tryd.underlying34 infoS rfl .i64 .i64 xs.length (by omega) (by omega)
  clear hc hr h hys
  go_enter Tryd.func8, Tryd.ntmps8
  go_wp2_with fail
  refine HA.out.mono ?_
  rintro e w1 ⟨rfl, hb1⟩
  go_wp2
  have H0 := Lib.hid ((World.rowIs_made w1 (.string ⟨#[]⟩) xs.length 9).congr (g := Strs.sofar ys 0) (fun i _ => by simp [Strs.sofar]))
  have HB0 := Lib.hid (hb1.alloc hb1.size (.cells (madeCells #[.string ⟨#[]⟩] xs.length) 9))
  have hB1 := hb1.size
  go_loopw [14] (fun i wr => ∃ m : Nat, m ≤ xs.length ∧ i = .int .i64 m ∧ wr.rowIs w1.heap.size 9 xs.length (Strs.sofar ys m) ∧ Below w.heap.size w wr) (fun i _ => xs.length - (intOf i).toNat)
  case atStart => exact ⟨0, Nat.zero_le _, rfl, H0.out, HB0.out⟩
  case round =>
    obtain ⟨m, hm, rfl, hrow, hb⟩ := hrel
    by_cases hlt : m < xs.length
    · obtain ⟨x0, y0⟩ := (HC.out.on hb hbw).get m hlt
      simp only [Nat.zero_add] at x0 y0
      have ha? := List.getElem?_eq_getElem hlt
      have hmem := List.getElem_mem hlt
      have hym : ys[m]? = some (txt xs[m]) := by rw [HY.out, List.getElem?_map, ha?]; rfl
      have HN := Lib.hid (sofar_next ys m _ hym xs.length)
      generalize xs[m] = p at x0 y0 ha? hmem HN hym
      obtain ⟨f1, f2, f3, f4⟩ := fit_mem (HF.out p hmem)
      obtain ⟨A, hA⟩ : ∃ A : ByteArray, A = ⟨(Lib.itoa p.1).toArray⟩ := ⟨_, rfl⟩
      obtain ⟨C, hC⟩ : ∃ C : ByteArray, C = ⟨(Lib.itoa p.2).toArray⟩ := ⟨_, rfl⟩
      have hAs : A.size ≤ 30 := by rw [hA]; exact itoa_size p.1 f1 f2
      have hCs : C.size ≤ 30 := by rw [hC]; exact itoa_size p.2 f3 f4
      have HAC : Hid (txt p = A ++ ⟨#[44]⟩ ++ C) := Lib.hid (by rw [hA, hC]; rfl)
      have HX : Hid (∀ W, Below w.heap.size w W → Calls Tryd.prog 19 #[.int .i64 p.1] W fun e w' => e = .returned (.string A) ∧ Below W.heap.size W w') := Lib.hid (fun W hW => by rw [hA]; exact HFI.out p.1 W hW f1 f2)
      have HZ : Hid (∀ W, Below w.heap.size w W → Calls Tryd.prog 19 #[.int .i64 p.2] W fun e w' => e = .returned (.string C) ∧ Below W.heap.size W w') := Lib.hid (fun W hW => by rw [hC]; exact HFI.out p.2 W hW f3 f4)
      have hAs2 : (A ++ ⟨#[44]⟩ : ByteArray).size ≤ 31 := by rw [ByteArray.size_append]; show A.size + 1 ≤ 31; omega
      have hr1 : ∀ W, (Op.stringOp .add A ⟨#[44]⟩).run Tryd.prog W = .ok (.string (A ++ ⟨#[44]⟩)) W := fun W => run_string_add_sum W _ _ (by show A.size + 1 ≤ _; omega)
      have hr2 : ∀ W, (Op.stringOp .add (A ++ ⟨#[44]⟩) C).run Tryd.prog W = .ok (.string (A ++ ⟨#[44]⟩ ++ C)) W := fun W => run_string_add_sum W _ _ (by omega)
      have hbr : b < wr.heap.size := Nat.lt_of_lt_of_le hbw hb.size
      have hrl := hrow.lt
      have hgb : w1.heap.size ≠ wr.heap.size := by omega
      clear hmem ha? hA hC hym
      have HN2 : Hid (∀ i, i < xs.length → (if i = m then Value.string (A ++ ⟨#[44]⟩ ++ C) else Strs.sofar ys m i) = Strs.sofar ys (m + 1) i) := Lib.hid (by rw [← HAC.out]; exact HN.out)
      have s1 : (wr.alloc (.cells #[.int .i64 p.1, .int .i64 p.2] 37)).cell? ⟨wr.heap.size, 0, none⟩ = some (.int .i64 p.1) := by rw [World.cell?_alloc_new]; rfl
      have s2 : (wr.alloc (.cells #[.int .i64 p.1, .int .i64 p.2] 37)).cell? ⟨wr.heap.size, 1, none⟩ = some (.int .i64 p.2) := by rw [World.cell?_alloc_new]; rfl
      have s3 := hrow.alloc (.cells #[.int .i64 p.1, .int .i64 p.2] 37)
      have s4 := hb.alloc hb.size (.cells #[.int .i64 p.1, .int .i64 p.2] 37)
      clear hrow
      go_wp2
      go_region_held3 (fun W => W.cell? ⟨wr.heap.size, 0, none⟩ = some (.int .i64 p.1) ∧ W.cell? ⟨wr.heap.size, 1, none⟩ = some (.int .i64 p.2) ∧ Below w.heap.size w W)
        (first | exact ⟨s1, s2, s4⟩ | exact ⟨s1, s2, s4.drew⟩ | exact hk | (refine ⟨?_, ?_, ?_⟩ <;> assumption))
        (first
        | (go_at_call 19; (first | with_reducible refine (heldRow w ⟨wr.heap.size, 0, none⟩ ⟨wr.heap.size, 1, none⟩ (.int .i64 p.1) (.int .i64 p.2) w1.heap.size xs.length (Strs.sofar ys m) (HX.out _ ?_) ?_).mono ?_ | with_reducible refine (heldRow w ⟨wr.heap.size, 0, none⟩ ⟨wr.heap.size, 1, none⟩ (.int .i64 p.1) (.int .i64 p.2) w1.heap.size xs.length (Strs.sofar ys m) (HZ.out _ ?_) ?_).mono ?_); (first | exact s4 | exact s4.drew | assumption); (first | exact ⟨s1, s2, s3, s4⟩ | exact ⟨s1, s2, s3.drew, s4.drew⟩ | (refine ⟨?_, ?_, ?_, ?_⟩ <;> assumption)); rintro e w' ⟨rfl, c1, c2, c3, c4⟩; have hd : w'.cell? ⟨w1.heap.size, m, none⟩ = some (.string ⟨#[]⟩) := (by rw [c3.cell hlt]; unfold Strs.sofar; rw [if_neg (by omega)]); have hfz := c3.frozen m; have hk := after_store (g := w1.heap.size) (k := m) (u := .string (A ++ ⟨#[44]⟩ ++ C)) ⟨c1, c2, c4⟩ hgb hB1; have HR := Lib.hid ((c3.set m (.string (A ++ ⟨#[44]⟩ ++ C))).congr (g := Strs.sofar ys (m + 1)) (fun i hi => HN2.out i hi))))
      all_goals go_wp2
      all_goals exact ⟨⟨m + 1, by omega, by go_num, HR.out, hk.2.2⟩, by simp only [intOf]; omega⟩
    · have HR := Lib.hid (hrow.congr (g := Strs.strAt ys) (fun i hi => by unfold Strs.sofar; rw [if_pos (by omega)]))
      have hrl := hrow.lt
      have hat : Strs.At wr w1.heap.size 0 ys := Strs.At.of_row (by rw [HYL.out]; exact HR.out)
      have HJ := Lib.hid (Join.impl_any w1.heap.size 0 xs.length ys ⟨#[32]⟩ (by have := HYL.out; omega) (by rw [HYL.out]; exact Nat.le_refl _) (show 1 ≤ _ by omega) (by rw [HY.out]; exact tot_txt xs h7 HF.out) wr hat hrl)
      rw [HYL.out] at HJ
      have HE : Hid (Join.J ys ⟨#[32]⟩ xs.length = Join.J (xs.map txt) ⟨#[32]⟩ (xs.map txt).length) := Lib.hid (by rw [← HY.out, HYL.out])
      clear hrow hat
      go_wp2_with fail
      refine HJ.out.mono ?_
      rintro e w2 ⟨rfl, hb2⟩
      have B2 := hb.trans (hb2.mono hb.size)
      go_wp2
      go_ret
      exact ⟨Strs.ret_str HE.out, B2⟩

/-- The text of points; none for others. -/
noncomputable def textB (xs : List P2) : ByteArray := if okB xs = true then ⟨(Join.J (xs.map txt) ⟨#[32]⟩ (xs.map txt).length).toArray⟩ else ⟨#[]⟩
theorem textB_yes {xs : List P2} (h : okB xs = true) : textB xs = ⟨(Join.J (xs.map txt) ⟨#[32]⟩ (xs.map txt).length).toArray⟩ := by unfold textB; rw [if_pos h]
theorem textB_no {xs : List P2} (h : okB xs = false) : textB xs = ⟨#[]⟩ := by unfold textB; rw [h]; rfl
theorem ret_string {a b : ByteArray} (h : a = b) : Ending.returned (.string a) = .returned (.string b) := by rw [h]
set_option maxRecDepth 100000 in
theorem specText_bad (b c : Nat) (xs : List P2) (hx : xs.length ≤ 1048576) (w : World) (hr : RowP w b xs) (h : okB xs = false) :
    Calls Tryd.prog 6 #[.slice (some ⟨b, 0, none⟩) xs.length c] w fun e w' => e = .returned (.string (textB xs)) ∧ Below w.heap.size w w' := by
  have HE := Lib.hid (textB_no h)
  have HA := Lib.hid (specAre b 0 c xs (by omega) w hr.at hr.lt)
  rw [h] at HA
  clear hr
  go_enter Tryd.func6, Tryd.ntmps6
  go_wp2_with fail
  refine HA.out.mono ?_
  rintro e w1 ⟨rfl, B1⟩
  go_wp2
  go_ret
  exact ⟨ret_string HE.out.symm, B1⟩
set_option maxRecDepth 100000 in
theorem implText_bad (b c : Nat) (xs : List P2) (hx : xs.length ≤ 1048576) (w : World) (hr : RowP w b xs) (h : okB xs = false) :
    Calls Tryd.prog 8 #[.slice (some ⟨b, 0, none⟩) xs.length c] w fun e w' => e = .returned (.string (textB xs)) ∧ Below w.heap.size w w' := by
  have HE := Lib.hid (textB_no h)
  have HA := Lib.hid (implAre b 0 c xs (by omega) w hr.at hr.lt)
  rw [h] at HA
  clear hr
  go_enter Tryd.func8, Tryd.ntmps8
  go_wp2_with fail
  refine HA.out.mono ?_
  rintro e w1 ⟨rfl, B1⟩
  go_wp2
  go_ret
  exact ⟨ret_string HE.out.symm, B1⟩
theorem specText (b c : Nat) (xs : List P2) (hx : xs.length ≤ 1048576) (w : World) (hr : RowP w b xs) :
    Calls Tryd.prog 6 #[.slice (some ⟨b, 0, none⟩) xs.length c] w fun e w' => e = .returned (.string (textB xs)) ∧ Below w.heap.size w w' := by
  cases h : okB xs
  · exact specText_bad b c xs hx w hr h
  · rw [textB_yes h]; exact specText_good b c xs w hr h
theorem implText (b c : Nat) (xs : List P2) (hx : xs.length ≤ 1048576) (w0 w : World) (hw : Below w0.heap.size w0 w) (HTab : Hid (∀ W, Below w0.heap.size w0 W → Lib.TabIs Tryd.prog W "internal/strconv.uint64pow10" .u64 Lib.pow10Tab)) (hr : RowP w b xs) :
    Calls Tryd.prog 8 #[.slice (some ⟨b, 0, none⟩) xs.length c] w fun e w' => e = .returned (.string (textB xs)) ∧ Below w.heap.size w w' := by
  cases h : okB xs
  · exact implText_bad b c xs hx w hr h
  · rw [textB_yes h]; exact implText_good b c xs w0 w hw HTab hr h

set_option maxRecDepth 100000 in
set_option maxHeartbeats 800000 in
theorem walkText_in (a : Option Addr) (c : Nat) (xs : List P2) (hx : xs.length ≤ 1048576) (w : World) (hs : Src w a c xs) (htab : Lib.TabIs Tryd.prog w "internal/strconv.uint64pow10" .u64 Lib.pow10Tab) :
    Calls Tryd.prog 3 #[.slice a xs.length c] w fun e w' => e = .returned (.bool true) ∧ Below w.heap.size w w' := by
  have z1 := szN_pos (left := 1048576) (n := xs.length) (by omega)
  have HX := Lib.hid (fun W h => to_arg a c xs hx W (Src.on hs h))
  obtain ⟨s, hs'⟩ : ∃ s, s = textB xs := ⟨_, rfl⟩
  have HS : Hid (∀ (b c : Nat) (W : World), RowP W b xs → Calls Tryd.prog 6 #[.slice (some ⟨b, 0, none⟩) xs.length c] W fun e w' => e = .returned (.string s) ∧ Below W.heap.size W w') := Lib.hid (fun b c W h => by rw [hs']; exact specText b c xs hx W h)
  have HI : Hid (∀ (b c : Nat) (W : World), Below w.heap.size w W → RowP W b xs → Calls Tryd.prog 8 #[.slice (some ⟨b, 0, none⟩) xs.length c] W fun e w' => e = .returned (.string s) ∧ Below W.heap.size W w') := Lib.hid (fun b c W hW h => by rw [hs']; exact implText b c xs hx w W hW (Lib.hid (Lib.tabBelow_of_tabIs htab)) h)
  have hself : (s.toList != s.toList) = false := by simp
  clear hs' hs htab
  go_enter Tryd.func3, Tryd.ntmps3
  go_wp2_with fail
  refine (sz_any _ _ _ _ (by omega) (by omega) (by omega) _).mono ?_
  rintro e w' ⟨rfl, rfl⟩
  go_wp2_with fail
  refine (HX.out _ (Below.refl _ _)).mono ?_
  rintro e w1 ⟨rfl, hr1, B1⟩
  have R1 := Lib.hid hr1
  clear hr1
  go_wp2_with fail
  refine (HS.out _ _ _ R1.out).mono ?_
  rintro e w2 ⟨rfl, hb2⟩
  have B2 := B1.trans (hb2.mono B1.size)
  go_wp2_with fail
  refine (HX.out _ B2).mono ?_
  rintro e w3 ⟨rfl, hr3, hb3⟩
  have B3 := B2.trans (hb3.mono B2.size)
  have R3 := Lib.hid hr3
  clear hr3
  go_wp2_with fail
  refine (HI.out _ _ _ B3 R3.out).mono ?_
  rintro e w4 ⟨rfl, hb4⟩
  have B4 := B3.trans (hb4.mono B3.size)
  have R4 := Lib.hid (R3.out.on hb4)
  go_wp2_with fail
  refine (HX.out _ B4).mono ?_
  rintro e w5 ⟨rfl, hr5, hb5⟩
  have B5 := B4.trans (hb5.mono B4.size)
  have R5 := Lib.hid hr5
  have R45 := Lib.hid (R4.out.on hb5)
  clear hr5
  go_wp2_with fail
  refine (eq_rows _ _ _ _ xs (by omega) _ R45.out R5.out).mono ?_
  rintro e w6 ⟨rfl, hb6⟩
  have B6 := B5.trans (hb6.mono B5.size)
  go_wp2
  go_ret
  exact ⟨rfl, B6⟩
set_option maxRecDepth 100000 in
theorem walkText_big (a : Option Addr) (c n : Nat) (hn : n ≤ 9223372036854775807) (h1 : (1048576 : Int) < n) (w : World) :
    Calls Tryd.prog 3 #[.slice a n c] w fun e w' => e = .returned (.bool true) ∧ Below w.heap.size w w' := by
  have z1 := szN_neg (left := 1048576) (n := n) (by omega)
  go_enter Tryd.func3, Tryd.ntmps3
  go_wp2_with fail
  refine (sz_any _ _ _ _ (by omega) (by omega) (by omega) _).mono ?_
  rintro e w' ⟨rfl, rfl⟩
  go_wp2
  go_ret
  exact ⟨rfl, Below.refl _ _⟩
theorem walkText (v : Value) (xs : List P2) (w : World) (h : PtsArg w v xs) (htab : Lib.TabIs Tryd.prog w "internal/strconv.uint64pow10" .u64 Lib.pow10Tab) :
    Calls Tryd.prog 3 #[v] w fun e w' => e = .returned (.bool true) ∧ Below w.heap.size w w' := by
  obtain ⟨a, c, rfl, hx, -, hs⟩ := h
  by_cases hsum : (xs.length : Int) ≤ 1048576
  · exact walkText_in a c xs (by omega) w hs htab
  · exact walkText_big a c _ hx (by omega) w
end Go.Proofs.YticekiniljemeaaDoor.PtText
