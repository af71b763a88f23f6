/- PointsText, as impl and spec write it. -/
import Derived.Test.YticekiniljemeaaDoorPtAre
import Derived.Test.YticekiniljemeaaDoorPtArg
import Derived.Test.YticekiniljemeaaDoorPtNew
import Derived.Test.YticekiniljemeaaDoorFmt
import Derived.Test.YticekiniljemeaaDoorJoin
import Derived.Test.YticekiniljemeaaDoorJoinImpl
import Derived.Deep.AppendLies
import Derived.Deep.Onto
import Derived.Lib.ItoaNum
namespace Go.Proofs.YticekiniljemeaaDoor.PtText
open Go.RowKit Pt
theorem infoS : (Tryd.prog.info? 9).map (fun i => (i.zero, i.size, i.bytes)) = some (some (.string ⟨#[]⟩), 1, 16) := by kernel_rfl
theorem itoa_size (n : Int) (h1 : -50 ≤ n) (h2 : n ≤ 50) : (⟨(Lib.itoa n).toArray⟩ : ByteArray).size ≤ 30 := by
  have key : ∀ u : Nat, u ≤ 50 → (Lib.decDigits u).length ≤ 2 := by
    intro u hu
    rw [Lib.decDigits_length]
    by_cases h10 : u < 10
    · rw [Lib.nDigits_small h10]; omega
    · rw [Lib.nDigits_big (by omega), Lib.nDigits_small (by omega)]; omega
  show (Lib.itoa n).toArray.size ≤ 30
  have h := key n.natAbs (by omega)
  have h' := key n.toNat (by omega)
  unfold Lib.itoa
  split <;> simp <;> omega
/-- The text of a point. -/
def txt (p : P2) : ByteArray := ⟨(Lib.itoa p.1).toArray⟩ ++ ⟨#[44]⟩ ++ ⟨(Lib.itoa p.2).toArray⟩
def OwnsS (w : World) (B : Nat) (v : Value) (xs : List ByteArray) : Prop := w.ownsRow B 9 1 v xs.length (xs.map Value.string)
theorem ownsS_on {w w' : World} {B : Nat} {v : Value} {xs : List ByteArray} (h : OwnsS w B v xs) (hb : Below w.heap.size w w') : OwnsS w' B v xs :=
  World.ownsRow.kept h (row := none) ⟨hb.os, hb.tape, hb.output, hb.size, fun k hk _ => hb.block k hk⟩ (by cases v.ownBlock <;> simp)
/-- A call beside which two cells are read and a row is kept. -/
theorem held2 (w0 : World) (a1 a2 : Addr) (v1 v2 : Value) (B : Nat) (v : Value) (xs : List ByteArray) {f : FuncId} {args : Array Value} {W : World} {r : Value} (h : Calls Tryd.prog f args W fun e w' => e = .returned r ∧ Below W.heap.size W w')
    (hS : W.cell? a1 = some v1 ∧ W.cell? a2 = some v2 ∧ OwnsS W B v xs ∧ Below w0.heap.size w0 W) :
    Calls Tryd.prog f args W fun e w' => e = .returned r ∧ w'.cell? a1 = some v1 ∧ w'.cell? a2 = some v2 ∧ OwnsS w' B v xs ∧ Below w0.heap.size w0 w' :=
  h.mono fun _ _ ⟨he, hb⟩ => ⟨he, by rw [hb.cell (lt_of_cell hS.1)]; exact hS.1, by rw [hb.cell (lt_of_cell hS.2.1)]; exact hS.2.1, ownsS_on hS.2.2.1 hb, hS.2.2.2.trans (hb.mono hS.2.2.2.size)⟩

theorem ownsS_snoc {w : World} {B : Nat} {v : Value} {xs : List ByteArray} {s t : ByteArray} (e : t = s) (h : w.ownsRow B 9 1 v (xs.length + 1) (xs.map Value.string ++ [.string s])) : OwnsS w B v (xs ++ [t]) := by
  subst e
  unfold OwnsS
  rw [List.length_append, List.map_append]
  exact h
theorem ownsS_row {w : World} {B : Nat} {v : Value} {xs : List ByteArray} (h : OwnsS w B v xs) (h0 : 0 < xs.length) : ∃ b c, v = .slice (some ⟨b, 0, none⟩) xs.length c ∧ B ≤ b ∧ b < w.heap.size ∧ Strs.At w b 0 xs := by
  have hlt := World.ownsRow.lt h
  obtain ⟨hl, ⟨rfl, h1⟩ | ⟨g, cap, cur, hv, hB, hh, hr⟩⟩ := id h
  · omega
  · subst hv
    have hc := World.ownsRow.cells h (g := g) rfl
    refine ⟨g, cap, rfl, hB, (hlt g rfl).2, fun j x hx => ?_⟩
    have := hc j (.string x) (by rw [List.getElem?_map, hx]; rfl)
    rwa [WideShapes.add_plain] at this
theorem txt_size {p : P2} (h : fit p 50 = true) : (txt p).size ≤ 61 := by
  obtain ⟨f1, f2, f3, f4⟩ := fit_mem h
  have h1 := itoa_size p.1 f1 f2
  have h2 := itoa_size p.2 f3 f4
  unfold txt
  rw [ByteArray.size_append, ByteArray.size_append]
  show _ + 1 + _ ≤ 61
  omega
theorem tot_le : ∀ (l : List P2), (∀ p ∈ l, fit p 50 = true) → Strs.tot (l.map txt) ≤ 61 * l.length
  | [], _ => by simp [Strs.tot]
  | p :: r, h => by
    have h1 := txt_size (h p (List.mem_cons_self ..))
    have h2 := tot_le r (fun q hq => h q (List.mem_cons_of_mem _ hq))
    simp only [Strs.tot, List.map_cons, List.sum_cons, List.length_cons] at h2 ⊢
    omega
theorem tot_txt (xs : List P2) (h7 : xs.length ≤ 7) (h : ∀ p ∈ xs, fit p 50 = true) : Strs.tot (xs.map txt) ≤ 1048576 := by
  have := tot_le xs h
  omega
theorem after_alloc {w0 W : World} {a1 a2 : Addr} {v1 v2 : Value} {o : Obj} (hS : W.cell? a1 = some v1 ∧ W.cell? a2 = some v2 ∧ Below w0.heap.size w0 W) (_ : True) : (W.alloc o).cell? a1 = some v1 ∧ (W.alloc o).cell? a2 = some v2 ∧ Below w0.heap.size w0 (W.alloc o) :=
  ⟨by rw [World.cell?_alloc_lt _ _ _ (lt_of_cell hS.1)]; exact hS.1, by rw [World.cell?_alloc_lt _ _ _ (lt_of_cell hS.2.1)]; exact hS.2.1, hS.2.2.alloc hS.2.2.size _⟩
theorem after_append {w0 W W1 : World} {b o1 o2 : Nat} {v1 v2 v : Value} {xs : List ByteArray} {o : Obj} (hS : W.cell? ⟨b, o1, none⟩ = some v1 ∧ W.cell? ⟨b, o2, none⟩ = some v2 ∧ Below w0.heap.size w0 W) (hown : OwnsS W w0.heap.size v xs) (hb : b < w0.heap.size) (hg : (W.alloc o).grownBy W1 v.ownBlock) :
    W1.cell? ⟨b, o1, none⟩ = some v1 ∧ W1.cell? ⟨b, o2, none⟩ = some v2 ∧ Below w0.heap.size w0 W1 := by
  have hne : some b ≠ v.ownBlock := fun e => by have := (World.ownsRow.lt hown b e.symm).1; omega
  have hA := after_alloc (o := o) hS trivial
  refine ⟨?_, ?_, hA.2.2.grown hg hA.2.2.size (fun q hq => (World.ownsRow.lt hown q hq).1)⟩
  · rw [hg.cell_far ⟨b, o1, none⟩ (lt_of_cell hA.1) hne]; exact hA.1
  · rw [hg.cell_far ⟨b, o2, none⟩ (lt_of_cell hA.2.1) hne]; exact hA.2.1

set_option maxHeartbeats 1600000 in
set_option maxRecDepth 100000 in
theorem specText_good (b c : Nat) (xs : List P2) (w : World) (hr : RowP w b xs) (h : okB xs = true) :
    Calls Tryd.prog 6 #[.slice (some ⟨b, 0, none⟩) xs.length c] w fun e w' => e = .returned (.string ⟨(Join.J (xs.map txt) ⟨#[32]⟩ (xs.map txt).length).toArray⟩) ∧ Below w.heap.size w w' := by
  obtain ⟨⟨h3, h7⟩, hfit, -⟩ := okB_ok h
  have HF := Lib.hid hfit
  clear hfit
  have hc := hr.at
  have hbw := hr.lt
  have HC := Lib.hid hc
  have HA := Lib.hid (specAre_any b 0 c xs h3 h7 w hc hbw)
  rw [h] at HA
  obtain ⟨i0, hi, hz0, hz1, hz2⟩ := info_parts infoS
  clear hc hr h
  go_enter Tryd.func6, Tryd.ntmps6
  go_wp2_with fail
  refine HA.out.mono ?_
  rintro e w1 ⟨rfl, hb1⟩
  go_wp2
  have hown0 : OwnsS (w1.alloc (.cells #[] 9)) w1.heap.size (.slice (some ⟨w1.heap.size, 0, none⟩) 0 0) [] := World.ownsRow_made w1 #[] 0 (Nat.le_refl _) (by decide) rfl
  have HO : Hid (OwnsS (w1.alloc (.cells #[] 9)) w.heap.size (.slice (some ⟨w1.heap.size, 0, none⟩) 0 0) []) := Lib.hid (World.ownsRow.mono hown0 hb1.size)
  have HB0 := Lib.hid (hb1.alloc hb1.size (.cells #[] 9))
  clear hown0
  go_loopw [3, 4] (fun vv i wr => ∃ (m : Nat) (v : Value) (ys : List ByteArray), m ≤ xs.length ∧ i = .int .i64 m ∧ vv = v ∧ Hid (ys = (xs.take m).map txt) ∧ ys.length ≤ 7 ∧ OwnsS wr w.heap.size v ys ∧ Below w.heap.size w wr) (fun _ i _ => xs.length - (intOf i).toNat)
  case atStart => exact ⟨0, _, [], Nat.zero_le _, rfl, rfl, Lib.hid rfl, by simp, HO.out, HB0.out⟩
  case round =>
    obtain ⟨m, v, ys, hm, rfl, rfl, HY, hyl, hown, hb⟩ := hrel
    by_cases hlt : m < xs.length
    · obtain ⟨x0, y0⟩ := (HC.out.on hb hbw).get m hlt
      simp only [Nat.zero_add] at x0 y0
      have ha? := List.getElem?_eq_getElem hlt
      have hmem := List.getElem_mem hlt
      generalize xs[m] = p at x0 y0 ha? hmem
      obtain ⟨f1, f2, f3, f4⟩ := fit_mem (HF.out p hmem)
      have HT : Hid (ys ++ [txt p] = (xs.take (m + 1)).map txt) := Lib.hid (by rw [List.take_add_one, ha?, HY.out]; simp)
      obtain ⟨A, hA⟩ : ∃ A : ByteArray, A = ⟨(Lib.itoa p.1).toArray⟩ := ⟨_, rfl⟩
      obtain ⟨C, hC⟩ : ∃ C : ByteArray, C = ⟨(Lib.itoa p.2).toArray⟩ := ⟨_, rfl⟩
      have hAs : A.size ≤ 30 := by rw [hA]; exact itoa_size p.1 f1 f2
      have hCs : C.size ≤ 30 := by rw [hC]; exact itoa_size p.2 f3 f4
      have HAC : Hid (txt p = A ++ ⟨#[44]⟩ ++ C) := Lib.hid (by rw [hA, hC]; rfl)
      have HX : Hid (∀ W, Calls Tryd.prog 15 #[.int .i64 p.1] W fun e w' => e = .returned (.string A) ∧ Below W.heap.size W w') := Lib.hid (fun W => by rw [hA]; exact Fmt.spec_any _ (by omega) (by omega) W)
      have HZ : Hid (∀ W, Calls Tryd.prog 15 #[.int .i64 p.2] W fun e w' => e = .returned (.string C) ∧ Below W.heap.size W w') := Lib.hid (fun W => by rw [hC]; exact Fmt.spec_any _ (by omega) (by omega) W)
      have hAs2 : (A ++ ⟨#[44]⟩ : ByteArray).size ≤ 31 := by rw [ByteArray.size_append]; show A.size + 1 ≤ 31; omega
      have HL : Hid ((ys ++ [txt p]).length ≤ 7) := Lib.hid (by rw [HT.out, List.length_map, List.length_take]; omega)
      have hr1 : ∀ W, (Op.stringOp .add A ⟨#[44]⟩).run Tryd.prog W = .ok (.string (A ++ ⟨#[44]⟩)) W := fun W => run_string_add_sum W _ _ (by show A.size + 1 ≤ _; omega)
      have hr2 : ∀ W, (Op.stringOp .add (A ++ ⟨#[44]⟩) C).run Tryd.prog W = .ok (.string (A ++ ⟨#[44]⟩ ++ C)) W := fun W => run_string_add_sum W _ _ (by omega)
      clear hmem ha? hA hC
      go_wp2
      go_region_held3 (fun W => W.cell? ⟨b, m * 2, none⟩ = some (.int .i64 p.1) ∧ W.cell? ⟨b, m * 2 + 1, none⟩ = some (.int .i64 p.2) ∧ Below w.heap.size w W)
        (first | exact ⟨x0, y0, hb⟩ | exact ⟨x0, y0, hb.drew⟩ | exact hk | exact after_alloc ⟨c1, c2, c4⟩ trivial | (refine ⟨?_, ?_, ?_⟩ <;> assumption))
        (first
        | (go_at_call 15; (first | with_reducible refine (held2 w ⟨b, m * 2, none⟩ ⟨b, m * 2 + 1, none⟩ (.int .i64 p.1) (.int .i64 p.2) w.heap.size u3 ys (HX.out _) ?_).mono ?_ | with_reducible refine (held2 w ⟨b, m * 2, none⟩ ⟨b, m * 2 + 1, none⟩ (.int .i64 p.1) (.int .i64 p.2) w.heap.size u3 ys (HZ.out _) ?_).mono ?_); (first | exact ⟨x0, y0, hown, hb⟩ | exact ⟨x0, y0, hown, hb.drew⟩ | (refine ⟨?_, ?_, ?_, ?_⟩ <;> assumption)); rintro e w' ⟨rfl, c1, c2, c3, c4⟩)
        | (refine step_append_lies _ (by rfl) _ _ _ (by rfl) w.heap.size 9 i0 _ 1 16 Tryd.underlying34 hi hz0 hz1 hz2 rfl (by omega) u3 ys.length (ys.map Value.string) (by rfl) (World.ownsRow.alloc c3 _) ⟨w'.heap.size, 0, none⟩ 1 1 [.string (A ++ ⟨#[44]⟩ ++ C)] (by rfl) (by rfl) (World.news_of_block (cs := #[.string (A ++ ⟨#[44]⟩ ++ C)]) (t := 9) (fr := (0, 0)) (heap_alloc_new w' _)) (by simp [Value.oneCell']) (by omega) (by simp only [maxLen]; omega) (by omega) (by have := c4.size; simp; omega) (w'.heap.size + 1) (by simp) ?_; intro gg cap w2 hown1 hgrow hat hlt2; have hk := after_append ⟨c1, c2, c4⟩ c3 hbw hgrow; have HO1 := Lib.hid (ownsS_snoc HAC.out hown1); clear hown1))
      all_goals go_wp2
      all_goals exact ⟨⟨m + 1, _, ys ++ [txt p], by omega, by go_num, rfl, HT, HL.out, HO1.out, hk.2.2⟩, by simp only [intOf]; omega⟩
    · have e : m = xs.length := by omega
      have HZ : Hid (ys = xs.map txt) := Lib.hid (by rw [HY.out, e, List.take_length])
      obtain ⟨g, cg, rfl, hg0, hg1, hat⟩ := ownsS_row hown (by rw [HZ.out, List.length_map]; omega)
      have HJ := Lib.hid (Join.spec_any g 0 cg ys ⟨#[32]⟩ (by omega) (show 1 ≤ _ by omega) (by rw [HZ.out]; exact tot_txt xs h7 HF.out) wr hat hg1)
      clear e hown hat
      go_wp2_with fail
      refine HJ.out.mono ?_
      rintro e w2 ⟨rfl, hb2⟩
      have B2 := hb.trans (hb2.mono hb.size)
      go_wp2
      go_ret
      exact ⟨by rw [HZ.out]; rfl, B2⟩
end Go.Proofs.YticekiniljemeaaDoor.PtText
