/- ShearPoints, as impl and spec reckon it. -/
import Derived.Test.YticekiniljemeaaPtNew
import Derived.Test.YticekiniljemeaaPtAre
import Derived.RegionTactic
import Derived.ChangeAlike
import Derived.BigRegion
import Derived.Deep.Onto
namespace Go.Proofs.Yticekiniljemeaa.Pt
open Go.RowKit
def shear (k : Int) (p : P2) : P2 := (p.1, p.2 + k * p.1)
open Classical in
noncomputable def shearB (xs : List P2) (k : Int) : Bool := okB xs && inB k (-100) 100 && decide (∀ p ∈ xs, fit (shear k p) 50 = true)
noncomputable def shearR (xs : List P2) (k : Int) : List P2 := if shearB xs k = true then xs.map (shear k) else []
theorem shearB_no {xs : List P2} {k : Int} (h : okB xs = false ∨ inB k (-100) 100 = false) : shearB xs k = false := by unfold shearB; rcases h with h | h <;> simp [h]
theorem shearB_out {xs : List P2} {k : Int} {p : P2} (hm : p ∈ xs) (h : fitB p.1 (p.2 + k * p.1) 50 = false) : shearB xs k = false := by
  have hn : ¬ ∀ p ∈ xs, fit (shear k p) 50 = true := fun hk => by have := hk p hm; unfold fit shear at this; simp only at this; rw [h] at this; cases this
  unfold shearB
  rw [decide_eq_false hn]
  simp
def ShAll (xs : List P2) (k : Int) (m : Nat) : Prop := ∀ (j : Nat) p, j < m → xs[j]? = some p → fit (shear k p) 50 = true
theorem ShAll.zero (xs : List P2) (k : Int) : ShAll xs k 0 := fun j p h => by omega
theorem ShAll.step {xs : List P2} {k : Int} {m : Nat} (h : ShAll xs k m) {p : P2} (hp : xs[m]? = some p) (hf : fitB p.1 (p.2 + k * p.1) 50 = true) : ShAll xs k (m + 1) := fun j q hj hq => by
  by_cases e : j = m
  · subst e; rw [hp] at hq; cases hq; exact hf
  · exact h j q (by omega) hq
theorem shearB_yes {xs : List P2} {k : Int} (h1 : okB xs = true) (h2 : inB k (-100) 100 = true) (h : ShAll xs k xs.length) : shearB xs k = true := by
  have hn : ∀ p ∈ xs, fit (shear k p) 50 = true := fun p hp => by
    obtain ⟨i, hi, rfl⟩ := List.mem_iff_getElem.1 hp
    exact h i _ hi (List.getElem?_eq_getElem hi)
  unfold shearB
  simp only [h1, h2, Bool.and_self, Bool.true_and, decide_eq_true_eq]
  exact hn
theorem shearR_no {xs : List P2} {k : Int} (h : shearB xs k = false) : shearR xs k = [] := by unfold shearR; rw [h]; rfl
theorem shearR_yes {xs : List P2} {k : Int} (h : shearB xs k = true) : shearR xs k = xs.map (shear k) := by unfold shearR; rw [if_pos h]
theorem shear_mul {k x : Int} (h1 : -100 ≤ k) (h2 : k ≤ 100) (h3 : -50 ≤ x) (h4 : x ≤ 50) : -10000 ≤ k * x ∧ k * x ≤ 10000 := mul_bound (m := 100) h1 h2 (by omega) (by omega)

/-- What the call hands back: a slice of its own, and whether there is one. -/
def Got (B : Nat) (ys : List P2) (z : Bool) (e : Ending) (w' : World) : Prop := ∃ a c, e = .returned (.tuple #[.slice a ys.length c, .bool z]) ∧ New w' B w'.heap.size a ys.length (ptCell ys)
theorem Got.none_ {B : Nat} {a : Option Addr} {c : Nat} {w' : World} : Got B [] false (.returned (.tuple #[.slice a 0 c, .bool false])) w' := ⟨a, c, rfl, .inl rfl⟩

theorem sofar_step' (ys : List P2) (m : Nat) (q : P2) (h : ys[m]? = some q) (n : Nat) (hn : n ≤ ys.length * 2) (i : Nat) (hi : i < n) :
    (if i = m * 2 + 1 then Value.int .i64 q.2 else if i = m * 2 then Value.int .i64 q.1 else sofar ys (m * 2) i) = sofar ys ((m + 1) * 2) i := by
  obtain ⟨hlt, rfl⟩ := List.getElem?_eq_some_iff.1 h
  exact sofar_step ys m hlt i (by omega)
theorem owns_on {w w' : World} {B : Nat} {v : Value} {xs : List P2} (h : Owns w B v xs) (hb : Below w.heap.size w w') : Owns w' B v xs :=
  World.ownsRow.kept h (row := none) ⟨hb.os, hb.tape, hb.output, hb.size, fun k hk _ => hb.block k hk⟩ (by cases v.ownBlock <;> simp)
theorem owns_alloc {w : World} {B : Nat} {v : Value} {xs : List P2} (h : Owns w B v xs) (o : Obj) : Owns (w.alloc o) B v xs := World.ownsRow.alloc h o
theorem owns_drew {w : World} {B : Nat} {v : Value} {xs : List P2} (h : Owns w B v xs) : Owns w.drew B v xs := h
theorem below_call2 {B : Nat} {a b c : World} (h2 : Below b.heap.size b c) (h1 : Below B a b) (hB : B ≤ a.heap.size) : Below B a c := h1.trans (h2.mono (Nat.le_trans hB h1.size))
theorem map_take_succ (xs : List P2) (k : Int) (m : Nat) (p : P2) (h : xs[m]? = some p) : (xs.take (m + 1)).map (shear k) = (xs.take m).map (shear k) ++ [shear k p] := by
  rw [List.take_add_one, h]
  simp

theorem pair_news (w : World) (x y : Int) (t : TypeId) : ∀ (j : Nat) u, [Value.int .i64 x, Value.int .i64 y][j]? = some u → (w.alloc (.cells #[.int .i64 x, .int .i64 y] t)).cell? (Addr.add ⟨w.heap.size, 0, none⟩ j) = some u
  | 0, u, h => by
    rw [WideShapes.add_plain, Nat.add_zero, World.cell?_alloc_new]
    simpa using h
  | 1, u, h => by
    rw [WideShapes.add_plain, World.cell?_alloc_new]
    simpa using h
  | j + 2, u, h => by simp at h
theorem pair_one (x y : Int) : ∀ u ∈ [Value.int .i64 x, Value.int .i64 y], u.oneCell' = true := fun u hu => by
  simp only [List.mem_cons, List.not_mem_nil, or_false] at hu
  rcases hu with rfl | rfl <;> rfl
theorem owns_snoc {w : World} {B : Nat} {v : Value} {xs : List P2} {x y : Int} (h : w.ownsRow B 25 2 v (xs.length + 1) (ptCells xs ++ [.int .i64 x, .int .i64 y])) : Owns w B v (xs ++ [(x, y)]) := by
  unfold Owns
  rw [ptCells_append, List.length_append]
  exact h

set_option maxHeartbeats 400000 in
set_option maxRecDepth 100000 in
theorem specShear_nopts (b c : Nat) (xs : List P2) (k : Int) (hx : xs.length ≤ 1048576) (w : World) (hr : RowP w b xs) (h : okB xs = false) :
    Calls Try.prog 25 #[.slice (some ⟨b, 0, none⟩) xs.length c, .int .i64 k] w fun e w' => Got w.heap.size (shearR xs k) (shearB xs k) e w' ∧ Below w.heap.size w w' := by
  have HE := Lib.hid (shearB_no (xs := xs) (k := k) (.inl h))
  have HA := Lib.hid (specAre b 0 c xs (by omega) w hr.at hr.lt)
  rw [h] at HA
  clear hr
  go_enter Try.func25, Try.ntmps25
  go_wp2_with fail
  refine HA.out.mono ?_
  rintro e w1 ⟨rfl, B1⟩
  go_wp2
  go_ret2
  exact ⟨by rw [shearR_no HE.out, HE.out]; exact Got.none_, by go_grown; exact B1.size⟩
set_option maxHeartbeats 400000 in
set_option maxRecDepth 100000 in
theorem specShear_nok (b c : Nat) (xs : List P2) (k : Int) (hx : xs.length ≤ 1048576) (w : World) (hr : RowP w b xs) (h : okB xs = true) (hk : inB k (-100) 100 = false) :
    Calls Try.prog 25 #[.slice (some ⟨b, 0, none⟩) xs.length c, .int .i64 k] w fun e w' => Got w.heap.size (shearR xs k) (shearB xs k) e w' ∧ Below w.heap.size w w' := by
  have HE := Lib.hid (shearB_no (xs := xs) (k := k) (.inr hk))
  have HA := Lib.hid (specAre b 0 c xs (by omega) w hr.at hr.lt)
  rw [h] at HA
  clear hr
  go_enter Try.func25, Try.ntmps25
  go_wp2_with fail
  refine HA.out.mono ?_
  rintro e w1 ⟨rfl, B1⟩
  go_wp2_with fail
  refine (l1In_any _ _ _ _).mono ?_
  rintro e w' ⟨rfl, rfl⟩
  go_wp2
  go_ret2
  exact ⟨by rw [shearR_no HE.out, HE.out]; exact Got.none_, by go_grown; exact B1.size⟩
set_option maxHeartbeats 400000 in
set_option maxRecDepth 100000 in
theorem implShear_nopts (b c : Nat) (xs : List P2) (k : Int) (hx : xs.length ≤ 1048576) (w : World) (hr : RowP w b xs) (h : okB xs = false) :
    Calls Try.prog 26 #[.slice (some ⟨b, 0, none⟩) xs.length c, .int .i64 k] w fun e w' => Got w.heap.size (shearR xs k) (shearB xs k) e w' ∧ Below w.heap.size w w' := by
  have HE := Lib.hid (shearB_no (xs := xs) (k := k) (.inl h))
  have HA := Lib.hid (implAre b 0 c xs (by omega) w hr.at hr.lt)
  rw [h] at HA
  clear hr
  go_enter Try.func26, Try.ntmps26
  go_wp2_with fail
  refine HA.out.mono ?_
  rintro e w1 ⟨rfl, B1⟩
  go_wp2
  go_ret2
  exact ⟨by rw [shearR_no HE.out, HE.out]; exact Got.none_, B1⟩
set_option maxHeartbeats 400000 in
set_option maxRecDepth 100000 in
theorem implShear_nok (b c : Nat) (xs : List P2) (k : Int) (hx : xs.length ≤ 1048576) (w : World) (hr : RowP w b xs) (h : okB xs = true) (hk : inB k (-100) 100 = false) :
    Calls Try.prog 26 #[.slice (some ⟨b, 0, none⟩) xs.length c, .int .i64 k] w fun e w' => Got w.heap.size (shearR xs k) (shearB xs k) e w' ∧ Below w.heap.size w w' := by
  have HE := Lib.hid (shearB_no (xs := xs) (k := k) (.inr hk))
  have HA := Lib.hid (implAre b 0 c xs (by omega) w hr.at hr.lt)
  rw [h] at HA
  clear hr
  go_enter Try.func26, Try.ntmps26
  go_wp2_with fail
  refine HA.out.mono ?_
  rintro e w1 ⟨rfl, B1⟩
  go_wp2_with fail
  refine (isWithin_any _ _ (by omega) (by omega) _).mono ?_
  rintro e w' ⟨rfl, rfl⟩
  go_wp2
  go_ret2
  exact ⟨by rw [shearR_no HE.out, HE.out]; exact Got.none_, B1⟩
set_option maxHeartbeats 800000 in
set_option maxRecDepth 100000 in
theorem specShear_good (b c : Nat) (xs : List P2) (k : Int) (w : World) (hr : RowP w b xs) (h : okB xs = true) (hk : inB k (-100) 100 = true) :
    Calls Try.prog 25 #[.slice (some ⟨b, 0, none⟩) xs.length c, .int .i64 k] w fun e w' => Got w.heap.size (shearR xs k) (shearB xs k) e w' ∧ Below w.heap.size w w' := by
  obtain ⟨⟨h3, h7⟩, hfit, -⟩ := okB_ok h
  have HF := Lib.hid hfit
  have HOK := Lib.hid h
  have HK := Lib.hid hk
  obtain ⟨k1, k2⟩ := inB_mem hk
  clear hfit
  have hc := hr.at
  have hbw := hr.lt
  have HC := Lib.hid hc
  have HA := Lib.hid (specAre_any b 0 c xs h3 h7 w hc hbw)
  rw [h] at HA
  obtain ⟨i0, hi, hz0, hz1, hz2⟩ := info_parts infoPt
  clear hc hr
  go_enter Try.func25, Try.ntmps25
  go_wp2_with fail
  refine HA.out.mono ?_
  rintro e w1 ⟨rfl, hb1⟩
  go_wp2_with fail
  refine (l1In_any _ _ _ _).mono ?_
  rintro e w' ⟨rfl, rfl⟩
  go_wp2
  clear h hk
  have hown0 : Owns (w1.alloc (.cells #[] 25)) w1.heap.size (.slice (some ⟨w1.heap.size, 0, none⟩) 0 0) [] := World.ownsRow_made w1 #[] 0 (Nat.le_refl _) (by decide) rfl
  have HO := Lib.hid (World.ownsRow.mono hown0 hb1.size)
  have HB0 := Lib.hid (hb1.alloc hb1.size (.cells #[] 25))
  clear hown0
  go_loopw [6, 7] (fun vv i wr => ∃ (m : Nat) (v : Value) (ys : List P2), m ≤ xs.length ∧ i = .int .i64 m ∧ vv = v ∧ Hid (ShAll xs k m) ∧ Hid (ys = (xs.take m).map (shear k)) ∧ ys.length ≤ 7 ∧ Owns wr w.heap.size v ys ∧ Below w.heap.size w wr) (fun _ i _ => xs.length - (intOf i).toNat)
  case atStart => exact ⟨0, _, [], Nat.zero_le _, rfl, rfl, Lib.hid (ShAll.zero xs k), Lib.hid rfl, by simp, HO.out, HB0.out⟩
  case round =>
    obtain ⟨m, v, ys, hm, rfl, rfl, HS, HY, hyl, hown, hb⟩ := hrel
    have HO := Lib.hid hown
    clear hown
    by_cases hlt : m < xs.length
    · obtain ⟨x0, y0⟩ := (HC.out.on hb hbw).get m hlt
      simp only [Nat.zero_add] at x0 y0
      have ha? := List.getElem?_eq_getElem hlt
      have hmem := List.getElem_mem hlt
      generalize xs[m] = p at x0 y0 ha? hmem
      obtain ⟨f1, f2, f3, f4⟩ := fit_mem (HF.out p hmem)
      obtain ⟨q1, q2⟩ := shear_mul k1 k2 f1 f2
      go_wp2
      have hbr : b < wr.heap.size := Nat.lt_of_lt_of_le hbw hb.size
      have x1 : (wr.alloc (.cells #[.int .i64 0, .int .i64 0] 25)).cell? ⟨b, m * 2, none⟩ = some (.int .i64 p.1) := by rw [World.cell?_alloc_lt _ _ _ hbr]; exact x0
      have y1 : (wr.alloc (.cells #[.int .i64 0, .int .i64 0] 25)).cell? ⟨b, m * 2 + 1, none⟩ = some (.int .i64 p.2) := by rw [World.cell?_alloc_lt _ _ _ hbr]; exact y0
      cases hf : fitB p.1 (p.2 + k * p.1) 50
      · have HE := Lib.hid (shearB_out hmem hf)
        clear ha? hmem
        go_region
        go_wp2_with fail
        refine (l2Fits_any _ _ _ (by omega) (by omega) _).mono ?_
        rintro e w2 ⟨rfl, hb2⟩
        have B1 : Below wr.heap.size wr w2 := below_call2 hb2 (by go_grown) (Nat.le_refl _)
        have B2 := hb.trans (B1.mono hb.size)
        go_wp2
        go_ret2
        exact ⟨by rw [shearR_no HE.out, HE.out]; exact Got.none_, by go_grown; exact B2.size⟩
      · have HM := Lib.hid (HS.out.step ha? hf)
        have HT : Hid (ys ++ [(p.1, p.2 + k * p.1)] = (xs.take (m + 1)).map (shear k)) := Lib.hid (by rw [map_take_succ xs k m p ha?, HY.out]; rfl)
        have HL : Hid ((ys ++ [(p.1, p.2 + k * p.1)]).length ≤ 7) := Lib.hid (by rw [HT.out, List.length_map, List.length_take]; omega)
        clear ha? hmem
        go_region
        go_wp2_with fail
        refine (l2Fits_any _ _ _ (by omega) (by omega) _).mono ?_
        rintro e w2 ⟨rfl, hb2⟩
        have B1 : Below wr.heap.size wr w2 := below_call2 hb2 (by go_grown) (Nat.le_refl _)
        have B2 := hb.trans (B1.mono hb.size)
        have HO2 := Lib.hid (owns_alloc (owns_on (owns_drew (owns_alloc HO.out _)) hb2) (.cells #[.int .i64 p.1, .int .i64 (p.2 + k * p.1)] 25))
        obtain ⟨hc2, hf2⟩ := bcell hb2
        go_wp2_with (at_builtin; refine wpList_append_own _ rfl (.tmp 48) (.tmp 50) 31 rfl w.heap.size 25 i0 _ 2 16 Try.underlying31 hi hz0 hz1 hz2 rfl (by decide) _ _ _ rfl HO2.out ⟨w2.heap.size, 0, none⟩ 1 1 [.int .i64 p.1, .int .i64 (p.2 + k * p.1)] rfl rfl ?_ ?_ ?_ ?_ ?_ ?_)
        · exact pair_news _ _ _ _
        · exact pair_one _ _
        · simp only [maxLen]; omega
        · omega
        · have := B2.size; simp; omega
        intro v1 w3 hown1 hg1 _
        have B3 := ((B2.alloc B2.size (.cells #[.int .i64 p.1, .int .i64 (p.2 + k * p.1)] 25)).grown hg1 (by have := B2.size; simp; omega) (fun q hq => (World.ownsRow.lt HO2.out q hq).1))
        have HO3 := Lib.hid (owns_snoc hown1)
        clear hown1 hc2 hf2
        go_wp2
        exact ⟨⟨m + 1, _, _, by omega, by go_num, rfl, HM, HT, HL.out, HO3.out, B3⟩, by simp only [intOf]; omega⟩
    · have HE : Hid (shearB xs k = true ∧ Owns wr w.heap.size u6 (shearR xs k)) := by
        have e : m = xs.length := by omega
        have h1 := shearB_yes HOK.out HK.out (by rw [← e]; exact HS.out)
        refine Lib.hid ⟨h1, ?_⟩
        rw [shearR_yes h1]
        have := HO.out
        rwa [HY.out, e, List.take_length] at this
      obtain ⟨a', c', hv, hnew⟩ := New.of_own HE.out.2
      subst hv
      have HN := Lib.hid hnew
      have HZ := Lib.hid HE.out.1
      clear HE hnew
      go_wp2
      go_ret2
      exact ⟨by rw [HZ.out]; exact ⟨a', c', rfl, HN.out⟩, hb⟩
set_option maxHeartbeats 800000 in
set_option maxRecDepth 100000 in
theorem implShear_good (b c : Nat) (xs : List P2) (k : Int) (w : World) (hr : RowP w b xs) (h : okB xs = true) (hk : inB k (-100) 100 = true) :
    Calls Try.prog 26 #[.slice (some ⟨b, 0, none⟩) xs.length c, .int .i64 k] w fun e w' => Got w.heap.size (shearR xs k) (shearB xs k) e w' ∧ Below w.heap.size w w' := by
  obtain ⟨⟨h3, h7⟩, hfit, -⟩ := okB_ok h
  have HF := Lib.hid hfit
  have HOK := Lib.hid h
  have HK := Lib.hid hk
  obtain ⟨k1, k2⟩ := inB_mem hk
  clear hfit
  have hc := hr.at
  have hbw := hr.lt
  have HC := Lib.hid hc
  have HA := Lib.hid (implAre_any b 0 c xs h3 h7 w hc hbw)
  rw [h] at HA
  obtain ⟨ys, hys⟩ : ∃ ys, ys = xs.map (shear k) := ⟨_, rfl⟩
  have HY := Lib.hid hys
  have HYL : Hid (ys.length = xs.length) := Lib.hid (by rw [hys, List.length_map])
  have hmk := run_make_pts xs.length (by omega)
  clear hc hr hys
  go_enter Try.func26, Try.ntmps26
  go_wp2_with fail
  refine HA.out.mono ?_
  rintro e w1 ⟨rfl, hb1⟩
  go_wp2_with fail
  refine (isWithin_any _ _ (by omega) (by omega) _).mono ?_
  rintro e w' ⟨rfl, rfl⟩
  go_wp2
  clear h hk
  have H0 := Lib.hid ((madeRow2 w1 (.int .i64 0) (xs.length * 2) 25).congr (g := sofar ys (0 * 2)) (fun i _ => by simp [sofar]))
  have HB0 := Lib.hid (hb1.alloc hb1.size (.cells (madeCells #[.int .i64 0, .int .i64 0] (xs.length * 2)) 25))
  have hB1 := hb1.size
  go_loopw [22] (fun i wr => ∃ m : Nat, m ≤ xs.length ∧ i = .int .i64 m ∧ Hid (ShAll xs k m) ∧ wr.rowIs w1.heap.size 25 (xs.length * 2) (sofar ys (m * 2)) ∧ Below w.heap.size w wr) (fun i _ => xs.length - (intOf i).toNat)
  case atStart => exact ⟨0, Nat.zero_le _, rfl, Lib.hid (ShAll.zero xs k), H0.out, HB0.out⟩
  case round =>
    obtain ⟨m, hm, rfl, HS, hrow, hb⟩ := hrel
    by_cases hlt : m < xs.length
    · obtain ⟨x0, y0⟩ := (HC.out.on hb hbw).get m hlt
      simp only [Nat.zero_add] at x0 y0
      have ha? := List.getElem?_eq_getElem hlt
      have hmem := List.getElem_mem hlt
      have hym : ys[m]? = some (shear k xs[m]) := by rw [HY.out, List.getElem?_map, ha?]; rfl
      have HSS := Lib.hid (fun i hi => sofar_step' ys m _ hym (xs.length * 2) (by rw [HYL.out]; exact Nat.le_refl _) i hi)
      generalize xs[m] = p at x0 y0 ha? hmem HSS hym
      obtain ⟨f1, f2, f3, f4⟩ := fit_mem (HF.out p hmem)
      obtain ⟨q1, q2⟩ := shear_mul k1 k2 f1 f2
      have hbr : b < wr.heap.size := Nat.lt_of_lt_of_le hbw hb.size
      have hrl := hrow.lt
      have hd0 := hrow.cell (show m * 2 < xs.length * 2 by omega)
      have hd1 := hrow.cell (show m * 2 + 1 < xs.length * 2 by omega)
      have hf0 := hrow.frozen (m * 2)
      have hf1 := hrow.frozen (m * 2 + 1)
      have HR := Lib.hid ((((hrow.set (m * 2) (.int .i64 p.1)).set (m * 2 + 1) (.int .i64 (p.2 + k * p.1))).congr (g := sofar ys ((m + 1) * 2)) (fun i hi => HSS.out i hi)).alloc (.cells #[.int .i64 p.1, .int .i64 p.2] 25))
      have hbs := (hb.setCell (p := ⟨w1.heap.size, m * 2, none⟩) hB1 (.int .i64 p.1)).setCell (p := ⟨w1.heap.size, m * 2 + 1, none⟩) hB1 (.int .i64 (p.2 + k * p.1))
      have HB := Lib.hid (hbs.alloc hbs.size (.cells #[.int .i64 p.1, .int .i64 p.2] 25))
      clear hbs
      clear hrow hym
      cases hf : fitB p.1 (p.2 + k * p.1) 50
      · have HE := Lib.hid (shearB_out hmem hf)
        clear ha? hmem
        go_wp2_with fail
        refine (isPointWithin_any _ _ _ (by omega) (by omega) _).mono ?_
        rintro e w2 ⟨rfl, hb2⟩
        have B2 := HB.out.trans (hb2.mono HB.out.size)
        go_wp2
        go_ret2
        exact ⟨by rw [shearR_no HE.out, HE.out]; exact Got.none_, B2⟩
      · have HM := Lib.hid (HS.out.step ha? hf)
        clear ha? hmem
        go_wp2_with fail
        refine (isPointWithin_any _ _ _ (by omega) (by omega) _).mono ?_
        rintro e w2 ⟨rfl, hb2⟩
        have B2 := HB.out.trans (hb2.mono HB.out.size)
        have HR2 := Lib.hid (row_on HR.out hb2 HR.out.lt)
        go_wp2
        exact ⟨⟨m + 1, by omega, by go_num, HM, HR2.out, B2⟩, by simp only [intOf]; omega⟩
    · have e : m = xs.length := by omega
      have HZ := Lib.hid (shearB_yes HOK.out HK.out (by rw [← e]; exact HS.out))
      have HR := Lib.hid (hrow.congr (g := ptCell ys) (fun i hi => by unfold sofar; rw [if_pos (by omega)]))
      have hrl := hrow.lt
      clear hrow e
      go_wp2
      go_ret2
      exact ⟨by rw [HZ.out, shearR_yes HZ.out, ← HY.out]; exact ⟨some ⟨w1.heap.size, 0, none⟩, xs.length, by rw [HYL.out]; rfl, .inr ⟨_, rfl, hB1, hrl, by rw [HYL.out]; exact Cells.of_row HR.out⟩⟩, hb⟩
theorem specShear (b c : Nat) (xs : List P2) (k : Int) (hx : xs.length ≤ 1048576) (w : World) (hr : RowP w b xs) :
    Calls Try.prog 25 #[.slice (some ⟨b, 0, none⟩) xs.length c, .int .i64 k] w fun e w' => Got w.heap.size (shearR xs k) (shearB xs k) e w' ∧ Below w.heap.size w w' := by
  cases h : okB xs
  · exact specShear_nopts b c xs k hx w hr h
  · cases hk : inB k (-100) 100
    · exact specShear_nok b c xs k hx w hr h hk
    · exact specShear_good b c xs k w hr h hk
theorem implShear (b c : Nat) (xs : List P2) (k : Int) (hx : xs.length ≤ 1048576) (w : World) (hr : RowP w b xs) :
    Calls Try.prog 26 #[.slice (some ⟨b, 0, none⟩) xs.length c, .int .i64 k] w fun e w' => Got w.heap.size (shearR xs k) (shearB xs k) e w' ∧ Below w.heap.size w w' := by
  cases h : okB xs
  · exact implShear_nopts b c xs k hx w hr h
  · cases hk : inB k (-100) 100
    · exact implShear_nok b c xs k hx w hr h hk
    · exact implShear_good b c xs k w hr h hk
end Go.Proofs.Yticekiniljemeaa.Pt
