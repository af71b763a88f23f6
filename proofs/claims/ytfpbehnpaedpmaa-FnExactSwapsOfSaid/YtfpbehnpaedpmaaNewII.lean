/- A slice of slices of ints of a call's own: asked, marked, asked again; how it is built row by row. -/
import Derived.Test.YtfpbehnpaedpmaaNewI
import Derived.Test.YtfpbehnpaedpmaaRuFours
namespace Go.Proofs.Ytfpbehnpaedpmaa.NewII
open Go.RowKit NewI
/-- A row's value. -/
abbrev rowV (g : Nat × Nat) (n : Nat) : Value := .slice (some ⟨g.1, 0, none⟩) n g.2
def ln (xss : List (List Int)) (j : Nat) : Nat := (xss.getD j []).length
/-- The rows' numbers. -/
def org (xss : List (List Int)) (j : Nat) : Nat → Value := zc (xss.getD j [])
/-- The first mark of a row. -/
def pre (xss : List (List Int)) : Nat → Nat
  | 0 => 1
  | k + 1 => pre xss k + ln xss k
/-- The rows before number k bear their marks. -/
def marks (xss : List (List Int)) (k j : Nat) : Nat → Value := if j < k then marked (pre xss j) (ln xss j) (org xss j) else org xss j
theorem pre_pos (xss : List (List Int)) : ∀ k, 1 ≤ pre xss k
  | 0 => Nat.le_refl _
  | k + 1 => by unfold pre; have := pre_pos xss k; omega
theorem pre_mono (xss : List (List Int)) {i j : Nat} (h : i ≤ j) : pre xss i ≤ pre xss j := by
  induction j with
  | zero => obtain rfl : i = 0 := by omega
            exact Nat.le_refl _
  | succ j ih =>
    by_cases e : i = j + 1
    · subst e; exact Nat.le_refl _
    · have := ih (by omega)
      show _ ≤ pre xss j + ln xss j
      omega
/-- A slice in block b whose rows lie in blocks gs, all from lo on and before hi, each in one of its own; row j holds F j. -/
structure Rows (w : World) (lo hi b : Nat) (gs : List (Nat × Nat)) (xss : List (List Int)) (F : Nat → Nat → Value) : Prop where
  len : gs.length = xss.length
  outer : ∀ (j : Nat) (g : Nat × Nat), gs[j]? = some g → w.cell? ⟨b, j, none⟩ = some (rowV g (ln xss j))
  b1 : lo ≤ b ∧ b < hi
  lt : b < w.heap.size
  row : ∀ (j : Nat) (g : Nat × Nat), gs[j]? = some g → lo ≤ g.1 ∧ g.1 < hi ∧ g.1 ≠ b ∧ Cells w g.1 (ln xss j) (F j)
  apart : ∀ (i j : Nat) (g g' : Nat × Nat), gs[i]? = some g → gs[j]? = some g' → i ≠ j → g.1 ≠ g'.1
section
variable {w w' : World} {lo hi b : Nat} {gs : List (Nat × Nat)} {xss : List (List Int)} {F G : Nat → Nat → Value}
theorem Rows.congr (h : Rows w lo hi b gs xss F) (e : ∀ j, F j = G j) : Rows w lo hi b gs xss G := by
  have : F = G := funext e
  rw [← this]; exact h
theorem Rows.on (h : Rows w lo hi b gs xss F) (hb : Below w.heap.size w w') : Rows w' lo hi b gs xss F :=
  ⟨h.len, fun j g hj => by rw [hb.cell h.lt]; exact h.outer j g hj, h.b1, Nat.lt_of_lt_of_le h.lt hb.size, fun j g hj => ⟨(h.row j g hj).1, (h.row j g hj).2.1, (h.row j g hj).2.2.1, (h.row j g hj).2.2.2.on hb⟩, h.apart⟩
theorem Rows.far {lo' hi' : Nat} (h : Rows w lo hi b gs xss F) (ho : Out lo' hi' w w') (hd : hi ≤ lo' ∨ hi' ≤ lo) : Rows w' lo hi b gs xss F := by
  have hb := h.b1
  have hbb := ho.block b h.lt (by omega)
  refine ⟨h.len, fun j g hj => by rw [World.cell?_of_block (a := ⟨b, j, none⟩) hbb]; exact h.outer j g hj, h.b1, Nat.lt_of_lt_of_le h.lt ho.size, fun j g hj => ?_, h.apart⟩
  obtain ⟨h1, h2, h3, h4⟩ := h.row j g hj
  exact ⟨h1, h2, h3, h4.block (ho.block g.1 h4.lt (by omega)) ho.size⟩
/-- One row has been written. -/
theorem Rows.wrote {k : Nat} {g : Nat × Nat} {f : Nat → Value} (h : Rows w lo hi b gs xss F) (hg : gs[k]? = some g) (hc : Cells w' g.1 (ln xss k) f) (hw : w.grownBy w' (some g.1)) : Rows w' lo hi b gs xss (fun j => if j = k then f else F j) := by
  obtain ⟨-, -, hgb, -⟩ := h.row k g hg
  have hbb := hw.block b h.lt (fun e => hgb (by injection e with e; exact e.symm))
  refine ⟨h.len, fun j g' hj => by rw [World.cell?_of_block (a := ⟨b, j, none⟩) hbb]; exact h.outer j g' hj, h.b1, Nat.lt_of_lt_of_le h.lt hw.size, fun j g' hj => ?_, h.apart⟩
  obtain ⟨h1, h2, h3, h4⟩ := h.row j g' hj
  by_cases e : j = k
  · subst e
    rw [hg] at hj
    obtain rfl := Option.some.inj hj
    simp only [if_true]
    exact ⟨h1, h2, h3, hc⟩
  · simp only [if_neg e]
    have hne := h.apart j k g' g hj hg e
    exact ⟨h1, h2, h3, h4.block (hw.block g'.1 h4.lt (fun e2 => hne (by injection e2))) hw.size⟩
end
theorem marks_zero (xss : List (List Int)) (j : Nat) : marks xss 0 j = org xss j := by unfold marks; rw [if_neg (by omega)]
theorem marks_step (xss : List (List Int)) (k j : Nat) : (if j = k then marked (pre xss k) (ln xss k) (org xss k) else marks xss k j) = marks xss (k + 1) j := by
  unfold marks
  by_cases e : j = k
  · subst e; rw [if_pos rfl, if_pos (by omega)]
  · rw [if_neg e]
    by_cases h : j < k
    · rw [if_pos h, if_pos (by omega)]
    · rw [if_neg h, if_neg (by omega)]
theorem ln_le {xss : List (List Int)} {k m : Nat} (hk : k < m) : ln xss k ≤ pre xss m := by
  have h1 := pre_mono xss (show k + 1 ≤ m by omega)
  have : pre xss (k + 1) = pre xss k + ln xss k := rfl
  omega
set_option maxHeartbeats 800000 in
set_option maxRecDepth 100000 in
theorem mark_rows (lo hi b c : Nat) (gs : List (Nat × Nat)) (xss : List (List Int)) (hp : pre xss xss.length ≤ 2000000) (hl : xss.length ≤ 2000000) (w : World) (hr : Rows w lo hi b gs xss (org xss)) :
    Calls Try.prog 20 #[.slice (some ⟨b, 0, none⟩) xss.length c, .int .i64 1] w fun e w' => e = .returned (.int .i64 (pre xss xss.length : Nat)) ∧ Rows w' lo hi b gs xss (marks xss xss.length) ∧ Out lo hi w w' := by
  have HR0 := Lib.hid (hr.congr (fun j => (marks_zero xss j).symm))
  have HLEN := Lib.hid hr.len
  clear hr
  go_enter Try.func20, Try.ntmps20
  go_wp2
  go_loopw [1, 5] (fun kv i wr => ∃ k : Nat, k ≤ xss.length ∧ i = .int .i64 k ∧ kv = .int .i64 (pre xss k : Nat) ∧ Hid (Rows wr lo hi b gs xss (marks xss k)) ∧ Hid (Out lo hi w wr)) (fun _ i _ => xss.length - (intOf i).toNat)
  case atStart => exact ⟨0, Nat.zero_le _, rfl, rfl, HR0, Lib.hid (Out.refl _ _ _)⟩
  case round =>
    obtain ⟨k, hk, rfl, rfl, HR, HO⟩ := hrel
    by_cases hlt : k < xss.length
    · obtain ⟨g, hg⟩ : ∃ g, gs[k]? = some g := ⟨_, List.getElem?_eq_getElem (by rw [HLEN.out]; exact hlt)⟩
      have x1 := HR.out.outer k g hg
      obtain ⟨g1, g2, g3, hcell⟩ := HR.out.row k g hg
      have hmk : marks xss k k = org xss k := by unfold marks; rw [if_neg (by omega)]
      rw [hmk] at hcell
      have hpk := pre_mono xss (Nat.le_of_lt hlt)
      have hp1 := pre_pos xss k
      have hlk := ln_le (xss := xss) hlt
      have HM := Lib.hid (mark_any g.1 (ln xss k) g.2 (pre xss k) (org xss k) (fun j => zc_int _ j) (by omega) hp1 (by omega) wr hcell)
      have HG := Lib.hid hg
      clear hcell hg hmk
      obtain ⟨g, cg⟩ := g
      go_wp2_with fail
      refine HM.out.mono ?_
      rintro e w2 ⟨rfl, hc2, hg2⟩
      have HR2 : Hid (Rows w2 lo hi b gs xss (marks xss (k + 1))) := Lib.hid ((HR.out.wrote HG.out hc2 hg2).congr (fun j => marks_step xss k j))
      have HO2 : Hid (Out lo hi w w2) := Lib.hid (by
        have h := HO.out
        refine ⟨hg2.os.trans h.os, hg2.tape.trans h.tape, hg2.output.trans h.output, Nat.le_trans h.size hg2.size, fun i hi2 hne => ?_⟩
        rw [hg2.block i (Nat.lt_of_lt_of_le hi2 h.size) (fun e => hne (by injection e with e; omega)), h.block i hi2 hne])
      clear hc2 hg2
      go_wp2
      exact ⟨⟨k + 1, by omega, by go_num, rfl, HR2, HO2⟩, by simp only [intOf]; omega⟩
    · obtain rfl : k = xss.length := by omega
      go_wp2
      go_ret
      exact ⟨rfl, HR.out, HO.out⟩
set_option maxHeartbeats 800000 in
set_option maxRecDepth 100000 in
theorem held_rows (lo hi b c : Nat) (gs : List (Nat × Nat)) (xss : List (List Int)) (hp : pre xss xss.length ≤ 2000000) (hl : xss.length ≤ 2000000) (w : World) (hr : Rows w lo hi b gs xss (marks xss xss.length)) :
    Calls Try.prog 21 #[.slice (some ⟨b, 0, none⟩) xss.length c, .int .i64 1] w fun e w' => e = .returned (.int .i64 (pre xss xss.length : Nat)) ∧ w' = w := by
  have HR := Lib.hid hr
  have HLEN := Lib.hid hr.len
  clear hr
  go_enter Try.func21, Try.ntmps21
  go_wp2
  go_loopw [1, 5] (fun kv i wr => ∃ k : Nat, k ≤ xss.length ∧ i = .int .i64 k ∧ kv = .int .i64 (pre xss k : Nat) ∧ Hid (wr = w)) (fun _ i _ => xss.length - (intOf i).toNat)
  case atStart => exact ⟨0, Nat.zero_le _, rfl, rfl, Lib.hid rfl⟩
  case round =>
    obtain ⟨k, hk, rfl, rfl, HW⟩ := hrel
    obtain rfl := HW.out
    by_cases hlt : k < xss.length
    · obtain ⟨g, hg⟩ : ∃ g, gs[k]? = some g := ⟨_, List.getElem?_eq_getElem (by rw [HLEN.out]; exact hlt)⟩
      have x1 := HR.out.outer k g hg
      obtain ⟨g1, g2, g3, hcell⟩ := HR.out.row k g hg
      have hmk : marks xss xss.length k = marked (pre xss k) (ln xss k) (org xss k) := by unfold marks; rw [if_pos hlt]
      rw [hmk] at hcell
      have hpk := pre_mono xss (Nat.le_of_lt hlt)
      have hp1 := pre_pos xss k
      have hlk := ln_le (xss := xss) hlt
      have HM := Lib.hid (held_any g.1 (ln xss k) g.2 (pre xss k) (org xss k) (by omega) hp1 (by omega) wr hcell)
      have ht : decide (((pre xss k + ln xss k : Nat) : Int) < 0) = false := by simp; omega
      clear hcell hg hmk
      obtain ⟨g, cg⟩ := g
      go_wp2_with fail
      refine HM.out.mono ?_
      rintro e w2 ⟨rfl, rfl⟩
      go_wp2
      exact ⟨⟨k + 1, by omega, by go_num, rfl, Lib.hid trivial⟩, by simp only [intOf]; omega⟩
    · obtain rfl : k = xss.length := by omega
      go_wp2
      go_ret
      exact ⟨rfl, rfl⟩
set_option maxHeartbeats 1600000 in
set_option maxRecDepth 100000 in
theorem eq_rows (lo hi b c lo2 hi2 b2 c2 : Nat) (gs gs2 : List (Nat × Nat)) (xss : List (List Int)) (hp : pre xss xss.length ≤ 2000000) (hl : xss.length ≤ 2000000) (w : World) (h1 : Rows w lo hi b gs xss (org xss)) (h2 : Rows w lo2 hi2 b2 gs2 xss (org xss)) :
    Calls Try.prog 19 #[.slice (some ⟨b, 0, none⟩) xss.length c, .slice (some ⟨b2, 0, none⟩) xss.length c2] w fun e w' => e = .returned (.bool true) ∧ Below w.heap.size w w' := by
  have hne : ((xss.length : Int) != (xss.length : Int)) = false := by simp
  have H1 := Lib.hid h1
  have H2 := Lib.hid h2
  clear h1 h2
  go_enter Try.func19, Try.ntmps19
  go_wp2
  go_loopw [5] (fun i wr => ∃ k : Nat, k ≤ xss.length ∧ i = .int .i64 k ∧ Below w.heap.size w wr) (fun i _ => xss.length - (intOf i).toNat)
  case atStart => exact ⟨0, Nat.zero_le _, rfl, Below.refl _ _⟩
  case round =>
    obtain ⟨k, hk, rfl, HB⟩ := hrel
    by_cases hlt : k < xss.length
    · obtain ⟨g, hg⟩ : ∃ g, gs[k]? = some g := ⟨_, List.getElem?_eq_getElem (by rw [H1.out.len]; exact hlt)⟩
      obtain ⟨g2, hg2⟩ : ∃ g, gs2[k]? = some g := ⟨_, List.getElem?_eq_getElem (by rw [H2.out.len]; exact hlt)⟩
      obtain ⟨-, -, -, r1⟩ := H1.out.row k g hg
      obtain ⟨-, -, -, r2⟩ := H2.out.row k g2 hg2
      have hlk := ln_le (xss := xss) hlt
      have hln : (xss.getD k []).length ≤ 2000000 := by
        have e : ln xss k = (xss.getD k []).length := rfl
        omega
      have HX : Hid (∀ W, Below w.heap.size w W → W.cell? ⟨b, k, none⟩ = some (rowV g (ln xss k)) ∧ W.cell? ⟨b2, k, none⟩ = some (rowV g2 (ln xss k))) := Lib.hid (fun W hW => ⟨by rw [hW.cell H1.out.lt]; exact H1.out.outer k g hg, by rw [hW.cell H2.out.lt]; exact H2.out.outer k g2 hg2⟩)
      have HCC : Hid (∀ W, (W.cell? ⟨b, k, none⟩ = some (rowV g (ln xss k)) ∧ W.cell? ⟨b2, k, none⟩ = some (rowV g2 (ln xss k)) ∧ Below w.heap.size w W) → Calls Try.prog 12 #[rowV g (ln xss k), rowV g2 (ln xss k)] W fun e w' => e = .returned (.bool true) ∧ w'.cell? ⟨b, k, none⟩ = some (rowV g (ln xss k)) ∧ w'.cell? ⟨b2, k, none⟩ = some (rowV g2 (ln xss k)) ∧ Below w.heap.size w w') := Lib.hid (fun W hW => (eq_same g.1 g.2 g2.1 g2.2 (xss.getD k []) hln W (r1.on hW.2.2) (r2.on hW.2.2)).mono fun e w' ⟨he, hb⟩ => by
        have hb2 := hW.2.2.trans (hb.mono hW.2.2.size)
        exact ⟨he, (HX.out _ hb2).1, (HX.out _ hb2).2, hb2⟩)
      obtain ⟨x1, x2⟩ := HX.out _ HB
      clear r1 r2 hg hg2
      go_wp2
      go_region_held3 (fun W => W.cell? ⟨b, k, none⟩ = some (rowV g (ln xss k)) ∧ W.cell? ⟨b2, k, none⟩ = some (rowV g2 (ln xss k)) ∧ Below w.heap.size w W)
        (first | exact ⟨by assumption, by assumption, by assumption⟩ | exact ⟨by assumption, by assumption, Below.drew (by assumption)⟩)
        (first | (go_at_call 12; refine (HCC.out _ ?_).mono ?_; (first | exact ⟨by assumption, by assumption, by assumption⟩ | exact ⟨by assumption, by assumption, Below.drew (by assumption)⟩); rintro e' w' ⟨rfl, q1, q2, q3⟩))
      all_goals
        go_wp2
        exact ⟨⟨k + 1, by omega, by go_num, by assumption⟩, by simp only [intOf]; omega⟩
    · go_wp2
      go_ret
      exact ⟨rfl, HB⟩
/-- No rows, or rows. -/
def Lists (w : World) (lo hi : Nat) (a : Option Addr) (xss : List (List Int)) (F : Nat → Nat → Value) : Prop := xss = [] ∨ ∃ b gs, a = some ⟨b, 0, none⟩ ∧ Rows w lo hi b gs xss F
theorem Lists.on {w w' : World} {lo hi : Nat} {a : Option Addr} {xss : List (List Int)} {F : Nat → Nat → Value} (h : Lists w lo hi a xss F) (hb : Below w.heap.size w w') : Lists w' lo hi a xss F := by
  rcases h with h | ⟨b, gs, h1, h2⟩
  · exact .inl h
  · exact .inr ⟨b, gs, h1, h2.on hb⟩
theorem Lists.far {w w' : World} {lo hi lo' hi' : Nat} {a : Option Addr} {xss : List (List Int)} {F : Nat → Nat → Value} (h : Lists w lo hi a xss F) (ho : Out lo' hi' w w') (hd : hi ≤ lo' ∨ hi' ≤ lo) : Lists w' lo hi a xss F := by
  rcases h with h | ⟨b, gs, h1, h2⟩
  · exact .inl h
  · exact .inr ⟨b, gs, h1, h2.far ho hd⟩
theorem Lists.low {w : World} {lo lo' hi : Nat} {a : Option Addr} {xss : List (List Int)} {F : Nat → Nat → Value} (h : Lists w lo hi a xss F) (hl : lo' ≤ lo) : Lists w lo' hi a xss F := by
  rcases h with h | ⟨b, gs, h1, h2⟩
  · exact .inl h
  · exact .inr ⟨b, gs, h1, h2.len, h2.outer, ⟨Nat.le_trans hl h2.b1.1, h2.b1.2⟩, h2.lt, fun j g hj => ⟨Nat.le_trans hl (h2.row j g hj).1, (h2.row j g hj).2⟩, h2.apart⟩
/-- What a function hands back that makes such a slice. -/
def Got2 (B : Nat) (xss : List (List Int)) (e : Ending) (w' : World) : Prop := ∃ a c, e = .returned (.slice a xss.length c) ∧ Lists w' B w'.heap.size a xss (org xss)
set_option maxRecDepth 100000 in
theorem mark0 (a : Option Addr) (c : Nat) (k0 : Int) (w : World) : Calls Try.prog 20 #[.slice a 0 c, .int .i64 k0] w fun e w' => e = .returned (.int .i64 k0) ∧ w = w' := by
  go_enter Try.func20, Try.ntmps20
  go_wp2
  refine wp_loop_rounds 1 ?_
  rw [rounds_succ]
  go_wp2
  go_ret
  exact ⟨rfl, rfl⟩
set_option maxRecDepth 100000 in
theorem held0 (a : Option Addr) (c : Nat) (k0 : Int) (w : World) : Calls Try.prog 21 #[.slice a 0 c, .int .i64 k0] w fun e w' => e = .returned (.int .i64 k0) ∧ w' = w := by
  go_enter Try.func21, Try.ntmps21
  go_wp2
  refine wp_loop_rounds 1 ?_
  rw [rounds_succ]
  go_wp2
  go_ret
  exact ⟨rfl, rfl⟩
set_option maxRecDepth 100000 in
theorem eq0 (a a2 : Option Addr) (c c2 : Nat) (w : World) : Calls Try.prog 19 #[.slice a 0 c, .slice a2 0 c2] w fun e w' => e = .returned (.bool true) ∧ w = w' := by
  go_enter Try.func19, Try.ntmps19
  go_wp2
  refine wp_loop_rounds 1 ?_
  rw [rounds_succ]
  go_wp2
  go_ret
  exact ⟨rfl, rfl⟩
theorem eq_lists (lo hi lo2 hi2 : Nat) (a a2 : Option Addr) (c c2 : Nat) (xss : List (List Int)) (hp : pre xss xss.length ≤ 100000) (hl : xss.length ≤ 100000) (w : World) (h1 : Lists w lo hi a xss (org xss)) (h2 : Lists w lo2 hi2 a2 xss (org xss)) :
    Calls Try.prog 19 #[.slice a xss.length c, .slice a2 xss.length c2] w fun e w' => e = .returned (.bool true) ∧ Below w.heap.size w w' := by
  rcases h1 with rfl | ⟨b, gs, rfl, h1⟩
  · exact (eq0 a a2 c c2 w).mono fun _ _ ⟨he, hw⟩ => ⟨he, by subst hw; exact Below.refl _ _⟩
  · rcases h2 with rfl | ⟨b2, gs2, rfl, h2⟩
    · exact (eq0 _ a2 c c2 w).mono fun _ _ ⟨he, hw⟩ => ⟨he, by subst hw; exact Below.refl _ _⟩
    · exact eq_rows lo hi b c lo2 hi2 b2 c2 gs gs2 xss (by omega) (by omega) w h1 h2
theorem mark_lists (lo hi : Nat) (a : Option Addr) (c : Nat) (xss : List (List Int)) (hp : pre xss xss.length ≤ 100000) (hl : xss.length ≤ 100000) (w : World) (h : Lists w lo hi a xss (org xss)) :
    Calls Try.prog 20 #[.slice a xss.length c, .int .i64 1] w fun e w' => e = .returned (.int .i64 (pre xss xss.length : Nat)) ∧ Lists w' lo hi a xss (marks xss xss.length) ∧ Out lo hi w w' := by
  rcases h with rfl | ⟨b, gs, rfl, h⟩
  · exact (mark0 a c 1 w).mono fun _ _ ⟨he, hw⟩ => ⟨he, .inl rfl, by subst hw; exact Out.refl _ _ _⟩
  · exact (mark_rows lo hi b c gs xss (by omega) (by omega) w h).mono fun _ _ ⟨he, h1, h2⟩ => ⟨he, .inr ⟨b, gs, rfl, h1⟩, h2⟩
theorem held_lists (lo hi : Nat) (a : Option Addr) (c : Nat) (xss : List (List Int)) (hp : pre xss xss.length ≤ 100000) (hl : xss.length ≤ 100000) (w : World) (h : Lists w lo hi a xss (marks xss xss.length)) :
    Calls Try.prog 21 #[.slice a xss.length c, .int .i64 1] w fun e w' => e = .returned (.int .i64 (pre xss xss.length : Nat)) ∧ w' = w := by
  rcases h with rfl | ⟨b, gs, rfl, h⟩
  · exact held0 a c 1 w
  · exact held_rows lo hi b c gs xss (by omega) (by omega) w h
/-- Rows being built: a value that owns them, each in a block of ints ahead of block m, later rows in later blocks. -/
def OwnL (w : World) (B m : Nat) (v : Value) (xss : List (List Int)) : Prop := ∃ gs : List (Nat × Nat), gs.length = xss.length ∧ w.ownsRow B 22 1 v gs.length (List.zipWith (fun g (zs : List Int) => rowV g zs.length) gs xss) ∧
  (∀ (j : Nat) (g : Nat × Nat), gs[j]? = some g → B ≤ g.1 ∧ g.1 < m ∧ (∃ cs, w.heap[g.1]? = some (.cells cs 3)) ∧ Cells w g.1 (ln xss j) (org xss j)) ∧ ∀ (i j : Nat) (g g' : Nat × Nat), gs[i]? = some g → gs[j]? = some g' → i < j → g.1 < g'.1
theorem OwnL.nil (w : World) (B m : Nat) : OwnL w B m (.slice none 0 0) [] := ⟨[], rfl, World.ownsRow_nil _ _ _ _, fun j g h => by simp at h, fun i j g g' h => by simp at h⟩
theorem OwnL.made (w : World) (B m : Nat) (hB : B ≤ w.heap.size) : OwnL (w.alloc (.cells #[] 22)) B m (.slice (some ⟨w.heap.size, 0, none⟩) 0 0) [] :=
  ⟨[], rfl, World.ownsRow_made w #[] 0 hB (by decide) rfl, fun j g h => by simp at h, fun i j g g' h => by simp at h⟩
theorem OwnL.on {w w' : World} {B m : Nat} {v : Value} {xss : List (List Int)} (h : OwnL w B m v xss) (hb : Below w.heap.size w w') : OwnL w' B m v xss := by
  obtain ⟨gs, h1, h2, h3, h4⟩ := h
  refine ⟨gs, h1, World.ownsRow.kept h2 (row := none) ⟨hb.os, hb.tape, hb.output, hb.size, fun k hk _ => hb.block k hk⟩ (by cases v.ownBlock <;> simp), fun j g hj => ?_, h4⟩
  obtain ⟨r1, r0, ⟨cs, r2⟩, r3⟩ := h3 j g hj
  exact ⟨r1, r0, ⟨cs, by rw [hb.block g.1 r3.lt]; exact r2⟩, r3.on hb⟩
theorem OwnL.top {w : World} {B m : Nat} {v : Value} {xss : List (List Int)} (h : OwnL w B m v xss) : OwnL w B w.heap.size v xss := by
  obtain ⟨gs, h1, h2, h3, h4⟩ := h
  exact ⟨gs, h1, h2, fun j g hj => ⟨(h3 j g hj).1, (h3 j g hj).2.2.2.lt, (h3 j g hj).2.2⟩, h4⟩
/-- The value's own cells alone. -/
theorem OwnL.row {w : World} {B m : Nat} {v : Value} {xss : List (List Int)} (h : OwnL w B m v xss) : ∃ L : List Value, w.ownsRow B 22 1 v xss.length L := by
  obtain ⟨gs, h1, h2, -, -⟩ := h
  rw [h1] at h2
  exact ⟨_, h2⟩
theorem ln_old {xss : List (List Int)} {zs : List Int} {j : Nat} (h : j < xss.length) : (xss ++ [zs]).getD j [] = xss.getD j [] := by
  rw [List.getD_eq_getElem?_getD, List.getD_eq_getElem?_getD, List.getElem?_append_left h]
theorem ln_new {xss : List (List Int)} {zs : List Int} : (xss ++ [zs]).getD xss.length [] = zs := by
  rw [List.getD_eq_getElem?_getD, List.getElem?_append_right (Nat.le_refl _)]; simp
theorem zip_length {gs : List (Nat × Nat)} {xss : List (List Int)} (h : gs.length = xss.length) : (List.zipWith (fun g (zs : List Int) => rowV g zs.length) gs xss).length = gs.length := by
  rw [List.length_zipWith, h]; omega
theorem zip_snoc {gs : List (Nat × Nat)} {xss : List (List Int)} (h : gs.length = xss.length) (g : Nat × Nat) (zs : List Int) : List.zipWith (fun g (zs : List Int) => rowV g zs.length) (gs ++ [g]) (xss ++ [zs]) = List.zipWith (fun g (zs : List Int) => rowV g zs.length) gs xss ++ [rowV g zs.length] := by
  rw [List.zipWith_append h]; rfl
/-- One more row: a block of its own, later than all others, is appended. -/
theorem OwnL.snoc {w w1 : World} {B m : Nat} {v v1 : Value} {xss : List (List Int)} {zs : List Int} {g : Nat × Nat} {L : List Value} (h : OwnL w B m v xss) (hB : B ≤ g.1) (hm : m ≤ g.1) (hcs : ∃ cs, w.heap[g.1]? = some (.cells cs 3)) (hc : Cells w g.1 zs.length (zc zs))
    (hg : w.grownBy w1 v.ownBlock) (hL : w.ownsRow B 22 1 v xss.length L) (ho : w1.ownsRow B 22 1 v1 (xss.length + 1) (L ++ [rowV g zs.length])) : OwnL w1 B (g.1 + 1) v1 (xss ++ [zs]) := by
  obtain ⟨gs, h1, h2, h3, h4⟩ := h
  have h2' := h2
  rw [h1] at h2
  have hLe : List.zipWith (fun g (zs : List Int) => rowV g zs.length) gs xss = L := by
    obtain ⟨-, ⟨e1, e2⟩ | ⟨b1, cap1, cur1, e1, -, k1, -, -, -, k2⟩⟩ := id h2
    · have a1 := h2.1
      have a2 := hL.1
      rw [e2] at a1 a2
      have z1 : List.zipWith (fun g (zs : List Int) => rowV g zs.length) gs xss = [] := List.eq_nil_of_length_eq_zero (by omega)
      have z2 : L = [] := List.eq_nil_of_length_eq_zero (by omega)
      rw [z1, z2]
    · obtain ⟨-, ⟨e3, -⟩ | ⟨b2, cap2, cur2, e3, -, k3, -, -, -, k4⟩⟩ := id hL
      · rw [e3] at e1; cases e1
      · rw [e3] at e1
        obtain ⟨e4, -, -⟩ : b1 = b2 ∧ True ∧ True := by injection e1 with e1; injection e1 with e1; injection e1 with e1; exact ⟨e1.symm, trivial, trivial⟩
        subst e4
        rw [k1] at k3
        injection k3 with k3
        injection k3 with k3
        subst k3
        rw [← k2, ← k4]
  have hb1 : ∀ (b : Nat) (cs : Array Value), w.heap[b]? = some (Obj.cells cs 3) → w1.heap[b]? = w.heap[b]? := fun b cs hb =>
    hg.block b (Array.getElem?_eq_some_iff.1 hb).1 (Sg.own_box h2' hb (by decide))
  refine ⟨gs ++ [g], by simp [h1], ?_, fun j g' hj => ?_, fun i j gi gj hi hj hij => ?_⟩
  · rw [zip_snoc h1, hLe, List.length_append, h1]
    exact ho
  · by_cases hjl : j < gs.length
    · rw [List.getElem?_append_left hjl] at hj
      obtain ⟨r1, r0, ⟨cs, r2⟩, r3⟩ := h3 j g' hj
      have hk := hb1 _ _ r2
      have e : (xss ++ [zs]).getD j [] = xss.getD j [] := ln_old (by omega)
      refine ⟨r1, by omega, ⟨cs, by rw [hk]; exact r2⟩, ?_⟩
      unfold ln org
      rw [e]
      exact r3.block hk hg.size
    · rw [List.getElem?_append_right (by omega)] at hj
      have hj0 : j = gs.length := by
        rcases Nat.lt_or_ge (j - gs.length) 1 with h | h
        · omega
        · rw [List.getElem?_eq_none (by simpa using h)] at hj; cases hj
      subst hj0
      simp only [Nat.sub_self, List.getElem?_cons_zero, Option.some.injEq] at hj
      subst hj
      obtain ⟨cs, hcs⟩ := hcs
      have hk := hb1 _ _ hcs
      refine ⟨hB, by omega, ⟨cs, by rw [hk]; exact hcs⟩, ?_⟩
      unfold ln org
      rw [h1, ln_new]
      exact hc.block hk hg.size
  · by_cases hjl : j < gs.length
    · rw [List.getElem?_append_left hjl] at hj
      rw [List.getElem?_append_left (by omega)] at hi
      exact h4 i j gi gj hi hj hij
    · rw [List.getElem?_append_right (by omega)] at hj
      have hj0 : j = gs.length := by
        rcases Nat.lt_or_ge (j - gs.length) 1 with h | h
        · omega
        · rw [List.getElem?_eq_none (by simpa using h)] at hj; cases hj
      subst hj0
      simp only [Nat.sub_self, List.getElem?_cons_zero, Option.some.injEq] at hj
      subst hj
      rw [List.getElem?_append_left hij] at hi
      have := (h3 i gi hi).2.1
      omega
/-- A finished slice of rows. -/
theorem Lists.of_own {w : World} {B m : Nat} {v : Value} {xss : List (List Int)} (h : OwnL w B m v xss) : ∃ a c, v = .slice a xss.length c ∧ Lists w B w.heap.size a xss (org xss) := by
  obtain ⟨gs, h1, h2, h3, h4⟩ := h
  have hlt := World.ownsRow.lt h2
  have hzl := zip_length h1
  obtain ⟨-, ⟨rfl, h0⟩ | ⟨g, cap, cur, rfl, hB, hh, hr⟩⟩ := id h2
  · have e : xss = [] := List.eq_nil_of_length_eq_zero (by omega)
    subst e
    exact ⟨none, 0, rfl, .inl rfl⟩
  · refine ⟨some ⟨g, 0, none⟩, cap, by rw [h1], .inr ⟨g, gs, rfl, h1, fun j g' hj => ?_, ⟨hB, (hlt g rfl).2⟩, (hlt g rfl).2, fun j g' hj => ?_, fun i j gi gj hi hj hij => ?_⟩⟩
    · have hjl : j < gs.length := (List.getElem?_eq_some_iff.1 hj).1
      have hx : (List.zipWith (fun g (zs : List Int) => rowV g zs.length) gs xss)[j]? = some (rowV g' (ln xss j)) := by
        rw [List.getElem?_zipWith, hj, List.getElem?_eq_getElem (by omega)]
        simp only [Option.some.injEq]
        unfold ln
        rw [List.getD_eq_getElem?_getD, List.getElem?_eq_getElem (by omega)]
        rfl
      have := World.ownsRow.cells h2 (g := g) rfl j _ hx
      rwa [WideShapes.add_plain, Nat.zero_add] at this
    · obtain ⟨r1, -, ⟨cs, r2⟩, r3⟩ := h3 j g' hj
      refine ⟨r1, r3.lt, fun e => ?_, r3⟩
      rw [e, hh] at r2
      injection r2 with r2
      injection r2 with _ ht
      exact absurd ht (by decide)
    · rcases Nat.lt_or_gt_of_ne hij with h | h
      · have := h4 i j gi gj hi hj h; omega
      · have := h4 j i gj gi hj hi h; omega
end Go.Proofs.Ytfpbehnpaedpmaa.NewII
