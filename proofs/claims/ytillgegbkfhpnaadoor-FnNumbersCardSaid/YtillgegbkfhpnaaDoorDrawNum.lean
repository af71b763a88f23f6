/- The draws of chapter 1: an int, a short text, a text and a byte. -/
import Derived.Test.YtillgegbkfhpnaaDoorDraw
import Derived.Test.YtillgegbkfhpnaaDoorFmt
import Derived.Lib.ItoaLen
namespace Go.Proofs.YtillgegbkfhpnaaDoor.Cur
open Go.RowKit

theorem Leaves.alloc {b n : Nat} {v : Value} {w w' : World} (h : Leaves b v n w w') (o : Obj) : Leaves b v n w (w'.alloc o) := by
  have hb : Below w'.heap.size w' (w'.alloc o) := (Below.refl _ _).alloc (Nat.le_refl _) _
  have hg : w'.grownBy (w'.alloc o) (some b) := ⟨hb.os, hb.tape, hb.output, hb.size, fun i hi _ => hb.block i hi⟩
  obtain ⟨h1, ⟨i, hh, hi, hbd, hbl⟩, h3⟩ := h
  have hlt : b < w'.heap.size := by
    rcases Nat.lt_or_ge b w'.heap.size with h0 | h0
    · exact h0
    · rw [Array.getElem?_eq_none h0] at hbl; cases hbl
  exact ⟨h1.on hg, ⟨i, hh, hi, hbd, by rw [hb.block b hlt]; exact hbl⟩, grown_trans h3 hg⟩
theorem Leaves.refl {b n : Nat} {v : Value} {w : World} (hv : Bytes w v n b) (hc : At w b v n) : Leaves b v n w w := ⟨hv, hc, grown_refl _ _⟩
theorem Leaves.lt {b n : Nat} {v : Value} {w w' : World} (h : Leaves b v n w w') : b < w'.heap.size := by
  obtain ⟨_, ⟨i, hh, hi, hbd, hbl⟩, _⟩ := h
  rcases Nat.lt_or_ge b w'.heap.size with h0 | h0
  · exact h0
  · rw [Array.getElem?_eq_none h0] at hbl; cases hbl
theorem Leaves.below {b n : Nat} {v : Value} {w w' : World} (h : Leaves b v n w w') {B : Nat} (hB : B ≤ b) (hBw : B ≤ w.heap.size) : Below B w w' :=
  ⟨h.2.2.os, h.2.2.tape, h.2.2.output, h.2.2.size, fun i hi => h.2.2.block i (by omega) (fun e => by have := Option.some.inj e; omega)⟩
theorem lit_cells (w : World) (xs : List Int) (t : TypeId) : ∀ (j : Nat) x, xs[j]? = some x → (w.alloc (.cells (xs.map (Value.int .i64)).toArray t)).cell? ⟨w.heap.size, j, none⟩ = some (.int .i64 x) := fun j x hx => by
  rw [World.cell?_alloc_new]; simp [hx]
theorem lit_strs (w : World) (xs : List ByteArray) (t : TypeId) : Strs.At (w.alloc (.cells (xs.map Value.string).toArray t)) w.heap.size 0 xs := fun j x hx => by
  rw [World.cell?_alloc_new]; simp [hx]

def wholes : List Int := [0, 1, -1, 9, 10, 999999, 1000000, 999999999999, 1000000000000, -999999999999, 9223372036854775807, -9223372036854775808]
theorem wholes_bd (x : Int) (h : x ∈ wholes) : -9223372036854775808 ≤ x ∧ x ≤ 9223372036854775807 := by
  simp only [wholes, List.mem_cons, List.mem_nil_iff, or_false] at h
  omega
set_option maxHeartbeats 800000 in
set_option maxRecDepth 100000 in
theorem whole_any (b : Nat) (v : Value) (n : Nat) (w : World) (hv : Bytes w v n b) (hc : At w b v n) :
    Calls Tryd.prog 25 #[.pointer (some ⟨b, 0, none⟩)] w fun e w' => ∃ x : Int, (-9223372036854775808 ≤ x ∧ x ≤ 9223372036854775807) ∧ e = .returned (.int .i64 x) ∧ Leaves b v n w w' := by
  go_enter Tryd.func25, Tryd.ntmps25
  go_wp2_with fail
  refine (below_any b v n 3 (by omega) _ hv hc).mono ?_
  rintro e w1 ⟨r, hr, rfl, hl1⟩
  have hr3 : r = 0 ∨ r = 1 ∨ r = 2 := by omega
  have HL1 := Lib.hid hl1
  rcases hr3 with rfl | rfl | rfl
  · have hlt := hl1.lt
    have HA := Lib.hid (hl1.alloc (.cells (wholes.map (Value.int .i64)).toArray 3))
    have HC := Lib.hid (lit_cells w1 wholes 3)
    clear hl1
    go_wp2_with fail
    refine (pickInt_any b w1.heap.size 12 v n wholes (by decide) (by decide) _ HA.out.1 HA.out.2.1 HC.out (by omega)).mono ?_
    rintro e w2 ⟨x, hx, rfl, hl2⟩
    have hxb := wholes_bd x hx
    have HL := Lib.hid (HA.out.trans hl2)
    clear hl2 hx
    go_wp2
    go_ret
    exact ⟨x, hxb, rfl, HL.out⟩
  · clear hl1
    go_wp2_with fail
    refine (below_any b v n 1000000 (by omega) _ HL1.out.1 HL1.out.2.1).mono ?_
    rintro e w2 ⟨x, hx, rfl, hl2⟩
    have hxb : x < 1000000 := by omega
    have HL := Lib.hid (HL1.out.trans hl2)
    clear hl2 hx
    go_wp2
    go_ret
    exact ⟨(x : Int) - 500000, by omega, rfl, HL.out⟩
  · clear hl1
    go_wp2_with fail
    refine (below_any b v n 20 (by omega) _ HL1.out.1 HL1.out.2.1).mono ?_
    rintro e w2 ⟨x, hx, rfl, hl2⟩
    have hxb : x < 20 := by omega
    have HL := Lib.hid (HL1.out.trans hl2)
    clear hl2 hx
    go_wp2
    go_ret
    exact ⟨(x : Int), by omega, rfl, HL.out⟩

set_option maxHeartbeats 400000 in
set_option maxRecDepth 100000 in
theorem drawFormat_any (v : Value) (n : Nat) (hn : n ≤ 9223372036854700000) (w : World) (hv : Bytes w v n w.heap.size) :
    Calls Tryd.prog 10 #[v] w fun e w' => ∃ x : Int, (-9223372036854775808 ≤ x ∧ x ≤ 9223372036854775807) ∧ e = .returned (.int .i64 x) ∧ Below w.heap.size w w' := by
  go_enter Tryd.func10, Tryd.ntmps10
  go_wp2_with fail
  refine (new_any v n hn _ hv).mono ?_
  rintro e w1 ⟨b, rfl, hb, hv1, hc1, hb1⟩
  go_wp2_with fail
  refine (whole_any b v n _ hv1 hc1).mono ?_
  rintro e w2 ⟨x, hx, rfl, hl⟩
  have HB := Lib.hid (hb1.trans (hl.below hb hb1.size))
  clear hl
  go_wp2
  go_ret
  exact ⟨x, hx, rfl, HB.out⟩

def numTexts : List ByteArray := [⟨#[]⟩, ⟨#[48, 48]⟩, ⟨#[48, 49]⟩, ⟨#[45, 49]⟩, ⟨#[43, 49]⟩, ⟨#[120]⟩, ⟨#[57, 57, 57, 57, 57, 57]⟩, ⟨#[49, 48, 48, 48, 48, 48, 48]⟩, ⟨#[45, 48]⟩, ⟨#[45]⟩, ⟨#[32, 49]⟩, ⟨#[49, 32]⟩]
theorem numTexts_sz : ∀ s ∈ numTexts, s.size ≤ 1048576 := by
  intro s hs
  simp only [numTexts, List.mem_cons, List.mem_nil_iff, or_false] at hs
  rcases hs with rfl | rfl | rfl | rfl | rfl | rfl | rfl | rfl | rfl | rfl | rfl | rfl <;> decide

set_option maxHeartbeats 800000 in
set_option maxRecDepth 100000 in
theorem drawNumber_any (v : Value) (n : Nat) (hn : n ≤ 9223372036854700000) (w : World) (hv : Bytes w v n w.heap.size) :
    Calls Tryd.prog 14 #[v] w fun e w' => ∃ s : ByteArray, s.size ≤ 1048576 ∧ e = .returned (.string s) ∧ Below w.heap.size w w' := by
  go_enter Tryd.func14, Tryd.ntmps14
  go_wp2_with fail
  refine (new_any v n hn _ hv).mono ?_
  rintro e w1 ⟨b, rfl, hb, hv1, hc1, hb1⟩
  go_wp2_with fail
  refine (once_any b v n 2 (by omega) _ hv1 hc1).mono ?_
  rintro e w2 ⟨r, rfl, hl2⟩
  have HL2 := Lib.hid hl2
  have HB2 := Lib.hid (hb1.trans (hl2.below hb hb1.size))
  have hlt := hl2.lt
  cases r
  · have HA := Lib.hid (hl2.alloc (.cells (numTexts.map Value.string).toArray 9))
    have HC := Lib.hid (lit_strs w2 numTexts 9)
    clear hl2
    go_wp2_with fail
    refine (pick_any b w2.heap.size 12 v n numTexts (by decide) (by decide) _ HA.out.1 HA.out.2.1 HC.out (by omega)).mono ?_
    rintro e w3 ⟨x, hx, rfl, hl3⟩
    have hxs := numTexts_sz x hx
    have HB := Lib.hid (hb1.trans ((HA.out.trans hl3).below hb hb1.size))
    clear hl3 hx
    go_wp2
    go_ret
    exact ⟨x, hxs, rfl, HB.out⟩
  · clear hl2
    go_wp2_with fail
    refine (whole_any b v n _ HL2.out.1 HL2.out.2.1).mono ?_
    rintro e w3 ⟨x, hx, rfl, hl3⟩
    have HB3 := Lib.hid (hb1.trans ((HL2.out.trans hl3).below hb hb1.size))
    clear hl3
    have hx0 := hx.1
    have hx1 := hx.2
    clear hx
    go_wp2_with fail
    refine (Fmt.spec_any x hx0 hx1 _).mono ?_
    rintro e w4 ⟨rfl, hb4⟩
    have HB4 := Lib.hid (HB3.out.trans (hb4.mono HB3.out.size))
    have HZ := Lib.hid (Lib.itoa_length_le x hx0 hx1)
    go_wp2
    go_ret
    exact ⟨_, by show (Lib.itoa x).toArray.size ≤ 1048576; rw [List.size_toArray]; have := HZ.out; omega, rfl, HB4.out⟩
end Go.Proofs.YtillgegbkfhpnaaDoor.Cur
