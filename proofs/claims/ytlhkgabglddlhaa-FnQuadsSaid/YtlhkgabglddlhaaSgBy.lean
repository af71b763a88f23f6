/- impl.signsBy: the signs that a function tells of each three. -/
import Derived.Test.YtlhkgabglddlhaaSgMapOf
import Derived.Shelf.GgClosure.Gives
import Derived.Laws.IdiomStrings
namespace Go.Proofs.Ytlhkgabglddlhaa.Sg
open Go.RowKit Pt
/-- The text of the signs f of n elements. -/
def text3 (n : Nat) (f : Nat → Nat → Nat → Int) : List UInt8 := (threes n).map fun t => byteOf (f t.1 t.2.1 t.2.2)
theorem text3_length {n : Nat} (h7 : n ≤ 7) (f : Nat → Nat → Nat → Int) : (text3 n f).length = cnt n := by unfold text3; rw [List.length_map, threes_length h7]
theorem text3_congr {n : Nat} (h7 : n ≤ 7) {f g : Nat → Nat → Nat → Int} (h : ∀ i j k, i < j → j < k → k < n → f i j k = g i j k) : text3 n f = text3 n g := by
  unfold text3
  refine List.map_congr_left fun t ht => ?_
  obtain ⟨h1, h2, h3⟩ := threes_mem h7 ht
  rw [h _ _ _ h1 h2 h3]
/-- The result's block: still as it was made. -/
def ResC (w0 W : World) : Prop := (W.cell? ⟨w0.heap.size, 0, none⟩ = some (.int .i64 0) ∧ W.cell? ⟨w0.heap.size, 1, none⟩ = some (.string ⟨#[]⟩)) ∧ (W.frozen? ⟨w0.heap.size, 0, none⟩ = false ∧ W.frozen? ⟨w0.heap.size, 1, none⟩ = false) ∧ Below w0.heap.size w0 W
theorem resC_made (w : World) (t : TypeId) : ResC w (w.alloc (.cells #[.int .i64 0, .string ⟨#[]⟩] t)) := by
  refine ⟨⟨?_, ?_⟩, ⟨?_, ?_⟩, (Below.refl _ _).alloc (Nat.le_refl _) _⟩
  all_goals go_simp
theorem ResC.lt {w0 W : World} (h : ResC w0 W) : w0.heap.size < W.heap.size := Kit.cell_lt h.1.1
theorem ResC.on' {w0 W W' : World} {B : Nat} (h : ResC w0 W) (hb : Below B W W') (hl : w0.heap.size < B) (_hs : B ≤ W.heap.size) : ResC w0 W' := by
  obtain ⟨⟨h1, h2⟩, ⟨h3, h4⟩, h5⟩ := h
  exact ⟨⟨by rw [hb.cell hl]; exact h1, by rw [hb.cell hl]; exact h2⟩, ⟨by rw [hb.frozen hl]; exact h3, by rw [hb.frozen hl]; exact h4⟩, h5.trans (hb.mono (by omega))⟩
theorem ResC.on {w0 W W' : World} (h : ResC w0 W) (hb : Below W.heap.size W W') : ResC w0 W' := h.on' hb h.lt (Nat.le_refl _)
theorem ResC.alloc {w0 W : World} (h : ResC w0 W) (o : Obj) : ResC w0 (W.alloc o) := h.on ((Below.refl _ _).alloc (Nat.le_refl _) o)
theorem ret_sg {w1 : World} {B : Nat} {x0 y0 : Value} (e0 : w1.cell? ⟨B, 0, none⟩ = some x0) (e1 : w1.cell? ⟨B, 1, none⟩ = some y0) (x y : Value) :
    ((w1.setCell ⟨B, 0, none⟩ x).setCell ⟨B, 1, none⟩ y).cell? ⟨B, 0, none⟩ = some x ∧ ((w1.setCell ⟨B, 0, none⟩ x).setCell ⟨B, 1, none⟩ y).cell? ⟨B, 1, none⟩ = some y := by
  constructor
  · rw [World.cell?_setCell_other _ _ _ _ (by simp)]; exact World.cell?_setCell_same _ _ _ e0
  · exact World.cell?_setCell_same _ _ _ (by rw [World.cell?_setCell_other _ _ _ _ (by simp)]; exact e1)
set_option maxRecDepth 100000 in
theorem byteOf_any (x : Int) (w : World) : Calls Try.prog 76 #[.int .i64 x] w fun e w' => e = .returned (.int .u8 (byteOf x).toNat) ∧ w = w' := by
  by_cases h : 0 < x
  · have HE : Hid (byteOf x = 43) := Lib.hid (if_pos h)
    go_enter Try.func76, Try.ntmps76
    go_wp2
    go_ret
    exact ⟨by rw [HE.out]; rfl, rfl⟩
  · have HE : Hid (byteOf x = 45) := Lib.hid (if_neg h)
    go_enter Try.func76, Try.ntmps76
    go_wp2
    go_ret
    exact ⟨by rw [HE.out]; rfl, rfl⟩
/-- Of the bytes L those before number p; behind them zeros. -/
def byteSofar (L : List UInt8) (p j : Nat) : Value := if j < p then .int .u8 ((L.getD j 0).toNat : Nat) else .int .u8 0
theorem byteSofar_step (L : List UInt8) (p : Nat) (b : UInt8) (h : L[p]? = some b) (i : Nat) : (if i = p then Value.int .u8 (b.toNat : Nat) else byteSofar L p i) = byteSofar L (p + 1) i := by
  unfold byteSofar
  by_cases e : i = p
  · subst e
    rw [if_pos rfl, if_pos (by omega), List.getD_eq_getElem?_getD, h]; rfl
  · rw [if_neg e]
    by_cases h2 : i < p
    · rw [if_pos h2, if_pos (by omega)]
    · rw [if_neg h2, if_neg (by omega)]
set_option maxRecDepth 100000 in
theorem info8 : (Try.prog.info? 5).map (fun i => (i.zero, i.size, i.bytes)) = some (some (.int .u8 0), 1, 1) := by kernel_rfl
set_option maxHeartbeats 3200000 in
set_option maxRecDepth 100000 in
theorem signsBy_any (n : Nat) (h3 : 3 ≤ n) (h7 : n ≤ 7) (g : Nat) (lb : Array Value) (f : Nat → Nat → Nat → Int) (eg : ∀ args w, (callFunc g args).run Try.prog w = .ok (.enter g args) w) (w : World)
    (HF : Hid (∀ (W : World) (i j k : Nat), Below w.heap.size w W → i < j → j < k → k < n → Calls Try.prog g (#[.int .i64 i, .int .i64 j, .int .i64 k] ++ lb) W fun e w' => e = .returned (.int .i64 (f i j k)) ∧ Below W.heap.size W w')) :
    Calls Try.prog 66 #[.int .i64 n, .func (.func g) #[] lb] w fun e w' => e = .returned (sg n ⟨(text3 n f).toArray⟩) ∧ Below w.heap.size w w' := by
  have hc35 := cnt_le h7
  have HT := Lib.hid (threes_length h7)
  have hcp : 0 < cnt n := by rcases (by omega : n = 3 ∨ n = 4 ∨ n = 5 ∨ n = 6 ∨ n = 7) with rfl | rfl | rfl | rfl | rfl <;> decide
  have HM := Lib.hid (resC_made w 25)
  have hmk := run_make_row' (P := Try.prog) 22 5 (.int .u8 0) 1 Try.underlying22 info8 rfl .i64 .i64 (cnt n) (by omega) (by omega)
  obtain ⟨L, hL⟩ : ∃ L, L = text3 n f := ⟨_, rfl⟩
  have HL := Lib.hid hL
  have HLL : Hid (L.length = cnt n) := Lib.hid (by rw [hL]; exact text3_length h7 f)
  rw [← hL]
  clear hL
  go_enter Try.func66, Try.ntmps66
  go_wp2_with fail
  refine (threesOf_any n h3 h7 _).mono ?_
  rintro e w1 ⟨v, rfl, hv, hb1⟩
  obtain ⟨g3, c, rfl, hg1, hg2, h3a⟩ := owns3_row hv (by rw [HT.out]; exact hcp)
  rw [HT.out]
  have HR := Lib.hid (HM.out.on hb1)
  have HA3 := Lib.hid h3a
  clear hv h3a hb1
  go_wp2
  have hrl := HR.out.lt
  have H0 := Lib.hid ((World.rowIs_made w1 (.int .u8 0) (cnt n) 5).congr (g := byteSofar L 0) (fun i _ => by simp [byteSofar]))
  have HB0 := Lib.hid ((Below.refl w1.heap.size w1).alloc (Nat.le_refl _) (.cells (madeCells #[.int .u8 0] (cnt n)) 5))
  clear hmk
  go_loopw [16] (fun i wr => ∃ p : Nat, p ≤ cnt n ∧ i = .int .i64 p ∧ wr.rowIs w1.heap.size 5 (cnt n) (byteSofar L p) ∧ Below w1.heap.size w1 wr) (fun i _ => cnt n - (intOf i).toNat)
  case atStart => exact ⟨0, Nat.zero_le _, rfl, H0.out, HB0.out⟩
  case round =>
    obtain ⟨p, hp, rfl, hrow, hb⟩ := hrel
    by_cases hlt : p < cnt n
    · obtain ⟨t, ht⟩ : ∃ t, (threes n)[p]? = some t := ⟨_, List.getElem?_eq_getElem (by rw [HT.out]; exact hlt)⟩
      obtain ⟨x0, x1, x2⟩ := (HA3.out.on hb hg2) p t ht
      have hbt : L[p]? = some (byteOf (f t.1 t.2.1 t.2.2)) := by rw [HL.out]; unfold text3; rw [List.getElem?_map, ht]; rfl
      obtain ⟨t1, t2, t3⟩ := threes_mem h7 (List.mem_of_getElem? ht)
      have HW := Lib.hid (HR.out.on hb).2.2
      have HC := Lib.hid (fun W hW => HF.out W t.1 t.2.1 t.2.2 hW t1 t2 t3)
      have HS := Lib.hid (fun i => byteSofar_step L p _ hbt i)
      generalize f t.1 t.2.1 t.2.2 = x at HC HS
      have HRW := Lib.hid hrow
      clear ht hbt hrow
      go_wp2_with fail
      refine (HC.out _ (HW.out.alloc HW.out.size _)).mono ?_
      rintro e w3 ⟨rfl, hb3⟩
      have B3 := (hb.alloc hb.size (.cells #[.int .i64 t.1, .int .i64 t.2.1, .int .i64 t.2.2] 99)).trans (hb3.mono (by have := hb.size; simp; omega))
      have hrl3 : w1.heap.size < (wr.alloc (.cells #[.int .i64 t.1, .int .i64 t.2.1, .int .i64 t.2.2] 99)).heap.size := by have := HRW.out.lt; simp; omega
      have hrow3 := (HRW.out.alloc (.cells #[.int .i64 t.1, .int .i64 t.2.1, .int .i64 t.2.2] 99)).of_block (hb3.block _ hrl3)
      have hd := hrow3.cell hlt
      have hfz := hrow3.frozen p
      have HR3 := Lib.hid ((hrow3.set p (.int .u8 ((byteOf x).toNat : Nat))).congr (g := byteSofar L (p + 1)) (fun i _ => HS.out i))
      have HB3 := Lib.hid (B3.setCell (p := ⟨w1.heap.size, p, none⟩) (Nat.le_refl _) (.int .u8 ((byteOf x).toNat : Nat)))
      clear hrow3 x0 x1 x2
      go_wp2_with fail
      refine (byteOf_any _ _).mono ?_
      rintro e w' ⟨rfl, rfl⟩
      go_wp2
      exact ⟨⟨p + 1, by omega, by go_num, HR3.out, HB3.out⟩, by simp only [intOf]; omega⟩
    · obtain rfl : p = cnt n := by omega
      have hcv : ∀ c, (convert 22 9 (.slice (some ⟨w1.heap.size, 0, none⟩) (cnt n) c)).run Try.prog wr = .ok (.string ⟨L.toArray⟩) wr := fun c => by
        rw [← HLL.out]
        refine run_convert_bytes_back (P := Try.prog) wr 22 9 5 ⟨w1.heap.size, 0, none⟩ c L Try.underlying22 Try.underlying5 Try.underlying9 (fun j hj => ?_)
        rw [WideShapes.add_plain, Nat.zero_add, hrow.cell (by rw [← HLL.out]; exact hj)]
        unfold byteSofar
        rw [if_pos (by rw [← HLL.out]; exact hj), List.getD_eq_getElem?_getD, List.getElem?_eq_getElem hj]
        rfl
      have hcv2 := hcv (cnt n)
      obtain ⟨⟨e0, e1⟩, ⟨z0, z1⟩, B⟩ := HR.out.on hb
      obtain ⟨k0, k1⟩ := ret_sg e0 e1 (.int .i64 n) (.string ⟨L.toArray⟩)
      clear hcv hrow
      go_wp2
      exact bodyPost_ret (v := .agg #[.int .i64 n, .string ⟨L.toArray⟩]) (by simp [results, Try.results66, go_sem, k0, k1]) rfl ⟨rfl, (B.setCell (by simp) _).setCell (by simp) _⟩
end Go.Proofs.Ytlhkgabglddlhaa.Sg
