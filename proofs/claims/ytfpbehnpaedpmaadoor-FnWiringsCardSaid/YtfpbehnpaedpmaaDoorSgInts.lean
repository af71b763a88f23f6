/- Slices of ints: what the laws' helpers make of them; names asked and turned by spec. -/
import Derived.Test.YtfpbehnpaedpmaaDoorMgSb
import Derived.Lib.Slices
import Derived.Laws.MakeOwn
import Derived.Laws.Entries
namespace Go.Proofs.YtfpbehnpaedpmaaDoor.Sg
open Go.RowKit Pt
/-- The cells from offset o of block b on hold these numbers. -/
def ZsAt (w : World) (b o : Nat) (zs : List Int) : Prop := ∀ (j : Nat) z, zs[j]? = some z → w.cell? ⟨b, o + j, none⟩ = some (.int .i64 z)
theorem ZsAt.on {w w' : World} {B b o : Nat} {zs : List Int} (h : ZsAt w b o zs) (hb : Below B w w') (hB : b < B) : ZsAt w' b o zs := fun j x hx => by rw [hb.cell hB]; exact h j x hx
theorem ZsAt.get {w : World} {b o : Nat} {zs : List Int} (h : ZsAt w b o zs) {i : Nat} (hi : i < zs.length) : w.cell? ⟨b, o + i, none⟩ = some (.int .i64 zs[i]) := h i _ (List.getElem?_eq_getElem hi)
def zCell (zs : List Int) (j : Nat) : Value := .int .i64 (zs.getD j 0)
theorem zCell_lt {zs : List Int} {j : Nat} (h : j < zs.length) : zCell zs j = .int .i64 zs[j] := by unfold zCell; rw [List.getD_eq_getElem?_getD, List.getElem?_eq_getElem h]; rfl
/-- Block b is a row of these numbers. -/
def RowZ (w : World) (b : Nat) (zs : List Int) : Prop := w.rowIs b 3 zs.length (zCell zs)
theorem RowZ.at {w : World} {b : Nat} {zs : List Int} (h : RowZ w b zs) : ZsAt w b 0 zs := fun j x hx => by
  obtain ⟨hj, rfl⟩ := List.getElem?_eq_some_iff.1 hx
  have := World.rowIs.cell h hj
  rw [zCell_lt hj] at this
  rw [Nat.zero_add]; exact this
theorem RowZ.lt {w : World} {b : Nat} {zs : List Int} (h : RowZ w b zs) : b < w.heap.size := World.rowIs.lt h
theorem RowZ.on {w w' : World} {b : Nat} {zs : List Int} (h : RowZ w b zs) (hb : Below w.heap.size w w') : RowZ w' b zs := World.rowIs.of_block h (hb.block b h.lt)
def zSofar (zs : List Int) (k j : Nat) : Value := if j < k then zCell zs j else .int .i64 0
theorem zSofar_step (zs : List Int) (k : Nat) (h : k < zs.length) (i : Nat) : (if i = k then Value.int .i64 zs[k] else zSofar zs k i) = zSofar zs (k + 1) i := by
  unfold zSofar
  by_cases e : i = k
  · subst e; rw [if_pos rfl, if_pos (by omega), zCell_lt h]
  · rw [if_neg e]
    by_cases h2 : i < k
    · rw [if_pos h2, if_pos (by omega)]
    · rw [if_neg h2, if_neg (by omega)]
set_option maxRecDepth 100000 in
theorem infoZ : (Tryd.prog.info? 3).map (fun i => (i.zero, i.size, i.bytes)) = some (some (.int .i64 0), 1, 8) := by kernel_rfl
set_option maxHeartbeats 400000 in
set_option maxRecDepth 100000 in
theorem toI_any (b o c : Nat) (zs : List Int) (hx : zs.length ≤ 1048576) (w : World) (hc : ZsAt w b o zs) (hbw : b < w.heap.size) :
    Calls Tryd.prog 29 #[.slice (some ⟨b, o, none⟩) zs.length c] w fun e w' => e = .returned (.slice (some ⟨w.heap.size, 0, none⟩) zs.length zs.length) ∧ RowZ w' w.heap.size zs ∧ Below w.heap.size w w' := by
  have hmk := run_make_row' (P := Tryd.prog) 24 3 (.int .i64 0) 8 Tryd.underlying24 infoZ rfl .i64 .i64 zs.length (by omega) (by omega)
  have H0 := Lib.hid ((World.rowIs_made w (.int .i64 0) zs.length 3).congr (g := zSofar zs 0) (fun i _ => by simp [zSofar]))
  have HB0 := Lib.hid ((Below.refl w.heap.size w).alloc (Nat.le_refl _) (.cells (madeCells #[.int .i64 0] zs.length) 3))
  go_enter Tryd.func29, Tryd.ntmps29
  go_wp2
  go_loopw [4] (fun i wr => ∃ k : Nat, k ≤ zs.length ∧ i = .int .i64 k ∧ wr.rowIs w.heap.size 3 zs.length (zSofar zs k) ∧ Below w.heap.size w wr) (fun i _ => zs.length - (intOf i).toNat)
  case atStart => exact ⟨0, Nat.zero_le _, rfl, H0.out, HB0.out⟩
  case round =>
    obtain ⟨k, hk, rfl, hrow, hb⟩ := hrel
    by_cases hlt : k < zs.length
    · have hcell := (hc.on hb hbw).get hlt
      have hdst := hrow.cell hlt
      have hfz := hrow.frozen k
      have HR := Lib.hid ((hrow.set k (.int .i64 zs[k])).congr (g := zSofar zs (k + 1)) (fun i _ => zSofar_step zs k hlt i))
      have HB := Lib.hid (hb.setCell (p := ⟨w.heap.size, k, none⟩) (Nat.le_refl _) (.int .i64 zs[k]))
      clear hrow
      generalize zs[k] = z at hcell HR HB
      go_wp2
      exact ⟨⟨k + 1, by omega, by go_num, HR.out, HB.out⟩, by simp only [intOf]; omega⟩
    · have HR := Lib.hid (hrow.congr (g := zCell zs) (fun i hi => by unfold zSofar; rw [if_pos (by omega)]))
      clear hrow
      go_wp2
      go_ret
      exact ⟨rfl, HR.out, hb⟩
set_option maxRecDepth 100000 in
theorem toI_none (a : Option Addr) (c : Nat) (w : World) :
    Calls Tryd.prog 29 #[.slice a 0 c] w fun e w' => e = .returned (.slice (some ⟨w.heap.size, 0, none⟩) 0 0) ∧ RowZ w' w.heap.size [] ∧ Below w.heap.size w w' := by
  have hmk := run_make_row' (P := Tryd.prog) 24 3 (.int .i64 0) 8 Tryd.underlying24 infoZ rfl .i64 .i64 0 (by omega) (by omega)
  simp only [Int.natCast_zero] at hmk
  have H0 := Lib.hid ((World.rowIs_made w (.int .i64 0) 0 3).congr (g := zCell []) (fun i hi => by omega))
  have HB0 := Lib.hid ((Below.refl w.heap.size w).alloc (Nat.le_refl _) (.cells (madeCells #[.int .i64 0] 0) 3))
  go_enter Tryd.func29, Tryd.ntmps29
  go_wp2
  refine wp_loop_rounds 1 ?_
  rw [rounds_succ]
  go_wp2
  go_ret
  exact ⟨rfl, H0.out, HB0.out⟩
theorem toI_arg (v : Value) (zs : List Int) (hx : zs.length ≤ 1048576) (w0 : World) (h : Kit.IntsArg w0 v zs) (w : World) (hb : Below w0.heap.size w0 w) :
    Calls Tryd.prog 29 #[v] w fun e w' => e = .returned (.slice (some ⟨w.heap.size, 0, none⟩) zs.length zs.length) ∧ RowZ w' w.heap.size zs ∧ Below w.heap.size w w' := by
  obtain ⟨a, c, rfl, -, -, h | ⟨b, o, rfl, hc, hl, -⟩⟩ := h
  · obtain rfl : zs = [] := List.eq_nil_of_length_eq_zero h
    exact toI_none a c w
  · exact toI_any b o c zs hx w (fun j z hz => by rw [hb.cell hl]; exact hc j z hz) (Nat.lt_of_lt_of_le hl hb.size)
set_option maxHeartbeats 400000 in
set_option maxRecDepth 100000 in
theorem eqI_any (b c b2 c2 : Nat) (zs : List Int) (hx : zs.length ≤ 1048576) (w : World) (h1 : RowZ w b zs) (h2 : RowZ w b2 zs) :
    Calls Tryd.prog 30 #[.slice (some ⟨b, 0, none⟩) zs.length c, .slice (some ⟨b2, 0, none⟩) zs.length c2] w fun e w' => e = .returned (.bool true) ∧ Below w.heap.size w w' := by
  have hne : ((zs.length : Int) != (zs.length : Int)) = false := by simp
  have H1 := Lib.hid h1.at
  have H2 := Lib.hid h2.at
  clear h1 h2
  go_enter Tryd.func30, Tryd.ntmps30
  go_wp2
  go_loopw [5] (fun i wr => ∃ k : Nat, k ≤ zs.length ∧ i = .int .i64 k ∧ Hid (∃ n, wr = w.drewN n)) (fun i _ => zs.length - (intOf i).toNat)
  case atStart => exact ⟨0, Nat.zero_le _, rfl, Lib.hid ⟨0, rfl⟩⟩
  case round =>
    obtain ⟨k, hk, rfl, hn⟩ := hrel
    obtain ⟨n, rfl⟩ := hn.out
    by_cases hlt : k < zs.length
    · have x1 := H1.out.get hlt
      have x2 := H2.out.get hlt
      simp only [Nat.zero_add] at x1 x2
      have hse : (zs[k] != zs[k]) = false := by simp
      generalize zs[k] = z at x1 x2 hse
      go_wp2
      go_quiet (fail)
      go_wp2
      exact ⟨⟨k + 1, by omega, by go_num, Lib.hid ⟨_, rfl⟩⟩, by simp only [intOf]; omega⟩
    · go_wp2
      go_ret
      exact ⟨rfl, drewN_below (Below.refl _ _) _⟩
end Go.Proofs.YtfpbehnpaedpmaaDoor.Sg
