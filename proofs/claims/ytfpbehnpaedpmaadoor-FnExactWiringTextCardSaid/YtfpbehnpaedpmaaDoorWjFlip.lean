/- Wirings, as impl tells them: FlipWiring. -/
import Derived.Test.YtfpbehnpaedpmaaDoorWjAll
namespace Go.Proofs.YtfpbehnpaedpmaaDoor.Sg
open Go.RowKit Pt NewI Wi
/-- The last k numbers laid, the others not yet. -/
def fromEnd (N : Nat) (Z : List Int) (k j : Nat) : Value := if N ≤ j + k then zc Z j else .int .i64 0
theorem fromEnd_step (N : Nat) (Z : List Int) (k i : Nat) (h : i + k + 1 = N) (j : Nat) : (if j = i then zc Z i else fromEnd N Z k j) = fromEnd N Z (k + 1) j := by
  unfold fromEnd
  by_cases e : j = i
  · subst e; rw [if_pos rfl, if_pos (by omega)]
  · rw [if_neg e]
    by_cases h2 : N ≤ j + k
    · rw [if_pos h2, if_pos (by omega)]
    · rw [if_neg h2, if_neg (by omega)]
theorem flW_get (n : Int) {zs : List Int} {i k : Nat} (h : i + k + 1 = zs.length) : zc (flW n zs) i = .int .i64 (n - 2 - zs.getD k 0) := by
  have hi : i < (flW n zs).length := by rw [flW_len]; omega
  have hk : k < zs.length := by omega
  rw [zc_lt hi, List.getD_eq_getElem?_getD, List.getElem?_eq_getElem hk]
  simp only [flW, List.getElem_map, List.getElem_reverse, Option.getD_some]
  have : zs.length - 1 - i = k := by omega
  simp only [this]
set_option maxHeartbeats 3200000 in
set_option maxRecDepth 100000 in
theorem implFlipWiring (n : Int) (a : Option Addr) (c : Nat) (zs : List Int) (hl : zs.length ≤ 1048576) (W : World) (hs : SrcZ W W.heap.size a zs) :
    Calls Tryd.prog 18 #[.int .i64 n, .slice a zs.length c] W fun e w' => Got2Z W.heap.size (wiFlip n zs) (wiB n zs) e w' ∧ Below W.heap.size W w' := by
  have HIS := Lib.hid (implIsWiring n a c zs hl W hs)
  cases hw : wiB n zs
  · have e : wiFlip n zs = [] := by unfold wiFlip; rw [if_neg (by rw [hw]; simp)]
    rw [e]
    rw [hw] at HIS
    clear e hw hs
    go_enter Tryd.func18, Tryd.ntmps18
    go_wp2_with fail
    refine HIS.out.mono ?_
    rintro e w1 ⟨rfl, hb1⟩
    go_wp2
    go_ret2
    exact ⟨⟨_, _, rfl, .inl rfl⟩, hb1⟩
  obtain ⟨h36, -, hgo⟩ := wiB_go hw
  obtain ⟨h3, h6⟩ := inB_mem h36
  obtain ⟨-, -, -, hl15⟩ := wiB_len hw
  have e : wiFlip n zs = flW n zs := by unfold wiFlip; rw [if_pos hw]
  rw [e]
  rw [hw] at HIS
  have HBD : Hid (∀ i, i < zs.length → 0 ≤ zs.getD i 0 ∧ zs.getD i 0 + 1 < n) := Lib.hid (fun i hi => by
    have := goZ_bd hgo _ (getD_memW hi)
    rw [List.length_range] at this
    omega)
  have hmk := run_make_row' (P := Tryd.prog) 24 3 (.int .i64 0) 8 Tryd.underlying24 infoZ rfl .i64 .i64 zs.length (by omega) (by omega)
  have HSRC := Lib.hid (fun W2 (hW : Below W.heap.size W W2) => hs.on hW)
  have HGT := Lib.hid (fun (i k : Nat) (h : i + k + 1 = zs.length) => flW_get n h)
  have HLN := Lib.hid (flW_len n zs)
  generalize flW n zs = Z at HGT HLN ⊢
  have v2 : IntKind.i64.wrap (n - 2) = n - 2 := IntWalk.i64_in _ (by omega)
  have vl : IntKind.i64.wrap ((zs.length : Int) - 1) = (zs.length : Int) - 1 := IntWalk.i64_in _ (by omega)
  clear e hw hs h36 hgo
  go_enter Tryd.func18, Tryd.ntmps18
  go_wp2_with fail
  refine HIS.out.mono ?_
  rintro e w0 ⟨rfl, hb0⟩
  have H0 := Lib.hid ((World.rowIs_made w0 (.int .i64 0) zs.length 3).congr (g := fromEnd zs.length Z 0) (fun i hi => by unfold fromEnd; rw [if_neg (by omega)]))
  have HB0 := Lib.hid (hb0.alloc hb0.size (.cells (madeCells #[.int .i64 0] zs.length) 3))
  have hw0 := hb0.size
  clear hb0 HIS
  go_wp2
  go_loopw [18] (fun x wr => ∃ k : Nat, k ≤ zs.length ∧ x = .int .i64 k ∧ Hid (wr.rowIs w0.heap.size 3 zs.length (fromEnd zs.length Z k)) ∧ Hid (Below W.heap.size W wr)) (fun x _ => zs.length - (intOf x).toNat)
  case atStart => exact ⟨0, Nat.zero_le _, rfl, H0, HB0⟩
  case round =>
    obtain ⟨k, hk, rfl, HR, HB⟩ := hrel
    by_cases hlt : k < zs.length
    · obtain ⟨b, o, rfl, hbb, hcz⟩ := HSRC.out _ HB.out k hlt
      obtain ⟨z0, z1⟩ := HBD.out k hlt
      obtain ⟨i, hip⟩ : ∃ i, i + k + 1 = zs.length := ⟨zs.length - 1 - k, by omega⟩
      have hg := HGT.out i k hip
      have hst := HR.out.set i (.int .i64 (n - 2 - zs.getD k 0))
      rw [← hg] at hst
      have HR2 := Lib.hid (hst.congr (g := fromEnd zs.length Z (k + 1)) (fun j _ => fromEnd_step zs.length Z k i hip j))
      rw [hg] at HR2
      have HB2 := Lib.hid (HB.out.setCell (p := ⟨w0.heap.size, i, none⟩) (by exact hw0) (.int .i64 (n - 2 - zs.getD k 0)))
      have hdst := HR.out.cell (i := i) (by omega)
      have hfz := HR.out.frozen i
      have hil : i < zs.length := by omega
      have vi : IntKind.i64.wrap ((zs.length : Int) - 1 - (k : Int)) = (i : Int) := by rw [IntWalk.i64_in _ (by omega)]; omega
      generalize zs.getD k 0 = z at hcz z0 z1 HR2 HB2
      have v3 : IntKind.i64.wrap (n - 2 - z) = n - 2 - z := IntWalk.i64_in _ (by omega)
      clear hg hst HR HB hip
      go_wp2
      exact ⟨⟨k + 1, by omega, by go_num, HR2, HB2⟩, by simp only [intOf]; omega⟩
    · obtain rfl : k = zs.length := by omega
      have HN : Hid (NewI.New wr W.heap.size wr.heap.size (some ⟨w0.heap.size, 0, none⟩) Z.length (zc Z)) := Lib.hid (.inr ⟨w0.heap.size, rfl, hw0, World.rowIs.lt HR.out, by
        rw [HLN.out]
        exact Cells.congr ⟨fun j hj => World.rowIs.cell HR.out hj, World.rowIs.frozen HR.out, World.rowIs.lt HR.out⟩ (fun j _ => by unfold fromEnd; rw [if_pos (by omega)])⟩)
      have hZl := HLN.out
      clear HR
      go_wp2
      go_ret2
      exact ⟨⟨some ⟨w0.heap.size, 0, none⟩, zs.length, by rw [hZl]; rfl, HN.out⟩, HB.out⟩
end Go.Proofs.YtfpbehnpaedpmaaDoor.Sg
