/- Wirings, as impl tells them: TurnWiring. -/
import Derived.Test.YtfpbehnpaedpmaaDoorWjEx
import Derived.Test.YtfpbehnpaedpmaaDoorWjAll
namespace Go.Proofs.YtfpbehnpaedpmaaDoor.Sg
open Go.RowKit Pt NewI Wi
/-- A row into whose front these numbers were copied. -/
theorem row_front {w : World} {g N : Nat} {ds : List Int} (hd : ds.length ≤ N) (h : w.heap[g]? = some (.cells (splice (madeCells #[.int .i64 0] N).toList 0 (ds.map (Value.int .i64))).toArray 3 (0, 0))) : w.rowIs g 3 N (zc ds) := by
  refine ⟨_, h, ?_, fun i hi => ?_⟩
  · unfold splice
    simp [size_madeCells]
    omega
  · unfold splice
    rw [List.getElem?_toArray, List.take_zero, List.nil_append, Nat.zero_add]
    by_cases hj : i < ds.length
    · rw [List.getElem?_append_left (by rw [List.length_map]; exact hj), List.getElem?_map, List.getElem?_eq_getElem hj, zc_lt hj]; rfl
    · rw [List.getElem?_append_right (by rw [List.length_map]; omega), List.getElem?_drop, List.length_map, show ds.length + (i - ds.length) = i by omega]
      unfold zc
      rw [List.getD_eq_getElem?_getD, List.getElem?_eq_none (l := ds) (by omega)]
      rw [Array.getElem?_toList]
      simp [madeCells, hi, Nat.mod_one]
set_option maxHeartbeats 3200000 in
set_option maxRecDepth 100000 in
theorem implTurnWiring (n : Int) (a : Option Addr) (c : Nat) (zs : List Int) (hl : zs.length ≤ 1048576) (hc : zs.length ≤ c) (_hcm : c ≤ maxLen) (W : World) (hs : SrcZ W W.heap.size a zs) :
    Calls Tryd.prog 16 #[.int .i64 n, .slice a zs.length c] W fun e w' => Got2Z W.heap.size (wiTurn n zs) (wiB n zs) e w' ∧ Below W.heap.size W w' := by
  have HIS := Lib.hid (implIsWiring n a c zs hl W hs)
  cases hw : wiB n zs
  · have e : wiTurn n zs = [] := by unfold wiTurn; rw [if_neg (by rw [hw]; simp)]
    rw [e]
    rw [hw] at HIS
    clear e hw hs
    go_enter Tryd.func16, Tryd.ntmps16
    go_wp2_with fail
    refine HIS.out.mono ?_
    rintro e w1 ⟨rfl, hb1⟩
    go_wp2
    go_ret2
    exact ⟨⟨_, _, rfl, .inl rfl⟩, hb1⟩
  obtain ⟨h36, hlen, hgo⟩ := wiB_go hw
  obtain ⟨h3, h6⟩ := inB_mem h36
  obtain ⟨-, -, hl3, hl15⟩ := wiB_len hw
  obtain ⟨m, rfl⟩ : ∃ m : Nat, n = m := ⟨n.toNat, by omega⟩
  rw [Int.toNat_natCast] at hlen hgo
  obtain ⟨h0, h1⟩ := goZ_bd hgo _ (getD_memW (i := 0) (by omega))
  rw [List.length_range] at h1
  have e : wiTurn m zs = zs.drop 1 ++ [(m : Int) - 2 - zs.getD 0 0] := by unfold wiTurn; rw [if_pos hw]; rfl
  rw [e]
  rw [hw] at HIS
  obtain ⟨b, o, rfl, hbb, hcz⟩ := hs 0 (by omega)
  have HZ : Hid (∀ W2, Below W.heap.size W W2 → W2.cell? ⟨b, o, none⟩ = some (.int .i64 (zs.getD 0 0))) := Lib.hid (fun W2 hW => by rw [hW.cell hbb]; exact hcz)
  have HN : Hid (∀ W2, Below W.heap.size W W2 → ∀ (j : Nat) u, ((zs.drop 1).map (Value.int .i64))[j]? = some u → W2.cell? (Addr.add ⟨b, o + 1, none⟩ j) = some u) := Lib.hid (fun W2 hW j u hu => by
    rw [List.getElem?_map] at hu
    obtain ⟨x, hx, rfl⟩ := Option.map_eq_some_iff.1 hu
    rw [List.getElem?_drop] at hx
    obtain ⟨hj, rfl⟩ := List.getElem?_eq_some_iff.1 hx
    obtain ⟨b', o', e1, h2, h3⟩ := hs (1 + j) hj
    injection e1 with e1
    injection e1 with e1 e2
    subst e1 e2
    rw [WideShapes.add_plain, hW.cell h2, show o + 1 + j = o + (1 + j) by omega, h3, List.getD_eq_getElem?_getD, List.getElem?_eq_getElem hj]
    rfl)
  have HDL : Hid ((zs.drop 1).length + 1 = zs.length) := Lib.hid (by rw [List.length_drop]; omega)
  generalize zs.getD 0 0 = z at hcz h0 h1 HZ ⊢
  generalize zs.drop 1 = ds at HN HDL ⊢
  generalize zs.length = N at hl3 hl15 hc HIS HDL ⊢
  have HCL : Hid ((ds.map (Value.int .i64)).length + 1 = N) := Lib.hid (by rw [List.length_map]; exact HDL.out)
  have HONE : Hid (∀ v ∈ ds.map (Value.int .i64), v.oneCell' = true) := Lib.hid (fun v hv => by
    obtain ⟨x, -, rfl⟩ := List.mem_map.1 hv
    rfl)
  have HRF : Hid (∀ (w : World) g, w.heap[g]? = some (.cells (splice (madeCells #[.int .i64 0] N).toList 0 (ds.map (Value.int .i64))).toArray 3 (0, 0)) → w.rowIs g 3 N (zc ds)) := Lib.hid (fun w g h => row_front (by have := HDL.out; omega) h)
  have hmk := run_make_row' (P := Tryd.prog) 24 3 (.int .i64 0) 8 Tryd.underlying24 infoZ rfl .i64 .i64 N (by omega) (by omega)
  have v2 : IntKind.i64.wrap ((m : Int) - 2) = (m : Int) - 2 := IntWalk.i64_in _ (by omega)
  obtain ⟨y, hy⟩ : ∃ y, y = (m : Int) - 2 - z := ⟨_, rfl⟩
  have v3 : IntKind.i64.wrap ((m : Int) - 2 - z) = y := by rw [hy]; exact IntWalk.i64_in _ (by omega)
  obtain ⟨M, hM⟩ : ∃ M, M + 1 = N := ⟨N - 1, by omega⟩
  have v4 : IntKind.i64.wrap ((N : Int) - 1) = (M : Int) := by rw [IntWalk.i64_in _ (by omega)]; omega
  rw [← hy]
  have hMN : M < N := by omega
  have HM := Lib.hid hM
  generalize hcs : ds.map (Value.int .i64) = cs at HN HCL HONE HRF
  clear hy hM hcs
  clear e hw hs h36 hgo hlen hcz
  unfold maxLen at _hcm
  go_enter Tryd.func16, Tryd.ntmps16
  go_wp2_with fail
  refine HIS.out.mono ?_
  rintro e w1 ⟨rfl, hb1⟩
  have HBM := Lib.hid (hb1.alloc hb1.size (.cells (madeCells #[.int .i64 0] N) 3))
  have hw1 := hb1.size
  clear hb1 HIS
  go_wp2_with ((with_reducible show Go.wpList _ _ _ (⟨some 17, _, _, _, _, _⟩ :: _) _ _); go_loud (refine wpList_copy_splice (by rfl) (.tmp 14) (.tmp 16) 24 24 (by rfl) 3 Tryd.underlying24 sizeI (some ⟨w1.heap.size, 0, none⟩) (some ⟨b, o + 1, none⟩) N N (N - 1) (c - 1) (by rfl) (by rfl) w1.heap.size 0 (madeCells #[.int .i64 0] N).toList 3 (by rw [Array.toArray_toList]; exact heap_made w1 _) cs (by rw [show Nat.min (N - 1) N = N - 1 from Nat.min_eq_left (Nat.sub_le _ _)]; have := HCL.out; omega) (fun _ => ⟨rfl, _, rfl, HN.out _ HBM.out⟩) (by have := HCL.out; simp [size_madeCells]; omega) HONE.out W.heap.size W HBM.out hw1 ?_))
  intro w2 hg2 hb2
  have hrow := HRF.out _ _ hg2.out
  have hzc := HZ.out _ hb2
  have hdst := World.rowIs.cell hrow hMN
  have hfz := World.rowIs.frozen hrow M
  have HR2 : Hid ((w2.setCell ⟨w1.heap.size, M, none⟩ (.int .i64 y)).rowIs w1.heap.size 3 N (zc (ds ++ [y]))) := Lib.hid ((World.rowIs.set hrow M (.int .i64 y)).congr (fun j hj => by
    have h1 := HDL.out
    have h2 := HM.out
    by_cases e : j = M
    · rw [if_pos e]
      unfold zc
      rw [List.getD_eq_getElem?_getD, List.getElem?_append_right (by omega), show j - ds.length = 0 by omega]
      rfl
    · rw [if_neg e]
      unfold zc
      rw [List.getD_eq_getElem?_getD, List.getD_eq_getElem?_getD, List.getElem?_append_left (by omega)]))
  have HB2 := Lib.hid (hb2.setCell (p := ⟨w1.heap.size, M, none⟩) (by exact hw1) (.int .i64 y))
  have HLE : Hid ((ds ++ [y]).length = N) := Lib.hid (by rw [List.length_append]; exact HDL.out)
  have HN2 : Hid (∀ w3, w3 = w2.setCell ⟨w1.heap.size, M, none⟩ (.int .i64 y) → Got2Z W.heap.size (ds ++ [y]) true (.returned (.tuple #[.slice (some ⟨w1.heap.size, 0, none⟩) N N, .bool true])) w3) := Lib.hid (fun w3 h3 => by
    subst h3
    refine ⟨some ⟨w1.heap.size, 0, none⟩, N, by rw [HLE.out], .inr ⟨w1.heap.size, rfl, hw1, World.rowIs.lt HR2.out, ?_⟩⟩
    rw [HLE.out]
    exact ⟨fun j hj => World.rowIs.cell HR2.out hj, World.rowIs.frozen HR2.out, World.rowIs.lt HR2.out⟩)
  clear hrow hg2 hb2 HR2 HLE HRF HN HONE HCL HBM
  go_wp2
  go_ret2
  exact ⟨HN2.out _ rfl, HB2.out⟩
end Go.Proofs.YtfpbehnpaedpmaaDoor.Sg
