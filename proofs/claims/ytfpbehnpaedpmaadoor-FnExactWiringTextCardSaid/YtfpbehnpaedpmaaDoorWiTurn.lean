/- Wirings, as spec tells them: TurnWiring. -/
import Derived.Test.YtfpbehnpaedpmaaDoorMgWc
import Derived.Test.YtfpbehnpaedpmaaDoorWiSwapsOf
namespace Go.Proofs.YtfpbehnpaedpmaaDoor.Sg
open Go.RowKit Pt NewI Wi
theorem ints_oneW (zs : List Int) : ∀ u ∈ zs.map (Value.int .i64), u.oneCell' = true := fun u hu => by
  obtain ⟨x, -, rfl⟩ := List.mem_map.1 hu
  rfl
def wiTurn (n : Int) (zs : List Int) : List Int := if wiB n zs = true then tuW n zs else []
theorem heap_at0 (w : World) (o o2 : Obj) : ((w.alloc o).alloc o2).heap[w.heap.size]? = some o := by
  rw [((Below.refl (w.alloc o).heap.size _).alloc (Nat.le_refl _) o2).block w.heap.size (by simp)]
  exact heap_made w o
theorem heap_at1 (w : World) (o o2 : Obj) : ((w.alloc o).alloc o2).heap[w.heap.size + 1]? = some o2 := by
  have := heap_made (w.alloc o) o2
  rwa [World.size_alloc] at this
theorem at_block {w : World} {g : Nat} {y : Int} {t : TypeId} (h : w.heap[g]? = some (.cells #[.int .i64 y] t)) : ∀ (j : Nat) u, [Value.int .i64 y][j]? = some u → w.cell? (Addr.add ⟨g, 0, none⟩ j) = some u
  | 0, u, hu => by
    have hu : Value.int .i64 y = u := by simpa using hu
    subst hu
    rw [WideShapes.add_plain, Nat.add_zero]
    simp [World.cell?, h]
  | j + 1, u, hu => by simp at hu
/-- An empty slice of its own. -/
theorem own_none {w : World} {B g : Nat} {t : TypeId} (hB : B ≤ g) (h : w.heap[g]? = some (.cells #[] t)) : w.ownsRow B t 1 (.slice (some ⟨g, 0, none⟩) 0 0) 0 [] :=
  ⟨rfl, .inr ⟨g, 0, #[], rfl, hB, h, Nat.le_refl _, by decide, by decide, rfl⟩⟩
set_option maxHeartbeats 3200000 in
set_option maxRecDepth 100000 in
theorem specTurnWiring (n : Int) (a : Option Addr) (c : Nat) (zs : List Int) (hl : zs.length ≤ 1048576) (hc : zs.length ≤ c) (_hcm : c ≤ maxLen) (w : World) (hs : SrcZ w w.heap.size a zs) :
    Calls Tryd.prog 17 #[.int .i64 n, .slice a zs.length c] w fun e w' => Got2Z w.heap.size (wiTurn n zs) (wiB n zs) e w' ∧ Below w.heap.size w w' := by
  have HIS := Lib.hid (specIsWiring n a c zs hl w hs)
  have HBE := Lib.hid (fun W (hW : Below w.heap.size w W) => hW.alloc hW.size (.cells #[] 3))
  cases hw : wiB n zs
  · have e : wiTurn n zs = [] := by unfold wiTurn; rw [if_neg (by rw [hw]; simp)]
    rw [e]
    rw [hw] at HIS
    clear e hw hs
    go_enter Tryd.func17, Tryd.ntmps17
    go_wp2_with fail
    refine HIS.out.mono ?_
    rintro e w1 ⟨rfl, hb1⟩
    go_wp2
    go_ret2
    exact ⟨⟨_, _, rfl, .inl rfl⟩, HBE.out _ hb1⟩
  obtain ⟨h36, hlen, hgo⟩ := wiB_go hw
  obtain ⟨h3, h6⟩ := inB_mem h36
  obtain ⟨m, rfl⟩ : ∃ m : Nat, n = m := ⟨n.toNat, by omega⟩
  rw [Int.toNat_natCast] at hlen hgo
  have hlb : 3 ≤ zs.length ∧ zs.length ≤ 15 := by
    rw [hlen]
    have : ∀ m, m < 7 → 3 ≤ m → 3 ≤ m * (m - 1) / 2 ∧ m * (m - 1) / 2 ≤ 15 := by decide
    exact this m (by omega) (by omega)
  obtain ⟨h0, h1⟩ := goZ_bd hgo _ (getD_memW (i := 0) (by omega))
  rw [List.length_range] at h1
  have e : wiTurn m zs = zs.drop 1 ++ [(m : Int) - 2 - zs.getD 0 0] := by unfold wiTurn; rw [if_pos hw]; rfl
  rw [e]
  rw [hw] at HIS
  obtain ⟨b, o, rfl, hbb, hcz⟩ := hs 0 (by omega)
  have HZ : Hid (∀ W, Below w.heap.size w W → W.cell? ⟨b, o, none⟩ = some (.int .i64 (zs.getD 0 0))) := Lib.hid (fun W hW => by rw [hW.cell hbb]; exact hcz)
  have HN : Hid (∀ W, Below w.heap.size w W → ∀ (j : Nat) u, ((zs.drop 1).map (Value.int .i64))[j]? = some u → W.cell? (Addr.add ⟨b, o + 1, none⟩ j) = some u) := Lib.hid (fun W hW j u hu => by
    rw [List.getElem?_map] at hu
    obtain ⟨x, hx, rfl⟩ := Option.map_eq_some_iff.1 hu
    rw [List.getElem?_drop] at hx
    obtain ⟨hj, rfl⟩ := List.getElem?_eq_some_iff.1 hx
    obtain ⟨b', o', e1, h2, h3⟩ := hs (1 + j) hj
    injection e1 with e1
    injection e1 with e1 e2
    subst e1 e2
    rw [WideShapes.add_plain, hW.cell h2, show o + 1 + j = o + (1 + j) by omega, h3, List.getD_eq_getElem?_getD, List.getElem?_eq_getElem hj]
    rfl)
  have HDL : Hid ((zs.drop 1).length + 1 = zs.length) := Lib.hid (by rw [List.length_drop]; omega)
  generalize zs.getD 0 0 = z at hcz h0 h1 HZ ⊢
  generalize zs.drop 1 = ds at HN HDL ⊢
  generalize zs.length = N at hlb hc HIS HDL ⊢
  obtain ⟨i0, hi, hz0, hz1, hz2⟩ := info_parts infoI
  have v2 : IntKind.i64.wrap ((m : Int) - 2) = (m : Int) - 2 := IntWalk.i64_in _ (by omega)
  obtain ⟨y, hy⟩ : ∃ y, y = (m : Int) - 2 - z := ⟨_, rfl⟩
  have v3 : IntKind.i64.wrap ((m : Int) - 2 - z) = y := by rw [hy]; exact IntWalk.i64_in _ (by omega)
  rw [← hy]
  clear hy
  clear e hw hs h36 hgo HBE hlen hcz
  go_enter Tryd.func17, Tryd.ntmps17
  go_wp2_with fail
  refine HIS.out.mono ?_
  rintro e w0 ⟨rfl, hb0⟩
  have hz := HZ.out _ hb0
  have HB0 := Lib.hid hb0
  have hdl : ds.length + 1 = N := HDL.out
  have k1 : (1 : Int) ≤ (N : Int) := by omega
  have k2 : 1 ≤ N := by omega
  have k3 : 0 < N := by omega
  have k4 : c ≠ 1 := by omega
  clear hb0 HIS
  go_wp2
  have hs0 := HB0.out.size
  have hbz : b < w0.heap.size := by omega
  have HLA : Hid (∀ o, Below w.heap.size w (w0.alloc o)) := Lib.hid (fun o => HB0.out.alloc HB0.out.size o)
  have HLB : Hid (∀ o o2, Below w.heap.size w ((w0.alloc o).alloc o2)) := Lib.hid (fun o o2 => (HLA.out o).alloc (HLA.out o).size o2)
  go_region_law (first
    | (refine step_appW _ (by rfl) _ _ _ (by rfl) w.heap.size 3 i0 _ 1 8 Tryd.underlying24 hi hz0 hz1 hz2 rfl (by omega) _ _ _ (by rfl) (own_none (by first | exact hs0 | omega) (by first | exact heap_made _ _ | exact heap_at0 _ _ _ | exact heap_at1 _ _ _)) ⟨b, o + 1, none⟩ (N - 1) (c - 1) (ds.map (Value.int .i64)) (by rfl) (by simp; omega) (HN.out _ (by first | exact (HLA.out _).drew | exact (HLB.out _ _).drew | exact HLA.out _ | exact HLB.out _ _)) (ints_oneW _) (by simp only [maxLen] at *; omega) (by omega) (by simp; omega) ?_
       intro v1 w1 hown1 hg1 _
       have hb1 : Below w.heap.size w w1 := Below.grown (by first | exact (HLA.out _).drew | exact (HLB.out _ _).drew | exact HLA.out _ | exact HLB.out _ _) hg1 (by simp; omega) (fun q hq => by simp [Value.ownBlock] at hq; omega)
       have z1 := HZ.out _ hb1)
    | (refine step_appW _ (by rfl) _ _ _ (by rfl) w.heap.size 3 i0 _ 1 8 Tryd.underlying24 hi hz0 hz1 hz2 rfl (by omega) _ _ _ (by rfl) (by first | exact World.ownsRow.alloc hown1 _ | exact hown1) ⟨_, 0, none⟩ 1 1 [.int .i64 y] (by rfl) (by rfl) (by first | exact news1 _ _ _ | exact at_block ((hg1.block _ (by first | (simp; done) | (simp; omega)) (by simp [Value.ownBlock])).trans (heap_at0 _ _ _)) | exact at_block ((hg1.block _ (by first | (simp; done) | (simp; omega)) (by simp [Value.ownBlock])).trans (heap_at1 _ _ _))) (one1 _) (by simp only [maxLen]; omega) (by omega) (by have := hb1.size; simp; omega) ?_
       intro v2 w2 hown2 hg2 _)
    | (trace_state; fail))
  all_goals
    have hb2 : Below w.heap.size w w2 := Below.grown (by first | exact (hb1.alloc hb1.size _).drew | exact hb1.alloc hb1.size _ | exact hb1.drew | exact hb1) hg2 (by have := hb1.size; simp; omega) (fun q hq => (World.ownsRow.lt hown1 q hq).1)
    have hO2 : OwnsZ w2 w.heap.size v2 (ds ++ [y]) := by
      have e1 : (ds ++ [y]).length = 0 + (N - 1) + 1 := by rw [List.length_append, List.length_singleton]; omega
      have e2 : (ds ++ [y]).map (Value.int .i64) = [] ++ ds.map (Value.int .i64) ++ [.int .i64 y] := by simp
      unfold OwnsZ
      rw [e1, e2]
      exact hown2
    obtain ⟨ra, rc, rfl, hnew, -⟩ := New.of_own hO2
    clear hown2 hg2 hown1 hO2
    go_wp2
    go_ret2
    exact ⟨⟨_, _, rfl, hnew⟩, hb2⟩
end Go.Proofs.YtfpbehnpaedpmaaDoor.Sg
