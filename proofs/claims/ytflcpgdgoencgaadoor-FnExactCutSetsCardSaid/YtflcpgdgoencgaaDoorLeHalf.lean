/- What lies left, as impl tells it: HalvingPairs. -/
import Derived.Test.YtflcpgdgoencgaaDoorMgN
import Derived.Test.YtflcpgdgoencgaaDoorMgX
namespace Go.Proofs.YtflcpgdgoencgaaDoor.Sg
open Go.RowKit Pt NewI NewII HuSort
/-- A pair by its key. -/
def unk (k : Nat) : List Int := [((k / 8 : Nat) : Int), ((k % 8 : Nat) : Int)]
def keyP (p : Nat × Nat) : Nat := 8 * p.1 + p.2
theorem unk_key {i j : Nat} (h : j < 8) : unk (8 * i + j) = [(i : Int), (j : Int)] := by
  unfold unk
  rw [show (8 * i + j) / 8 = i by omega, show (8 * i + j) % 8 = j by omega]
/-- The halving pairs' keys among some pairs. -/
def kH (H : Nat → Nat → Bool) (L : List (Nat × Nat)) : List Nat := (L.filter fun p => H p.1 p.2).map keyP
theorem kH_snoc (H : Nat → Nat → Bool) (L : List (Nat × Nat)) (i j : Nat) : kH H (L ++ [(i, j)]) = kH H L ++ (if H i j then [8 * i + j] else []) := by
  unfold kH
  rw [List.filter_append, List.map_append]
  cases h : H i j <;> simp [h, keyP]
theorem kH_len (H : Nat → Nat → Bool) (L : List (Nat × Nat)) : (kH H L).length ≤ L.length := by unfold kH; rw [List.length_map]; exact List.length_filter_le _ _
theorem pairsU_lt {m : Nat} {p : Nat × Nat} (h : p ∈ pairsU m) : p.1 < p.2 ∧ p.2 < m := by
  unfold pairsU at h
  obtain ⟨i, hi, h⟩ := List.mem_flatMap.1 h
  obtain ⟨j, hj, rfl⟩ := List.mem_map.1 h
  have := List.mem_range'_1.1 hj
  have := List.mem_range.1 hi
  exact ⟨by show i < j; omega, by show j < m; omega⟩
theorem flatMap_congr' {α β : Type} {f g : α → List β} : ∀ {L : List α}, (∀ a ∈ L, f a = g a) → L.flatMap f = L.flatMap g
  | [], _ => rfl
  | a :: L, h => by rw [List.flatMap_cons, List.flatMap_cons, h a List.mem_cons_self, flatMap_congr' fun x hx => h x (List.mem_cons_of_mem _ hx)]
theorem halvI_keys (q : Nat → Nat → Nat) {m : Nat} (h7 : m ≤ 7) : halvI q m m = (kH (halvB q) (pairsU m)).map unk := by
  have e1 : halvI q m m = ((pairsU m).filter fun p => halvB q p.1 p.2).map fun p => [(p.1 : Int), (p.2 : Int)] := by
    unfold halvI pairsU
    rw [List.filter_flatMap, List.map_flatMap]
    refine flatMap_congr' fun i _ => ?_
    unfold halvJ
    rw [List.filter_map, List.map_map]
    rfl
  rw [e1]
  unfold kH
  rw [List.map_map]
  refine List.map_congr_left fun p hp => ?_
  have := pairsU_lt (List.mem_filter.1 hp).1
  exact (unk_key (by omega)).symm
theorem keys_asc0 : ∀ m, m < 8 → ((pairsU m).map keyP).Pairwise fun a b => a < b := by decide +kernel
theorem kH_asc (H : Nat → Nat → Bool) {m : Nat} (h7 : m ≤ 7) : (kH H (pairsU m)).Pairwise fun a b => a < b := by
  have h := keys_asc0 m (by omega)
  unfold kH
  rw [List.pairwise_map] at h ⊢
  exact h.filter _
theorem kH_perm (H : Nat → Nat → Bool) {m : Nat} (h7 : m ≤ 7) : (kH H (pG m)).Perm (kH H (pairsU m)) := ((pG_perm h7).filter _).map _
theorem kH_nodup (H : Nat → Nat → Bool) {m : Nat} (h7 : m ≤ 7) : (kH H (pG m)).Nodup :=
  (kH_perm H h7).symm.nodup ((kH_asc H h7).imp fun h => by omega)
theorem ord_befK : Ord befK (fun _ => True) := by
  constructor
  · intro a b _ _ h
    unfold befK
    rcases (by omega : a < b ∨ b < a) with e | e
    · exact .inl (decide_eq_true e)
    · exact .inr (decide_eq_true e)
  · intro a b c _ _ _ _ _ _ h1 h2
    unfold befK at *
    have := of_decide_eq_true h1
    have := of_decide_eq_true h2
    exact decide_eq_true (by omega)
/-- Sorted, these are the pairs in spec's order. -/
theorem kH_sort (H : Nat → Nat → Bool) {m : Nat} (h7 : m ≤ 7) : sortK befK (kH H (pG m)) (kH H (pG m)).length = kH H (pairsU m) := by
  have hp := sortK_perm befK (kH H (pG m)) _ (Nat.le_refl _)
  rw [List.take_length] at hp
  refine sorted_unique (r := fun a b => befK a b = true) _ _ (sortK_sorted ord_befK (fun _ _ => trivial) (kH_nodup H h7) _ (Nat.le_refl _)) ((kH_asc H h7).imp fun h => decide_eq_true h) (fun a _ b _ h1 h2 => ?_) (fun x => (hp.trans (kH_perm H h7)).mem_iff)
  unfold befK at h1 h2
  have := of_decide_eq_true h1
  have := of_decide_eq_true h2
  omega
theorem fun_of {α : Type} (d : α) : ∀ (keys : List Nat) (gs : List α), keys.Nodup → gs.length = keys.length → ∃ G : Nat → α, ∀ j, j < keys.length → G (keys.getD j 0) = gs.getD j d
  | [], _, _, _ => ⟨fun _ => d, fun j h => by simp at h⟩
  | k :: keys, [], _, hl => by simp at hl
  | k :: keys, g :: gs, hn, hl => by
    obtain ⟨hk, hn⟩ := List.nodup_cons.1 hn
    obtain ⟨G, hG⟩ := fun_of d keys gs hn (by simpa using hl)
    refine ⟨fun x => if x = k then g else G x, fun j hj => ?_⟩
    cases j with
    | zero => simp
    | succ j =>
      have hj : j < keys.length := by simpa using hj
      have e1 : (k :: keys).getD (j + 1) 0 = keys.getD j 0 := by simp
      have e2 : (g :: gs).getD (j + 1) d = gs.getD j d := by simp
      have hm : keys.getD j 0 ∈ keys := by rw [List.getD_eq_getElem?_getD, List.getElem?_eq_getElem hj]; exact List.getElem_mem hj
      rw [e1, e2, ← hG j hj]
      show (if keys.getD j 0 = k then g else G (keys.getD j 0)) = _
      rw [if_neg (fun e => hk (by rw [← e]; exact hm))]
/-- Where the pairs' rows lie, by their keys. -/
structure KRows (w : World) (lo hi b : Nat) (G C : Nat → Nat) (keys : List Nat) : Prop where
  b1 : lo ≤ b ∧ b < hi
  row : ∀ k ∈ keys, lo ≤ G k ∧ G k < hi ∧ G k ≠ b ∧ Cells w (G k) 2 (zc (unk k))
  apart : ∀ k ∈ keys, ∀ k' ∈ keys, G k = G k' → k = k'
theorem KRows.krow {w : World} {lo hi b : Nat} {G C : Nat → Nat} {keys : List Nat} (h : KRows w lo hi b G C keys) : Krow w b G keys := fun k hk => by
  obtain ⟨-, -, h3, h4⟩ := h.row k hk
  exact ⟨fun e => h3 (Option.some.inj e), h4.cell 0 (by omega), h4.cell 1 (by omega)⟩
theorem ln_unk {keys : List Nat} {j : Nat} (h : j < keys.length) : (keys.map unk).getD j [] = unk (keys.getD j 0) := by
  rw [List.getD_eq_getElem?_getD, List.getElem?_map, List.getD_eq_getElem?_getD, List.getElem?_eq_getElem h]; rfl
theorem ownL_keys {w : World} {B m : Nat} {v : Value} {keys : List Nat} (hn : keys.Nodup) (hne : keys ≠ []) (hm : m ≤ w.heap.size) (h : OwnL w B m v (keys.map unk)) :
    ∃ b c G C, v = .slice (some ⟨b, 0, none⟩) keys.length c ∧ Cells w b keys.length (kc G C keys) ∧ KRows w B w.heap.size b G C keys := by
  obtain ⟨gs, h1, h2, h3, h4⟩ := h
  have hk : (keys.map unk).length = keys.length := List.length_map ..
  rw [hk] at h1
  obtain ⟨GC, hGC⟩ := fun_of ((0, 0) : Nat × Nat) keys gs hn h1
  have hlt := World.ownsRow.lt h2
  obtain ⟨-, ⟨rfl, h0⟩ | ⟨b, cap, cur, rfl, hB, hh, hr⟩⟩ := id h2
  · exact absurd (List.eq_nil_of_length_eq_zero (by omega)) hne
  · have hpos : ∀ k ∈ keys, ∃ j, j < keys.length ∧ keys.getD j 0 = k ∧ gs[j]? = some (GC k) := fun k hk => by
      obtain ⟨j, hj, e⟩ := List.getElem_of_mem hk
      have e1 : keys.getD j 0 = k := by rw [List.getD_eq_getElem?_getD, List.getElem?_eq_getElem hj]; exact e
      refine ⟨j, hj, e1, ?_⟩
      have := hGC j hj
      rw [e1, List.getD_eq_getElem?_getD, List.getElem?_eq_getElem (by omega)] at this
      rw [List.getElem?_eq_getElem (by omega)]
      exact congrArg some this.symm
    refine ⟨b, cap, fun k => (GC k).1, fun k => (GC k).2, by rw [h1], ⟨fun j hj => ?_, fun j => World.ownsRow.frozenAt h2 j, (hlt b rfl).2⟩, ⟨⟨hB, (hlt b rfl).2⟩, fun k hk => ?_, fun k hk k' hk' e => ?_⟩⟩
    · have hg : gs[j]? = some (gs.getD j (0, 0)) := by rw [List.getD_eq_getElem?_getD, List.getElem?_eq_getElem (by omega)]; rfl
      have hx : (List.zipWith (fun g (zs : List Int) => rowV g zs.length) gs (keys.map unk))[j]? = some (rowV (gs.getD j (0, 0)) 2) := by
        rw [List.getElem?_zipWith, hg, List.getElem?_map, List.getElem?_eq_getElem hj]
        rfl
      have := World.ownsRow.cells h2 (g := b) rfl j _ hx
      rw [WideShapes.add_plain, Nat.zero_add] at this
      rw [this]
      unfold kc kv
      dsimp only
      rw [hGC j hj]
    · obtain ⟨j, hj, e1, e2⟩ := hpos k hk
      obtain ⟨r1, r0, ⟨cs, r2⟩, r3⟩ := h3 j _ e2
      have e3 : ln (keys.map unk) j = 2 := by unfold ln; rw [ln_unk hj]; rfl
      have e4 : org (keys.map unk) j = zc (unk k) := by unfold org; rw [ln_unk hj, e1]
      rw [e3, e4] at r3
      refine ⟨r1, by omega, fun e => ?_, r3⟩
      have e : (GC k).1 = b := e
      rw [e, hh] at r2
      injection r2 with r2
      injection r2 with _ ht
      exact absurd ht (by decide)
    · obtain ⟨j, hj, e1, e2⟩ := hpos k hk
      obtain ⟨j', hj', e1', e2'⟩ := hpos k' hk'
      have e : (GC k).1 = (GC k').1 := e
      rcases (by omega : j < j' ∨ j = j' ∨ j' < j) with hjj | hjj | hjj
      · have := h4 j j' _ _ e2 e2' hjj; omega
      · rw [← e1, ← e1', hjj]
      · have := h4 j' j _ _ e2' e2 hjj; omega
theorem nodup_inj : ∀ {L : List Nat} {i j : Nat}, L.Nodup → ∀ (h1 : i < L.length) (h2 : j < L.length), (some L[i]).getD 0 = (some L[j]).getD 0 → i = j
  | [], i, j, _, h1, _, _ => by simp at h1
  | a :: L, 0, 0, _, _, _, _ => rfl
  | a :: L, 0, j + 1, hn, h1, h2, e => by
    have hj : j < L.length := by simpa using h2
    have e : a = L[j] := by simpa using e
    exact absurd (e ▸ List.getElem_mem hj) (List.nodup_cons.1 hn).1
  | a :: L, i + 1, 0, hn, h1, h2, e => by
    have hi : i < L.length := by simpa using h1
    have e : L[i] = a := by simpa using e
    exact absurd (e ▸ List.getElem_mem hi) (List.nodup_cons.1 hn).1
  | a :: L, i + 1, j + 1, hn, h1, h2, e => by
    have := nodup_inj (List.nodup_cons.1 hn).2 (by simpa using h1) (by simpa using h2) (i := i) (j := j) (by simpa using e)
    omega
theorem lists_keys {w : World} {lo hi b : Nat} {G C : Nat → Nat} {keys ks : List Nat} (h : KRows w lo hi b G C ks) (hs : ∀ k ∈ keys, k ∈ ks) (hn : keys.Nodup) (hc : Cells w b keys.length (kc G C keys)) : Lists w lo hi (some ⟨b, 0, none⟩) (keys.map unk) (org (keys.map unk)) := by
  have hget : ∀ {j : Nat} {g : Nat × Nat}, (keys.map fun k => (G k, C k))[j]? = some g → j < keys.length ∧ g = (G (keys.getD j 0), C (keys.getD j 0)) ∧ keys.getD j 0 ∈ ks := fun {j g} hj => by
    rw [List.getElem?_map] at hj
    obtain ⟨k, hk, rfl⟩ := Option.map_eq_some_iff.1 hj
    have e : keys.getD j 0 = k := by rw [List.getD_eq_getElem?_getD, hk]; rfl
    rw [e]
    exact ⟨(List.getElem?_eq_some_iff.1 hk).1, rfl, hs k (List.mem_of_getElem? hk)⟩
  refine .inr ⟨b, keys.map fun k => (G k, C k), rfl, by simp, fun j g hj => ?_, h.b1, hc.lt, fun j g hj => ?_, fun i j gi gj hi' hj hij => ?_⟩
  · obtain ⟨h1, rfl, -⟩ := hget hj
    rw [hc.cell j h1]
    have e3 : ln (keys.map unk) j = 2 := by unfold ln; rw [ln_unk h1]; rfl
    rw [e3]
    rfl
  · obtain ⟨h1, rfl, hm⟩ := hget hj
    have e3 : ln (keys.map unk) j = 2 := by unfold ln; rw [ln_unk h1]; rfl
    have e4 : org (keys.map unk) j = zc (unk (keys.getD j 0)) := by unfold org; rw [ln_unk h1]
    rw [e3, e4]
    exact h.row _ hm
  · obtain ⟨h1, rfl, m1⟩ := hget hi'
    obtain ⟨h2, rfl, m2⟩ := hget hj
    intro e
    have e := h.apart _ m1 _ m2 e
    rw [List.getD_eq_getElem?_getD, List.getElem?_eq_getElem h1, List.getD_eq_getElem?_getD, List.getElem?_eq_getElem h2] at e
    exact hij (nodup_inj hn h1 h2 e)
theorem KRows.keep {w w' : World} {lo hi b : Nat} {G C : Nat → Nat} {keys : List Nat} (h : KRows w lo hi b G C keys) (hg : w.grownBy w' (some b)) : KRows w' lo hi b G C keys :=
  ⟨h.b1, fun k hk => by
    obtain ⟨h1, h2, h3, h4⟩ := h.row k hk
    exact ⟨h1, h2, h3, cells_keep h4 hg (fun e => h3 (Option.some.inj e))⟩, h.apart⟩
theorem KRows.up {w : World} {lo hi hi' b : Nat} {G C : Nat → Nat} {keys : List Nat} (h : KRows w lo hi b G C keys) (hh : hi ≤ hi') : KRows w lo hi' b G C keys :=
  ⟨⟨h.b1.1, Nat.lt_of_lt_of_le h.b1.2 hh⟩, fun k hk => by
    obtain ⟨h1, h2, h3, h4⟩ := h.row k hk
    exact ⟨h1, Nat.lt_of_lt_of_le h2 hh, h3, h4⟩, h.apart⟩
end Go.Proofs.YtflcpgdgoencgaaDoor.Sg
