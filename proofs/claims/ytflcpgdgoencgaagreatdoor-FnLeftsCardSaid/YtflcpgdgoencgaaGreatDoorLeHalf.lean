/- What lies left, as impl tells it: HalvingPairs. -/
import Derived.Test.YtflcpgdgoencgaaGreatDoorMgN
import Derived.Test.YtflcpgdgoencgaaGreatDoorMgX
namespace Go.Proofs.YtflcpgdgoencgaaGreatDoor.Sg
open Go.RowKit Pt NewI NewII HuSort
/-- A pair by its key. -/
def unk (k : Nat) : List Int := [((k / 8 : Nat) : Int), ((k % 8 : Nat) : Int)]
def keyP (p : Nat × Nat) : Nat := 8 * p.1 + p.2
theorem unk_key {i j : Nat} (h : j < 8) : unk (8 * i + j) = [(i : Int), (j : Int)] := by
  unfold unk
  rw [show (8 * i + j) / 8 = i by omega, show (8 * i + j) % 8 = j by omega]
/-- The halving pairs' keys among some pairs. -/
def kH (H : Nat → Nat → Bool) (L : List (Nat × Nat)) : List Nat := (L.filter fun p => H p.1 p.2).map keyP
theorem kH_snoc (H : Nat → Nat → Bool) (L : List (Nat × Nat)) (i j : Nat) : kH H (L ++ [(i, j)]) = kH H L ++ (if H i j then [8 * i + j] else []) := by
  unfold kH
  rw [List.filter_append, List.map_append]
  cases h : H i j <;> simp [h, keyP]
theorem kH_len (H : Nat → Nat → Bool) (L : List (Nat × Nat)) : (kH H L).length ≤ L.length := by unfold kH; rw [List.length_map]; exact List.length_filter_le _ _
theorem pairsU_lt {m : Nat} {p : Nat × Nat} (h : p ∈ pairsU m) : p.1 < p.2 ∧ p.2 < m := by
  unfold pairsU at h
  obtain ⟨i, hi, h⟩ := List.mem_flatMap.1 h
  obtain ⟨j, hj, rfl⟩ := List.mem_map.1 h
  have := List.mem_range'_1.1 hj
  have := List.mem_range.1 hi
  exact ⟨by show i < j; omega, by show j < m; omega⟩
theorem flatMap_congr' {α β : Type} {f g : α → List β} : ∀ {L : List α}, (∀ a ∈ L, f a = g a) → L.flatMap f = L.flatMap g
  | [], _ => rfl
  | a :: L, h => by rw [List.flatMap_cons, List.flatMap_cons, h a List.mem_cons_self, flatMap_congr' fun x hx => h x (List.mem_cons_of_mem _ hx)]
theorem halvI_keys (q : Nat → Nat → Nat) {m : Nat} (h7 : m ≤ 7) : halvI q m m = (kH (halvB q) (pairsU m)).map unk := by
  have e1 : halvI q m m = ((pairsU m).filter fun p => halvB q p.1 p.2).map fun p => [(p.1 : Int), (p.2 : Int)] := by
    unfold halvI pairsU
    rw [List.filter_flatMap, List.map_flatMap]
    refine flatMap_congr' fun i _ => ?_
    unfold halvJ
    rw [List.filter_map, List.map_map]
    rfl
  rw [e1]
  unfold kH
  rw [List.map_map]
  refine List.map_congr_left fun p hp => ?_
  have := pairsU_lt (List.mem_filter.1 hp).1
  exact (unk_key (by omega)).symm
theorem keys_asc0 : ∀ m, m < 8 → ((pairsU m).map keyP).Pairwise fun a b => a < b := by decide +kernel
theorem kH_asc (H : Nat → Nat → Bool) {m : Nat} (h7 : m ≤ 7) : (kH H (pairsU m)).Pairwise fun a b => a < b := by
  have h := keys_asc0 m (by omega)
  unfold kH
  rw [List.pairwise_map] at h ⊢
  exact h.filter _
theorem kH_perm (H : Nat → Nat → Bool) {m : Nat} (h7 : m ≤ 7) : (kH H (pG m)).Perm (kH H (pairsU m)) := ((pG_perm h7).filter _).map _
theorem kH_nodup (H : Nat → Nat → Bool) {m : Nat} (h7 : m ≤ 7) : (kH H (pG m)).Nodup :=
  (kH_perm H h7).symm.nodup ((kH_asc H h7).imp fun h => by omega)
theorem ord_befK : Ord befK (fun _ => True) := by
  constructor
  · intro a b _ _ h
    unfold befK
    rcases (by omega : a < b ∨ b < a) with e | e
    · exact .inl (decide_eq_true e)
    · exact .inr (decide_eq_true e)
  · intro a b c _ _ _ _ _ _ h1 h2
    unfold befK at *
    have := of_decide_eq_true h1
    have := of_decide_eq_true h2
    exact decide_eq_true (by omega)
/-- Sorted, these are the pairs in spec's order. -/
theorem kH_sort (H : Nat → Nat → Bool) {m : Nat} (h7 : m ≤ 7) : sortK befK (kH H (pG m)) (kH H (pG m)).length = kH H (pairsU m) := by
  have hp := sortK_perm befK (kH H (pG m)) _ (Nat.le_refl _)
  rw [List.take_length] at hp
  refine sorted_unique (r := fun a b => befK a b = true) _ _ (sortK_sorted ord_befK (fun _ _ => trivial) (kH_nodup H h7) _ (Nat.le_refl _)) ((kH_asc H h7).imp fun h => decide_eq_true h) (fun a _ b _ h1 h2 => ?_) (fun x => (hp.trans (kH_perm H h7)).mem_iff)
  unfold befK at h1 h2
  have := of_decide_eq_true h1
  have := of_decide_eq_true h2
  omega
theorem fun_of {α : Type} (d : α) : ∀ (keys : List Nat) (gs : List α), keys.Nodup → gs.length = keys.length → ∃ G : Nat → α, ∀ j, j < keys.length → G (keys.getD j 0) = gs.getD j d
  | [], _, _, _ => ⟨fun _ => d, fun j h => by simp at h⟩
  | k :: keys, [], _, hl => by simp at hl
  | k :: keys, g :: gs, hn, hl => by
    obtain ⟨hk, hn⟩ := List.nodup_cons.1 hn
    obtain ⟨G, hG⟩ := fun_of d keys gs hn (by simpa using hl)
    refine ⟨fun x => if x = k then g else G x, fun j hj => ?_⟩
    cases j with
    | zero => simp
    | succ j =>
      have hj : j < keys.length := by simpa using hj
      have e1 : (k :: keys).getD (j + 1) 0 = keys.getD j 0 := by simp
      have e2 : (g :: gs).getD (j + 1) d = gs.getD j d := by simp
      have hm : keys.getD j 0 ∈ keys := by rw [List.getD_eq_getElem?_getD, List.getElem?_eq_getElem hj]; exact List.getElem_mem hj
      rw [e1, e2, ← hG j hj]
      show (if keys.getD j 0 = k then g else G (keys.getD j 0)) = _
      rw [if_neg (fun e => hk (by rw [← e]; exact hm))]
/-- Where the pairs' rows lie, by their keys. -/
structure KRows (w : World) (lo hi b : Nat) (G C : Nat → Nat) (keys : List Nat) : Prop where
  b1 : lo ≤ b ∧ b < hi
  row : ∀ k ∈ keys, lo ≤ G k ∧ G k < hi ∧ G k ≠ b ∧ Cells w (G k) 2 (zc (unk k))
  apart : ∀ k ∈ keys, ∀ k' ∈ keys, G k = G k' → k = k'
theorem KRows.krow {w : World} {lo hi b : Nat} {G C : Nat → Nat} {keys : List Nat} (h : KRows w lo hi b G C keys) : Krow w b G keys := fun k hk => by
  obtain ⟨-, -, h3, h4⟩ := h.row k hk
  exact ⟨fun e => h3 (Option.some.inj e), h4.cell 0 (by omega), h4.cell 1 (by omega)⟩
theorem ln_unk {keys : List Nat} {j : Nat} (h : j < keys.length) : (keys.map unk).getD j [] = unk (keys.getD j 0) := by
  rw [List.getD_eq_getElem?_getD, List.getElem?_map, List.getD_eq_getElem?_getD, List.getElem?_eq_getElem h]; rfl
theorem ownL_keys {w : World} {B m : Nat} {v : Value} {keys : List Nat} (hn : keys.Nodup) (hne : keys ≠ []) (hm : m ≤ w.heap.size) (h : OwnL w B m v (keys.map unk)) :
    ∃ b c G C, v = .slice (some ⟨b, 0, none⟩) keys.length c ∧ Cells w b keys.length (kc G C keys) ∧ KRows w B w.heap.size b G C keys := by
  obtain ⟨gs, h1, h2, h3, h4⟩ := h
  have hk : (keys.map unk).length = keys.length := List.length_map ..
  rw [hk] at h1
  obtain ⟨GC, hGC⟩ := fun_of ((0, 0) : Nat × Nat) keys gs hn h1
  have hlt := World.ownsRow.lt h2
  obtain ⟨-, ⟨rfl, h0⟩ | ⟨b, cap, cur, rfl, hB, hh, hr⟩⟩ := id h2
  · exact absurd (List.eq_nil_of_length_eq_zero (by omega)) hne
  · have hpos : ∀ k ∈ keys, ∃ j, j < keys.length ∧ keys.getD j 0 = k ∧ gs[j]? = some (GC k) := fun k hk => by
      obtain ⟨j, hj, e⟩ := List.getElem_of_mem hk
      have e1 : keys.getD j 0 = k := by rw [List.getD_eq_getElem?_getD, List.getElem?_eq_getElem hj]; exact e
      refine ⟨j, hj, e1, ?_⟩
      have := hGC j hj
      rw [e1, List.getD_eq_getElem?_getD, List.getElem?_eq_getElem (by omega)] at this
      rw [List.getElem?_eq_getElem (by omega)]
      exact congrArg some this.symm
    refine ⟨b, cap, fun k => (GC k).1, fun k => (GC k).2, by rw [h1], ⟨fun j hj => ?_, fun j => World.ownsRow.frozenAt h2 j, (hlt b rfl).2⟩, ⟨⟨hB, (hlt b rfl).2⟩, fun k hk => ?_, fun k hk k' hk' e => ?_⟩⟩
    · have hg : gs[j]? = some (gs.getD j (0, 0)) := by rw [List.getD_eq_getElem?_getD, List.getElem?_eq_getElem (by omega)]; rfl
      have hx : (List.zipWith (fun g (zs : List Int) => rowV g zs.length) gs (keys.map unk))[j]? = some (rowV (gs.getD j (0, 0)) 2) := by
        rw [List.getElem?_zipWith, hg, List.getElem?_map, List.getElem?_eq_getElem hj]
        rfl
      have := World.ownsRow.cells h2 (g := b) rfl j _ hx
      rw [WideShapes.add_plain, Nat.zero_add] at this
      rw [this]
      unfold kc kv
      dsimp only
      rw [hGC j hj]
    · obtain ⟨j, hj, e1, e2⟩ := hpos k hk
      obtain ⟨r1, r0, ⟨cs, r2⟩, r3⟩ := h3 j _ e2
      have e3 : ln (keys.map unk) j = 2 := by unfold ln; rw [ln_unk hj]; rfl
      have e4 : org (keys.map unk) j = zc (unk k) := by unfold org; rw [ln_unk hj, e1]
      rw [e3, e4] at r3
      refine ⟨r1, by omega, fun e => ?_, r3⟩
      have e : (GC k).1 = b := e
      rw [e, hh] at r2
      injection r2 with r2
      injection r2 with _ ht
      exact absurd ht (by decide)
    · obtain ⟨j, hj, e1, e2⟩ := hpos k hk
      obtain ⟨j', hj', e1', e2'⟩ := hpos k' hk'
      have e : (GC k).1 = (GC k').1 := e
      rcases (by omega : j < j' ∨ j = j' ∨ j' < j) with hjj | hjj | hjj
      · have := h4 j j' _ _ e2 e2' hjj; omega
      · rw [← e1, ← e1', hjj]
      · have := h4 j' j _ _ e2' e2 hjj; omega
theorem nodup_inj : ∀ {L : List Nat} {i j : Nat}, L.Nodup → ∀ (h1 : i < L.length) (h2 : j < L.length), (some L[i]).getD 0 = (some L[j]).getD 0 → i = j
  | [], i, j, _, h1, _, _ => by simp at h1
  | a :: L, 0, 0, _, _, _, _ => rfl
  | a :: L, 0, j + 1, hn, h1, h2, e => by
    have hj : j < L.length := by simpa using h2
    have e : a = L[j] := by simpa using e
    exact absurd (e ▸ List.getElem_mem hj) (List.nodup_cons.1 hn).1
  | a :: L, i + 1, 0, hn, h1, h2, e => by
    have hi : i < L.length := by simpa using h1
    have e : L[i] = a := by simpa using e
    exact absurd (e ▸ List.getElem_mem hi) (List.nodup_cons.1 hn).1
  | a :: L, i + 1, j + 1, hn, h1, h2, e => by
    have := nodup_inj (List.nodup_cons.1 hn).2 (by simpa using h1) (by simpa using h2) (i := i) (j := j) (by simpa using e)
    omega
theorem lists_keys {w : World} {lo hi b : Nat} {G C : Nat → Nat} {keys ks : List Nat} (h : KRows w lo hi b G C ks) (hs : ∀ k ∈ keys, k ∈ ks) (hn : keys.Nodup) (hc : Cells w b keys.length (kc G C keys)) : Lists w lo hi (some ⟨b, 0, none⟩) (keys.map unk) (org (keys.map unk)) := by
  have hget : ∀ {j : Nat} {g : Nat × Nat}, (keys.map fun k => (G k, C k))[j]? = some g → j < keys.length ∧ g = (G (keys.getD j 0), C (keys.getD j 0)) ∧ keys.getD j 0 ∈ ks := fun {j g} hj => by
    rw [List.getElem?_map] at hj
    obtain ⟨k, hk, rfl⟩ := Option.map_eq_some_iff.1 hj
    have e : keys.getD j 0 = k := by rw [List.getD_eq_getElem?_getD, hk]; rfl
    rw [e]
    exact ⟨(List.getElem?_eq_some_iff.1 hk).1, rfl, hs k (List.mem_of_getElem? hk)⟩
  refine .inr ⟨b, keys.map fun k => (G k, C k), rfl, by simp, fun j g hj => ?_, h.b1, hc.lt, fun j g hj => ?_, fun i j gi gj hi' hj hij => ?_⟩
  · obtain ⟨h1, rfl, -⟩ := hget hj
    rw [hc.cell j h1]
    have e3 : ln (keys.map unk) j = 2 := by unfold ln; rw [ln_unk h1]; rfl
    rw [e3]
    rfl
  · obtain ⟨h1, rfl, hm⟩ := hget hj
    have e3 : ln (keys.map unk) j = 2 := by unfold ln; rw [ln_unk h1]; rfl
    have e4 : org (keys.map unk) j = zc (unk (keys.getD j 0)) := by unfold org; rw [ln_unk h1]
    rw [e3, e4]
    exact h.row _ hm
  · obtain ⟨h1, rfl, m1⟩ := hget hi'
    obtain ⟨h2, rfl, m2⟩ := hget hj
    intro e
    have e := h.apart _ m1 _ m2 e
    rw [List.getD_eq_getElem?_getD, List.getElem?_eq_getElem h1, List.getD_eq_getElem?_getD, List.getElem?_eq_getElem h2] at e
    exact hij (nodup_inj hn h1 h2 e)
theorem KRows.keep {w w' : World} {lo hi b : Nat} {G C : Nat → Nat} {keys : List Nat} (h : KRows w lo hi b G C keys) (hg : w.grownBy w' (some b)) : KRows w' lo hi b G C keys :=
  ⟨h.b1, fun k hk => by
    obtain ⟨h1, h2, h3, h4⟩ := h.row k hk
    exact ⟨h1, h2, h3, cells_keep h4 hg (fun e => h3 (Option.some.inj e))⟩, h.apart⟩
theorem KRows.up {w : World} {lo hi hi' b : Nat} {G C : Nat → Nat} {keys : List Nat} (h : KRows w lo hi b G C keys) (hh : hi ≤ hi') : KRows w lo hi' b G C keys :=
  ⟨⟨h.b1.1, Nat.lt_of_lt_of_le h.b1.2 hh⟩, fun k hk => by
    obtain ⟨h1, h2, h3, h4⟩ := h.row k hk
    exact ⟨h1, Nat.lt_of_lt_of_le h2 hh, h3, h4⟩, h.apart⟩
set_option maxHeartbeats 3200000 in
set_option maxRecDepth 100000 in
theorem implHalving (n : Int) (s : ByteArray) (hs : s.size ≤ 9223372036854775807) (w : World) (hT : Tab w) :
    Calls Tryz.prog 37 #[sg n s] w fun e w' => Got2 w.heap.size (halvZ n s.data.toList) e w' ∧ Below w.heap.size w w' := by
  have HS := Lib.hid (box_made w n s 25)
  have HT := Lib.hid (fun W hW => hT.on (w' := W) hW)
  clear hT
  cases h : aciB n s.data.toList
  · have HO := Lib.hid (fun W hW => implTab_no n s hs h W (HT.out W hW))
    have HE : Hid (halvZ n s.data.toList = []) := Lib.hid (by unfold halvZ; rw [h]; rfl)
    have HZ := Lib.hid sort0_any
    clear h
    go_enter Tryz.func37, Tryz.ntmps37
    go_wp2_with fail
    refine (HO.out _ HS.out.2.2).mono ?_
    rintro e w1 ⟨⟨a, c, rfl⟩, hb1⟩
    have B1 := Lib.hid (HS.out.on hb1).2.2
    clear hb1
    go_wp2
    refine wp_loop_rounds 1 ?_
    rw [rounds_succ]
    go_wp2_with fail
    refine (HZ.out _).mono ?_
    rintro e w' ⟨rfl, rfl⟩
    go_wp2
    go_ret
    exact ⟨by rw [HE.out]; exact ⟨none, 0, rfl, .inl rfl⟩, B1.out⟩
  · obtain ⟨h3, h7⟩ := aciB_n h
    obtain ⟨m, rfl⟩ : ∃ m : Nat, n = m := ⟨n.toNat, by omega⟩
    have h7 : m ≤ 7 := by omega
    have HO := Lib.hid (fun W hW => implTab m s hs h W (HT.out W hW))
    have hne := halvZ_some h
    have h12 := halv_few h
    have HLE := Lib.hid (fun i j => Nat.le_trans (leftN_le (sgnF (lookS m s.data.toList)) m i j) h7)
    have hz : halvZ m s.data.toList = halvI (leftN (sgnF (lookS m s.data.toList)) m) m m := by unfold halvZ; rw [if_pos h, Int.toNat_natCast]
    rw [hz, halvI_keys _ h7] at hne ⊢
    rw [halvI_keys _ h7, List.length_map] at h12
    have HHB : Hid (∀ i j, halvB (leftN (sgnF (lookS m s.data.toList)) m) i j = inB (((leftN (sgnF (lookS m s.data.toList)) m i j : Nat) : Int) - ((leftN (sgnF (lookS m s.data.toList)) m j i : Nat) : Int)) (-1) 1) := Lib.hid (fun i j => rfl)
    generalize leftN (sgnF (lookS m s.data.toList)) m = q at HO HLE HHB hne h12 ⊢
    generalize halvB q = H at HHB hne h12 ⊢
    have hpl := (kH_perm H h7).length_eq
    have HND := Lib.hid (kH_nodup H h7)
    have HSO := Lib.hid (kH_sort H h7)
    have HAS := Lib.hid (kH_asc H h7)
    have HPE := Lib.hid (kH_perm H h7)
    obtain ⟨kk, hkk⟩ : ∃ kk : Nat → Nat → List Nat, ∀ j i, kk j i = kH H (pG j ++ pJ j i) := ⟨_, fun _ _ => rfl⟩
    have HK0 : Hid (kk 0 0 = []) := Lib.hid (by rw [hkk]; rfl)
    have HKS : Hid (∀ j i, kk j (i + 1) = kk j i ++ (if H i j then [8 * i + j] else [])) := Lib.hid (fun j i => by rw [hkk, hkk, pJ_succ, ← List.append_assoc, kH_snoc])
    have HKN : Hid (∀ j, kk (j + 1) 0 = kk j j) := Lib.hid (fun j => by rw [hkk, hkk, pG_succ]; simp [pJ])
    have HKL : Hid (∀ j i, j ≤ m → i ≤ j → (kk j i).length ≤ 40) := Lib.hid (fun j i hj hi => by
      rw [hkk]
      refine Nat.le_trans (kH_len _ _) ?_
      rw [List.length_append]
      have e1 : (pJ j i).length = i := by unfold pJ; simp
      have e2 : (pG j).length ≤ 28 := by
        rw [(pG_perm (n := j) (by omega)).length_eq]
        exact pairsU_len28 j (by omega)
      omega)
    have HKE : Hid (kk m 0 = kH H (pG m)) := Lib.hid (by rw [hkk]; simp [pJ])
    have hkne : kH H (pG m) ≠ [] := fun e => by
      rw [e] at hpl
      exact hne (by rw [List.eq_nil_of_length_eq_zero hpl.symm]; rfl)
    have HKNE := Lib.hid hkne
    have HK12 : Hid ((kH H (pG m)).length ≤ 12) := Lib.hid (by omega)
    have HIW : Hid (∀ x W, Calls Tryz.prog 78 #[.int .i64 x, .int .i64 1] W fun e w' => e = .returned (.bool (inB x (-1) 1)) ∧ W = w') := Lib.hid (fun x W => isWithin_any x 1 (by omega) (by omega) W)
    obtain ⟨i0, hi, hz0, hz1, hz2⟩ := info_parts infoL
    generalize kH H (pairsU m) = ka at HSO HAS HPE ⊢
    generalize kH H (pG m) = kb at HND HSO HPE HKE HKNE HK12
    clear h hkk hne h12 hz hpl hkne
    go_enter Tryz.func37, Tryz.ntmps37
    go_wp2_with fail
    refine (HO.out _ HS.out.2.2).mono ?_
    rintro e w1 ⟨b, g, c, C, rfl, ht, hb1⟩
    have B1 := Lib.hid (HS.out.on hb1).2.2
    have T1 := Lib.hid ht
    have HO1 : Hid (OwnL w1 w1.heap.size w1.heap.size (.slice none 0 0) ((kk 0 0).map unk)) := Lib.hid (by rw [HK0.out]; exact OwnL.nil _ _ _)
    clear hb1 ht
    go_wp2
    go_loopw [4, 11] (fun vv jv wr => ∃ j : Nat, j ≤ m ∧ jv = .int .i64 j ∧ Hid (OwnL wr w1.heap.size wr.heap.size vv ((kk j 0).map unk)) ∧ Hid (Below w1.heap.size w1 wr)) (fun _ jv _ => m - (intOf jv).toNat)
    case atStart => exact ⟨0, Nat.zero_le _, rfl, HO1, Lib.hid (Below.refl _ _)⟩
    case round =>
      obtain ⟨j, hj, rfl, HV, HB⟩ := hrel
      by_cases hlt : j < m
      · go_wp2
        go_loopw [4, 15] (fun vv iv wr => ∃ i : Nat, i ≤ j ∧ iv = .int .i64 i ∧ Hid (OwnL wr w1.heap.size wr.heap.size vv ((kk j i).map unk)) ∧ Hid (Below w1.heap.size w1 wr)) (fun _ iv _ => j - (intOf iv).toNat)
        case atStart => exact ⟨0, Nat.zero_le _, rfl, HV, HB⟩
        case round =>
          obtain ⟨i, hi', rfl, HV, HB⟩ := hrel
          by_cases hlt2 : i < j
          · have HT1 := T1.out.on HB.out
            obtain ⟨x0, x1⟩ := HT1 i (by omega)
            obtain ⟨x2, x3⟩ := HT1 j (by omega)
            have y1 := x1 j (by omega)
            have y3 := x3 i (by omega)
            rw [tabN_ne (by omega)] at y1
            rw [tabN_ne (by omega)] at y3
            have HN := Lib.hid (HKS.out j i)
            have hkl := HKL.out j i hj hi'
            have q1 := HLE.out i j
            have q2 := HLE.out j i
            have HH := Lib.hid (HHB.out i j)
            generalize q i j = P at y1 HH q1
            generalize q j i = Q at y3 HH q2
            obtain ⟨D, hD⟩ : ∃ D : Int, D = (P : Int) - (Q : Int) := ⟨_, rfl⟩
            have vd : IntKind.i64.wrap ((P : Int) - (Q : Int)) = D := by rw [hD]; exact IntWalk.i64_in _ (by omega)
            rw [← hD] at HH
            have HIW2 := Lib.hid (HIW.out D)
            have hb1 : (0 : Int) ≤ (i : Int) := by omega
            have hb2 : (i : Int) < (m : Int) := by omega
            have hb3 : (0 : Int) ≤ (j : Int) := by omega
            have hb4 : (j : Int) < (m : Int) := by omega
            generalize g i = g1 at x0 y1
            generalize g j = g2 at x2 y3
            generalize c i = c1 at x0
            generalize c j = c2 at x2
            generalize kk j i = ks at HV HN hkl
            have HHE := Lib.hid HH.out
            rw [← HH.out] at HIW2
            clear HT1 x1 x3 hD HH
            cases hh : H i j
            · have HN2 : Hid (kk j (i + 1) = ks) := Lib.hid (by rw [HN.out, hh]; simp)
              rw [hh] at HIW2
              have HA : Hid (∀ k, Calls Tryz.prog 78 #[.int .i64 D, .int .i64 1] (wr.drewN k) fun e w' => e = .returned (.bool false) ∧ w' = wr.drewN k) := Lib.hid (fun k => (HIW2.out _).mono fun _ _ ⟨p, r⟩ => ⟨p, r.symm⟩)
              clear HIW2 hh HHE
              go_wp2
              go_quiet ((go_at_call 78; exact Calls.quiet_of_same (HA.out _)))
              go_wp2
              exact ⟨⟨i + 1, by omega, by go_num, Lib.hid (by rw [HN2.out]; exact HV.out.on (drewN_below (Below.refl _ _) _)), Lib.hid (drewN_below HB.out _)⟩, by simp only [intOf]; omega⟩
            · have HN2 : Hid ((kk j (i + 1)).map unk = ks.map unk ++ [[(i : Int), (j : Int)]]) := Lib.hid (by rw [HN.out, hh, if_pos rfl, List.map_append]; simp only [List.map_cons, List.map_nil]; rw [unk_key (by omega)])
              rw [hh] at HIW2
              have HA : Hid (∀ k, Calls Tryz.prog 78 #[.int .i64 D, .int .i64 1] (wr.drewN k) fun e w' => e = .returned (.bool true) ∧ w' = wr.drewN k) := Lib.hid (fun k => (HIW2.out _).mono fun _ _ ⟨p, r⟩ => ⟨p, r.symm⟩)
              have hll : (ks.map unk).length ≤ 40 := by rw [List.length_map]; exact hkl
              generalize ks.map unk = L at HV HN2 hll
              clear HIW2 hh HHE HN hkl
              go_wp2
              go_quiet ((go_at_call 78; exact Calls.quiet_of_same (HA.out _)))
              have hwd : (wr.drewN nq).heap.size = wr.heap.size := rfl
              have V2 : Hid (OwnL (wr.drewN nq) w1.heap.size wr.heap.size _ L) := Lib.hid (HV.out.on (drewN_below (Below.refl _ _) nq))
              have B2 : Hid (Below w1.heap.size w1 (wr.drewN nq)) := Lib.hid (drewN_below HB.out nq)
              have G1 : Hid (Cells ((wr.drewN nq).alloc (.cells #[.int .i64 i, .int .i64 j] 3)) wr.heap.size ([(i : Int), (j : Int)] : List Int).length (zc [(i : Int), (j : Int)])) := Lib.hid (cells2_zc (wr.drewN nq) i j 3)
              have HCS : Hid (∃ cs, ((wr.drewN nq).alloc (.cells #[.int .i64 i, .int .i64 j] 3)).heap[wr.heap.size]? = some (Obj.cells cs 3)) := Lib.hid ⟨_, heap_made (wr.drewN nq) _⟩
              have hal1 := (Below.refl (wr.drewN nq).heap.size (wr.drewN nq)).alloc (Nat.le_refl _) (.cells #[.int .i64 i, .int .i64 j] 3)
              have V3 := Lib.hid (V2.out.on hal1)
              have B3 := Lib.hid (B2.out.trans (hal1.mono B2.out.size))
              obtain ⟨LV, hLV⟩ := V3.out.row
              have HL3 := Lib.hid hLV
              have HNW : Hid (∀ (k : Nat) u, [Value.slice (some ⟨wr.heap.size, 0, none⟩) 2 2][k]? = some u → (((wr.drewN nq).alloc (.cells #[.int .i64 i, .int .i64 j] 3)).alloc (.cells #[.slice (some ⟨wr.heap.size, 0, none⟩) 2 2] 28)).cell? (Addr.add ⟨wr.heap.size + 1, 0, none⟩ k) = some u) := Lib.hid (by
                have := newsR ((wr.drewN nq).alloc (.cells #[.int .i64 i, .int .i64 j] 3)) (.slice (some ⟨wr.heap.size, 0, none⟩) 2 2) 28
                rw [show ((wr.drewN nq).alloc (.cells #[.int .i64 i, .int .i64 j] 3)).heap.size = wr.heap.size + 1 by simp []] at this
                exact this)
              have hs0 := HB.out.size
              clear hLV hal1 HV x0 x2 y1 y3
              go_wp2_with (at_builtin; refine wpList_append_own _ rfl (.tmp 34) (.tmp 38) 42 rfl w1.heap.size 28 i0 _ 1 24 Tryz.underlying42 hi hz0 hz1 hz2 rfl (by decide) _ _ _ rfl (World.ownsRow.alloc HL3.out _) ⟨_, 0, none⟩ 1 1 [.slice (some ⟨wr.heap.size, 0, none⟩) 2 2] rfl rfl HNW.out (oneR _ _ _) ?_ ?_ ?_ ?_)
              · simp only [maxLen]; omega
              · omega
              · simp; omega
              intro v1 w5 hown hg _
              have hal := (Below.refl ((wr.drewN nq).alloc (.cells #[.int .i64 i, .int .i64 j] 3)).heap.size ((wr.drewN nq).alloc (.cells #[.int .i64 i, .int .i64 j] 3))).alloc (Nat.le_refl _) (.cells #[.slice (some ⟨wr.heap.size, 0, none⟩) 2 2] 28)
              have HV5 : Hid (OwnL w5 w1.heap.size w5.heap.size v1 (L ++ [[(i : Int), (j : Int)]])) := Lib.hid (by
                obtain ⟨cs, hcs⟩ := HCS.out
                exact (OwnL.snoc (g := (wr.heap.size, 2)) (zs := [(i : Int), (j : Int)]) (V3.out.on hal) (by show w1.heap.size ≤ wr.heap.size; omega) (Nat.le_refl _) ⟨cs, by rw [hal.block _ G1.out.lt]; exact hcs⟩ (G1.out.on hal) hg (World.ownsRow.alloc HL3.out _) hown).top)
              have HB5 : Hid (Below w1.heap.size w1 w5) := Lib.hid ((B3.out.trans (hal.mono B3.out.size)).grown hg (by simp; omega) (fun q hq => (World.ownsRow.lt HL3.out q hq).1))
              rw [← HN2.out] at HV5
              clear hown hg hal
              go_wp2
              exact ⟨⟨i + 1, by omega, by go_num, HV5, HB5⟩, by simp only [intOf]; omega⟩
          · obtain rfl : i = j := by omega
            have HN := Lib.hid (HKN.out i)
            go_wp2
            exact ⟨⟨i + 1, by omega, by go_num, by rw [HN.out]; exact HV, HB⟩, by simp only [intOf]; omega⟩
      · obtain rfl : j = m := by omega
        have HV2 := HV
        rw [HKE.out] at HV2
        obtain ⟨bb, cc, G, CC, hu, hcl, hkr⟩ := ownL_keys HND.out HKNE.out (Nat.le_refl _) HV2.out
        subst hu
        have h1 : 1 ≤ kb.length := List.length_pos_iff.2 HKNE.out
        have HSC := Lib.hid (sortK_any bb cc G CC kb h1 HK12.out wr hkr.krow hcl)
        rw [HSO.out] at HSC
        have HKR := Lib.hid hkr
        have hla : (ka.map unk).length = kb.length := by rw [List.length_map, HPE.out.length_eq]
        have HLA := Lib.hid hla
        have hs1 := B1.out.size
        have hs2 := HB.out.size
        have hlk : ka.length = kb.length := HPE.out.length_eq.symm
        have HLK := Lib.hid hlk
        clear HV HV2 hcl hkr hla hlk
        go_wp2_with fail
        refine HSC.out.mono ?_
        rintro e w3 ⟨rfl, hc3, hg3⟩
        have hs3 := hg3.size
        have HKR3 := Lib.hid ((HKR.out.keep hg3).up hs3)
        have B3 : Hid (Below w.heap.size w w3) := Lib.hid ((B1.out.trans (HB.out.mono hs1)).grown hg3 (by omega) (fun q hq => by have hq := Option.some.inj hq; have := HKR.out.b1.1; omega))
        have HC3 : Hid (Cells w3 bb ka.length (kc G CC ka)) := Lib.hid (by rw [HLK.out]; exact hc3)
        clear hc3 hg3
        go_wp2
        go_ret
        refine ⟨⟨some ⟨bb, 0, none⟩, cc, by rw [HLA.out]; rfl, ?_⟩, B3.out⟩
        exact (lists_keys HKR3.out (fun k hk => HPE.out.symm.mem_iff.1 hk) ((HPE.out).nodup HND.out) HC3.out).low hs1
end Go.Proofs.YtflcpgdgoencgaaGreatDoor.Sg
