/- Several texts in one: TrDist, TrTri. -/
import Derived.Test.YtinlnafkmoabbaaGreatDoorMgTd
/- The least number of flips, as spec finds it: FlipDistance. -/
namespace Go.Proofs.YtinlnafkmoabbaaGreatDoor.Sg
open Go.RowKit Pt NewI
theorem addA_len (d : Nat) : ∀ (us : List Nat) (L : List (Nat × Nat)), (addA d us L).length ≤ L.length + us.length
  | [], L => Nat.le_refl _
  | u :: us, L => by
    unfold addA
    split
    · have := addA_len d us L
      simp only [List.length_cons]; omega
    · have := addA_len d us (L ++ [(u, d)])
      rw [List.length_append] at this
      simp only [List.length_cons, List.length_nil] at this ⊢; omega
theorem addA_snoc (d u : Nat) : ∀ (us : List Nat) (L : List (Nat × Nat)), addA d (us ++ [u]) L = if ((addA d us L).map Prod.fst).contains u = true then addA d us L else addA d us L ++ [(u, d)]
  | [], L => by
    show addA d [u] L = _
    unfold addA
    rfl
  | v :: us, L => by
    show addA d (us ++ [u]) (if (L.map Prod.fst).contains v = true then L else L ++ [(v, d)]) = _
    rw [addA_snoc d u us]
    rfl
theorem takeN_snoc {L : List Nat} {p : Nat} (h : p < L.length) : L.take (p + 1) = L.take p ++ [L.getD p 0] := by
  rw [List.take_add_one, List.getD_eq_getElem?_getD, List.getElem?_eq_getElem h]
  rfl
theorem getD_map {α : Type} (f : α → Nat) {L : List α} {k : Nat} {q : α} (h : L[k]? = some q) : (L.map f).getD k 0 = f q := by
  rw [List.getD_eq_getElem?_getD, List.getElem?_map, h]
  rfl
/-- What FlipDistance keeps: full sets only. -/
def AllFull (c : Nat → Nat) (E : Nat) (L : List (Nat × Nat)) : Prop := ∀ q ∈ L, fullB c E q.1 = true ∧ q.1 < 2 ^ E
theorem nbT_full {c : Nat → Nat} {E T : Nat} (h : fullB c E T = true) : nbT c E T = flipsL c E T := by unfold nbT; rw [if_pos h]
theorem flips_full {c : Nat → Nat} {E T U : Nat} (h : fullB c E T = true) (hl : T < 2 ^ E) (hU : U ∈ flipsL c E T) : fullB c E U = true ∧ U < 2 ^ E := by
  have hf := mem_flipsL.1 hU
  exact ⟨(fl_sym h hf).1, fl_lt h hl hf⟩
theorem addA_full {c : Nat → Nat} {E d : Nat} {us : List Nat} {L : List (Nat × Nat)} (h : AllFull c E L) (hu : ∀ u ∈ us, fullB c E u = true ∧ u < 2 ^ E) : AllFull c E (addA d us L) := fun q hq => by
  obtain ⟨M, e, hM⟩ := addA_pre d us L
  rw [e] at hq
  rcases List.mem_append.1 hq with hq | hq
  · exact h q hq
  · exact hu _ (hM q hq).2
theorem wk_full {c : Nat → Nat} {E a : Nat} (ha : fullB c E a = true) (hl : a < 2 ^ E) : ∀ {d v : Nat}, Wk (nbT c E) a d v → v ∈ triL c E
  | 0, v, h => by
    have h : v = a := h
    rw [h]; exact mem_triL.2 ⟨ha, hl⟩
  | d + 1, v, h => by
    obtain ⟨u, h1, h2⟩ := h
    obtain ⟨u1, u2⟩ := mem_triL.1 (wk_full ha hl h1)
    rw [nbT_full u1] at h2
    exact mem_triL.2 (flips_full u1 u2 h2)
theorem bf_len {c : Nat → Nat} {E a k : Nat} {L : List (Nat × Nat)} (ha : fullB c E a = true) (hl : a < 2 ^ E) (h : Bf (nbT c E) a k L) : L.length ≤ (triL c E).length := by
  rw [show L.length = (L.map Prod.fst).length from (List.length_map _).symm]
  refine nodup_sub' _ _ h.nod fun x hx => ?_
  obtain ⟨q, hq, rfl⟩ := List.mem_map.1 hx
  exact wk_full ha hl (h.reach q hq)
/-- The search is over. -/
theorem bf_hit {nb : Nat → List Nat} {a b k d : Nat} {L : List (Nat × Nat)} (univ : List Nat) (hu : ∀ d v, Wk nb a d v → v ∈ univ) (h : Bf nb a k L) (hn : ∀ (i : Nat) (q : Nat × Nat), i < k → L[i]? = some q → q.1 ≠ b) (hk : L[k]? = some (b, d)) : distZ nb a b = d := by
  have := bfs_is univ hu (univ.length + 1) k L h hn (by omega)
  unfold bfs at this
  rw [hk] at this
  simp only [if_true] at this
  exact distZ_eq this
theorem bf_miss {nb : Nat → List Nat} {a b k : Nat} {L : List (Nat × Nat)} (univ : List Nat) (hu : ∀ d v, Wk nb a d v → v ∈ univ) (h : Bf nb a k L) (hn : ∀ (i : Nat) (q : Nat × Nat), i < k → L[i]? = some q → q.1 ≠ b) (hk : L.length ≤ k) : distZ nb a b = -1 := by
  have := bfs_is univ hu (univ.length + 1) k L h hn (by omega)
  unfold bfs at this
  rw [List.getElem?_eq_none_iff.2 hk] at this
  exact distZ_eq this
theorem ownN_one (w : World) (B : Nat) (hB : B ≤ w.heap.size) (x : Nat) : OwnN (w.alloc (.cells #[.int .i64 x] 3)) B w.heap.size 1 [x] := by
  exact ⟨rfl, .inr ⟨w.heap.size, 1, #[.int .i64 x], rfl, hB, heap_alloc_new w _, Nat.le_refl _, by decide, rfl, rfl⟩⟩
theorem OwnN.n {w : World} {B g cap N : Nat} {L : List Nat} (h : OwnN w B g cap L) (hN : N = L.length) : w.ownsRow B 3 1 (.slice (some ⟨g, 0, none⟩) N cap) N ((zl L).map (Value.int .i64)) := by subst hN; exact h
theorem OwnN.of {w : World} {B g cap N : Nat} {L : List Nat} (hN : N = L.length) (h : w.ownsRow B 3 1 (.slice (some ⟨g, 0, none⟩) N cap) N ((zl L).map (Value.int .i64))) : OwnN w B g cap L := by subst hN; exact h
theorem vals_snoc (L : List Nat) (x : Nat) : (zl (L ++ [x])).map (Value.int .i64) = (zl L).map (Value.int .i64) ++ [.int .i64 (x : Int)] := vals_app L [x]
theorem contains_take {L : List Nat} {u j : Nat} (hj : j < L.length) : (L.take (j + 1)).contains u = ((L.take j).contains u || (L.getD j 0 == u)) := by
  rw [takeN_snoc hj, Bool.eq_iff_iff, List.contains_iff_mem, Bool.or_eq_true, List.contains_iff_mem, List.mem_append, List.mem_singleton, beq_iff_eq]
  exact ⟨fun h => h.imp id Eq.symm, fun h => h.imp id Eq.symm⟩
/-- What FlipDistance answers. -/
noncomputable def fdZ (n : Int) (s : List UInt8) (T U : Int) : Int := if itB n s T = true ∧ itB n s U = true then distZ (nbT (cS n.toNat s) (eN n.toNat)) T.toNat U.toNat else -1
set_option maxHeartbeats 6400000 in
set_option maxRecDepth 100000 in
theorem dist_core (m : Nat) (s : ByteArray) (hac : aciB m s.data.toList = true) (m6 : m ≤ 6) (hs : s.size ≤ 9223372036854775807) (T U : Nat) (hT : itB m s.data.toList T = true) (hU : itB m s.data.toList U = true) (w : World) :
    Calls Tryz.prog 61 #[sg m s, .int .i64 T, .int .i64 U] w fun e w' => e = .returned (.int .i64 (distZ (nbT (cS m s.data.toList) (eN m)) T U)) ∧ Below w.heap.size w w' := by
  have HS := Lib.hid (box_made w m s 25)
  have HA1 : Hid (∀ W, Calls Tryz.prog 66 #[sg m s, .int .i64 T] W fun e w' => e = .returned (.bool true) ∧ Below W.heap.size W w') := Lib.hid (fun W => by rw [← hT]; exact specIsTri m s hs T W)
  have HA2 : Hid (∀ W, Calls Tryz.prog 66 #[sg m s, .int .i64 U] W fun e w' => e = .returned (.bool true) ∧ Below W.heap.size W w') := Lib.hid (fun W => by rw [← hU]; exact specIsTri m s hs U W)
  obtain ⟨x0, x1, -⟩ := HS.out
  obtain ⟨m', t', em, et, -, -, -, ht, hfull⟩ := itB_parts hT
  obtain rfl : m' = m := by omega
  obtain rfl : t' = T := by omega
  clear em et
  have hE := eN_bd m' (by omega)
  have hpE := Nat.pow_le_pow_right (n := 2) (by omega) hE
  have HP := Lib.hid (fun W => specPairs m' s hac W)
  have HF := Lib.hid (fun V (hV : V < 2 ^ eN m') a cc W hr => l10Flips_any (eN m') hE (cS m' s.data.toList) (cS_lt (by omega) s.data.toList) V hV a cc W hr)
  have hM := allT_len (cS m' s.data.toList) (eN m') (eN m') 0
  have HUN := Lib.hid (fun d v (hw : Wk (nbT (cS m' s.data.toList) (eN m')) t' d v) => wk_full hfull ht hw)
  have HLN := Lib.hid (fun k L (h : Bf (nbT (cS m' s.data.toList) (eN m')) t' k L) => bf_len hfull ht h)
  have hMe : (triL (cS m' s.data.toList) (eN m')).length ≤ 2 ^ 21 := Nat.le_trans hM hpE
  have HAF0 : Hid (AllFull (cS m' s.data.toList) (eN m') [(t', 0)]) := Lib.hid (fun q hq => by
    obtain rfl : q = (t', 0) := by simpa using hq
    exact ⟨hfull, ht⟩)
  have HNB := Lib.hid (fun V (hV : fullB (cS m' s.data.toList) (eN m') V = true) => nbT_full hV)
  have HFF := Lib.hid (fun V W (hV : fullB (cS m' s.data.toList) (eN m') V = true) hl (hW : W ∈ flipsL (cS m' s.data.toList) (eN m') V) => flips_full hV hl hW)
  have HFLN := Lib.hid (fun V => flipsTo_len (cS m' s.data.toList) (eN m') V (eN m'))
  have hFeq : ∀ V, flipsTo (cS m' s.data.toList) (eN m') V (eN m') = flipsL (cS m' s.data.toList) (eN m') V := fun _ => rfl
  have HDZ : Hid (∀ z, distZ (nbT (cS m' s.data.toList) (eN m')) t' U = z → distZ (nbT (cS m' s.data.toList) (eN m')) t' U = z) := Lib.hid (fun _ h => h)
  have HHIT := Lib.hid (fun k d L h hn hk => bf_hit (nb := nbT (cS m' s.data.toList) (eN m')) (a := t') (b := U) (k := k) (d := d) (L := L) (triL (cS m' s.data.toList) (eN m')) HUN.out h hn hk)
  have HMIS := Lib.hid (fun k L h hn hk => bf_miss (nb := nbT (cS m' s.data.toList) (eN m')) (a := t') (b := U) (k := k) (L := L) (triL (cS m' s.data.toList) (eN m')) HUN.out h hn hk)
  have HNX := Lib.hid (fun k v d L (h : Bf (nbT (cS m' s.data.toList) (eN m')) t' k L) (hk : L[k]? = some (v, d)) => Bf.next h hk)
  have HB1 := Lib.hid (Bf.first (nbT (cS m' s.data.toList) (eN m')) t')
  have HADF := Lib.hid (fun d us L => addA_full (c := cS m' s.data.toList) (E := eN m') (d := d) (us := us) (L := L))
  generalize distZ (nbT (cS m' s.data.toList) (eN m')) t' U = ans at HHIT HMIS ⊢
  have HFLE : Hid (∀ V, (flipsL (cS m' s.data.toList) (eN m') V).length ≤ 21) := Lib.hid (fun V => by have := HFLN.out V; rw [hFeq] at this; omega)
  have HAFU : Hid (∀ L, AllFull (cS m' s.data.toList) (eN m') L → ∀ q ∈ L, fullB (cS m' s.data.toList) (eN m') q.1 = true ∧ q.1 < 2 ^ eN m') := Lib.hid (fun _ h => h)
  generalize triL (cS m' s.data.toList) (eN m') = tl at HUN HLN hMe
  generalize nbT (cS m' s.data.toList) (eN m') = nb at *
  generalize flipsL (cS m' s.data.toList) (eN m') = fl at *
  generalize AllFull (cS m' s.data.toList) (eN m') = af at *
  generalize fullB (cS m' s.data.toList) (eN m') = fb at *
  clear HDZ HFLN hFeq hM hT hU hac
  generalize cS m' s.data.toList = c at *
  generalize eN m' = E at *
  obtain ⟨i0, hi, hz0, hz1, hz2⟩ := info_parts infoI
  clear hpE hfull hs
  go_enter Tryz.func61, Tryz.ntmps61
  go_wp2_with fail
  refine (HA1.out _).mono ?_
  rintro e w1 ⟨rfl, hb1⟩
  have X1 := Lib.hid (HS.out.on hb1)
  clear hb1 x0 x1
  obtain ⟨x0, x1, -⟩ := X1.out
  go_wp2_with fail
  refine (HA2.out _).mono ?_
  rintro e w2 ⟨rfl, hb2⟩
  have X2 := Lib.hid (X1.out.on hb2)
  clear hb2 x0 x1
  obtain ⟨x0, x1, B2⟩ := X2.out
  go_wp2_with fail
  refine (HP.out _).mono ?_
  rintro e w3 ⟨⟨a, cc, rfl, hr⟩, hb3⟩
  have B3 := Lib.hid (B2.trans (hb3.mono B2.size))
  have R3 := Lib.hid hr
  have hw3 := B3.out.size
  have hsz4 : (w3.alloc (.cells #[.int .i64 t'] 3)).heap.size = w3.heap.size + 1 := by simp
  have HOF0 : Hid (OwnN ((w3.alloc (.cells #[.int .i64 t'] 3)).alloc (.cells #[.int .i64 0] 3)) w3.heap.size w3.heap.size 1 ([(t', 0)].map Prod.fst)) := Lib.hid (World.ownsRow.alloc (ownN_one w3 w3.heap.size (Nat.le_refl _) t') _)
  have HOR0 : Hid (OwnN ((w3.alloc (.cells #[.int .i64 t'] 3)).alloc (.cells #[.int .i64 0] 3)) w3.heap.size (w3.heap.size + 1) 1 ([(t', 0)].map Prod.snd)) := Lib.hid (by
    have := ownN_one (w3.alloc (.cells #[.int .i64 t'] 3)) w3.heap.size (by simp) 0
    rw [hsz4] at this
    exact this)
  have HBW0 : Hid (Below w3.heap.size w3 ((w3.alloc (.cells #[.int .i64 t'] 3)).alloc (.cells #[.int .i64 0] 3))) := Lib.hid (((Below.refl _ _).alloc (Nat.le_refl _) _).alloc (by simp) _)
  clear hr hb3 x0 x1 B2
  go_wp2
  go_loopw [8, 9, 10] (fun fv rv kv wr => ∃ (k gf cf gr cr N : Nat) (L : List (Nat × Nat)), fv = .slice (some ⟨gf, 0, none⟩) N cf ∧ rv = .slice (some ⟨gr, 0, none⟩) N cr ∧ kv = .int .i64 k ∧ k ≤ N ∧ N ≤ tl.length ∧ gf ≠ gr ∧ Hid (N = L.length) ∧ Hid (Bf nb t' k L) ∧ Hid (∀ (i : Nat) (q : Nat × Nat), i < k → L[i]? = some q → q.1 ≠ U) ∧ Hid (af L) ∧ Hid (∀ q ∈ L, q.2 ≤ k) ∧ Hid (OwnN wr w3.heap.size gf cf (L.map Prod.fst)) ∧ Hid (OwnN wr w3.heap.size gr cr (L.map Prod.snd)) ∧ Hid (Below w3.heap.size w3 wr)) (fun _ _ kv _ => tl.length - (intOf kv).toNat)
  case atStart =>
    exact ⟨0, w3.heap.size, 1, w3.heap.size + 1, 1, 1, [(t', 0)], rfl, rfl, rfl, by omega, HLN.out 0 _ HB1.out, by omega, Lib.hid rfl, HB1, Lib.hid (fun i q hi => by omega), HAF0, Lib.hid (fun q hq => by
      obtain rfl : q = (t', 0) := by simpa using hq
      exact Nat.le_refl _), HOF0, HOR0, HBW0⟩
  case round =>
    rename World => wA
    obtain ⟨k, gf, cf, gr, cr, N, L, rfl, rfl, rfl, hkN, hNM, hgne, HN, HBF, HNO, HAF, HDB, HOF, HOR, HB⟩ := hrel
    by_cases hlt : k < N
    · have hkl : k < L.length := by have := HN.out; omega
      obtain ⟨q, hq⟩ : ∃ q, L[k]? = some q := ⟨_, List.getElem?_eq_getElem hkl⟩
      obtain ⟨v, d⟩ := q
      have hmem := List.mem_of_getElem? hq
      have hc1 := HOF.out.cell (j := k) (by rw [List.length_map]; exact hkl)
      rw [getD_map Prod.fst hq] at hc1
      have hdk : d ≤ k := HDB.out _ hmem
      obtain ⟨hv1, hv2⟩ := HAFU.out L HAF.out _ hmem
      dsimp only at hc1 hv1 hv2
      have HQ := Lib.hid hq
      clear hmem hkl
      cases hvU : ((v : Int) == (U : Int))
      · have HCALL := Lib.hid (HF.out v hv2 a cc wA (R3.out.on HB.out).rd)
        obtain ⟨us, hus⟩ : ∃ us, us = fl v := ⟨_, rfl⟩
        have HUS : Hid (∀ u ∈ us, fb u = true ∧ u < 2 ^ E) := Lib.hid (fun u hu => HFF.out v u hv1 hv2 (by rw [← hus]; exact hu))
        have HNBV : Hid (nb v = us) := Lib.hid (by rw [hus]; exact HNB.out v hv1)
        have hul := HFLE.out v
        rw [← hus] at HCALL hul
        have HVU : Hid (v ≠ U) := Lib.hid (fun e => by subst e; simp at hvU)
        obtain ⟨LL, hLL⟩ : ∃ LL : Nat → List (Nat × Nat), LL = fun i => addA (d + 1) (us.take i) L := ⟨_, rfl⟩
        have HL0 : Hid (LL 0 = L) := Lib.hid (by rw [hLL]; rfl)
        have HLS : Hid (∀ i, i < us.length → LL (i + 1) = if ((LL i).map Prod.fst).contains (us.getD i 0) = true then LL i else LL i ++ [(us.getD i 0, d + 1)]) := Lib.hid (fun i hi => by rw [hLL]; show addA (d + 1) (us.take (i + 1)) L = _; rw [takeN_snoc hi, addA_snoc])
        have HLEN : Hid (LL us.length = addA (d + 1) us L) := Lib.hid (by rw [hLL]; show addA (d + 1) (us.take us.length) L = _; rw [List.take_length])
        have HLK : Hid (∀ i, (LL i)[k]? = some (v, d)) := Lib.hid (fun i => by
          rw [hLL]
          obtain ⟨M, e, -⟩ := addA_pre (d + 1) (us.take i) L
          show (addA (d + 1) (us.take i) L)[k]? = _
          rw [e, List.getElem?_append_left (List.getElem?_eq_some_iff.1 HQ.out).1]
          exact HQ.out)
        have HLB : Hid (∀ i, (LL i).length ≤ tl.length + 21) := Lib.hid (fun i => by
          rw [hLL]
          have h1 := addA_len (d + 1) (us.take i) L
          have h2 : (us.take i).length ≤ us.length := by rw [List.length_take]; omega
          have := HN.out
          show (addA (d + 1) (us.take i) L).length ≤ _
          omega)
        clear hLL hus hq
        have hgf := HOF.out.lt
        have hgr := HOR.out.lt
        go_wp2_with fail
        refine HCALL.out.mono ?_
        rintro e w4 ⟨⟨gl, cl, rfl, hol⟩, hb4⟩
        have OF4 : Hid (OwnN w4 w3.heap.size gf cf ((LL 0).map Prod.fst)) := Lib.hid (by rw [HL0.out]; exact HOF.out.on hb4)
        have OR4 : Hid (OwnN w4 w3.heap.size gr cr ((LL 0).map Prod.snd)) := Lib.hid (by rw [HL0.out]; exact HOR.out.on hb4)
        have B4 := Lib.hid (HB.out.trans (hb4.mono HB.out.size))
        have hgl := hol.lt
        have LC4 : Hid (∀ j, j < us.length → w4.cell? ⟨gl, j, none⟩ = some (.int .i64 (us.getD j 0 : Nat))) := Lib.hid (fun j hj => hol.cell hj)
        have hne1 : gl ≠ gf := by omega
        have hne2 : gl ≠ gr := by omega
        have HN0 : Hid (N = (LL 0).length) := Lib.hid (by rw [HL0.out]; exact HN.out)
        clear hol hb4 hgf hgr hgl hc1
        go_wp2
        go_loopw [8, 9, 12] (fun fv rv iv wq => ∃ (i gf cf gr cr N : Nat), fv = .slice (some ⟨gf, 0, none⟩) N cf ∧ rv = .slice (some ⟨gr, 0, none⟩) N cr ∧ iv = .int .i64 i ∧ i ≤ us.length ∧ gf ≠ gr ∧ gl ≠ gf ∧ gl ≠ gr ∧ Hid (N = (LL i).length) ∧ Hid (OwnN wq w3.heap.size gf cf ((LL i).map Prod.fst)) ∧ Hid (OwnN wq w3.heap.size gr cr ((LL i).map Prod.snd)) ∧ Hid (Below w3.heap.size w3 wq) ∧ Hid (∀ j, j < us.length → wq.cell? ⟨gl, j, none⟩ = some (.int .i64 (us.getD j 0 : Nat)))) (fun _ _ iv _ => us.length - (intOf iv).toNat)
        case atStart => exact ⟨0, gf, cf, gr, cr, N, rfl, rfl, rfl, Nat.zero_le _, hgne, hne1, hne2, HN0, OF4, OR4, B4, LC4⟩
        case round =>
          rename World => wB
          clear HN0 OF4 OR4 B4 LC4 hne1 hne2 HN HOF HOR HB hgne hkN hNM HCALL hlt
          obtain ⟨i, gf, cf, gr, cr, N, rfl, rfl, rfl, hiu, hgne, hne1, hne2, HN, HOF, HOR, HB, HLC⟩ := hrel
          by_cases hlt : i < us.length
          · have HSI := Lib.hid (HLS.out i hlt)
            have HKI := Lib.hid (HLK.out i)
            have hbi := HLB.out i
            have HKN := Lib.hid (HLK.out (i + 1))
            have hNb : N ≤ 2097173 := by have := HN.out; omega
            obtain ⟨u, hu⟩ : ∃ u, us.getD i 0 = u := ⟨_, rfl⟩
            have HUI := Lib.hid hu
            rw [hu] at HSI
            clear hu
            go_wp2
            go_loopw [13, 14] (fun bv jv wp => ∃ j : Nat, j ≤ N ∧ jv = .int .i64 j ∧ bv = .bool ((((LL i).map Prod.fst).take j).contains u) ∧ Hid (OwnN wp w3.heap.size gf cf ((LL i).map Prod.fst)) ∧ Hid (OwnN wp w3.heap.size gr cr ((LL i).map Prod.snd)) ∧ Hid (Below w3.heap.size w3 wp) ∧ Hid (∀ j, j < us.length → wp.cell? ⟨gl, j, none⟩ = some (.int .i64 (us.getD j 0 : Nat)))) (fun _ jv _ => N - (intOf jv).toNat)
            case atStart => exact ⟨0, Nat.zero_le _, rfl, rfl, HOF, HOR, HB, HLC⟩
            case round =>
              as_aux_lemma =>
              rename World => wC
              clear HOF HOR HB HLC
              obtain ⟨j, hj, rfl, rfl, HOF, HOR, HB, HLC⟩ := hrel
              have hNl : N = ((LL i).map Prod.fst).length := by rw [List.length_map]; exact HN.out
              by_cases hlt2 : j < N
              · have hcf := HOF.out.cell (j := j) (by omega)
                have hcl := HLC.out i hlt
                rw [HUI.out] at hcl
                have HCT := Lib.hid (contains_take (L := (LL i).map Prod.fst) (u := u) (j := j) (by omega))
                obtain ⟨bb, hbb⟩ : ∃ bb, bb = (((LL i).map Prod.fst).take j).contains u := ⟨_, rfl⟩
                rw [← hbb] at HCT ⊢
                generalize ((LL i).map Prod.fst).getD j 0 = f at hcf HCT
                have hfu : (((f : Nat) : Int) == ((u : Nat) : Int)) = (f == u) := by rw [Bool.eq_iff_iff, beq_iff_eq, beq_iff_eq]; omega
                clear hbb hNl
                cases bb
                · generalize (f == u) = fu at HCT hfu
                  have HCT2 : Hid ((((LL i).map Prod.fst).take (j + 1)).contains u = fu) := Lib.hid (by rw [HCT.out]; rfl)
                  go_wp2
                  go_quiet (fail)
                  go_wp2
                  exact ⟨⟨j + 1, by omega, by go_num, by rw [HCT2.out], Lib.hid HOF.out, Lib.hid HOR.out, Lib.hid (by first | exact HB.out | exact HB.out.drew | exact drewN_below HB.out _), Lib.hid HLC.out⟩, by simp only [intOf]; omega⟩
                · have HCT2 : Hid ((((LL i).map Prod.fst).take (j + 1)).contains u = true) := Lib.hid (by rw [HCT.out]; rfl)
                  go_wp2
                  go_quiet (fail)
                  go_wp2
                  exact ⟨⟨j + 1, by omega, by go_num, by rw [HCT2.out], Lib.hid HOF.out, Lib.hid HOR.out, Lib.hid (by first | exact HB.out | exact HB.out.drew | exact drewN_below HB.out _), Lib.hid HLC.out⟩, by simp only [intOf]; omega⟩
              · have hjN : j = N := by omega
                have HCA : Hid ((((LL i).map Prod.fst).take j).contains u = ((LL i).map Prod.fst).contains u) := Lib.hid (by rw [hjN, hNl, List.take_length])
                have hcl := HLC.out i hlt
                rw [HUI.out] at hcl
                obtain ⟨bb, hbb⟩ : ∃ bb, bb = (((LL i).map Prod.fst).take j).contains u := ⟨_, rfl⟩
                rw [← hbb] at HCA ⊢
                clear hbb hNl hjN
                cases bb
                · have HLN1 : Hid (LL (i + 1) = LL i ++ [(u, d + 1)]) := Lib.hid (by rw [HSI.out, ← HCA.out]; rfl)
                  have hul2 : u < 2097152 := by
                    have h1 : u ∈ us := by
                      have := HUI.out
                      rw [List.getD_eq_getElem?_getD, List.getElem?_eq_getElem hlt] at this
                      rw [← this]
                      exact List.getElem_mem _
                    have h2 := (HUS.out u h1).2
                    have := Nat.pow_le_pow_right (n := 2) (by omega) hE
                    omega
                  have hgfl := HOF.out.lt
                  have hgrl := HOR.out.lt
                  have hgll := Kit.cell_lt hcl
                  have hgll : gl < wC.heap.size := hgll
                  have hBw := HB.out.size
                  go_wp2_with (at_builtin; refine wpList_append_lies _ rfl (.tmp 78) (.tmp 83) 27 rfl w3.heap.size 3 i0 _ 1 8 Tryz.underlying27 hi hz0 hz1 hz2 rfl (by decide) _ _ _ rfl (World.ownsRow.alloc (HOF.out.n (by rw [List.length_map]; exact HN.out)) _) ⟨_, 0, none⟩ 1 1 [.int .i64 (u : Int)] rfl rfl (news1 _ _ _) (one1 _) (by omega) (by simp only [maxLen]; omega) (by omega) (by simp; omega) (wC.heap.size + 1) (by simp) ?_)
                  intro g7 c7 w7 hown7 hg7 hat7 hlt7
                  have hgr7 : (wC.alloc (.cells #[.int .i64 (u : Int)] 3)).grownBy w7 (some gf) := hg7
                  have hg7e : g7 = gf ∨ g7 = wC.heap.size + 1 := by
                    rcases hat7 with h | h
                    · left; simpa [Value.ownBlock] using h.symm
                    · exact .inr h
                  have HOF7 : Hid (OwnN w7 w3.heap.size g7 c7 ((LL (i + 1)).map Prod.fst)) := Lib.hid (by
                    rw [HLN1.out, List.map_append]
                    refine OwnN.of (N := N + 1) (by rw [List.length_append, List.length_map, HN.out]; rfl) ?_
                    rw [show [(u, d + 1)].map Prod.fst = [u] from rfl, vals_snoc]
                    exact hown7)
                  have HOR7 : Hid (OwnN w7 w3.heap.size gr cr ((LL i).map Prod.snd)) := Lib.hid (World.ownsRow.kept (World.ownsRow.alloc HOR.out _) hgr7 (.inr (fun e => hgne (by have := (show gr = gf by simpa [Value.ownBlock] using e); omega))))
                  have HB7 := Lib.hid ((HB.out.alloc hBw (.cells #[.int .i64 (u : Int)] 3)).grown hgr7 (by simp; omega) (fun q hq => by injection hq with hq; omega))
                  have HLC7 : Hid (∀ j, j < us.length → w7.cell? ⟨gl, j, none⟩ = some (.int .i64 (us.getD j 0 : Nat))) := Lib.hid (fun j hj => hgr7.cell (by rw [World.cell?_alloc_lt _ _ _ hgll]; exact HLC.out j hj) (fun e => hne1 (by injection e)))
                  have hg7r : g7 ≠ gr := by omega
                  have hg7l : gl ≠ g7 := by omega
                  have hw7 : wC.heap.size + 1 ≤ w7.heap.size := by have := hgr7.size; simpa using this
                  clear hown7 hg7 hat7 hgr7 hg7e hcl
                  have hc2 := HOR7.out.cell (j := k) (by rw [List.length_map]; exact (List.getElem?_eq_some_iff.1 HKI.out).1)
                  rw [getD_map Prod.snd HKI.out] at hc2
                  dsimp only at hc2
                  have hkN3 : k < N := by have h1 := (List.getElem?_eq_some_iff.1 HKI.out).1; have := HN.out; omega
                  have hB7 := HB7.out.size
                  go_wp2_with (at_builtin; refine wpList_append_lies _ rfl (.tmp 85) (.tmp 91) 27 rfl w3.heap.size 3 i0 _ 1 8 Tryz.underlying27 hi hz0 hz1 hz2 rfl (by decide) _ _ _ rfl (World.ownsRow.alloc (HOR7.out.n (by rw [List.length_map]; exact HN.out)) _) ⟨_, 0, none⟩ 1 1 [.int .i64 ((d : Int) + 1)] rfl rfl (news1 _ _ _) (one1 _) (by omega) (by simp only [maxLen]; omega) (by omega) (by simp; omega) (w7.heap.size + 1) (by simp) ?_)
                  intro g8 c8 w8 hown8 hg8 hat8 hlt8
                  have hgr8 : (w7.alloc (.cells #[.int .i64 ((d : Int) + 1)] 3)).grownBy w8 (some gr) := hg8
                  have hg8e : g8 = gr ∨ g8 = w7.heap.size + 1 := by
                    rcases hat8 with h | h
                    · left; simpa [Value.ownBlock] using h.symm
                    · exact .inr h
                  have HOR8 : Hid (OwnN w8 w3.heap.size g8 c8 ((LL (i + 1)).map Prod.snd)) := Lib.hid (by
                    rw [HLN1.out, List.map_append]
                    refine OwnN.of (N := N + 1) (by rw [List.length_append, List.length_map, HN.out]; rfl) ?_
                    rw [show [(u, d + 1)].map Prod.snd = [d + 1] from rfl, vals_snoc, show ((d + 1 : Nat) : Int) = (d : Int) + 1 from rfl]
                    exact hown8)
                  have HOF8 : Hid (OwnN w8 w3.heap.size g7 c7 ((LL (i + 1)).map Prod.fst)) := Lib.hid (World.ownsRow.kept (World.ownsRow.alloc HOF7.out _) hgr8 (.inr (fun e => hg7r (by simpa [Value.ownBlock] using e))))
                  have HB8 := Lib.hid ((HB7.out.alloc hB7 (.cells #[.int .i64 ((d : Int) + 1)] 3)).grown hgr8 (by simp; omega) (fun q hq => by injection hq with hq; omega))
                  have HLC8 : Hid (∀ j, j < us.length → w8.cell? ⟨gl, j, none⟩ = some (.int .i64 (us.getD j 0 : Nat))) := Lib.hid (fun j hj => hgr8.cell (by rw [World.cell?_alloc_lt _ _ _ (show gl < w7.heap.size by omega)]; exact HLC7.out j hj) (fun e => hne2 (by injection e)))
                  have hg8f : g7 ≠ g8 := by omega
                  have hg8l : gl ≠ g8 := by omega
                  clear hown8 hg8 hat8 hgr8 hg8e
                  go_wp2
                  exact ⟨⟨i + 1, g7, c7, g8, c8, N + 1, by trivial, by trivial, by go_num, by omega, hg8f, hg7l, hg8l, Lib.hid (by rw [HLN1.out, List.length_append, ← HN.out]; rfl), HOF8, HOR8, HB8, HLC8⟩, by simp only [intOf]; omega⟩
                · have HLN1 : Hid (LL (i + 1) = LL i) := Lib.hid (by rw [HSI.out, ← HCA.out]; rfl)
                  go_wp2
                  exact ⟨⟨i + 1, gf, cf, gr, cr, N, by trivial, by trivial, by go_num, by omega, hgne, hne1, hne2, Lib.hid (by rw [HLN1.out]; exact HN.out), Lib.hid (by rw [HLN1.out]; exact HOF.out), Lib.hid (by rw [HLN1.out]; exact HOR.out), HB, HLC⟩, by simp only [intOf]; omega⟩
          · have hie : i = us.length := by omega
            have HBF2 : Hid (Bf nb t' (k + 1) (LL i)) := Lib.hid (by
              have := HNX.out k v d L HBF.out HQ.out
              rw [HNBV.out, ← HLEN.out, ← hie] at this
              exact this)
            have HPRE : Hid (∃ M, LL i = L ++ M ∧ ∀ q ∈ M, q.2 = d + 1 ∧ q.1 ∈ us) := Lib.hid (by rw [hie, HLEN.out]; exact addA_pre (d + 1) us L)
            have hkl : k < L.length := (List.getElem?_eq_some_iff.1 HQ.out).1
            have HNO2 : Hid (∀ (x : Nat) (q : Nat × Nat), x < k + 1 → (LL i)[x]? = some q → q.1 ≠ U) := Lib.hid (fun x q hx hq => by
              obtain ⟨M, e, -⟩ := HPRE.out
              rw [e, List.getElem?_append_left (by omega)] at hq
              rcases (by omega : x < k ∨ x = k) with hl | rfl
              · exact HNO.out x q hl hq
              · rw [HQ.out] at hq
                obtain rfl := Option.some.inj hq
                exact HVU.out)
            have HAF2 : Hid (af (LL i)) := Lib.hid (by rw [hie, HLEN.out]; exact HADF.out (d + 1) us L HAF.out HUS.out)
            have HDB2 : Hid (∀ q ∈ LL i, q.2 ≤ k + 1) := Lib.hid (fun q hq => by
              obtain ⟨M, e, hM⟩ := HPRE.out
              rw [e] at hq
              rcases List.mem_append.1 hq with hq | hq
              · have := HDB.out q hq; omega
              · rw [(hM q hq).1]; omega)
            have hNM2 : N ≤ tl.length := by have := HLN.out (k + 1) _ HBF2.out; have := HN.out; omega
            have hkN2 : k + 1 ≤ N := by
              have h1 := (List.getElem?_eq_some_iff.1 (HLK.out i)).1
              have := HN.out
              omega
            clear hkl hie
            go_wp2
            exact ⟨⟨k + 1, gf, cf, gr, cr, N, LL i, by trivial, by trivial, by go_num, hkN2, hNM2, hgne, HN, HBF2, HNO2, HAF2, HDB2, HOF, HOR, HB⟩, by simp only [intOf]; omega⟩
      · have hvU2 : v = U := by have := eq_of_beq hvU; omega
        have hkl : k < L.length := by have := HN.out; omega
        have hc2 := HOR.out.cell (j := k) (by rw [List.length_map]; exact hkl)
        rw [getD_map Prod.snd hq] at hc2
        dsimp only at hc2
        have HR : Hid (ans = (d : Int)) := Lib.hid (HHIT.out k d L HBF.out HNO.out (by rw [← hvU2]; exact HQ.out))
        clear hvU2 hkl hq
        go_wp2
        go_ret
        exact ⟨ret_int HR.out.symm, B3.out.trans (HB.out.mono hw3)⟩
    · have HR := Lib.hid (HMIS.out k L HBF.out HNO.out (by have := HN.out; omega))
      go_wp2
      go_ret
      exact ⟨ret_int HR.out.symm, B3.out.trans (HB.out.mono hw3)⟩
set_option maxHeartbeats 1600000 in
set_option maxRecDepth 100000 in
theorem specDist (n : Int) (s : ByteArray) (hs : s.size ≤ 9223372036854775807) (T U : Int) (w : World) :
    Calls Tryz.prog 61 #[sg n s, .int .i64 T, .int .i64 U] w fun e w' => e = .returned (.int .i64 (fdZ n s.data.toList T U)) ∧ Below w.heap.size w w' := by
  have HS := Lib.hid (box_made w n s 25)
  obtain ⟨x0, x1, -⟩ := HS.out
  cases h1 : itB n s.data.toList T
  · have HA := Lib.hid (fun W => specIsTri n s hs T W)
    have HE : Hid (fdZ n s.data.toList T U = -1) := Lib.hid (by unfold fdZ; rw [h1]; simp)
    rw [HE.out]
    rw [h1] at HA
    clear h1 HE
    go_enter Tryz.func61, Tryz.ntmps61
    go_wp2_with fail
    refine (HA.out _).mono ?_
    rintro e w1 ⟨rfl, hb1⟩
    have B1 := Lib.hid (HS.out.on hb1).2.2
    clear hb1 x0 x1
    go_wp2
    go_ret
    exact ⟨rfl, B1.out⟩
  · cases h2 : itB n s.data.toList U
    · have HA := Lib.hid (fun W => specIsTri n s hs T W)
      have HA2 := Lib.hid (fun W => specIsTri n s hs U W)
      have HE : Hid (fdZ n s.data.toList T U = -1) := Lib.hid (by unfold fdZ; rw [h2]; simp)
      rw [HE.out]
      rw [h1] at HA
      rw [h2] at HA2
      clear h1 h2 HE
      go_enter Tryz.func61, Tryz.ntmps61
      go_wp2_with fail
      refine (HA.out _).mono ?_
      rintro e w1 ⟨rfl, hb1⟩
      have X1 := Lib.hid (HS.out.on hb1)
      clear hb1 x0 x1
      obtain ⟨x0, x1, -⟩ := X1.out
      go_wp2_with fail
      refine (HA2.out _).mono ?_
      rintro e w2 ⟨rfl, hb2⟩
      have B2 := Lib.hid (X1.out.on hb2).2.2
      clear hb2 x0 x1
      go_wp2
      go_ret
      exact ⟨rfl, B2.out⟩
    · obtain ⟨m, t, rfl, rfl, hac, m3, m6, ht, hfull⟩ := itB_parts h1
      obtain ⟨m2, u, em, rfl, -⟩ := itB_parts h2
      have HE : fdZ m s.data.toList t u = distZ (nbT (cS m s.data.toList) (eN m)) t u := by unfold fdZ; rw [if_pos ⟨h1, h2⟩, Int.toNat_natCast, Int.toNat_natCast, Int.toNat_natCast]
      rw [HE]
      exact dist_core m s hac m6 hs t u h1 h2 w
end Go.Proofs.YtinlnafkmoabbaaGreatDoor.Sg
/- The empty triangles of a triangulation, as spec counts them: TrianglesOf. -/
namespace Go.Proofs.YtinlnafkmoabbaaGreatDoor.Sg
open Go.RowKit Pt NewI
def trQ (F : Int → Int → Int → Int) (n T : Nat) (t : T3) : Bool := T.testBit (ixN n t.1 t.2.1) && (T.testBit (ixN n t.2.1 t.2.2) && (T.testBit (ixN n t.1 t.2.2) && cntI F t.1 t.2.1 t.2.2 n == 0))
/-- How many threes ahead of three elements. -/
def trU (q : T3 → Bool) (n i j k : Nat) : Nat := (upto n i j k).countP q
theorem trU_zero {n : Nat} (h7 : n ≤ 7) (q : T3 → Bool) : trU q n 0 (0 + 1) (0 + 1 + 1) = 0 := by unfold trU; rw [upto_zero n (by omega)]; rfl
theorem trU_step {n i j k : Nat} (h7 : n ≤ 7) (q : T3 → Bool) (h1 : i < j) (h2 : j < k) (h3 : k < n) : trU q n i j (k + 1) = trU q n i j k + bit (q (i, j, k)) := by
  unfold trU
  rw [upto_step h7 h1 h2 h3, List.countP_append, List.countP_singleton]
  cases q (i, j, k) <;> rfl
theorem trU_inner {n i j : Nat} (h7 : n ≤ 7) (q : T3 → Bool) (h1 : i < j) (h2 : j < n) : trU q n i j n = trU q n i (j + 1) (j + 1 + 1) := by unfold trU; rw [upto_inner h7 h1 h2]
theorem trU_mid {n i : Nat} (h7 : n ≤ 7) (q : T3 → Bool) (h1 : i < n) : trU q n i n (n + 1) = trU q n (i + 1) (i + 1 + 1) (i + 1 + 1 + 1) := by unfold trU; rw [upto_mid h7 h1]
theorem trU_end {n : Nat} (h7 : n ≤ 7) (q : T3 → Bool) : trU q n n (n + 1) (n + 1 + 1) = (threes n).countP q := by unfold trU; rw [upto_end h7]
theorem trU_le {n : Nat} (h7 : n ≤ 7) (q : T3 → Bool) (i j k : Nat) : trU q n i j k ≤ 35 := by
  unfold trU
  refine Nat.le_trans List.countP_le_length (Nat.le_trans (upto_length n i j k) ?_)
  rw [threes_length h7]; exact cnt_le h7
/-- What TrianglesOf answers. -/
def trsZ (n : Int) (s : List UInt8) (T : Int) : Int := if itB n s T = true then ((threes n.toNat).countP (trQ (sgnF (lookS n s)) n.toNat T.toNat) : Nat) else -1
set_option maxHeartbeats 3200000 in
set_option maxRecDepth 100000 in
theorem specTriangles (n : Int) (s : ByteArray) (hs : s.size ≤ 9223372036854775807) (T : Int) (w : World) :
    Calls Tryz.prog 68 #[sg n s, .int .i64 T] w fun e w' => e = .returned (.int .i64 (trsZ n s.data.toList T)) ∧ Below w.heap.size w w' := by
  have HS := Lib.hid (box_made w n s 25)
  have HA := Lib.hid (fun W => specIsTri n s hs T W)
  obtain ⟨x0, x1, -⟩ := HS.out
  cases h : itB n s.data.toList T
  · have HE : Hid (trsZ n s.data.toList T = -1) := Lib.hid (by unfold trsZ; rw [h]; rfl)
    rw [HE.out]
    rw [h] at HA
    clear h HE
    go_enter Tryz.func68, Tryz.ntmps68
    go_wp2_with fail
    refine (HA.out _).mono ?_
    rintro e w1 ⟨rfl, hb1⟩
    have B1 := Lib.hid (HS.out.on hb1).2.2
    clear hb1 x0 x1
    go_wp2
    go_ret
    exact ⟨rfl, B1.out⟩
  · obtain ⟨m, t, rfl, rfl, hac, m3, m6, ht, hfull⟩ := itB_parts h
    have h7 : m ≤ 7 := by omega
    have har := matB_ar (aciB_mat hac)
    have hE := eN_bd m (by omega)
    have hpE := Nat.pow_le_pow_right (n := 2) (by omega) hE
    have HE : Hid (trsZ m s.data.toList t = ((threes m).countP (trQ (sgnF (lookS m s.data.toList)) m t) : Nat)) := Lib.hid (by unfold trsZ; rw [if_pos h, Int.toNat_natCast, Int.toNat_natCast])
    rw [HE.out]
    have HIX := Lib.hid (fun (i j : Nat) (hij : i < j) (hj : j < m) W => l9Index_any m i j h7 (by omega) hj (by omega) W)
    have HBD := Lib.hid (fun (i j : Nat) (hij : i < j) (hj : j < m) => (ix_ed h7 hij hj).2)
    have HHA := Lib.hid (fun (x : Nat) (hx : x < 64) W => l6HasE_any t x (by omega) hx W)
    have HIN : Hid (∀ a b c : Nat, a < b → b < c → c < m → ∀ W, Calls Tryz.prog 126 #[sg m s, .int .i64 a, .int .i64 b, .int .i64 c] W fun e w' => e = .returned (.int .i64 (cntI (sgnF (lookS m s.data.toList)) a b c m)) ∧ Below W.heap.size W w') := Lib.hid (fun a b c h1 h2 h3 W => l5Inside_any m s a b c har (by omega) (by omega) h3 (by omega) (by omega) (by omega) W)
    have HQ : Hid (∀ a b c, trQ (sgnF (lookS m s.data.toList)) m t (a, b, c) = (t.testBit (ixN m a b) && (t.testBit (ixN m b c) && (t.testBit (ixN m a c) && cntI (sgnF (lookS m s.data.toList)) a b c m == 0)))) := Lib.hid (fun _ _ _ => rfl)
    generalize trQ (sgnF (lookS m s.data.toList)) m t = q at HQ ⊢
    have HLE := Lib.hid (fun i j k => trU_le h7 q i j k)
    have HU0 := Lib.hid (trU_zero h7 q)
    have HUS := Lib.hid (fun i j k (h1 : i < j) (h2 : j < k) (h3 : k < m) => trU_step h7 q h1 h2 h3)
    have HUI := Lib.hid (fun i j (h1 : i < j) (h2 : j < m) => trU_inner h7 q h1 h2)
    have HUM := Lib.hid (fun i (h1 : i < m) => trU_mid h7 q h1)
    have HUE := Lib.hid (trU_end h7 q)
    rw [← HUE.out]
    generalize trU q m = u at HLE HU0 HUS HUI HUM ⊢
    generalize cntI (sgnF (lookS m s.data.toList)) = cn at HIN HQ
    generalize ixN m = ix at HIX HBD HQ
    rw [h] at HA
    clear h har HE hac hfull ht HUE
    go_enter Tryz.func68, Tryz.ntmps68
    go_wp2_with fail
    refine (HA.out _).mono ?_
    rintro e w1 ⟨rfl, hb1⟩
    have X1 := Lib.hid (HS.out.on hb1)
    clear hb1 x0 x1
    go_wp2
    go_loopw [5, 6] (fun cv x wr => ∃ a : Nat, a ≤ m ∧ x = .int .i64 a ∧ cv = .int .i64 (u a (a + 1) (a + 1 + 1) : Nat) ∧ Hid (Box w m s wr)) (fun _ x _ => m - (intOf x).toNat)
    case atStart => exact ⟨0, Nat.zero_le _, rfl, by rw [HU0.out]; rfl, X1⟩
    case round =>
      as_aux_lemma =>
      obtain ⟨a, han, rfl, rfl, HB⟩ := hrel
      obtain ⟨c0, c1, B0⟩ := HB.out
      by_cases hlt : a < m
      · go_wp2
        go_loopw [5, 7] (fun cv x wr => ∃ b : Nat, a < b ∧ b ≤ m ∧ x = .int .i64 b ∧ cv = .int .i64 (u a b (b + 1) : Nat) ∧ Hid (Box w m s wr)) (fun _ x _ => m - (intOf x).toNat)
        case atStart => exact ⟨a + 1, by omega, by omega, by go_num, rfl, HB⟩
        case round =>
          clear c0 c1 B0 HB
          obtain ⟨b, hab, hbn, rfl, rfl, HB⟩ := hrel
          obtain ⟨c0, c1, B0⟩ := HB.out
          by_cases hlt2 : b < m
          · go_wp2
            go_loopw [5, 8] (fun cv x wr => ∃ c : Nat, b < c ∧ c ≤ m ∧ x = .int .i64 c ∧ cv = .int .i64 (u a b c : Nat) ∧ Hid (Box w m s wr)) (fun _ x _ => m - (intOf x).toNat)
            case atStart => exact ⟨b + 1, by omega, by omega, by go_num, rfl, HB⟩
            case round =>
              clear c0 c1 B0 HB
              obtain ⟨c, hbc, hcn, rfl, rfl, HB⟩ := hrel
              obtain ⟨c0, c1, B0⟩ := HB.out
              have hle := HLE.out a b c
              by_cases hlt3 : c < m
              · have HI1 := Lib.hid (HIX.out a b hab hlt2)
                have HI2 := Lib.hid (HIX.out b c hbc hlt3)
                have HI3 := Lib.hid (HIX.out a c (by omega) hlt3)
                have h1 := HBD.out a b hab hlt2
                have h2 := HBD.out b c hbc hlt3
                have h3 := HBD.out a c (by omega) hlt3
                have HA1 := Lib.hid (HHA.out (ix a b) (by omega))
                have HA2 := Lib.hid (HHA.out (ix b c) (by omega))
                have HA3 := Lib.hid (HHA.out (ix a c) (by omega))
                have HC := Lib.hid (HIN.out a b c hab hbc hlt3)
                have HN := Lib.hid (HUS.out a b c hab hbc hlt3)
                have HQP := Lib.hid (HQ.out a b c)
                generalize cn a b c m = k at HC HQP
                have hk : ((k : Int) == 0) = (k == 0) := by cases k <;> rfl
                generalize t.testBit (ix a b) = b1 at HA1 HQP
                generalize t.testBit (ix b c) = b2 at HA2 HQP
                generalize t.testBit (ix a c) = b3 at HA3 HQP
                generalize ix a b = y1 at HI1 HA1 h1
                generalize ix b c = y2 at HI2 HA2 h2
                generalize ix a c = y3 at HI3 HA3 h3
                cases b1
                · have HN2 : Hid (u a b (c + 1) = u a b c) := Lib.hid (by rw [HN.out, HQP.out]; rfl)
                  go_wp2_with fail
                  refine (HI1.out _).mono ?_
                  rintro e w' ⟨rfl, rfl⟩
                  go_wp2_with fail
                  refine (HA1.out _).mono ?_
                  rintro e w' ⟨rfl, rfl⟩
                  go_wp2
                  exact ⟨⟨c + 1, by omega, by omega, by go_num, by rw [HN2.out], HB⟩, by simp only [intOf]; omega⟩
                · cases b2
                  · have HN2 : Hid (u a b (c + 1) = u a b c) := Lib.hid (by rw [HN.out, HQP.out]; rfl)
                    go_wp2_with fail
                    refine (HI1.out _).mono ?_
                    rintro e w' ⟨rfl, rfl⟩
                    go_wp2_with fail
                    refine (HA1.out _).mono ?_
                    rintro e w' ⟨rfl, rfl⟩
                    go_wp2_with fail
                    refine (HI2.out _).mono ?_
                    rintro e w' ⟨rfl, rfl⟩
                    go_wp2_with fail
                    refine (HA2.out _).mono ?_
                    rintro e w' ⟨rfl, rfl⟩
                    go_wp2
                    exact ⟨⟨c + 1, by omega, by omega, by go_num, by rw [HN2.out], HB⟩, by simp only [intOf]; omega⟩
                  · cases b3
                    · have HN2 : Hid (u a b (c + 1) = u a b c) := Lib.hid (by rw [HN.out, HQP.out]; rfl)
                      go_wp2_with fail
                      refine (HI1.out _).mono ?_
                      rintro e w' ⟨rfl, rfl⟩
                      go_wp2_with fail
                      refine (HA1.out _).mono ?_
                      rintro e w' ⟨rfl, rfl⟩
                      go_wp2_with fail
                      refine (HI2.out _).mono ?_
                      rintro e w' ⟨rfl, rfl⟩
                      go_wp2_with fail
                      refine (HA2.out _).mono ?_
                      rintro e w' ⟨rfl, rfl⟩
                      go_wp2_with fail
                      refine (HI3.out _).mono ?_
                      rintro e w' ⟨rfl, rfl⟩
                      go_wp2_with fail
                      refine (HA3.out _).mono ?_
                      rintro e w' ⟨rfl, rfl⟩
                      go_wp2
                      exact ⟨⟨c + 1, by omega, by omega, by go_num, by rw [HN2.out], HB⟩, by simp only [intOf]; omega⟩
                    · have HN2 : Hid (u a b (c + 1) = u a b c + bit (k == 0)) := Lib.hid (by rw [HN.out, HQP.out]; rfl)
                      generalize (k == 0) = z at HN2 hk
                      cases z
                      · have HN3 : Hid (u a b (c + 1) = u a b c) := Lib.hid HN2.out
                        go_wp2_with fail
                        refine (HI1.out _).mono ?_
                        rintro e w' ⟨rfl, rfl⟩
                        go_wp2_with fail
                        refine (HA1.out _).mono ?_
                        rintro e w' ⟨rfl, rfl⟩
                        go_wp2_with fail
                        refine (HI2.out _).mono ?_
                        rintro e w' ⟨rfl, rfl⟩
                        go_wp2_with fail
                        refine (HA2.out _).mono ?_
                        rintro e w' ⟨rfl, rfl⟩
                        go_wp2_with fail
                        refine (HI3.out _).mono ?_
                        rintro e w' ⟨rfl, rfl⟩
                        go_wp2_with fail
                        refine (HA3.out _).mono ?_
                        rintro e w' ⟨rfl, rfl⟩
                        go_wp2_with fail
                        refine (HC.out _).mono ?_
                        rintro e w2 ⟨rfl, hb2⟩
                        have HB2 := Lib.hid (HB.out.on hb2)
                        clear hb2 c0 c1 B0
                        go_wp2
                        exact ⟨⟨c + 1, by omega, by omega, by go_num, by rw [HN3.out], HB2⟩, by simp only [intOf]; omega⟩
                      · have HN3 : Hid (u a b (c + 1) = u a b c + 1) := Lib.hid HN2.out
                        go_wp2_with fail
                        refine (HI1.out _).mono ?_
                        rintro e w' ⟨rfl, rfl⟩
                        go_wp2_with fail
                        refine (HA1.out _).mono ?_
                        rintro e w' ⟨rfl, rfl⟩
                        go_wp2_with fail
                        refine (HI2.out _).mono ?_
                        rintro e w' ⟨rfl, rfl⟩
                        go_wp2_with fail
                        refine (HA2.out _).mono ?_
                        rintro e w' ⟨rfl, rfl⟩
                        go_wp2_with fail
                        refine (HI3.out _).mono ?_
                        rintro e w' ⟨rfl, rfl⟩
                        go_wp2_with fail
                        refine (HA3.out _).mono ?_
                        rintro e w' ⟨rfl, rfl⟩
                        go_wp2_with fail
                        refine (HC.out _).mono ?_
                        rintro e w2 ⟨rfl, hb2⟩
                        have HB2 := Lib.hid (HB.out.on hb2)
                        clear hb2 c0 c1 B0
                        go_wp2
                        exact ⟨⟨c + 1, by omega, by omega, by go_num, by rw [HN3.out]; go_num, HB2⟩, by simp only [intOf]; omega⟩
              · have HN := Lib.hid (HUI.out a b hab hlt2)
                obtain rfl : c = m := by omega
                go_wp2
                exact ⟨⟨b + 1, by omega, by omega, by go_num, by rw [HN.out], HB⟩, by simp only [intOf]; omega⟩
          · have HN := Lib.hid (HUM.out a hlt)
            obtain rfl : b = m := by omega
            go_wp2
            exact ⟨⟨a + 1, by omega, by go_num, by rw [HN.out], HB⟩, by simp only [intOf]; omega⟩
      · obtain rfl : a = m := by omega
        go_wp2
        go_ret
        exact ⟨rfl, B0⟩
end Go.Proofs.YtinlnafkmoabbaaGreatDoor.Sg
