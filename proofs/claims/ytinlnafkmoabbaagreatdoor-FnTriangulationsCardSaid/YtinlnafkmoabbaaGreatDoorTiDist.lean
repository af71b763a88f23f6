/- impl's FlipDistance. -/
import Derived.Test.YtinlnafkmoabbaaGreatDoorTiQue
namespace Go.Proofs.YtinlnafkmoabbaaGreatDoor.Sg
open Go.RowKit Pt NewI Go.Maps
/-- The pointer to node k, where there is one. -/
def ptK (ad : Nat → Nat) (k N : Nat) : Value := .pointer (if k < N then some ⟨ad k, 0, none⟩ else none)
theorem ptK_yes {ad : Nat → Nat} {k N : Nat} (h : k < N) : ptK ad k N = .pointer (some ⟨ad k, 0, none⟩) := by unfold ptK; rw [if_pos h]
theorem ptK_no {ad : Nat → Nat} {k N : Nat} (h : ¬ k < N) : ptK ad k N = .pointer none := by unfold ptK; rw [if_neg h]
set_option maxHeartbeats 12800000 in
set_option maxRecDepth 100000 in
theorem idist_core (m : Nat) (s : ByteArray) (hac : aciB m s.data.toList = true) (m6 : m ≤ 6) (hs : s.size ≤ 9223372036854775807) (T U : Nat) (hT : itB m s.data.toList T = true) (hU : itB m s.data.toList U = true) (w : World) (hTab : Tab w) :
    Calls Tryz.prog 57 #[sg m s, .int .i64 T, .int .i64 U] w fun e w' => e = .returned (.int .i64 (distZ (nbT (cS m s.data.toList) (eN m)) T U)) ∧ Below w.heap.size w w' := by
  have HS := Lib.hid (box_made w m s 25)
  have HC := Lib.hid (crossersOf_any m s hs _ (hTab.on HS.out.2.2))
  have HT := Lib.hid (fun W hW => hTab.on (w' := W) hW)
  have HI1 : Hid (∀ v W, CrL W v m s.data.toList → Calls Tryz.prog 110 #[v, .int .i64 T] W fun e w' => e = .returned (.bool true) ∧ W = w') := Lib.hid (fun v W hv => by have := isTri_is m s.data.toList T v W hv; rw [hT] at this; exact this)
  have HI2 : Hid (∀ v W, CrL W v m s.data.toList → Calls Tryz.prog 110 #[v, .int .i64 U] W fun e w' => e = .returned (.bool true) ∧ W = w') := Lib.hid (fun v W hv => by have := isTri_is m s.data.toList U v W hv; rw [hU] at this; exact this)
  obtain ⟨x0, x1, -⟩ := HS.out
  obtain ⟨m', t', em, et, -, -, -, ht, hfull⟩ := itB_parts hT
  obtain rfl : m' = m := by omega
  obtain rfl : t' = T := by omega
  clear em et
  have hE := eN_bd m' (by omega)
  have hpE := Nat.pow_le_pow_right (n := 2) (by omega) hE
  have hE15 := eZ_le m' s.data.toList
  have HF : Hid (∀ V : Nat, fullB (cS m' s.data.toList) (eN m') V = true → V < 2 ^ eN m' → ∀ v W, CrL W v m' s.data.toList → Tab W → Calls Tryz.prog 115 #[v, .int .i64 V] W fun e w' => ∃ v', e = .returned v' ∧ ArgZ w' W.heap.size v' (zl (flipsL (cS m' s.data.toList) (eN m') V)) ∧ Below W.heap.size W w') := Lib.hid (fun V h1 h2 v W hv hW => flipsFrom_is m' s.data.toList V (itB_mk hac m6 h2 h1) v W hv hW)
  have hM := allT_len (cS m' s.data.toList) (eN m') (eN m') 0
  have HUN := Lib.hid (fun d v (hw : Wk (nbT (cS m' s.data.toList) (eN m')) t' d v) => wk_full hfull ht hw)
  have HLN := Lib.hid (fun k L (h : Bf (nbT (cS m' s.data.toList) (eN m')) t' k L) => bf_len hfull ht h)
  have hMe : (triL (cS m' s.data.toList) (eN m')).length ≤ 2 ^ 21 := Nat.le_trans hM hpE
  have HAF0 : Hid (AllFull (cS m' s.data.toList) (eN m') [(t', 0)]) := Lib.hid (fun q hq => by
    obtain rfl : q = (t', 0) := by simpa using hq
    exact ⟨hfull, ht⟩)
  have HNB := Lib.hid (fun V (hV : fullB (cS m' s.data.toList) (eN m') V = true) => nbT_full hV)
  have HFF := Lib.hid (fun V W (hV : fullB (cS m' s.data.toList) (eN m') V = true) hl (hW : W ∈ flipsL (cS m' s.data.toList) (eN m') V) => flips_full hV hl hW)
  have HFLN := Lib.hid (fun V => flipsTo_len (cS m' s.data.toList) (eN m') V (eN m'))
  have hFeq : ∀ V, flipsTo (cS m' s.data.toList) (eN m') V (eN m') = flipsL (cS m' s.data.toList) (eN m') V := fun _ => rfl
  have HHIT := Lib.hid (fun k d L h hn hk => bf_hit (nb := nbT (cS m' s.data.toList) (eN m')) (a := t') (b := U) (k := k) (d := d) (L := L) (triL (cS m' s.data.toList) (eN m')) HUN.out h hn hk)
  have HMIS := Lib.hid (fun k L h hn hk => bf_miss (nb := nbT (cS m' s.data.toList) (eN m')) (a := t') (b := U) (k := k) (L := L) (triL (cS m' s.data.toList) (eN m')) HUN.out h hn hk)
  have HNX := Lib.hid (fun k v d L (h : Bf (nbT (cS m' s.data.toList) (eN m')) t' k L) (hk : L[k]? = some (v, d)) => Bf.next h hk)
  have HB1 := Lib.hid (Bf.first (nbT (cS m' s.data.toList) (eN m')) t')
  have HADF := Lib.hid (fun d us L => addA_full (c := cS m' s.data.toList) (E := eN m') (d := d) (us := us) (L := L))
  generalize distZ (nbT (cS m' s.data.toList) (eN m')) t' U = ans at HHIT HMIS ⊢
  have HFLE : Hid (∀ V, (flipsL (cS m' s.data.toList) (eN m') V).length ≤ 21) := Lib.hid (fun V => by have := HFLN.out V; rw [hFeq] at this; omega)
  have HAFU : Hid (∀ L, AllFull (cS m' s.data.toList) (eN m') L → ∀ q ∈ L, fullB (cS m' s.data.toList) (eN m') q.1 = true ∧ q.1 < 2 ^ eN m') := Lib.hid (fun _ h => h)
  have ht21 : t' < 2097152 := by omega
  generalize triL (cS m' s.data.toList) (eN m') = tl at HUN HLN hMe
  generalize nbT (cS m' s.data.toList) (eN m') = nb at *
  generalize flipsL (cS m' s.data.toList) (eN m') = fl at *
  generalize AllFull (cS m' s.data.toList) (eN m') = af at *
  generalize fullB (cS m' s.data.toList) (eN m') = fb at *
  have h1l := HLN.out 0 _ HB1.out
  clear HFLN hFeq hM hT hU hac HUN hTab
  generalize eN m' = E at *
  obtain ⟨tn, htn⟩ : ∃ tn, tn = tl.length := ⟨_, rfl⟩
  rw [← htn] at HLN hMe h1l
  clear htn hfull
  have hmm := @run_makeMap Tryz.prog
  go_enter Tryz.func57, Tryz.ntmps57
  go_wp2_with fail
  refine HC.out.mono ?_
  rintro e w1 ⟨v, rfl, hv, hb1⟩
  have B1 := Lib.hid (HS.out.on hb1).2.2
  have HV := Lib.hid hv
  clear hb1 hv x0 x1
  go_wp2_with fail
  refine (HI1.out v w1 HV.out).mono ?_
  rintro e w' ⟨rfl, rfl⟩
  go_wp2_with fail
  refine (HI2.out v w1 HV.out).mono ?_
  rintro e w' ⟨rfl, rfl⟩
  have hsz2 : (w1.alloc (.cells #[.int .i64 (t' : Nat), .int .i64 0, .pointer none] 89)).heap.size = w1.heap.size + 1 := by simp
  have HO0 : Hid (((w1.alloc (.cells #[.int .i64 (t' : Nat), .int .i64 0, .pointer none] 89)).alloc (.map #[] 0)).ownsMap Tryz.prog 3 (plainElem (H := Unit) Tryz.prog 4) (w1.heap.size + 1) 0 (.map [])) := Lib.hid (by
    have := World.ownsMap_made (w1.alloc (.cells #[.int .i64 (t' : Nat), .int .i64 0, .pointer none] 89)) Tryz.prog 3 (plainElem (H := Unit) Tryz.prog 4)
    rw [hsz2] at this
    exact this)
  have HQ0 := Lib.hid (que_one w1 (w1.heap.size + 1) (by omega) t' 89)
  have HBA := Lib.hid (((Below.refl w1.heap.size w1).alloc (Nat.le_refl _) (.cells #[.int .i64 (t' : Nat), .int .i64 0, .pointer none] 89)).alloc (by simp) (.map #[] 0))
  have HBM := Lib.hid ((Below.refl (w1.heap.size + 1) (w1.alloc (.cells #[.int .i64 (t' : Nat), .int .i64 0, .pointer none] 89))).alloc (by rw [hsz2]; exact Nat.le_refl _) (.map #[] 0))
  have hk0 := key_nat ht21
  go_wp2_with (refine wpList_insert_own _ rfl _ _ _ 90 rfl 3 4 lawI Tryz.underlying90 _ _ 0 (.map []) rfl HO0.out (by decide) _ _ _ rfl rfl hk0 _ [] (plainElem_bool Tryz.underlying4 true) ?_)
  intro w4 hown4 hg4
  have HQ4 : Hid (Que w4 w1.heap.size (w1.heap.size + 1) (fun _ => w1.heap.size) [(t', 0)]) := Lib.hid ((HQ0.out.on (HBM.out.mono (by rw [hsz2]; exact Nat.le_refl _))).grownM hg4)
  have HM4 : Hid (MapR w4 (w1.heap.size + 1) [(t', 0)]) := Lib.hid (by
    have := mapR_put (L := []) (d := 0) HO0.out (fun x hx => rfl) hown4
    exact this)
  have HB4 : Hid (Below w1.heap.size w1 w4) := Lib.hid (HBA.out.grown hg4 (by simp; omega) (by intro q hq; injection hq with hq; omega))
  clear hown4 hg4 HO0 HQ0 HBA HBM hk0 hmm
  obtain ⟨mb, hmb⟩ : ∃ mb, mb = w1.heap.size + 1 := ⟨_, rfl⟩
  rw [← hmb] at HQ4 HM4 ⊢
  have HMB := Lib.hid hmb
  clear hmb
  have hw1 := B1.out.size
  go_wp2
  go_loopg [8, 9] tn (fun gk fv lv wr => ∃ (k N : Nat) (ad : Nat → Nat) (L : List (Nat × Nat)), fv = ptK ad k N ∧ lv = .pointer (some ⟨ad (N - 1), 0, none⟩) ∧ k ≤ N ∧ gk + k = tn ∧ N ≤ tn ∧ 0 < N ∧ Hid (N = L.length) ∧ Hid (Bf nb t' k L) ∧ Hid (∀ (i : Nat) (q : Nat × Nat), i < k → L[i]? = some q → q.1 ≠ U) ∧ Hid (af L) ∧ Hid (∀ q ∈ L, q.2 ≤ k) ∧ Hid (Que wr w1.heap.size mb ad L) ∧ Hid (MapR wr mb L) ∧ Hid (Below w1.heap.size w1 wr))
  case atStart =>
    exact ⟨0, 1, fun _ => w1.heap.size, [(t', 0)], (ptK_yes (ad := fun _ => w1.heap.size) (k := 0) (N := 1) (by omega)).symm, rfl, by omega, rfl, h1l, by omega, Lib.hid rfl, HB1, Lib.hid (fun i q hi => by omega), HAF0, Lib.hid (fun q hq => by
      obtain rfl : q = (t', 0) := by simpa using hq
      exact Nat.le_refl _), HQ4, HM4, HB4⟩
  case round =>
    rename World => wA
    obtain ⟨k, N, ad, L, hfv, rfl, hkN, hgk, hNM, hN0, HN, HBF, HNO, HAF, HDB, HQ, HM, HB⟩ := hrel
    by_cases hlt : k < N
    · rw [ptK_yes hlt] at hfv
      subst hfv
      have hkl : k < L.length := by have := HN.out; omega
      obtain ⟨q, hq⟩ : ∃ q, L[k]? = some q := ⟨_, List.getElem?_eq_getElem hkl⟩
      obtain ⟨v0, d⟩ := q
      have hmem := List.mem_of_getElem? hq
      have hc0 := HQ.out.c0 k _ hq
      have hc1 := HQ.out.c1 k _ hq
      have hdk : d ≤ k := HDB.out _ hmem
      obtain ⟨hv1, hv2⟩ := HAFU.out L HAF.out _ hmem
      dsimp only at hc0 hc1 hv1 hv2
      have HQK := Lib.hid hq
      clear hmem hkl
      cases hvU : ((v0 : Int) == (U : Int))
      · have HCALL := Lib.hid (HF.out v0 hv1 hv2 v wA (HV.out.on ⟨HB.out.os, HB.out.tape, HB.out.output, HB.out.size, HB.out.block⟩) (HT.out _ (B1.out.trans (HB.out.mono hw1))))
        obtain ⟨us, hus⟩ : ∃ us, us = fl v0 := ⟨_, rfl⟩
        have HUS : Hid (∀ u ∈ us, fb u = true ∧ u < 2 ^ E) := Lib.hid (fun u hu => HFF.out v0 u hv1 hv2 (by rw [← hus]; exact hu))
        have HNBV : Hid (nb v0 = us) := Lib.hid (by rw [hus]; exact HNB.out v0 hv1)
        have hul := HFLE.out v0
        rw [← hus] at HCALL hul
        have HVU : Hid (v0 ≠ U) := Lib.hid (fun e => by subst e; simp at hvU)
        obtain ⟨LL, hLL⟩ : ∃ LL : Nat → List (Nat × Nat), LL = fun i => addA (d + 1) (us.take i) L := ⟨_, rfl⟩
        have HL0 : Hid (LL 0 = L) := Lib.hid (by rw [hLL]; rfl)
        have HLS : Hid (∀ i, i < us.length → LL (i + 1) = if ((LL i).map Prod.fst).contains (us.getD i 0) = true then LL i else LL i ++ [(us.getD i 0, d + 1)]) := Lib.hid (fun i hi => by rw [hLL]; show addA (d + 1) (us.take (i + 1)) L = _; rw [takeN_snoc hi, addA_snoc])
        have HLEN : Hid (LL us.length = addA (d + 1) us L) := Lib.hid (by rw [hLL]; show addA (d + 1) (us.take us.length) L = _; rw [List.take_length])
        have HLK : Hid (∀ i, (LL i)[k]? = some (v0, d)) := Lib.hid (fun i => by
          rw [hLL]
          obtain ⟨M, e, -⟩ := addA_pre (d + 1) (us.take i) L
          show (addA (d + 1) (us.take i) L)[k]? = _
          rw [e, List.getElem?_append_left (List.getElem?_eq_some_iff.1 HQK.out).1]
          exact HQK.out)
        have HLB : Hid (∀ i, (LL i).length ≤ tn + 21) := Lib.hid (fun i => by
          rw [hLL]
          have h1 := addA_len (d + 1) (us.take i) L
          have h2 : (us.take i).length ≤ us.length := by rw [List.length_take]; omega
          have := HN.out
          show (addA (d + 1) (us.take i) L).length ≤ _
          omega)
        have hadk := HQ.out.base k (by have := HN.out; omega)
        clear hLL hus hq
        go_wp2_with fail
        refine HCALL.out.mono ?_
        rintro e w5 ⟨v5, rfl, hv5, hb5⟩
        have HQ5 : Hid (Que w5 w1.heap.size mb ad (LL 0)) := Lib.hid (by rw [HL0.out]; exact HQ.out.on hb5)
        have HM5 : Hid (MapR w5 mb (LL 0)) := Lib.hid (by rw [HL0.out]; exact HM.out.on hb5)
        have HB5 := Lib.hid (HB.out.trans (hb5.mono HB.out.size))
        obtain ⟨a5, c5, rfl, hls5⟩ := lsQ_of (mb := mb) (N := N) (ad := ad) hv5 HM.out.lt (fun i hi => (HQ.out.base i (by have := HN.out; omega)).2.2)
        have LS5 := Lib.hid hls5
        have HN5 : Hid (N = (LL 0).length) := Lib.hid (by rw [HL0.out]; exact HN.out)
        obtain ⟨A0, hA0⟩ : ∃ A0, A0 = ad k := ⟨_, rfl⟩
        rw [← hA0] at hadk ⊢
        have HA0 := Lib.hid hA0.symm
        obtain ⟨nu, hnu⟩ : ∃ nu, nu = us.length := ⟨_, rfl⟩
        rw [← hnu] at hul HLEN ⊢
        have HNU := Lib.hid hnu
        clear hv5 hls5 hb5 hA0 hc0 hc1 hnu
        go_wp2
        go_loopw [9, 55] (fun lv iv wr => ∃ (i N2 : Nat) (ad2 : Nat → Nat), iv = .int .i64 i ∧ i ≤ nu ∧ lv = .pointer (some ⟨ad2 (N2 - 1), 0, none⟩) ∧ k < N2 ∧ N2 ≤ tn + 21 ∧ Hid (ad2 k = A0) ∧ Hid (N2 = (LL i).length) ∧ Hid (Que wr w1.heap.size mb ad2 (LL i)) ∧ Hid (MapR wr mb (LL i)) ∧ Hid (LsQ wr mb ad2 N2 a5 us) ∧ Hid (Below w1.heap.size w1 wr)) (fun _ iv _ => nu - (intOf iv).toNat)
        case atStart => exact ⟨0, N, ad, rfl, Nat.zero_le _, rfl, hlt, by omega, HA0, HN5, HQ5, HM5, LS5, HB5⟩
        case round =>
          rename World => wB
          obtain ⟨i, N2, ad2, rfl, hi, rfl, hkN2, hN2, HA2, HN2, HQ2, HM2, LS2, HB2⟩ := hrel
          by_cases hlti : i < nu
          · have hil : i < us.length := by have := HNU.out; omega
            obtain ⟨g5, rfl, hg5, hcell⟩ := LS2.out i hil
            obtain ⟨hu1, hu2⟩ := HUS.out _ (getD_mem hil)
            have HST := Lib.hid (HLS.out i hil)
            generalize us.getD i 0 = u at hcell hu1 hu2 HST
            have hu21 : u < 2097152 := by omega
            have hku := key_nat hu21
            obtain ⟨D, hown, hat⟩ := HM2.out
            have HAT := Lib.hid hat
            have HOW := Lib.hid hown
            have HKU := Lib.hid hku
            clear hown hat hku
            have HCT : Hid (∀ c : Bool, D.atKey (.int .i64 (u : Int)) (.lit (.bool false)) = .lit (.bool c) → c = ((LL i).map Prod.fst).contains u) := Lib.hid (fun c hc => by
              have := (HAT.out u hu21).symm.trans hc
              injection this with this
              injection this with this
              exact this.symm)
            cases hct : ((LL i).map Prod.fst).contains u
            · rw [hct] at HCT
              have HLN1 : Hid (LL (i + 1) = LL i ++ [(u, d + 1)]) := Lib.hid (by rw [HST.out, hct]; rfl)
              clear hct
              have hnm : (LL i).length < maxLen := by have := HLB.out i; simp only [maxLen]; omega
              have HNM := Lib.hid hnm
              clear hnm
              go_wp2_with (first | (at_lookup; refine wpList_lookup_own_bool _ rfl _ _ 90 rfl 3 4 lawI Tryz.underlying90 Tryz.underlying4 (zeroB _) mb _ D rfl HOW.out _ _ rfl HKU.out ?_; intro c hc; obtain rfl := HCT.out c hc; clear hc) | (at_mapUpdate; refine wpList_mapUpdate_own _ rfl _ _ _ 90 rfl 3 4 lawI Tryz.underlying90 _ mb _ D rfl HOW.out HNM.out _ _ _ rfl rfl HKU.out _ [] (plainElem_bool Tryz.underlying4 true) ?_))
              intro w6 hown6 hg6
              have HQ6 := Lib.hid (HQ2.out.grownM hg6)
              have HM6 : Hid (MapR w6 mb (LL (i + 1))) := Lib.hid (by rw [HLN1.out]; exact mapR_put HOW.out HAT.out hown6)
              have LS6 := Lib.hid (LS2.out.grownM hg6)
              have HB6 : Hid (Below w1.heap.size w1 w6) := Lib.hid (HB2.out.grown hg6 HB2.out.size (by intro q hq; injection hq with hq; have := HMB.out; omega))
              have hN2l := HN2.out
              have hc1 := HQ6.out.c1 k _ (HLK.out i)
              rw [HA2.out] at hc1
              dsimp only at hc1
              have hc2 := HQ6.out.c2 (N2 - 1) (by omega)
              have hfr := HQ6.out.fr (N2 - 1) (by omega)
              have hbl := HQ6.out.base (N2 - 1) (by omega)
              have hbk := HQ6.out.base k (by omega)
              rw [HA2.out] at hbk
              have hsz6 : w1.heap.size ≤ w6.heap.size := HB6.out.size
              have hmb6 : mb < w6.heap.size := HM6.out.lt
              have HQ7 : Hid (Que ((w6.alloc (.cells #[.int .i64 (u : Nat), .int .i64 ((d + 1 : Nat) : Int), .pointer none] 89)).setCell ⟨ad2 (N2 - 1), 2, none⟩ (.pointer (some ⟨w6.heap.size, 0, none⟩))) w1.heap.size mb (fun j => if j < N2 then ad2 j else w6.heap.size) (LL (i + 1))) := Lib.hid (by
                have := HQ6.out.push (by omega) hmb6 hsz6 u (d + 1) 89
                rw [HLN1.out]
                rw [← hN2l] at this
                exact this)
              have LS7 := Lib.hid (LS6.out.push (by omega) (.cells #[.int .i64 (u : Nat), .int .i64 ((d + 1 : Nat) : Int), .pointer none] 89) (.pointer (some ⟨w6.heap.size, 0, none⟩)))
              have HB7 : Hid (Below w1.heap.size w1 ((w6.alloc (.cells #[.int .i64 (u : Nat), .int .i64 ((d + 1 : Nat) : Int), .pointer none] 89)).setCell ⟨ad2 (N2 - 1), 2, none⟩ (.pointer (some ⟨w6.heap.size, 0, none⟩)))) := Lib.hid ((HB6.out.alloc hsz6 _).setCell (p := ⟨ad2 (N2 - 1), 2, none⟩) hbl.1 _)
              have HM7 : Hid (MapR ((w6.alloc (.cells #[.int .i64 (u : Nat), .int .i64 ((d + 1 : Nat) : Int), .pointer none] 89)).setCell ⟨ad2 (N2 - 1), 2, none⟩ (.pointer (some ⟨w6.heap.size, 0, none⟩))) mb (LL (i + 1))) := Lib.hid (by
                obtain ⟨D7, h1, h2⟩ := HM6.out
                exact ⟨D7, World.ownsMap.setCell (h1.alloc _) (fun e => hbl.2.1 e.symm) _, h2⟩)
              have hfz : (w6.alloc (.cells #[.int .i64 (u : Nat), .int .i64 ((d + 1 : Nat) : Int), .pointer none] 89)).frozen? ⟨ad2 (N2 - 1), 2, none⟩ = false := by
                rw [World.frozen?_of_block (w := w6) (a := ⟨ad2 (N2 - 1), 2, none⟩) (((Below.refl w6.heap.size w6).alloc (Nat.le_refl _) _).block _ hbl.2.2)]
                exact hfr
              have HWE : ((w6.alloc (.cells #[.int .i64 (u : Nat), .int .i64 ((d + 1 : Nat) : Int), .pointer none] 89)).setCell ⟨ad2 (N2 - 1), 2, none⟩ (.pointer (some ⟨w6.heap.size, 0, none⟩))) = ((w6.setCell ⟨ad2 (N2 - 1), 2, none⟩ (.pointer (some ⟨w6.heap.size, 0, none⟩))).alloc (.cells #[.int .i64 (u : Nat), .int .i64 ((d + 1 : Nat) : Int), .pointer none] 89)) := World.setCell_alloc_past _ _ _ _ hbl.2.2
              rw [HWE] at HQ7 LS7 HB7 HM7
              clear HWE
              have HL7 : Hid (N2 + 1 = (LL (i + 1)).length) := Lib.hid (by rw [HLN1.out, List.length_append, ← hN2l]; rfl)
              have hbd := HLB.out (i + 1)
              have hN3 : N2 + 1 ≤ tn + 21 := by have := HL7.out; omega
              have HA7 : Hid ((fun j => if j < N2 then ad2 j else w6.heap.size) k = A0) := Lib.hid (by show (if k < N2 then ad2 k else w6.heap.size) = A0; rw [if_pos hkN2]; exact HA2.out)
              have HLA : Hid ((fun j => if j < N2 then ad2 j else w6.heap.size) (N2 + 1 - 1) = w6.heap.size) := Lib.hid (by show (if N2 + 1 - 1 < N2 then ad2 (N2 + 1 - 1) else w6.heap.size) = w6.heap.size; rw [if_neg (by omega)])
              generalize (fun j => if j < N2 then ad2 j else w6.heap.size) = ad3 at HQ7 LS7 HA7 HLA
              generalize hlast : ad2 (N2 - 1) = la at *
              have va : IntKind.i64.wrap ((d : Int) + 1) = ((d + 1 : Nat) : Int) := by rw [show (d : Int) + 1 = ((d + 1 : Nat) : Int) by omega]; exact IntWalk.i64_in _ (by omega)
              generalize d + 1 = d1 at *
              have HST := 0
              clear HST hown6 hg6 hN2l hbd
              go_wp2
              exact ⟨⟨i + 1, N2 + 1, ad3, by go_num, by omega, by rw [HLA.out], by omega, hN3, HA7, HL7, HQ7, HM7, LS7, HB7⟩, by simp only [intOf]; omega⟩
            · rw [hct] at HCT
              have HLN1 : Hid (LL (i + 1) = LL i) := Lib.hid (by rw [HST.out, hct]; rfl)
              clear hct
              go_wp2_with (at_lookup; refine wpList_lookup_own_bool _ rfl _ _ 90 rfl 3 4 lawI Tryz.underlying90 Tryz.underlying4 (zeroB _) mb _ D rfl HOW.out _ _ rfl HKU.out ?_; intro c hc; obtain rfl := HCT.out c hc; clear hc)
              have HN3 : Hid (N2 = (LL (i + 1)).length) := Lib.hid (by rw [HLN1.out]; exact HN2.out)
              have HQ3 : Hid (Que wB w1.heap.size mb ad2 (LL (i + 1))) := Lib.hid (by rw [HLN1.out]; exact HQ2.out)
              have HM3 : Hid (MapR wB mb (LL (i + 1))) := Lib.hid (by rw [HLN1.out]; exact HM2.out)
              go_wp2
              exact ⟨⟨i + 1, N2, ad2, by go_num, by omega, rfl, hkN2, hN2, HA2, HN3, HQ3, HM3, LS2, HB2⟩, by simp only [intOf]; omega⟩
          · obtain rfl : i = nu := by omega
            have hN2l := HN2.out
            have hc2 := HQ2.out.c2 k (by omega)
            rw [HA2.out] at hc2
            have HFV : Hid (Value.pointer (if k + 1 < (LL i).length then some ⟨ad2 (k + 1), 0, none⟩ else none) = ptK ad2 (k + 1) N2) := Lib.hid (by unfold ptK; rw [← hN2l])
            generalize (if k + 1 < (LL i).length then some (⟨ad2 (k + 1), 0, none⟩ : Addr) else none) = pv at hc2 HFV
            have HBN : Hid (Bf nb t' (k + 1) (LL i)) := Lib.hid (by rw [HLEN.out]; have := HNX.out k v0 d L HBF.out HQK.out; rw [HNBV.out] at this; exact this)
            have hNt : N2 ≤ tn := by rw [hN2l]; exact HLN.out _ _ HBN.out
            have HNO2 : Hid (∀ (j : Nat) (q : Nat × Nat), j < k + 1 → (LL i)[j]? = some q → q.1 ≠ U) := Lib.hid (fun j q hj hq => by
              rcases (by omega : j < k ∨ j = k) with hl | rfl
              · refine HNO.out j q hl ?_
                rw [HLEN.out] at hq
                obtain ⟨M, e, -⟩ := addA_pre (d + 1) us L
                rw [e, List.getElem?_append_left (by have := HN.out; omega)] at hq
                exact hq
              · rw [HLK.out i] at hq
                obtain rfl := Option.some.inj hq
                exact HVU.out)
            have HAF2 : Hid (af (LL i)) := Lib.hid (by rw [HLEN.out]; exact HADF.out (d + 1) us L HAF.out HUS.out)
            have HDB2 : Hid (∀ q ∈ LL i, q.2 ≤ k + 1) := Lib.hid (fun q hq => by
              rw [HLEN.out] at hq
              obtain ⟨M, e, hM⟩ := addA_pre (d + 1) us L
              rw [e] at hq
              rcases List.mem_append.1 hq with hq | hq
              · have := HDB.out q hq; omega
              · have := (hM q hq).1; omega)
            clear hN2l
            go_wp2
            go_roundg (gk - 1)
            case measure => omega
            case rel => exact ⟨k + 1, N2, ad2, LL i, HFV.out, rfl, by omega, by omega, hNt, by omega, HN2, HBN, HNO2, HAF2, HDB2, HQ2, HM2, HB2⟩
      · have hvU : v0 = U := by
          have := eq_of_beq hvU
          omega
        subst hvU
        have HANS := Lib.hid (HHIT.out k d L HBF.out HNO.out HQK.out)
        have BB := Lib.hid (B1.out.trans (HB.out.mono hw1))
        go_wp2
        go_ret
        exact ⟨ret_int HANS.out.symm, BB.out⟩
    · obtain rfl : k = N := by omega
      rw [ptK_no hlt] at hfv
      subst hfv
      have HANS := Lib.hid (HMIS.out k L HBF.out HNO.out (by have := HN.out; omega))
      have BB := Lib.hid (B1.out.trans (HB.out.mono hw1))
      go_wp2
      go_ret
      exact ⟨ret_int HANS.out.symm, BB.out⟩
set_option maxHeartbeats 1600000 in
set_option maxRecDepth 100000 in
theorem implDist (n : Int) (s : ByteArray) (hs : s.size ≤ 9223372036854775807) (T U : Int) (_hI : I64 T) (_hJ : I64 U) (w : World) (hT : Tab w) :
    Calls Tryz.prog 57 #[sg n s, .int .i64 T, .int .i64 U] w fun e w' => e = .returned (.int .i64 (fdZ n s.data.toList T U)) ∧ Below w.heap.size w w' := by
  cases h1 : itB n s.data.toList T
  · have HS := Lib.hid (box_made w n s 25)
    have HC := Lib.hid (crossersOf_any n s hs _ (hT.on HS.out.2.2))
    have HI := Lib.hid (fun v W hv => isTri_is n s.data.toList T v W hv)
    have HE : Hid (fdZ n s.data.toList T U = -1) := Lib.hid (by unfold fdZ; rw [if_neg]; rw [h1]; simp)
    rw [HE.out]
    rw [h1] at HI
    obtain ⟨x0, x1, -⟩ := HS.out
    clear h1 HE hT
    go_enter Tryz.func57, Tryz.ntmps57
    go_wp2_with fail
    refine HC.out.mono ?_
    rintro e w1 ⟨v, rfl, hv, hb1⟩
    have B1 := Lib.hid (HS.out.on hb1).2.2
    have HV := Lib.hid hv
    clear hb1 hv x0 x1
    go_wp2_with fail
    refine (HI.out v w1 HV.out).mono ?_
    rintro e w' ⟨rfl, rfl⟩
    go_wp2
    go_ret
    exact ⟨rfl, B1.out⟩
  · cases h2 : itB n s.data.toList U
    · have HS := Lib.hid (box_made w n s 25)
      have HC := Lib.hid (crossersOf_any n s hs _ (hT.on HS.out.2.2))
      have HI := Lib.hid (fun v W hv => isTri_is n s.data.toList T v W hv)
      have HJ := Lib.hid (fun v W hv => isTri_is n s.data.toList U v W hv)
      have HE : Hid (fdZ n s.data.toList T U = -1) := Lib.hid (by unfold fdZ; rw [if_neg]; rw [h2]; simp)
      rw [HE.out]
      rw [h1] at HI
      rw [h2] at HJ
      obtain ⟨x0, x1, -⟩ := HS.out
      clear h1 h2 HE hT
      go_enter Tryz.func57, Tryz.ntmps57
      go_wp2_with fail
      refine HC.out.mono ?_
      rintro e w1 ⟨v, rfl, hv, hb1⟩
      have B1 := Lib.hid (HS.out.on hb1).2.2
      have HV := Lib.hid hv
      clear hb1 hv x0 x1
      go_wp2_with fail
      refine (HI.out v w1 HV.out).mono ?_
      rintro e w' ⟨rfl, rfl⟩
      go_wp2_with fail
      refine (HJ.out v w1 HV.out).mono ?_
      rintro e w' ⟨rfl, rfl⟩
      go_wp2
      go_ret
      exact ⟨rfl, B1.out⟩
    · obtain ⟨m, t, rfl, rfl, hac, m3, m6, -, -⟩ := itB_parts h1
      obtain ⟨m', u, em, rfl, -⟩ := itB_parts h2
      have := idist_core m s hac m6 hs t u h1 h2 w hT
      have e : fdZ m s.data.toList t u = distZ (nbT (cS m s.data.toList) (eN m)) t u := by
        unfold fdZ
        rw [if_pos ⟨h1, h2⟩, Int.toNat_natCast, Int.toNat_natCast, Int.toNat_natCast]
      rw [e]
      exact this
end Go.Proofs.YtinlnafkmoabbaaGreatDoor.Sg
