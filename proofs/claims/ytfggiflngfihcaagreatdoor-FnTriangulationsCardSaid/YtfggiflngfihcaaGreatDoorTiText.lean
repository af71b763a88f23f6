/- impl's EdgesText. -/
import Derived.Test.YtfggiflngfihcaaGreatDoorMgTf
import Derived.Test.YtfggiflngfihcaaGreatDoorTiCross
import Derived.Test.YtfggiflngfihcaaGreatDoorTrText
import Derived.Test.YtfggiflngfihcaaGreatDoorMgTx
namespace Go.Proofs.YtfggiflngfihcaaGreatDoor.TrText
open Go.RowKit Pt Sg NewI
theorem ret_strD {s t : ByteArray} (h : s = t) : Ending.returned (.string s) = Ending.returned (.string t) := by rw [h]
set_option maxHeartbeats 1600000 in
set_option maxRecDepth 100000 in
theorem fmt_small (k : Nat) (hk : k ≤ 7) (w : World) :
    Calls Tryz.prog 49 #[.int .i64 k] w fun e w' => e = .returned (.string ⟨(Lib.itoa (k : Nat)).toArray⟩) ∧ w = w' := by
  have key : ∀ (x : Int), x = 0 ∨ x = 1 ∨ x = 2 ∨ x = 3 ∨ x = 4 ∨ x = 5 ∨ x = 6 ∨ x = 7 → Calls Tryz.prog 148 #[.int .i64 x] w fun e w' => e = .returned (.string ⟨(Lib.itoa x).toArray⟩) ∧ w = w' := by
    intro x hx
    rcases hx with rfl | rfl | rfl | rfl | rfl | rfl | rfl | rfl <;>
    · go_enter Tryz.func148, Tryz.ntmps148
      go_wp2
      go_ret
      exact ⟨ret_strD (by decide +kernel), rfl⟩
  have HK := Lib.hid (key (k : Int) (by omega))
  obtain ⟨A, hA⟩ : ∃ A : ByteArray, A = ⟨(Lib.itoa (k : Nat)).toArray⟩ := ⟨_, rfl⟩
  rw [← hA] at HK ⊢
  clear key hA
  have H1 : Hid (Calls Tryz.prog 131 #[.int .i64 k, .int .i64 10] w fun e w' => e = .returned (.string A) ∧ w = w') := Lib.hid (by
    go_enter Tryz.func131, Tryz.ntmps131
    go_wp2_with fail
    refine HK.out.mono ?_
    rintro e w' ⟨rfl, rfl⟩
    go_wp2
    go_ret
    exact ⟨rfl, rfl⟩)
  clear HK
  have H2 : Hid (Calls Tryz.prog 103 #[.int .i64 k] w fun e w' => e = .returned (.string A) ∧ w = w') := Lib.hid (by
    go_enter Tryz.func103, Tryz.ntmps103
    go_wp2_with fail
    refine H1.out.mono ?_
    rintro e w' ⟨rfl, rfl⟩
    go_wp2
    go_ret
    exact ⟨rfl, rfl⟩)
  clear H1
  have H3 : Hid (Calls Tryz.prog 79 #[.int .i64 k] w fun e w' => e = .returned (.string A) ∧ w = w') := Lib.hid (by
    go_enter Tryz.func79, Tryz.ntmps79
    go_wp2_with fail
    refine H2.out.mono ?_
    rintro e w' ⟨rfl, rfl⟩
    go_wp2
    go_ret
    exact ⟨rfl, rfl⟩)
  clear H2
  go_enter Tryz.func49, Tryz.ntmps49
  go_wp2_with fail
  refine H3.out.mono ?_
  rintro e w' ⟨rfl, rfl⟩
  go_wp2
  go_ret
  exact ⟨rfl, rfl⟩
theorem elN_low {t E : Nat} (hE : E ≤ 21) (ht : t < 2 ^ E) : elN t = (List.range E).filter fun k => t.testBit k := by
  unfold elN
  have e2 : List.range 21 = List.range E ++ (List.range (21 - E)).map (E + ·) := by
    rw [← List.range_add, show E + (21 - E) = 21 by omega]
  rw [e2, List.filter_append]
  have e3 : ((List.range (21 - E)).map (E + ·)).filter (fun k => t.testBit k) = [] := by
    rw [List.filter_eq_nil_iff]
    intro x hx
    obtain ⟨y, -, rfl⟩ := List.mem_map.1 hx
    rw [bits_of_lt ht (E + y) (by omega)]
    simp
  rw [e3, List.append_nil]
theorem txs_els {m t : Nat} (h7 : m ≤ 7) (ht : t < 2 ^ eN m) : (elN t).map (eT m) = txs m t (eN m) := by
  unfold txs
  rw [elN_low (eN_bd m (by omega)) ht]
set_option maxHeartbeats 6400000 in
set_option maxRecDepth 100000 in
theorem implEdgesText (n T : Int) (_hn : I64 n) (_hI : I64 T) (w : World) (hT : Tab w) :
    Calls Tryz.prog 17 #[.int .i64 n, .int .i64 T] w fun e w' => e = .returned (.string (etZ n T)) ∧ Below w.heap.size w w' := by
  obtain ⟨K, hK, hKb⟩ := allZ_small n
  have HAL := Lib.hid (fun W => allE_any n W)
  rw [hK] at HAL
  have HB0 := Lib.hid (Below.refl w.heap.size w)
  by_cases hK0 : K = 0
  · have HE : Hid (etZ n T = ⟨#[]⟩) := Lib.hid (by
      unfold etZ
      rw [if_neg]
      rintro ⟨h1, -⟩
      obtain ⟨h3, h7⟩ := inB_mem h1
      obtain ⟨m, rfl⟩ : ∃ m : Nat, n = m := ⟨n.toNat, by omega⟩
      have := allZ_pow (n := m) (.inr ⟨by omega, by omega⟩)
      rw [hK, hK0] at this
      have hp : ∀ m, m < 8 → 3 ≤ m → 2 ^ eN m - 1 ≠ 0 := by decide +kernel
      exact hp m (by omega) (by omega) (by omega))
    rw [HE.out]
    subst hK0
    clear HE hK hT
    go_enter Tryz.func17, Tryz.ntmps17
    go_wp2_with fail
    refine (HAL.out _).mono ?_
    rintro e w' ⟨rfl, rfl⟩
    go_wp2
    go_ret
    exact ⟨rfl, HB0.out⟩
  have hn37 : 3 ≤ n ∧ n ≤ 7 := Classical.byContradiction fun h => by
    have := allZ_out h
    omega
  have hKz : ((K : Int) == 0) = false := by simp; omega
  by_cases h0 : T < 0
  · have HE : Hid (etZ n T = ⟨#[]⟩) := Lib.hid (by
      unfold etZ
      rw [if_neg]
      rintro ⟨-, h1⟩
      have := inB_mem h1
      omega)
    rw [HE.out]
    clear HE hK hT
    go_enter Tryz.func17, Tryz.ntmps17
    go_wp2_with fail
    refine (HAL.out _).mono ?_
    rintro e w' ⟨rfl, rfl⟩
    go_wp2
    go_ret
    exact ⟨rfl, HB0.out⟩
  obtain ⟨t, rfl⟩ : ∃ t : Nat, T = t := ⟨T.toNat, by omega⟩
  by_cases hbig : K < t
  · have HE : Hid (etZ n t = ⟨#[]⟩) := Lib.hid (by
      unfold etZ
      rw [if_neg]
      rintro ⟨-, h1⟩
      have := inB_mem h1
      omega)
    rw [HE.out]
    clear HE hK hT
    go_enter Tryz.func17, Tryz.ntmps17
    go_wp2_with fail
    refine (HAL.out _).mono ?_
    rintro e w' ⟨rfl, rfl⟩
    go_wp2_with fail
    refine (HAL.out _).mono ?_
    rintro e w' ⟨rfl, rfl⟩
    go_wp2
    go_ret
    exact ⟨rfl, HB0.out⟩
  obtain ⟨m, rfl⟩ : ∃ m : Nat, n = m := ⟨n.toNat, by omega⟩
  have m3 : 3 ≤ m := by omega
  have m7 : m ≤ 7 := by omega
  have hp := allZ_pow (n := m) (.inr ⟨m3, m7⟩)
  have hE := eN_bd m (by omega)
  have htE : t < 2 ^ eN m := by
    have := Nat.pow_pos (n := eN m) (show 0 < 2 by omega)
    omega
  have ht21 : t < 2097152 := by omega
  have HE : Hid (etZ m t = if (txs m t (eN m)).length = 0 then ⟨#[45]⟩ else ⟨(Join.J (txs m t (eN m)) ⟨#[32]⟩ (txs m t (eN m)).length).toArray⟩) := Lib.hid (by unfold etZ; rw [if_pos ⟨inB_yes (by omega) (by omega), by rw [hK]; exact inB_yes (by omega) (by omega)⟩, Int.toNat_natCast, Int.toNat_natCast])
  have HXE := Lib.hid (txs_els m7 htE)
  by_cases ht0 : t = 0
  · subst ht0
    have HE2 : Hid (etZ m (0 : Nat) = ⟨#[45]⟩) := Lib.hid (by
      rw [HE.out, if_pos]
      rw [← HXE.out, elN_zero]
      rfl)
    rw [HE2.out]
    clear HE HE2 HXE hK hT
    go_enter Tryz.func17, Tryz.ntmps17
    go_wp2_with fail
    refine (HAL.out _).mono ?_
    rintro e w' ⟨rfl, rfl⟩
    go_wp2_with fail
    refine (HAL.out _).mono ?_
    rintro e w' ⟨rfl, rfl⟩
    go_wp2
    go_ret
    exact ⟨rfl, HB0.out⟩
  have htz : ((t : Int) == 0) = false := by simp; omega
  have HEL := Lib.hid (elementsG_any t ht21 w hT)
  have HED : Hid (∀ k ∈ elN t, ∃ i j : Nat, (∀ W, Calls Tryz.prog 48 #[.int .i64 m, .int .i64 k] W fun e w' => e = .returned (.tuple #[.int .i64 (i : Nat), .int .i64 (j : Nat)]) ∧ W = w') ∧ i ≤ 7 ∧ j ≤ 7 ∧ eT m k = ⟨(Lib.itoa i).toArray⟩ ++ ⟨(Lib.itoa j).toArray⟩) := Lib.hid (fun k hk => by
    have hkE : k < eN m := by
      refine Classical.byContradiction fun hn => ?_
      have := (mem_elN.1 hk).2
      rw [bits_of_lt htE k (by omega)] at this
      cases this
    have h2 := edL_lt m7 hkE
    refine ⟨(edL m k).1, (edL m k).2, fun W => ?_, by omega, by omega, rfl⟩
    have := edgeAt_any (m : Int) (k : Int) (i64_nat (by omega)) W
    rw [edZ_in m3 m7 hkE] at this
    exact this)
  have HTT := Lib.hid (txs_tot (T := t) m7 (eN m) (Nat.le_refl _))
  rw [← HXE.out] at HE HTT
  have hne : elN t ≠ [] := fun e => by
    obtain ⟨k, -, -, -, -, e2, -⟩ := low_bitG (r := t) (by omega) ht21
    rw [e] at e2
    cases e2
  obtain ⟨els, hels⟩ : ∃ els, els = elN t := ⟨_, rfl⟩
  rw [← hels] at HEL HED HE HTT hne
  have hM : els.length ≤ 21 := by rw [hels]; exact elN_len t
  have hM0 : 0 < els.length := List.length_pos_iff.2 hne
  have HTX : Hid (∀ q, q < els.length → (els.take (q + 1)).map (eT m) = (els.take q).map (eT m) ++ [eT m (els.getD q 0)]) := Lib.hid (fun q hq => by rw [getD_take hq, List.map_append]; rfl)
  have HTF : Hid ((els.take els.length).map (eT m) = els.map (eT m)) := Lib.hid (by rw [List.take_length])
  have HTL : Hid (∀ q, ((els.take q).map (eT m)).length ≤ 21) := Lib.hid (fun q => by rw [List.length_map, List.length_take]; omega)
  have HLF : Hid ((els.map (eT m)).length = els.length) := Lib.hid (List.length_map _)
  have HT0 : Hid ((els.take 0).map (eT m) = []) := Lib.hid rfl
  generalize hfe : els.map (eT m) = tf at HE HTT HTF HLF
  obtain ⟨tx, htx⟩ : ∃ tx : Nat → List ByteArray, tx = fun q => (els.take q).map (eT m) := ⟨_, rfl⟩
  have HTX : Hid (∀ q, q < els.length → tx (q + 1) = tx q ++ [eT m (els.getD q 0)]) := Lib.hid (fun q hq => by rw [htx]; exact HTX.out q hq)
  have HTF : Hid (tx els.length = tf) := Lib.hid (by rw [htx]; exact HTF.out)
  have HTL : Hid (∀ q, (tx q).length ≤ 21) := Lib.hid (fun q => by rw [htx]; exact HTL.out q)
  have HT0 : Hid (tx 0 = []) := Lib.hid (by rw [htx]; exact HT0.out)
  have hEb : eN m ≤ 21 := hE
  generalize etZ m t = R at HE ⊢
  generalize eT m = et at HED HTX
  generalize eN m = E at hEb HTT
  obtain ⟨i0, hi, hz0, hz1, hz2⟩ := info_parts infoS
  clear hfe htx hels hne hp hE htE HXE hT hK
  go_enter Tryz.func17, Tryz.ntmps17
  go_wp2_with fail
  refine (HAL.out _).mono ?_
  rintro e w' ⟨rfl, rfl⟩
  go_wp2_with fail
  refine (HAL.out _).mono ?_
  rintro e w' ⟨rfl, rfl⟩
  go_wp2_with fail
  refine HEL.out.mono ?_
  rintro e w1 ⟨v1, rfl, hv1, hb1⟩
  obtain ⟨a1, c1, rfl, hls⟩ := lsA_of hv1
  have LS := Lib.hid hls
  have B1 := Lib.hid hb1
  have hown0 : OwnsS w1 w1.heap.size (.slice none 0 0) (tx 0) := by rw [HT0.out]; exact World.ownsRow_nil _ _ _ _
  have HO0 := Lib.hid hown0
  obtain ⟨M, hMe⟩ : ∃ M, M = els.length := ⟨_, rfl⟩
  rw [← hMe] at hM hM0 HTF HLF ⊢
  have HML := Lib.hid hMe
  clear hv1 hls hb1 hMe hown0 HAL HEL
  go_wp2
  go_loopw [5, 28] (fun vv i wr => ∃ x : Nat, x ≤ M ∧ i = .int .i64 x ∧ OwnsS wr w1.heap.size vv (tx x) ∧ Below w1.heap.size w1 wr) (fun _ i _ => M - (intOf i).toNat)
  case atStart => exact ⟨0, Nat.zero_le _, rfl, HO0.out, Below.refl _ _⟩
  case round =>
    obtain ⟨x, hx, rfl, hown, hb⟩ := hrel
    by_cases hlt : x < M
    · have hql : x < els.length := by have := HML.out; omega
      obtain ⟨g2, rfl, hcell⟩ := LS.out.on hb x hql
      obtain ⟨i, j, he, hi7, hj7, het⟩ := HED.out _ (getD_mem hql)
      have HTXx := Lib.hid (HTX.out x hql)
      generalize els.getD x 0 = k at hcell he het HTXx
      have HE1 := Lib.hid he
      clear he
      obtain ⟨A, hA⟩ : ∃ A : ByteArray, A = ⟨(Lib.itoa (i : Nat)).toArray⟩ := ⟨_, rfl⟩
      obtain ⟨C, hC⟩ : ∃ C : ByteArray, C = ⟨(Lib.itoa (j : Nat)).toArray⟩ := ⟨_, rfl⟩
      have hAs : A.size ≤ 30 := by rw [hA]; exact itoa_size i (by omega) (by omega)
      have hCs : C.size ≤ 30 := by rw [hC]; exact itoa_size j (by omega) (by omega)
      have HAC : Hid (tx (x + 1) = tx x ++ [A ++ C]) := Lib.hid (by rw [HTXx.out, hA, hC, ← het])
      have HX : Hid (∀ W, Calls Tryz.prog 49 #[.int .i64 (i : Nat)] W fun e w' => e = .returned (.string A) ∧ W = w') := Lib.hid (fun W => by rw [hA]; exact fmt_small i hi7 W)
      have HZ : Hid (∀ W, Calls Tryz.prog 49 #[.int .i64 (j : Nat)] W fun e w' => e = .returned (.string C) ∧ W = w') := Lib.hid (fun W => by rw [hC]; exact fmt_small j hj7 W)
      have hr1 : ∀ W, (Op.stringOp .add A C).run Tryz.prog W = .ok (.string (A ++ C)) W := fun W => run_string_add_sum W _ _ (by omega)
      have hLx := HTL.out x
      obtain ⟨ys, hys⟩ : ∃ ys : List ByteArray, tx x = ys := ⟨_, rfl⟩
      rw [hys] at hown hLx HAC
      clear het hA hC HTXx hys
      have hszr := hb.size
      go_wp2_with fail
      refine (HE1.out _).mono ?_
      rintro e w' ⟨rfl, rfl⟩
      go_wp2_with fail
      refine (HX.out _).mono ?_
      rintro e w' ⟨rfl, rfl⟩
      go_wp2_with fail
      refine (HZ.out _).mono ?_
      rintro e w' ⟨rfl, rfl⟩
      go_wp2_with (at_builtin; refine wpList_append_own _ rfl _ _ 65 rfl w1.heap.size 9 i0 _ 1 16 Tryz.underlying65 hi hz0 hz1 hz2 rfl (by decide) _ _ _ rfl (World.ownsRow.alloc hown _) ⟨_, 0, none⟩ 1 1 [.string (A ++ C)] rfl rfl (World.news_of_block (cs := #[.string (A ++ C)]) (t := 9) (fr := (0, 0)) (heap_alloc_new wr _)) (by simp [Value.oneCell']) (by simp only [maxLen]; omega) (by omega) (by simp; omega) ?_)
      intro v6 w6 hown6 hg6 _
      have hk := after_app hb hown hg6
      have HO1 := Lib.hid (ownsS_snoc rfl hown6)
      clear hown6 hg6
      go_wp2
      exact ⟨⟨x + 1, by omega, by go_num, by rw [HAC.out]; exact HO1.out, hk⟩, by simp only [intOf]; omega⟩
    · have e : x = M := by omega
      subst e
      rw [HTF.out] at hown
      have hR := HE.out
      have hTT := HTT.out
      have hl := HLF.out
      rw [if_neg (by omega)] at hR
      obtain ⟨g, cg, hv, hg0, hg1, hat⟩ := ownsS_row hown (by omega)
      have hcap : tf.length ≤ cg := by
        rcases hown.2 with ⟨e1, e2⟩ | ⟨g', cap, cur, e1, -, -, e4, -⟩
        · rw [e1] at hv; cases hv
        · rw [e1] at hv; cases hv; exact e4
      have HJ := Lib.hid (Join.impl_any g 0 cg tf ⟨#[32]⟩ (by omega) hcap (show 1 ≤ _ by omega) (by omega) wr hat hg1)
      have HR := Lib.hid hR
      rw [← HR.out, hl] at HJ
      rw [hl] at hv
      subst hv
      clear hown hat hR
      go_wp2_with fail
      refine HJ.out.mono ?_
      rintro e w2 ⟨rfl, hb2⟩
      have B2 := B1.out.trans ((hb.trans (hb2.mono hb.size)).mono B1.out.size)
      go_wp2
      go_ret
      exact ⟨rfl, B2⟩
end Go.Proofs.YtfggiflngfihcaaGreatDoor.TrText
