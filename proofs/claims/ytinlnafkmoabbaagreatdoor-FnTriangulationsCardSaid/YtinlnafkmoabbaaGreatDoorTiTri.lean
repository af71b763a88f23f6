/- impl's TrianglesOf. -/
import Derived.Test.YtinlnafkmoabbaaGreatDoorMgTg
import Derived.Test.YtinlnafkmoabbaaGreatDoorMgTr
import Derived.Test.YtinlnafkmoabbaaGreatDoorTakeH
import Derived.Test.YtinlnafkmoabbaaGreatDoorMgO
namespace Go.Proofs.YtinlnafkmoabbaaGreatDoor.Sg
open Go.RowKit Pt NewI
theorem idxZ_ix {n i j : Nat} (h3 : 3 ≤ n) (h7 : n ≤ 7) (h : i < j) (hj : j < n) : idxZ n i j = ((ixN n i j : Nat) : Int) := by
  unfold idxZ
  rw [if_pos ⟨inB_yes (by omega) (by omega), difB2_iff.2 ⟨⟨by omega, by omega⟩, ⟨by omega, by omega⟩, by omega⟩⟩, Int.toNat_natCast, Int.toNat_natCast, Int.toNat_natCast]
theorem three_bits (t x y z : Nat) : ((t &&& (2 ^ x ||| 2 ^ y ||| 2 ^ z)) == (2 ^ x ||| 2 ^ y ||| 2 ^ z)) = (t.testBit x && (t.testBit z && t.testBit y)) := by
  have hb : ∀ v, (2 ^ x ||| 2 ^ y ||| 2 ^ z).testBit v = (decide (v = x) || decide (v = y) || decide (v = z)) := fun v => by
    rw [bit_set, bit_set, Nat.testBit_two_pow]
    congr 2
    exact decide_eq_decide.2 ⟨Eq.symm, Eq.symm⟩
  rw [Bool.eq_iff_iff, beq_iff_eq, Bool.and_eq_true, Bool.and_eq_true]
  constructor
  · intro h
    have k : ∀ v, (2 ^ x ||| 2 ^ y ||| 2 ^ z).testBit v = true → t.testBit v = true := fun v hv => by
      rw [← h, Nat.testBit_and, Bool.and_eq_true] at hv
      exact hv.1
    exact ⟨k x (by rw [hb]; simp), k z (by rw [hb]; simp), k y (by rw [hb]; simp)⟩
  · rintro ⟨h1, h2, h3⟩
    refine Nat.eq_of_testBit_eq fun v => ?_
    rw [Nat.testBit_and, hb]
    by_cases e1 : v = x
    · subst e1; rw [h1]; simp
    · by_cases e2 : v = y
      · subst e2; rw [h3]; simp
      · by_cases e3 : v = z
        · subst e3; rw [h2]; simp
        · simp [e1, e2, e3]
/-- How many of the first p threes are triangles. -/
def trP (q : T3 → Bool) (n p : Nat) : Nat := ((threes n).take p).countP q
theorem trP_succ (q : T3 → Bool) {n p : Nat} {t : T3} (h : (threes n)[p]? = some t) : trP q n (p + 1) = trP q n p + bit (q t) := by
  unfold trP
  rw [List.take_add_one, h, List.countP_append]
  cases hq : q t <;> simp [bit, hq]
theorem trP_le (q : T3 → Bool) (n p : Nat) : trP q n p ≤ p := by
  have h1 := List.countP_le_length (p := q) (l := (threes n).take p)
  rw [List.length_take] at h1
  unfold trP
  omega
set_option maxHeartbeats 6400000 in
set_option maxRecDepth 100000 in
theorem implTriangles (n : Int) (s : ByteArray) (hs : s.size ≤ 9223372036854775807) (T : Int) (hI : I64 T) (w : World) (hT : Tab w) :
    Calls Tryz.prog 67 #[sg n s, .int .i64 T] w fun e w' => e = .returned (.int .i64 (trsZ n s.data.toList T)) ∧ Below w.heap.size w w' := by
  have HS := Lib.hid (box_made w n s 25)
  have HA := Lib.hid (implIsTri n s hs T hI _ (hT.on HS.out.2.2))
  obtain ⟨x0, x1, -⟩ := HS.out
  clear hT
  cases h : itB n s.data.toList T
  · have HE : Hid (trsZ n s.data.toList T = -1) := Lib.hid (by unfold trsZ; rw [h]; rfl)
    rw [HE.out]
    rw [h] at HA
    clear h HE
    go_enter Tryz.func67, Tryz.ntmps67
    go_wp2_with fail
    refine HA.out.mono ?_
    rintro e w1 ⟨rfl, hb1⟩
    have B1 := Lib.hid (HS.out.on hb1).2.2
    clear hb1 x0 x1
    go_wp2
    go_ret
    exact ⟨rfl, B1.out⟩
  · obtain ⟨m, t, rfl, rfl, hac, m3, m6, ht, hfull⟩ := itB_parts h
    have h7 : m ≤ 7 := by omega
    have hE := eN_bd m (by omega)
    have hpE := Nat.pow_le_pow_right (n := 2) (by omega) hE
    have HE : Hid (trsZ m s.data.toList t = ((threes m).countP (trQ (sgnF (lookS m s.data.toList)) m t) : Nat)) := Lib.hid (by unfold trsZ; rw [if_pos h, Int.toNat_natCast, Int.toNat_natCast])
    rw [HE.out]
    rw [h] at HA
    have HMO := Lib.hid (fun W => mapOf_sg m s hs W)
    have HCI := Lib.hid (fun B (a b c : Nat) (ha : a ≤ 7) (hb : b ≤ 7) (hc : c ≤ 7) W hm => countInside_any B (lookS m s.data.toList) m h7 a b c (i64_nat (by omega)) (i64_nat (by omega)) (i64_nat (by omega)) W hm)
    have HIX : Hid (∀ i j : Nat, i < j → j < m → ixN m i j < 21 ∧ ∀ W, Calls Tryz.prog 37 #[.int .i64 m, .int .i64 i, .int .i64 j] W fun e w' => e = .returned (.int .i64 (ixN m i j : Nat)) ∧ W = w') := Lib.hid (fun i j hij hj => ⟨by have := (ix_ed h7 hij hj).2; omega, fun W => by
      have := edgeIx_any (m : Int) (i : Int) (j : Int) (by omega) (i64_nat (by omega)) (i64_nat (by omega)) (i64_nat (by omega)) i j (.inl ⟨rfl, rfl⟩) W
      rw [idxZ_ix m3 h7 hij hj] at this
      exact this⟩)
    have HQ : Hid (∀ a b c, trQ (sgnF (lookS m s.data.toList)) m t (a, b, c) = (t.testBit (ixN m a b) && (t.testBit (ixN m b c) && (t.testBit (ixN m a c) && cntI (sgnF (lookS m s.data.toList)) a b c m == 0)))) := Lib.hid (fun _ _ _ => rfl)
    generalize trQ (sgnF (lookS m s.data.toList)) m t = q at HQ ⊢
    have HTS := Lib.hid (fun p t' (h : (threes m)[p]? = some t') => trP_succ q h)
    have HTE : Hid ((threes m).countP q = trP q m (cnt m)) := Lib.hid (by unfold trP; rw [← threes_length h7, List.take_length])
    have HT0 : Hid (trP q m 0 = 0) := Lib.hid rfl
    have HTL := Lib.hid (trP_le q m)
    rw [HTE.out]
    generalize trP q m = u at HTS HT0 HTL ⊢
    generalize cntI (sgnF (lookS m s.data.toList)) = cn at HCI HQ
    generalize ixN m = ix at HIX HQ
    have hc35 := cnt_le h7
    have HT := Lib.hid (threes_length h7)
    have hcp : 0 < cnt m := by rcases (by omega : m = 3 ∨ m = 4 ∨ m = 5 ∨ m = 6 ∨ m = 7) with rfl | rfl | rfl | rfl | rfl <;> decide
    have ht21 : t < 2097152 := by omega
    clear h HE hac hfull ht HTE hpE hE
    go_enter Tryz.func67, Tryz.ntmps67
    go_wp2_with fail
    refine HA.out.mono ?_
    rintro e w1 ⟨rfl, hb1⟩
    have X1 := Lib.hid (HS.out.on hb1)
    clear hb1 x0 x1
    obtain ⟨x0, x1, -⟩ := X1.out
    go_wp2_with fail
    refine (HMO.out _).mono ?_
    rintro e wm ⟨b, rfl, -, hm, hbm⟩
    have XM := Lib.hid (X1.out.on hbm)
    have HM := Lib.hid hm
    clear hm hbm x0 x1
    obtain ⟨x0, x1, -⟩ := XM.out
    go_wp2_with fail
    refine (threesOf_any m m3 h7 _).mono ?_
    rintro e w2 ⟨v, rfl, hv, hb2⟩
    obtain ⟨g, c, rfl, -, hg2, h3a⟩ := owns3_row hv (by rw [HT.out]; exact hcp)
    rw [HT.out]
    have X2 := Lib.hid (XM.out.on hb2)
    have HM2 := Lib.hid (HM.out.on hb2)
    have HA3 := Lib.hid h3a
    clear hv h3a x0 x1 hb2 HMO HA
    go_wp2
    go_loopw [6, 20] (fun cv i wr => ∃ p : Nat, p ≤ cnt m ∧ i = .int .i64 p ∧ cv = .int .i64 (u p : Nat) ∧ Hid (Below w2.heap.size w2 wr)) (fun _ i _ => cnt m - (intOf i).toNat)
    case atStart => exact ⟨0, Nat.zero_le _, rfl, by rw [HT0.out]; rfl, Lib.hid (Below.refl _ _)⟩
    case round =>
      obtain ⟨p, hp, rfl, rfl, HB⟩ := hrel
      have hle := HTL.out p
      have X3 := Lib.hid (X2.out.on HB.out)
      by_cases hlt : p < cnt m
      · obtain ⟨⟨a, b', c'⟩, ht⟩ : ∃ t, (threes m)[p]? = some t := ⟨_, List.getElem?_eq_getElem (by rw [HT.out]; exact hlt)⟩
        obtain ⟨x0, x1, x2⟩ := (HA3.out.on HB.out hg2) p _ ht
        obtain ⟨t1, t2, t3⟩ := threes_mem h7 (List.mem_of_getElem? ht)
        have HN := Lib.hid (HTS.out p _ ht)
        dsimp only at x0 x1 x2 t1 t2 t3
        obtain ⟨z0, z1, z2⟩ := box3_made wr a b' c' 99
        have HBa := Lib.hid (HB.out.alloc HB.out.size (.cells #[.int .i64 a, .int .i64 b', .int .i64 c'] 99))
        obtain ⟨c0, c1, -⟩ := (X3.out.alloc (.cells #[.int .i64 a, .int .i64 b', .int .i64 c'] 99))
        obtain ⟨i1, HC1⟩ := HIX.out a b' t1 (by omega)
        obtain ⟨i2, HC2⟩ := HIX.out a c' (by omega) t3
        obtain ⟨i3, HC3⟩ := HIX.out b' c' t2 t3
        have HC1 := Lib.hid HC1
        have HC2 := Lib.hid HC2
        have HC3 := Lib.hid HC3
        have HQP := Lib.hid (HQ.out a b' c')
        have HCC := Lib.hid (fun W hm => HCI.out b a b' c' (by omega) (by omega) (by omega) W hm)
        have htb := three_bits t (ix a b') (ix a c') (ix b' c')
        generalize ix a b' = y1 at HC1 i1 HQP htb
        generalize ix a c' = y2 at HC2 i2 HQP htb
        generalize ix b' c' = y3 at HC3 i3 HQP htb
        generalize cn a b' c' m = k at HCC HQP
        obtain ⟨s1, p1⟩ := shl_edge y1 i1
        obtain ⟨s2, p2⟩ := shl_edge y2 i2
        obtain ⟨s3, p3⟩ := shl_edge y3 i3
        have o1 := bits_orE (2 ^ y1) (2 ^ y2) p1 p2
        have q1 : 2 ^ y1 ||| 2 ^ y2 < 2097152 := Nat.or_lt_two_pow (n := 21) p1 p2
        have o2 := bits_orE (2 ^ y1 ||| 2 ^ y2) (2 ^ y3) q1 p3
        have q2 : 2 ^ y1 ||| 2 ^ y2 ||| 2 ^ y3 < 2097152 := Nat.or_lt_two_pow (n := 21) q1 p3
        have n1 := bits_andE t (2 ^ y1 ||| 2 ^ y2 ||| 2 ^ y3) ht21 q2
        have nb := beq_castN (t &&& (2 ^ y1 ||| 2 ^ y2 ||| 2 ^ y3)) (2 ^ y1 ||| 2 ^ y2 ||| 2 ^ y3)
        rw [htb] at nb
        generalize t &&& (2 ^ y1 ||| 2 ^ y2 ||| 2 ^ y3) = V at n1 nb
        generalize 2 ^ y1 ||| 2 ^ y2 ||| 2 ^ y3 = Q at o2 n1 nb q2
        generalize 2 ^ y1 ||| 2 ^ y2 = R at o1 o2 q1
        generalize (2 : Nat) ^ y1 = P1 at s1 o1 p1
        generalize (2 : Nat) ^ y2 = P2 at s2 o1 p2
        generalize (2 : Nat) ^ y3 = P3 at s3 o2 p3
        have HN2 : Hid ((t.testBit y1 && (t.testBit y3 && t.testBit y2)) = true → k = 0 → u (p + 1) = u p + 1) := Lib.hid (fun h hk => by
          rw [Bool.and_eq_true, Bool.and_eq_true] at h
          rw [HN.out, HQP.out, h.1, h.2.1, h.2.2, hk]
          rfl)
        have HN3 : Hid ((t.testBit y1 && (t.testBit y3 && t.testBit y2)) = true → k ≠ 0 → u (p + 1) = u p) := Lib.hid (fun h hk => by
          rw [HN.out, HQP.out]
          have : (k == 0) = false := by simp; omega
          rw [this]
          simp [bit])
        have HN4 : Hid ((t.testBit y1 && (t.testBit y3 && t.testBit y2)) = false → u (p + 1) = u p) := Lib.hid (fun h => by
          rw [HN.out, HQP.out]
          cases h1 : t.testBit y1 <;> cases h2 : t.testBit y2 <;> cases h3 : t.testBit y3 <;> rw [h1, h2, h3] at h <;> first | exact absurd h (by decide) | simp [bit])
        generalize (t.testBit y1 && (t.testBit y3 && t.testBit y2)) = bb at nb HN2 HN3 HN4
        clear htb HN HQP ht
        go_wp2
        clear x0 x1 x2
        have hS0 : (wr.alloc (.cells #[.int .i64 a, .int .i64 b', .int .i64 c'] 99)).drew.cell? ⟨w.heap.size, 0, none⟩ = some (.int .i64 m) ∧ (wr.alloc (.cells #[.int .i64 a, .int .i64 b', .int .i64 c'] 99)).drew.cell? ⟨wr.heap.size, 0, none⟩ = some (.int .i64 a) ∧ (wr.alloc (.cells #[.int .i64 a, .int .i64 b', .int .i64 c'] 99)).drew.cell? ⟨wr.heap.size, 1, none⟩ = some (.int .i64 b') ∧ (wr.alloc (.cells #[.int .i64 a, .int .i64 b', .int .i64 c'] 99)).drew.cell? ⟨wr.heap.size, 2, none⟩ = some (.int .i64 c') ∧ Below w2.heap.size w2 (wr.alloc (.cells #[.int .i64 a, .int .i64 b', .int .i64 c'] 99)).drew := ⟨c0, z0, z1, z2, HBa.out.drew⟩
        refine wp_region_held (S := fun W => W.cell? ⟨w.heap.size, 0, none⟩ = some (.int .i64 m) ∧ W.cell? ⟨wr.heap.size, 0, none⟩ = some (.int .i64 a) ∧ W.cell? ⟨wr.heap.size, 1, none⟩ = some (.int .i64 b') ∧ W.cell? ⟨wr.heap.size, 2, none⟩ = some (.int .i64 c') ∧ Below w2.heap.size w2 W) rfl ?_
        have hHeld := hS0
        (refine Held.takeH (i := 0) (k := 24) (v := ?_) rfl (by as_aux_lemma => kernel_rfl) (by as_aux_lemma => kernel_rfl) (by as_aux_lemma => kernel_rfl) (by as_aux_lemma => kernel_rfl) (fun _ _ _ h => h) (Or.inl ⟨by rfl, ?_⟩) (by assumption) ?_; rotate_left; (focus (intro w hSw; (try dsimp only at hSw); go_simp; (try with_reducible rfl))); (simp only [List.setIfInBounds_toArray, List.set_cons_zero, List.set_cons_succ]))
        (refine Held.takeH (i := 1) (k := 25) (v := ?_) rfl (by as_aux_lemma => kernel_rfl) (by as_aux_lemma => kernel_rfl) (by as_aux_lemma => kernel_rfl) (by as_aux_lemma => kernel_rfl) (fun _ _ _ h => h) (Or.inl ⟨by rfl, ?_⟩) (by assumption) ?_; rotate_left; (focus (intro w hSw; (try dsimp only at hSw); go_simp; (try with_reducible rfl))); (simp only [List.setIfInBounds_toArray, List.set_cons_zero, List.set_cons_succ]))
        (refine Held.takeH (i := 2) (k := 26) (v := ?_) rfl (by as_aux_lemma => kernel_rfl) (by as_aux_lemma => kernel_rfl) (by as_aux_lemma => kernel_rfl) (by as_aux_lemma => kernel_rfl) (fun _ _ _ h => h) (Or.inl ⟨by rfl, ?_⟩) (by assumption) ?_; rotate_left; (focus (intro w hSw; (try dsimp only at hSw); go_simp; (try with_reducible rfl))); (simp only [List.setIfInBounds_toArray, List.set_cons_zero, List.set_cons_succ]))
        (refine Held.takeH (i := 3) (k := 27) (v := ?_) rfl (by as_aux_lemma => kernel_rfl) (by as_aux_lemma => kernel_rfl) (by as_aux_lemma => kernel_rfl) (by as_aux_lemma => kernel_rfl) (fun _ _ _ h => h) (Or.inl ⟨by rfl, ?_⟩) (by assumption) ?_; rotate_left; (focus (intro w hSw; (try dsimp only at hSw); go_simp; (try with_reducible rfl))); (simp only [List.setIfInBounds_toArray, List.set_cons_zero, List.set_cons_succ]))
        (refine Held.takeH (i := 4) (k := 28) (v := ?_) rfl (by as_aux_lemma => kernel_rfl) (by as_aux_lemma => kernel_rfl) (by as_aux_lemma => kernel_rfl) (by as_aux_lemma => kernel_rfl) (fun _ _ _ h => h) (Or.inl ⟨by rfl, ?_⟩) (by assumption) ?_; rotate_left; (focus (intro w hSw; (try dsimp only at hSw); go_simp; (try with_reducible rfl))); (simp only [List.setIfInBounds_toArray, List.set_cons_zero, List.set_cons_succ]))
        (refine Held.takeH (i := 5) (k := 29) (v := ?_) rfl (by as_aux_lemma => kernel_rfl) (by as_aux_lemma => kernel_rfl) (by as_aux_lemma => kernel_rfl) (by as_aux_lemma => kernel_rfl) (fun _ _ _ h => h) (Or.inl ⟨by rfl, ?_⟩) (by assumption) ?_; rotate_left; (focus (intro w hSw; (try dsimp only at hSw); go_simp; (try with_reducible rfl))); (simp only [List.setIfInBounds_toArray, List.set_cons_zero, List.set_cons_succ]))
        (refine Held.takeH (i := 8) (k := 32) (v := ?_) rfl (by as_aux_lemma => kernel_rfl) (by as_aux_lemma => kernel_rfl) (by as_aux_lemma => kernel_rfl) (by as_aux_lemma => kernel_rfl) (fun _ _ _ h => h) (Or.inl ⟨by rfl, ?_⟩) (by assumption) ?_; rotate_left; (focus (intro w hSw; (try dsimp only at hSw); go_simp; (try with_reducible rfl))); (simp only [List.setIfInBounds_toArray, List.set_cons_zero, List.set_cons_succ]))
        (refine Held.takeH (i := 9) (k := 33) (v := ?_) rfl (by as_aux_lemma => kernel_rfl) (by as_aux_lemma => kernel_rfl) (by as_aux_lemma => kernel_rfl) (by as_aux_lemma => kernel_rfl) (fun _ _ _ h => h) (Or.inl ⟨by rfl, ?_⟩) (by assumption) ?_; rotate_left; (focus (intro w hSw; (try dsimp only at hSw); go_simp; (try with_reducible rfl))); (simp only [List.setIfInBounds_toArray, List.set_cons_zero, List.set_cons_succ]))
        (refine Held.takeH (i := 10) (k := 34) (v := ?_) rfl (by as_aux_lemma => kernel_rfl) (by as_aux_lemma => kernel_rfl) (by as_aux_lemma => kernel_rfl) (by as_aux_lemma => kernel_rfl) (fun _ _ _ h => h) (Or.inl ⟨by rfl, ?_⟩) (by assumption) ?_; rotate_left; (focus (intro w hSw; (try dsimp only at hSw); go_simp; (try with_reducible rfl))); (simp only [List.setIfInBounds_toArray, List.set_cons_zero, List.set_cons_succ]))
        (refine Held.takeH (i := 11) (k := 35) (v := ?_) rfl (by as_aux_lemma => kernel_rfl) (by as_aux_lemma => kernel_rfl) (by as_aux_lemma => kernel_rfl) (by as_aux_lemma => kernel_rfl) (fun _ _ _ h => h) (Or.inl ⟨by rfl, ?_⟩) (by assumption) ?_; rotate_left; (focus (intro w hSw; (try dsimp only at hSw); go_simp; (try with_reducible rfl))); (simp only [List.setIfInBounds_toArray, List.set_cons_zero, List.set_cons_succ]))
        (refine Held.takeH (i := 12) (k := 36) (v := ?_) rfl (by as_aux_lemma => kernel_rfl) (by as_aux_lemma => kernel_rfl) (by as_aux_lemma => kernel_rfl) (by as_aux_lemma => kernel_rfl) (fun _ _ _ h => h) (Or.inl ⟨by rfl, ?_⟩) (by assumption) ?_; rotate_left; (focus (intro w hSw; (try dsimp only at hSw); go_simp; (try with_reducible rfl))); (simp only [List.setIfInBounds_toArray, List.set_cons_zero, List.set_cons_succ]))
        (refine Held.takeH (i := 13) (k := 37) (v := ?_) rfl (by as_aux_lemma => kernel_rfl) (by as_aux_lemma => kernel_rfl) (by as_aux_lemma => kernel_rfl) (by as_aux_lemma => kernel_rfl) (fun _ _ _ h => h) (Or.inl ⟨by rfl, ?_⟩) (by assumption) ?_; rotate_left; (focus (intro w hSw; (try dsimp only at hSw); go_simp; (try with_reducible rfl))); (simp only [List.setIfInBounds_toArray, List.set_cons_zero, List.set_cons_succ]))
        (refine Held.takeH (i := 17) (k := 41) (v := ?_) rfl (by as_aux_lemma => kernel_rfl) (by as_aux_lemma => kernel_rfl) (by as_aux_lemma => kernel_rfl) (by as_aux_lemma => kernel_rfl) (fun _ _ _ h => h) (Or.inl ⟨by rfl, ?_⟩) (by assumption) ?_; rotate_left; (focus (intro w hSw; (try dsimp only at hSw); go_simp; (try with_reducible rfl))); (simp only [List.setIfInBounds_toArray, List.set_cons_zero, List.set_cons_succ]))
        (refine Held.takeH (i := 18) (k := 42) (v := ?_) rfl (by as_aux_lemma => kernel_rfl) (by as_aux_lemma => kernel_rfl) (by as_aux_lemma => kernel_rfl) (by as_aux_lemma => kernel_rfl) (fun _ _ _ h => h) (Or.inl ⟨by rfl, ?_⟩) (by assumption) ?_; rotate_left; (focus (intro w hSw; (try dsimp only at hSw); go_simp; (try with_reducible rfl))); (simp only [List.setIfInBounds_toArray, List.set_cons_zero, List.set_cons_succ]))
        (refine Held.takeH (i := 19) (k := 43) (v := ?_) rfl (by as_aux_lemma => kernel_rfl) (by as_aux_lemma => kernel_rfl) (by as_aux_lemma => kernel_rfl) (by as_aux_lemma => kernel_rfl) (fun _ _ _ h => h) (Or.inl ⟨by rfl, ?_⟩) (by assumption) ?_; rotate_left; (focus (intro w hSw; (try dsimp only at hSw); go_simp; (try with_reducible rfl))); (simp only [List.setIfInBounds_toArray, List.set_cons_zero, List.set_cons_succ]))
        (refine Held.takeH (i := 20) (k := 44) (v := ?_) rfl (by as_aux_lemma => kernel_rfl) (by as_aux_lemma => kernel_rfl) (by as_aux_lemma => kernel_rfl) (by as_aux_lemma => kernel_rfl) (fun _ _ _ h => h) (Or.inl ⟨by rfl, ?_⟩) (by assumption) ?_; rotate_left; (focus (intro w hSw; (try dsimp only at hSw); go_simp; (try with_reducible rfl))); (simp only [List.setIfInBounds_toArray, List.set_cons_zero, List.set_cons_succ]))
        (refine Held.takeH (i := 21) (k := 45) (v := ?_) rfl (by as_aux_lemma => kernel_rfl) (by as_aux_lemma => kernel_rfl) (by as_aux_lemma => kernel_rfl) (by as_aux_lemma => kernel_rfl) (fun _ _ _ h => h) (Or.inl ⟨by rfl, ?_⟩) (by assumption) ?_; rotate_left; (focus (intro w hSw; (try dsimp only at hSw); go_simp; (try with_reducible rfl))); (simp only [List.setIfInBounds_toArray, List.set_cons_zero, List.set_cons_succ]))
        (refine Held.takeH (i := 22) (k := 46) (v := ?_) rfl (by as_aux_lemma => kernel_rfl) (by as_aux_lemma => kernel_rfl) (by as_aux_lemma => kernel_rfl) (by as_aux_lemma => kernel_rfl) (fun _ _ _ h => h) (Or.inl ⟨by rfl, ?_⟩) (by assumption) ?_; rotate_left; (focus (intro w hSw; (try dsimp only at hSw); go_simp; (try with_reducible rfl))); (simp only [List.setIfInBounds_toArray, List.set_cons_zero, List.set_cons_succ]))
        refine wpAnyH_ready (rs := [6]) (by as_aux_lemma => kernel_rfl) (by simp) ?_
        refine AllReadyH.cons rfl (fun K hK => ?_) AllReadyH.nil
        go_simp
        refine (HC1.out _).mono ?_
        rintro e' w' ⟨rfl, rfl⟩
        refine hK.out _ _ hHeld (fun hHeld => ?_)
        clear hK K
        try simp only [Act.put, List.setIfInBounds_toArray, List.set_cons_zero, List.set_cons_succ]
        (refine Held.takeH (i := 7) (k := 31) (v := .int .i64 (P1 : Int)) rfl (by as_aux_lemma => kernel_rfl) (by as_aux_lemma => kernel_rfl) (by as_aux_lemma => kernel_rfl) (by as_aux_lemma => kernel_rfl) (fun _ _ _ h => h) (Or.inl ⟨by rfl, ?_⟩) (by assumption) ?_; (focus (intro w hSw; (try dsimp only at hSw); go_simp; (try simp only [s1, s2, s3, o1, o2]); (try rfl))); (simp only [List.setIfInBounds_toArray, List.set_cons_zero, List.set_cons_succ]))
        refine wpAnyH_ready (rs := [14]) (by as_aux_lemma => kernel_rfl) (by simp) ?_
        refine AllReadyH.cons rfl (fun K hK => ?_) AllReadyH.nil
        go_simp
        refine (HC2.out _).mono ?_
        rintro e' w' ⟨rfl, rfl⟩
        refine hK.out _ _ hHeld (fun hHeld => ?_)
        clear hK K
        try simp only [Act.put, List.setIfInBounds_toArray, List.set_cons_zero, List.set_cons_succ]
        (refine Held.takeH (i := 15) (k := 39) (v := .int .i64 (P2 : Int)) rfl (by as_aux_lemma => kernel_rfl) (by as_aux_lemma => kernel_rfl) (by as_aux_lemma => kernel_rfl) (by as_aux_lemma => kernel_rfl) (fun _ _ _ h => h) (Or.inl ⟨by rfl, ?_⟩) (by assumption) ?_; (focus (intro w hSw; (try dsimp only at hSw); go_simp; (try simp only [s1, s2, s3, o1, o2]); (try rfl))); (simp only [List.setIfInBounds_toArray, List.set_cons_zero, List.set_cons_succ]))
        (refine Held.takeH (i := 16) (k := 40) (v := .int .i64 (R : Int)) rfl (by as_aux_lemma => kernel_rfl) (by as_aux_lemma => kernel_rfl) (by as_aux_lemma => kernel_rfl) (by as_aux_lemma => kernel_rfl) (fun _ _ _ h => h) (Or.inl ⟨by rfl, ?_⟩) (by assumption) ?_; (focus (intro w hSw; (try dsimp only at hSw); go_simp; (try simp only [s1, s2, s3, o1, o2]); (try rfl))); (simp only [List.setIfInBounds_toArray, List.set_cons_zero, List.set_cons_succ]))
        refine wpAnyH_ready (rs := [23]) (by as_aux_lemma => kernel_rfl) (by simp) ?_
        refine AllReadyH.cons rfl (fun K hK => ?_) AllReadyH.nil
        go_simp
        refine (HC3.out _).mono ?_
        rintro e' w' ⟨rfl, rfl⟩
        refine hK.out _ _ hHeld (fun hHeld => ?_)
        clear hK K
        try simp only [Act.put, List.setIfInBounds_toArray, List.set_cons_zero, List.set_cons_succ]
        (refine Held.takeH (i := 24) (k := 48) (v := .int .i64 (P3 : Int)) rfl (by as_aux_lemma => kernel_rfl) (by as_aux_lemma => kernel_rfl) (by as_aux_lemma => kernel_rfl) (by as_aux_lemma => kernel_rfl) (fun _ _ _ h => h) (Or.inl ⟨by rfl, ?_⟩) (by assumption) ?_; (focus (intro w hSw; (try dsimp only at hSw); go_simp; (try simp only [s1, s2, s3, o1, o2]); (try rfl))); (simp only [List.setIfInBounds_toArray, List.set_cons_zero, List.set_cons_succ]))
        (refine Held.takeH (i := 25) (k := 49) (v := .int .i64 (Q : Int)) rfl (by as_aux_lemma => kernel_rfl) (by as_aux_lemma => kernel_rfl) (by as_aux_lemma => kernel_rfl) (by as_aux_lemma => kernel_rfl) (fun _ _ _ h => h) (Or.inl ⟨by rfl, ?_⟩) (by assumption) ?_; (focus (intro w hSw; (try dsimp only at hSw); go_simp; (try simp only [s1, s2, s3, o1, o2]); (try rfl))); (simp only [List.setIfInBounds_toArray, List.set_cons_zero, List.set_cons_succ]))
        (refine Held.takeH (i := 26) (k := 9) (v := .int .i64 (Q : Int)) rfl (by as_aux_lemma => kernel_rfl) (by as_aux_lemma => kernel_rfl) (by as_aux_lemma => kernel_rfl) (by as_aux_lemma => kernel_rfl) (fun _ _ _ h => h) (Or.inl ⟨by rfl, ?_⟩) (by assumption) ?_; (focus (intro w hSw; (try dsimp only at hSw); go_simp; (try simp only [s1, s2, s3, o1, o2]); (try rfl))); (simp only [List.setIfInBounds_toArray, List.set_cons_zero, List.set_cons_succ]))
        refine wpAnyH_done (by as_aux_lemma => kernel_rfl) ?_ _
        obtain ⟨e0, e1, e2, e3, hbw⟩ := hHeld
        have HBW := Lib.hid hbw
        have HMW := Lib.hid (HM2.out.on hbw)
        cases bb
        · have HR := Lib.hid (HN4.out rfl)
          go_wp2
          exact ⟨⟨p + 1, by omega, by go_num, by rw [HR.out], HBW⟩, by simp only [intOf]; omega⟩
        · have HK := Lib.hid (HCC.out _ HMW.out)
          by_cases hk : k = 0
          · have HR := Lib.hid (HN2.out rfl hk)
            subst hk
            go_wp2_with fail
            refine HK.out.mono ?_
            rintro e w3 ⟨rfl, hb3⟩
            have HB3 := Lib.hid (HBW.out.trans (hb3.mono HBW.out.size))
            clear hb3
            go_wp2
            exact ⟨⟨p + 1, by omega, by go_num, by rw [HR.out]; go_num, HB3⟩, by simp only [intOf]; omega⟩
          · have HR := Lib.hid (HN3.out rfl hk)
            have htest : ((k : Int) == 0) = false := by simp; omega
            go_wp2_with fail
            refine HK.out.mono ?_
            rintro e w3 ⟨rfl, hb3⟩
            have HB3 := Lib.hid (HBW.out.trans (hb3.mono HBW.out.size))
            clear hb3
            go_wp2
            exact ⟨⟨p + 1, by omega, by go_num, by rw [HR.out], HB3⟩, by simp only [intOf]; omega⟩
      · obtain rfl : p = cnt m := by omega
        have BB := Lib.hid (X3.out.2.2)
        go_wp2
        go_ret
        exact ⟨rfl, BB.out⟩
end Go.Proofs.YtinlnafkmoabbaaGreatDoor.Sg
