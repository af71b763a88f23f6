/- AcyclicSets, as spec answers it; the law. -/
import Derived.Test.YtdnbocmfgofhcaaRuSets
namespace Go.Proofs.Ytdnbocmfgofhcaa.Sg
open Go.RowKit Pt NewI
set_option maxHeartbeats 1000000 in
set_option maxRecDepth 100000 in
theorem specSets_yes (n : Nat) (s : ByteArray) (h : matB n s.data.toList = true) (w : World) :
    Calls Try.prog 23 #[sg n s] w fun e w' => Got w.heap.size (setsTo (acS n s.data.toList) (2 ^ n)) e w' ∧ Below w.heap.size w w' := by
  have har := matB_ar h
  obtain ⟨h3, h7, hl, -⟩ := arB_yes har
  have h3 : 3 ≤ n := by omega
  have h7 : n ≤ 7 := by omega
  have hs35 : s.size ≤ 35 := by have := cnt_le h7; have : s.size = cnt n := by simpa using hl
                                omega
  have HM := Lib.hid (fun W => specMat n s (by omega) W)
  rw [h] at HM
  have HS := Lib.hid (fun t => (box_made w n s t).alloc (.cells #[] 3))
  have HRV : Hid (∀ set : Nat, set < 1024 → ∃ T : ByteArray, (∀ W, Calls Try.prog 50 #[sg n s, .int .i64 set] W fun e w' => e = .returned (sg n T) ∧ Below W.heap.size W w') ∧ (∀ W, Calls Try.prog 59 #[sg n T] W fun e w' => e = .returned (.bool (acS n s.data.toList set)) ∧ Below W.heap.size W w')) := Lib.hid (fun set hset =>
    ⟨_, fun W => l4Reverse_any n s set har hset W, fun W => by
      have := l4Acyclic_any n ⟨(text3 n (rvF n s.data.toList set)).toArray⟩ (by simpa using arB_text h3 h7 (rvF n s.data.toList set)) W
      rw [show ((⟨(text3 n (rvF n s.data.toList set)).toArray⟩ : ByteArray).data.toList) = text3 n (rvF n s.data.toList set) by simp, acS_spec har] at this
      exact this⟩)
  have HSL := Lib.hid (setsTo_length (acS n s.data.toList))
  have HH := Lib.hid (fun p => setsTo_hit (q := acS n s.data.toList) (p := p))
  have HMI := Lib.hid (fun p => setsTo_miss (q := acS n s.data.toList) (p := p))
  have h00 : Hid (setsTo (acS n s.data.toList) 0 = []) := Lib.hid rfl
  have hM := pow_le h7
  have hpc : ((2 ^ n : Nat) : Int) = 2 ^ n := by push_cast; rfl
  obtain ⟨M, hMe⟩ : ∃ M : Nat, M = 2 ^ n := ⟨_, rfl⟩
  rw [← hMe] at hM hpc ⊢
  have hpw : (2 : Int) ^ n = M := hpc.symm
  obtain ⟨i0, hi, hz0, hz1, hz2⟩ := info_parts infoI
  generalize acS n s.data.toList = q at HRV HSL HH HMI h00 ⊢
  clear h har hl hMe hpc
  go_enter Try.func23, Try.ntmps23
  obtain ⟨c0, c1, -⟩ := HS.out 25
  have hsz : (w.alloc (.cells #[.int .i64 n, .string s] 25)).heap.size = w.heap.size + 1 := by simp
  have HO0 : Hid (OwnsZ ((w.alloc (.cells #[.int .i64 n, .string s] 25)).alloc (.cells #[] 3)) (w.heap.size + 1) (.slice (some ⟨w.heap.size + 1, 0, none⟩) 0 0) []) := Lib.hid (by
    have := World.ownsRow_made (base := w.heap.size + 1) (e := 3) (size := 1) (w.alloc (.cells #[.int .i64 n, .string s] 25)) #[] 0 (by simp) (by decide) rfl
    rw [hsz] at this
    exact this)
  go_wp2_with fail
  refine (HM.out _).mono ?_
  rintro e w1 ⟨rfl, hb1⟩
  have X1 := Lib.hid ((HS.out _).on hb1)
  have HO1 : Hid (OwnsZ w1 (w.heap.size + 1) (.slice (some ⟨w.heap.size + 1, 0, none⟩) 0 0) (setsTo q 0)) := Lib.hid (by rw [h00.out]; exact ownsZ_on HO0.out hb1)
  have hle1 : w.heap.size + 1 ≤ w1.heap.size := by have := hb1.size; simp at this; omega
  clear hb1 c0 c1
  go_wp2
  go_loopw [3, 4] (fun vv c wr => ∃ p : Nat, p ≤ M ∧ c = .int .i64 p ∧ Hid (OwnsZ wr (w.heap.size + 1) vv (setsTo q p)) ∧ Hid (Below (w.heap.size + 1) w1 wr)) (fun _ c _ => M - (intOf c).toNat)
  case atStart => exact ⟨0, Nat.zero_le _, rfl, HO1, Lib.hid (Below.refl _ _)⟩
  case round =>
    obtain ⟨p, hp, rfl, HO, HB⟩ := hrel
    obtain ⟨c0, c1, Bw⟩ := X1.out.on' HB.out (by omega) hle1
    have hwr : w.heap.size + 1 ≤ wr.heap.size := Nat.le_trans hle1 HB.out.size
    by_cases hlt : p < M
    · have hpl := HSL.out p
      obtain ⟨T, hrv, hac⟩ := HRV.out p (by omega)
      have HRVp := Lib.hid hrv
      have HACp := Lib.hid hac
      clear hrv hac
      cases hq : q p
      · rw [hq] at HACp
        have HE := Lib.hid (HMI.out p hq)
        go_wp2_with fail
        refine (HRVp.out _).mono ?_
        rintro e w4 ⟨rfl, hb4⟩
        have HB4 := Lib.hid (HB.out.trans (hb4.mono hwr))
        have HO4 := Lib.hid (ownsZ_on HO.out hb4)
        have hw4 := hb4.size
        clear hb4
        go_wp2_with fail
        refine (HACp.out _).mono ?_
        rintro e w5 ⟨rfl, hb5⟩
        have HB5 := Lib.hid (HB4.out.trans (hb5.mono (by omega)))
        have HO5 := Lib.hid (ownsZ_on HO4.out hb5)
        rw [← HE.out] at HO5
        clear hb5 hq c0 c1
        go_wp2
        exact ⟨⟨p + 1, by omega, by go_num, HO5, HB5⟩, by simp only [intOf]; omega⟩
      · rw [hq] at HACp
        have HE := Lib.hid (HH.out p hq)
        go_wp2_with fail
        refine (HRVp.out _).mono ?_
        rintro e w4 ⟨rfl, hb4⟩
        have HB4 := Lib.hid (HB.out.trans (hb4.mono hwr))
        have HO4 := Lib.hid (ownsZ_on HO.out hb4)
        have hw4 := hb4.size
        clear hb4
        go_wp2_with fail
        refine (HACp.out _).mono ?_
        rintro e w5 ⟨rfl, hb5⟩
        have B5 := HB4.out.trans (hb5.mono (by omega))
        have HO5 := Lib.hid (ownsZ_on HO4.out hb5)
        have hle5 : w.heap.size + 1 ≤ w5.heap.size := by have := hb5.size; omega
        clear hb5 hq c0 c1
        go_wp2_with (at_builtin; refine wpList_append_own _ rfl (.tmp 22) (.tmp 24) 27 rfl (w.heap.size + 1) 3 i0 _ 1 8 Try.underlying27 hi hz0 hz1 hz2 rfl (by decide) _ _ _ rfl (World.ownsRow.alloc HO5.out _) ⟨_, 0, none⟩ 1 1 [.int .i64 (p : Int)] rfl rfl (news1 _ _ _) (one1 _) (by simp only [maxLen]; omega) (by omega) (by simp; omega) ?_)
        intro v6 w6 hown6 hg6 _
        have HB6 := Lib.hid ((B5.alloc hle5 (.cells #[.int .i64 (p : Int)] 3)).grown hg6 (by simp; omega) (fun k hk => (World.ownsRow.lt HO5.out k hk).1))
        have HO6 : Hid (OwnsZ w6 (w.heap.size + 1) v6 (setsTo q p ++ [(p : Int)])) := Lib.hid (ownsZ_snoc (ys := [(p : Int)]) hown6)
        rw [← HE.out] at HO6
        clear hown6 hg6 B5
        go_wp2
        exact ⟨⟨p + 1, by omega, by go_num, HO6, HB6⟩, by simp only [intOf]; omega⟩
    · obtain rfl : p = M := by omega
      obtain ⟨ra, rc, rfl, hnew, -⟩ := New.of_own HO.out
      have HRES := Lib.hid (⟨⟨ra, rc, rfl, by rcases hnew with h | ⟨b, h1, h2, h3⟩
                                              · exact .inl h
                                              · exact .inr ⟨b, h1, by omega, h3⟩⟩, Bw⟩ : Got w.heap.size (setsTo q p) (.returned (.slice ra (setsTo q p).length rc)) wr ∧ Below w.heap.size w wr)
      clear hnew
      go_wp2
      go_ret
      exact HRES.out
theorem setsZ_length (n : Int) (s : List UInt8) : (setsZ n s).length ≤ 128 := by
  cases h : matB n s
  · rw [setsZ_no h]; simp
  · unfold setsZ
    rw [if_pos h]
    obtain ⟨_, h7, -⟩ := arB_yes (matB_ar h)
    exact Nat.le_trans (setsTo_length _ _) (pow_le (by omega))
theorem implSets (n : Int) (s : ByteArray) (hs : s.size ≤ 9223372036854775807) (w : World) :
    Calls Try.prog 18 #[sg n s] w fun e w' => Got w.heap.size (setsZ n s.data.toList) e w' ∧ Below w.heap.size w w' := by
  cases h : matB n s.data.toList
  · rw [setsZ_no h]
    exact (implSets_no n s hs h w).mono fun e w' ⟨he, hb⟩ => ⟨⟨none, 0, he, Or.inl rfl⟩, hb⟩
  · obtain ⟨h3, -⟩ := arB_yes (matB_ar h)
    obtain ⟨m, rfl⟩ : ∃ m : Nat, n = m := ⟨n.toNat, by omega⟩
    rw [setsZ_yes h]
    exact implSets_yes m s h w
theorem specSets (n : Int) (s : ByteArray) (hs : s.size ≤ 9223372036854775807) (w : World) :
    Calls Try.prog 23 #[sg n s] w fun e w' => Got w.heap.size (setsZ n s.data.toList) e w' ∧ Below w.heap.size w w' := by
  cases h : matB n s.data.toList
  · rw [setsZ_no h]
    exact (specSets_no n s hs h w).mono fun e w' ⟨⟨a, c, he⟩, hb⟩ => ⟨⟨a, c, he, Or.inl rfl⟩, hb⟩
  · obtain ⟨h3, -⟩ := arB_yes (matB_ar h)
    obtain ⟨m, rfl⟩ : ∃ m : Nat, n = m := ⟨n.toNat, by omega⟩
    rw [setsZ_yes h]
    exact specSets_yes m s h w
theorem bothAcyclicSets (n : Int) (s : ByteArray) (hs : s.size ≤ 9223372036854775807) : ∃ ys : List Int, ys.length ≤ 1000 ∧
    (∀ W, Calls Try.prog 23 #[sg n s] W fun e w' => Got W.heap.size ys e w' ∧ Below W.heap.size W w') ∧
    (∀ W, Calls Try.prog 18 #[sg n s] W fun e w' => Got W.heap.size ys e w' ∧ Below W.heap.size W w') :=
  ⟨setsZ n s.data.toList, by have := setsZ_length n s.data.toList; omega, fun W => specSets n s hs W, fun W => implSets n s hs W⟩
set_option maxRecDepth 100000 in
set_option maxHeartbeats 1600000 in
theorem walkAcyclicSets (n : Int) (_ : -9223372036854775808 ≤ n ∧ n ≤ 9223372036854775807) (s : ByteArray) (hs : s.size ≤ 9223372036854775807) (w : World) :
    Calls Try.prog 9 #[sg n s] w fun e w' => e = .returned (.bool true) ∧ Below w.heap.size w w' := by
  have HS := Lib.hid (fun t => box_made w n s t)
  by_cases hz : (1048576 : Int) - s.size < 0
  · have z1 := left_neg (left := 1048576) hz
    go_enter Try.func9, Try.ntmps9
    go_wp2_with fail
    refine (sz_sg n s _ (by omega) (by omega) hs _).mono ?_
    rintro e w1 ⟨rfl, hb1⟩
    have B1 := ((HS.out _).on hb1).2.2
    go_wp2
    go_ret
    exact ⟨rfl, B1⟩
  · have z1 := left_pos (left := 1048576) (s := s) (by omega)
    obtain ⟨ys, hyl, hsp, him⟩ := bothAcyclicSets n s hs
    have HA := Lib.hid hsp
    have HI := Lib.hid him
    have hself2 : (((1 + ys.length : Nat) : Int) != ((1 + ys.length : Nat) : Int)) = false := by simp
    clear hsp him
    go_enter Try.func9, Try.ntmps9
    go_wp2_with fail
    refine (sz_sg n s _ (by omega) (by omega) hs _).mono ?_
    rintro e w1 ⟨rfl, hb1⟩
    have X1 := Lib.hid ((HS.out _).on hb1)
    obtain ⟨c1, c2, B1⟩ := X1.out
    go_wp2_with fail
    refine (to_sg n s _).mono ?_
    rintro e w2 ⟨rfl, hb2⟩
    have X2 := Lib.hid (X1.out.on hb2)
    clear c1 c2
    obtain ⟨c1, c2, B2⟩ := X2.out
    go_wp2_with fail
    refine (HA.out _).mono ?_
    rintro e w3 ⟨⟨a3, c3, rfl, hn3⟩, hb3⟩
    have X3 := Lib.hid (X2.out.on hb3)
    have S3 := Lib.hid hn3
    clear c1 c2 hn3
    obtain ⟨c1, c2, B3⟩ := X3.out
    go_wp2_with fail
    refine (to_sg n s _).mono ?_
    rintro e w4 ⟨rfl, hb4⟩
    have X4 := Lib.hid (X3.out.on hb4)
    have S4 := Lib.hid (S3.out.on hb4)
    clear c1 c2
    obtain ⟨c1, c2, B4⟩ := X4.out
    go_wp2_with fail
    refine (HI.out _).mono ?_
    rintro e w5 ⟨⟨a5, c5, rfl, hn5⟩, hb5⟩
    have X5 := Lib.hid (X4.out.on hb5)
    have S5 := Lib.hid (S4.out.on hb5)
    have G5 := Lib.hid hn5
    have B5 := X5.out.2.2
    clear c1 c2 hn5
    go_wp2_with fail
    refine (eq_new _ _ _ _ _ _ _ _ ys (by omega) _ G5.out S5.out).mono ?_
    rintro e w6 ⟨rfl, hb6⟩
    have X6 := Lib.hid (X5.out.on hb6)
    have S6 := Lib.hid (S5.out.on hb6)
    have G6 := Lib.hid (G5.out.on hb6)
    have B6 := X6.out.2.2
    go_wp2_with fail
    refine (mark_new _ _ _ _ _ _ (zc_int ys) (by omega) _ G6.out).mono ?_
    rintro e w7 ⟨rfl, hn7, ho7⟩
    have hs34 := hb4.size
    have hs23 := hb3.size
    have hs12 := B2.size
    have S7 := Lib.hid (S6.out.far ho7 (.inl hs34))
    have G7 := Lib.hid hn7
    have hlt : w.heap.size < w2.heap.size := Kit.cell_lt X2.out.1
    have X7 : Hid (Box w n s w7) := Lib.hid (by
      have hbk := ho7.block w.heap.size (Kit.cell_lt X6.out.1) (by omega)
      exact ⟨by rw [World.cell?_of_block (a := ⟨w.heap.size, 0, none⟩) hbk]; exact X6.out.1, by rw [World.cell?_of_block (a := ⟨w.heap.size, 1, none⟩) hbk]; exact X6.out.2.1, B6.trans (ho7.below (by omega) B6.size)⟩)
    clear hn7 ho7
    go_wp2_with fail
    refine (held_new _ _ _ _ _ _ (by omega) _ G7.out).mono ?_
    rintro e w' ⟨rfl, rfl⟩
    obtain ⟨c1, c2, B7⟩ := X7.out
    go_wp2_with fail
    refine (to_sg n s _).mono ?_
    rintro e w8 ⟨rfl, hb8⟩
    have X8 := Lib.hid (X7.out.on hb8)
    have S8 := Lib.hid (S7.out.on hb8)
    have G8 := Lib.hid (G7.out.on hb8)
    clear c1 c2
    go_wp2_with fail
    refine (HI.out _).mono ?_
    rintro e w9 ⟨⟨a9, c9, rfl, hn9⟩, hb9⟩
    have B9 := X8.out.2.2.trans (hb9.mono X8.out.2.2.size)
    have S9 := Lib.hid (S8.out.on hb9)
    have G9 := Lib.hid (G8.out.on hb9)
    have H9 := Lib.hid hn9
    clear hn9
    go_wp2_with fail
    refine (eq_new _ _ _ _ _ _ _ _ ys (by omega) _ H9.out S9.out).mono ?_
    rintro e w10 ⟨rfl, hb10⟩
    have B10 := B9.trans (hb10.mono B9.size)
    have G10 := Lib.hid (G9.out.on hb10)
    go_wp2_with fail
    refine (held_new _ _ _ _ _ _ (by omega) _ G10.out).mono ?_
    rintro e w' ⟨rfl, rfl⟩
    go_wp2
    go_ret
    exact ⟨rfl, B10⟩
end Go.Proofs.Ytdnbocmfgofhcaa.Sg
