/- AcyclicSets, as impl and spec answer it; the law. -/
import Derived.Test.YtdnbocmfgofhcaaRuAcLaw
import Derived.Test.YtdnbocmfgofhcaaRuElemImpl
namespace Go.Proofs.Ytdnbocmfgofhcaa.Sg
open Go.RowKit Pt NewI
theorem text3_bytes (n : Nat) (g : Nat → Nat → Nat → Int) : ∀ b ∈ text3 n g, b = 43 ∨ b = 45 := fun b hb => by
  unfold text3 at hb
  obtain ⟨t, -, rfl⟩ := List.mem_map.1 hb
  unfold byteOf
  split
  · exact .inl rfl
  · exact .inr rfl
theorem arB_text {n : Nat} (h3 : 3 ≤ n) (h7 : n ≤ 7) (g : Nat → Nat → Nat → Int) : arB n (text3 n g) = true := arB_of (by omega) (by omega) (by rw [text3_length h7, Int.toNat_natCast]) (text3_bytes n g)
theorem sgnF_text {n : Nat} (h3 : 3 ≤ n) (h7 : n ≤ 7) {g : Nat → Nat → Nat → Int} {i j k : Nat} (h1 : i < j) (h2 : j < k) (hk : k < n) (hg : g i j k = 1 ∨ g i j k = -1) : sgnF (lookS n (text3 n g)) i j k = g i j k := by
  rw [sgnF_asc (t := (i, j, k)) (arB_text h3 h7 g) (idx_get h7 h1 h2 hk), List.getD_eq_getElem?_getD]
  unfold text3
  rw [List.getElem?_map, idx_get h7 h1 h2 hk]
  simp only [Option.map_some, Option.getD_some]
  rcases hg with h | h <;> rw [h] <;> rfl
/-- Are the signs without a circuit of one kind after the elements of a set are reversed? -/
def acS (n : Nat) (s : List UInt8) (set : Nat) : Bool := acB (sgnF (revF set (lookS n s))) n
theorem acS_spec {n : Nat} {s : List UInt8} (h : arB n s = true) (set : Nat) : acB (sgnF (lookS n (text3 n (rvF n s set)))) n = acS n s set := by
  obtain ⟨h3, h7, -⟩ := arB_yes h
  have h3 : 3 ≤ n := by omega
  have h7 : n ≤ 7 := by omega
  refine acB_congr h7 fun i j k h1 h2 hk => ?_
  have h0 := sgn_one h (show i < n by omega) (show j < n by omega) hk (show i ≠ j by omega) (show j ≠ k by omega) (show i ≠ k by omega)
  rw [sgnF_text h3 h7 h1 h2 hk (by unfold rvF; split <;> omega), sgnF_rev h1 h2]
  unfold rvF
  rw [sgnF_plain h1 h2]
/-- The sets among the first p. -/
def setsTo (q : Nat → Bool) (p : Nat) : List Int := ((List.range p).filter q).map fun (x : Nat) => (x : Int)
theorem setsTo_hit {q : Nat → Bool} {p : Nat} (h : q p = true) : setsTo q (p + 1) = setsTo q p ++ [(p : Int)] := by unfold setsTo; rw [List.range_succ, List.filter_append, List.map_append]; simp [h]
theorem setsTo_miss {q : Nat → Bool} {p : Nat} (h : q p = false) : setsTo q (p + 1) = setsTo q p := by unfold setsTo; rw [List.range_succ, List.filter_append, List.map_append]; simp [h]
theorem setsTo_length (q : Nat → Bool) (p : Nat) : (setsTo q p).length ≤ p := by unfold setsTo; rw [List.length_map]; exact Nat.le_trans (List.length_filter_le _ _) (by simp)
/-- What AcyclicSets answers. -/
def setsZ (n : Int) (s : List UInt8) : List Int := if matB n s = true then setsTo (acS n.toNat s) (2 ^ n.toNat) else []
theorem setsZ_no {n : Int} {s : List UInt8} (h : matB n s = false) : setsZ n s = [] := by unfold setsZ; rw [h]; rfl
theorem setsZ_yes {n : Nat} {s : List UInt8} (h : matB n s = true) : setsZ n s = setsTo (acS n s) (2 ^ n) := by unfold setsZ; rw [if_pos h, Int.toNat_natCast]
theorem ownsZ_on {w w' : World} {B : Nat} {v : Value} {zs : List Int} (h : OwnsZ w B v zs) (hb : Below w.heap.size w w') : OwnsZ w' B v zs :=
  World.ownsRow.kept h (row := none) ⟨hb.os, hb.tape, hb.output, hb.size, fun k hk _ => hb.block k hk⟩ (by cases v.ownBlock <;> simp)
theorem pow_le {n : Nat} (h7 : n ≤ 7) : 2 ^ n ≤ 128 := by
  rcases (by omega : n = 0 ∨ n = 1 ∨ n = 2 ∨ n = 3 ∨ n = 4 ∨ n = 5 ∨ n = 6 ∨ n = 7) with rfl | rfl | rfl | rfl | rfl | rfl | rfl | rfl <;> decide
set_option maxHeartbeats 1600000 in
set_option maxRecDepth 100000 in
theorem implSets_no (n : Int) (s : ByteArray) (hs : s.size ≤ 9223372036854775807) (h : matB n s.data.toList = false) (w : World) :
    Calls Try.prog 18 #[sg n s] w fun e w' => e = .returned (.slice none 0 0) ∧ Below w.heap.size w w' := by
  have HM := Lib.hid (fun W => implMat n s hs W)
  rw [h] at HM
  have HS := Lib.hid (fun t => box_made w n s t)
  clear h
  go_enter Try.func18, Try.ntmps18
  go_wp2_with fail
  refine (HM.out _).mono ?_
  rintro e w1 ⟨rfl, hb1⟩
  have B1 := ((HS.out _).on hb1).2.2
  go_wp2
  go_ret
  exact ⟨rfl, B1⟩
set_option maxHeartbeats 1600000 in
set_option maxRecDepth 100000 in
theorem specSets_no (n : Int) (s : ByteArray) (hs : s.size ≤ 9223372036854775807) (h : matB n s.data.toList = false) (w : World) :
    Calls Try.prog 23 #[sg n s] w fun e w' => (∃ a c, e = .returned (.slice a 0 c)) ∧ Below w.heap.size w w' := by
  have HM := Lib.hid (fun W => specMat n s hs W)
  rw [h] at HM
  have HS := Lib.hid (fun t => (box_made w n s t).alloc (.cells #[] 3))
  clear h
  go_enter Try.func23, Try.ntmps23
  obtain ⟨c0, c1, -⟩ := HS.out 25
  go_wp2_with fail
  refine (HM.out _).mono ?_
  rintro e w1 ⟨rfl, hb1⟩
  have B1 := ((HS.out _).on hb1).2.2
  go_wp2
  go_ret
  exact ⟨⟨_, _, rfl⟩, B1⟩
set_option maxHeartbeats 3200000 in
set_option maxRecDepth 100000 in
theorem implSets_yes (n : Nat) (s : ByteArray) (h : matB n s.data.toList = true) (w : World) :
    Calls Try.prog 18 #[sg n s] w fun e w' => Got w.heap.size (setsTo (acS n s.data.toList) (2 ^ n)) e w' ∧ Below w.heap.size w w' := by
  have har := matB_ar h
  obtain ⟨h3, h7, hl, -⟩ := arB_yes har
  have h3 : 3 ≤ n := by omega
  have h7 : n ≤ 7 := by omega
  have hs35 : s.size ≤ 35 := by have := cnt_le h7; have : s.size = cnt n := by simpa using hl
                                omega
  have HM := Lib.hid (fun W => implMat n s (by omega) W)
  rw [h] at HM
  have HS := Lib.hid (fun t => box_made w n s t)
  have HMO := Lib.hid (fun W => mapOf_k n s (by omega) W)
  have HQ : Hid (∀ set, acB (sgnF (revF set (lookS n s.data.toList))) n = acS n s.data.toList set) := Lib.hid (fun _ => rfl)
  have HSL := Lib.hid (setsTo_length (acS n s.data.toList))
  have HH := Lib.hid (fun p => setsTo_hit (q := acS n s.data.toList) (p := p))
  have HMI := Lib.hid (fun p => setsTo_miss (q := acS n s.data.toList) (p := p))
  have h00 : Hid (setsTo (acS n s.data.toList) 0 = []) := Lib.hid rfl
  have hM := pow_le h7
  have hpc : ((2 ^ n : Nat) : Int) = 2 ^ n := by push_cast; rfl
  obtain ⟨M, hMe⟩ : ∃ M : Nat, M = 2 ^ n := ⟨_, rfl⟩
  rw [← hMe] at hM hpc ⊢
  have hpw : (2 : Int) ^ n = M := hpc.symm
  have hwq : IntKind.i64.wrap ((2 : Int) ^ n) = M := by rw [hpw]; exact IntWalk.i64_in _ (by omega)
  obtain ⟨i0, hi, hz0, hz1, hz2⟩ := info_parts infoI
  generalize acS n s.data.toList = q at HQ HSL HH HMI h00 ⊢
  clear h har hl hMe hpc
  go_enter Try.func18, Try.ntmps18
  go_wp2_with fail
  refine (HM.out _).mono ?_
  rintro e w1 ⟨rfl, hb1⟩
  have X1 := Lib.hid ((HS.out _).on hb1)
  obtain ⟨c0, c1, B1⟩ := X1.out
  clear hb1
  go_wp2_with fail
  refine (HMO.out _).mono ?_
  rintro e w2 ⟨mb, rfl, -, hm2, hb2⟩
  have X2 := Lib.hid (X1.out.on hb2)
  have M2 := Lib.hid hm2
  obtain ⟨c2, c3, B2⟩ := X2.out
  clear hb2 hm2 c0 c1
  go_wp2_with fail
  refine (foursOf_any n h3 h7 _).mono ?_
  rintro e w3 ⟨v, rfl, hv, hb3⟩
  obtain ⟨fa, fc, rfl, hrow⟩ := owns4_row hv
  have X3 := Lib.hid (X2.out.on hb3)
  have M3 := Lib.hid (M2.out.on hb3)
  have HR3 : Hid (Row4 w3 fa (fours n)) := Lib.hid (fun hne => by obtain ⟨g, h1, _, h2, h4⟩ := hrow hne; exact ⟨g, h1, h2, h4⟩)
  obtain ⟨c4, c5, B3⟩ := X3.out
  clear hb3 hv hrow c2 c3
  have HO0 : Hid (OwnsZ w3 w3.heap.size (.slice none 0 0) (setsTo q 0)) := Lib.hid (by rw [h00.out]; exact World.ownsRow_nil _ _ _ _)
  go_wp2
  go_loopw [5, 18] (fun vv c wr => ∃ p : Nat, p ≤ M ∧ c = .int .i64 p ∧ Hid (OwnsZ wr w3.heap.size vv (setsTo q p)) ∧ Hid (Below w3.heap.size w3 wr)) (fun _ c _ => M - (intOf c).toNat)
  case atStart => exact ⟨0, Nat.zero_le _, rfl, HO0, Lib.hid (Below.refl _ _)⟩
  case round =>
    obtain ⟨p, hp, rfl, HO, HB⟩ := hrel
    by_cases hlt : p < M
    · have hpl := HSL.out p
      have HQp := Lib.hid (HQ.out p)
      cases hq : q p
      · rw [hq] at HQp
        have HE := Lib.hid (HMI.out p hq)
        go_wp2_with fail
        refine (reversed_any mb p (lookS n s.data.toList) (by omega) _ (M3.out.on HB.out)).mono ?_
        rintro e w4 ⟨b', rfl, -, hm4, hb4⟩
        have HB4 := Lib.hid (HB.out.trans (hb4.mono HB.out.size))
        have HO4 := Lib.hid (ownsZ_on HO.out hb4)
        have HM4 := Lib.hid hm4
        clear hm4 hb4
        go_wp2_with fail
        refine (isAcyclic_any b' _ n h7 fa fc _ HM4.out (HR3.out.on HB4.out)).mono ?_
        rw [HQp.out]
        rintro e w5 ⟨rfl, hb5⟩
        have HB5 := Lib.hid (HB4.out.trans (hb5.mono HB4.out.size))
        have HO5 := Lib.hid (ownsZ_on HO4.out hb5)
        rw [← HE.out] at HO5
        clear hb5 hq
        go_wp2
        exact ⟨⟨p + 1, by omega, by go_num, HO5, HB5⟩, by simp only [intOf]; omega⟩
      · rw [hq] at HQp
        have HE := Lib.hid (HH.out p hq)
        go_wp2_with fail
        refine (reversed_any mb p (lookS n s.data.toList) (by omega) _ (M3.out.on HB.out)).mono ?_
        rintro e w4 ⟨b', rfl, -, hm4, hb4⟩
        have HB4 := Lib.hid (HB.out.trans (hb4.mono HB.out.size))
        have HO4 := Lib.hid (ownsZ_on HO.out hb4)
        have HM4 := Lib.hid hm4
        clear hm4 hb4
        go_wp2_with fail
        refine (isAcyclic_any b' _ n h7 fa fc _ HM4.out (HR3.out.on HB4.out)).mono ?_
        rw [HQp.out]
        rintro e w5 ⟨rfl, hb5⟩
        have B5 := HB4.out.trans (hb5.mono HB4.out.size)
        have HO5 := Lib.hid (ownsZ_on HO4.out hb5)
        have hle5 := B5.size
        clear hb5 hq
        go_wp2_with (at_builtin; refine wpList_append_own _ rfl (.tmp 26) (.tmp 28) 27 rfl w3.heap.size 3 i0 _ 1 8 Try.underlying27 hi hz0 hz1 hz2 rfl (by decide) _ _ _ rfl (World.ownsRow.alloc HO5.out _) ⟨_, 0, none⟩ 1 1 [.int .i64 (p : Int)] rfl rfl (news1 _ _ _) (one1 _) (by simp only [maxLen]; omega) (by omega) (by simp; omega) ?_)
        intro v6 w6 hown6 hg6 _
        have HB6 := Lib.hid ((B5.alloc hle5 (.cells #[.int .i64 (p : Int)] 3)).grown hg6 (by simp; omega) (fun k hk => (World.ownsRow.lt HO5.out k hk).1))
        have HO6 : Hid (OwnsZ w6 w3.heap.size v6 (setsTo q p ++ [(p : Int)])) := Lib.hid (ownsZ_snoc (ys := [(p : Int)]) hown6)
        rw [← HE.out] at HO6
        clear hown6 hg6 B5
        go_wp2
        exact ⟨⟨p + 1, by omega, by go_num, HO6, HB6⟩, by simp only [intOf]; omega⟩
    · obtain rfl : p = M := by omega
      obtain ⟨ra, rc, rfl, hnew, -⟩ := New.of_own HO.out
      have HRES := Lib.hid (⟨⟨ra, rc, rfl, by rcases hnew with h | ⟨b, h1, h2, h3⟩
                                              · exact .inl h
                                              · exact .inr ⟨b, h1, by have := B3.size; omega, h3⟩⟩, B3.trans (HB.out.mono B3.size)⟩ : Got w.heap.size (setsTo q p) (.returned (.slice ra (setsTo q p).length rc)) wr ∧ Below w.heap.size w wr)
      clear hnew
      go_wp2
      go_ret
      exact HRES.out
end Go.Proofs.Ytdnbocmfgofhcaa.Sg
