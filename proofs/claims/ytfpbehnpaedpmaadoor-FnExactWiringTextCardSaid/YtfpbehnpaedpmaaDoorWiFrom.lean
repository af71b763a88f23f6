/- Wirings, as spec tells them: WiringFrom. -/
import Derived.Test.YtfpbehnpaedpmaaDoorWiSwapsOf
import Derived.Test.YtfpbehnpaedpmaaDoorWiPlace
import Derived.BigQuiet
import Derived.Deep.OwnRows
namespace Go.Proofs.YtfpbehnpaedpmaaDoor.Sg
open Go.RowKit Pt NewI Wi
/-- A slice of slices, or a part of one, all ahead of B. -/
def SrcLL (w : World) (B : Nat) (a : Option Addr) (S : List (List Int)) : Prop := ∀ j, j < S.length → ∃ b o ra rc, a = some ⟨b, o, none⟩ ∧ b < B ∧ w.cell? ⟨b, o + j, none⟩ = some (.slice ra (S.getD j []).length rc) ∧ SrcZ w B ra (S.getD j [])
theorem SrcLL.on {w w' : World} {B : Nat} {a : Option Addr} {S : List (List Int)} (h : SrcLL w B a S) (hb : Below B w w') : SrcLL w' B a S := fun j hj => by
  obtain ⟨b, o, ra, rc, h1, h2, h3, h4⟩ := h j hj
  exact ⟨b, o, ra, rc, h1, h2, by rw [hb.cell h2]; exact h3, h4.on hb⟩
theorem wf1_len {L : List Nat} {s : List Int} (h : s.length ≠ 2) : wf1 L s = none := by
  unfold wf1
  rw [if_neg (fun c => h c.1)]
theorem wf1_ge {L : List Nat} {s : List Int} (h : ¬ s.getD 0 0 < s.getD 1 0) : wf1 L s = none := by
  unfold wf1
  rw [if_neg (fun c => h c.2)]
theorem plZ_cases (L : List Nat) (x : Int) : (plZ L x = -1 ∧ L.findIdx? (fun a : Nat => decide ((a : Int) = x)) = none) ∨ ∃ p : Nat, plZ L x = p ∧ L.findIdx? (fun a : Nat => decide ((a : Int) = x)) = some p ∧ p < L.length ∧ (L.getD p 0 : Int) = x := by
  unfold plZ
  cases h : L.findIdx? (fun a : Nat => decide ((a : Int) = x)) with
  | none => exact .inl ⟨rfl, rfl⟩
  | some p =>
    obtain ⟨h1, h2, -⟩ := List.findIdx?_eq_some_iff_getElem.1 h
    refine .inr ⟨p, rfl, rfl, h1, ?_⟩
    rw [List.getD_eq_getElem?_getD, List.getElem?_eq_getElem h1]
    exact of_decide_eq_true h2
theorem wf1_no {L : List Nat} {s : List Int} (h : L.findIdx? (fun a : Nat => decide ((a : Int) = s.getD 0 0)) = none) : wf1 L s = none := by
  unfold wf1
  rw [h]
  split <;> rfl
theorem wf1_not {L : List Nat} {s : List Int} {p : Nat} (h : L.findIdx? (fun a : Nat => decide ((a : Int) = s.getD 0 0)) = some p) (hn : ¬ (p + 1 < L.length ∧ (L.getD (p + 1) 0 : Int) = s.getD 1 0)) : wf1 L s = none := by
  unfold wf1
  rw [h]
  split
  · simp only []
    rw [if_neg hn]
  · rfl
theorem wf1_yes {L : List Nat} {s : List Int} {p : Nat} (hl : s.length = 2) (hlt : s.getD 0 0 < s.getD 1 0) (h : L.findIdx? (fun a : Nat => decide ((a : Int) = s.getD 0 0)) = some p) (hy : p + 1 < L.length ∧ (L.getD (p + 1) 0 : Int) = s.getD 1 0) : wf1 L s = some p := by
  unfold wf1
  rw [if_pos ⟨hl, hlt⟩, h]
  simp only []
  rw [if_pos hy]
theorem takeS {S : List (List Int)} {k : Nat} (h : k < S.length) : S.take (k + 1) = S.take k ++ [S.getD k []] := by
  rw [List.take_add_one, List.getElem?_eq_getElem h, List.getD_eq_getElem?_getD, List.getElem?_eq_getElem h]; rfl
theorem wf_next {L : List Nat} {S : List (List Int)} {k : Nat} {u : List Nat} (hk : k < S.length) (h : wf L (S.take k) = some u) : wf L (S.take (k + 1)) = (wf1 (act L u) (S.getD k [])).map fun p => u ++ [p] := by
  rw [takeS hk, wf_snoc, h]
  rfl
theorem wf_stop {L : List Nat} {S : List (List Int)} {k : Nat} {u : List Nat} (hk : k < S.length) (h : wf L (S.take k) = some u) (h1 : wf1 (act L u) (S.getD k []) = none) : wf L S = none := by
  have e := wf_next hk h
  rw [h1] at e
  have := wf_none L (S.take (k + 1)) (S.drop (k + 1)) e
  rwa [List.take_append_drop] at this
theorem act_snoc (L u : List Nat) (p : Nat) : act L (u ++ [p]) = swp (act L u) p := by rw [act_append]; rfl
theorem ownsZ_up {w w' : World} {B : Nat} {v : Value} {zs : List Int} (h : OwnsZ w B v zs) (hb : Below w.heap.size w w') : OwnsZ w' B v zs :=
  World.ownsRow.kept h (row := none) ⟨hb.os, hb.tape, hb.output, hb.size, fun k hk _ => hb.block k hk⟩ (by cases v.ownBlock <;> simp)
theorem ownsZ_apart {w w' : World} {B b : Nat} {v : Value} {zs : List Int} (h : OwnsZ w B v zs) (ho : Out b (b + 1) w w') (hn : ∀ q, v.ownBlock = some q → q ≠ b) : OwnsZ w' B v zs :=
  World.ownsRow.kept h (row := some b) ⟨ho.os, ho.tape, ho.output, ho.size, fun k hk hne => ho.block k hk (fun e => hne (by congr 1; omega))⟩ (by
    cases hb : v.ownBlock with
    | none => exact .inl rfl
    | some q => exact .inr (fun e => hn q hb (by injection e)))
/-- What WiringFrom hands back. -/
def wfA (R : Option (List Nat)) : List Int := wl (R.getD [])
set_option maxHeartbeats 6400000 in
set_option maxRecDepth 100000 in
theorem specWiringFrom (n : Int) (a : Option Addr) (c : Nat) (S : List (List Int)) (_hl : S.length ≤ 1048576) (hsl : ∀ j, j < S.length → (S.getD j []).length ≤ 1048576) (w : World) (hs : SrcLL w w.heap.size a S) :
    Calls Tryd.prog 12 #[.int .i64 n, .slice a S.length c] w fun e w' => Got2Z w.heap.size (wfA (wfZ n S)) (wfZ n S).isSome e w' ∧ Below w.heap.size w w' := by
  have HIN := Lib.hid (fun W => l1In_q n 3 6 W)
  cases h36 : inB n 3 6
  · have e : wfZ n S = none := by unfold wfZ; rw [if_neg (by rw [h36]; simp)]
    rw [e]
    rw [h36] at HIN
    clear e h36 hs
    go_enter Tryd.func12, Tryd.ntmps12
    go_wp2_with fail
    refine (HIN.out _).mono ?_
    rintro e w1 ⟨rfl, rfl⟩
    go_wp2
    go_ret2
    exact ⟨⟨_, _, rfl, .inl rfl⟩, (Below.refl _ _).alloc (Nat.le_refl _) _⟩
  rw [h36] at HIN
  obtain ⟨h3, h6⟩ := inB_mem h36
  obtain ⟨m, rfl⟩ : ∃ m : Nat, n = m := ⟨n.toNat, by omega⟩
  obtain ⟨N, hN⟩ : ∃ N, N = m * (m - 1) / 2 := ⟨_, rfl⟩
  have hNb : N ≤ 15 := by
    rw [hN]
    have : ∀ m, m < 7 → m * (m - 1) / 2 ≤ 15 := by decide
    exact this m (by omega)
  have vP : IntKind.i64.wrap ((m : Int) * ((m : Int) - 1)) = ((2 * N : Nat) : Int) := by
    rw [hN]
    rcases (by omega : m = 3 ∨ m = 4 ∨ m = 5 ∨ m = 6) with rfl | rfl | rfl | rfl <;> decide +kernel
  by_cases hlen : ¬ S.length = N
  · have e : wfZ m S = none := by unfold wfZ; rw [if_neg (by rw [Int.toNat_natCast, ← hN]; exact fun c => hlen c.2)]
    have hne : (((S.length : Nat) : Int) != ((N : Nat) : Int)) = true := by rw [bne_iff_ne]; omega
    rw [e]
    clear e h36 hs hN hlen
    go_enter Tryd.func12, Tryd.ntmps12
    go_wp2_with fail
    refine (HIN.out _).mono ?_
    rintro e w1 ⟨rfl, rfl⟩
    go_wp2
    go_ret2
    exact ⟨⟨_, _, rfl, .inl rfl⟩, (Below.refl _ _).alloc (Nat.le_refl _) _⟩
  have hlen : S.length = N := Classical.not_not.1 hlen
  have HE : Hid (wfZ m S = wf (List.range m) S) := Lib.hid (by unfold wfZ; rw [if_pos ⟨h36, by rw [Int.toNat_natCast, ← hN]; exact hlen⟩, Int.toNat_natCast])
  rw [HE.out]
  have hne : (((S.length : Nat) : Int) != ((N : Nat) : Int)) = false := by rw [hlen]; simp
  obtain ⟨i0, hi, hz0, hz1, hz2⟩ := info_parts infoI
  have HST := Lib.hid (fun W => l12Start_any m (by omega) W)
  have HSW := Lib.hid (fun b c L p hm hL W h => l12Swap_any b m c L p hm (by omega) (by omega) hL W h)
  have HPL := Lib.hid (fun b c L x hm W h => l12Place_any b m c L x hm (by omega) W h)
  have HSRC := Lib.hid (fun W (hW : Below w.heap.size w W) => hs.on hW)
  have HW0 : Hid (wf (List.range m) (S.take 0) = some []) := Lib.hid rfl
  have HWA : Hid (wf (List.range m) (S.take S.length) = wf (List.range m) S) := Lib.hid (by rw [List.take_length])
  have HWN := Lib.hid (fun k u (hk : k < S.length) h => wf_next (L := List.range m) (S := S) (k := k) (u := u) hk h)
  have HWS := Lib.hid (fun k u (hk : k < S.length) h h1 => wf_stop (L := List.range m) (S := S) (k := k) (u := u) hk h h1)
  have HSL := Lib.hid hsl
  generalize hR : wf (List.range m) S = R at HWA HWS ⊢
  have HLN := Lib.hid hlen
  rw [hlen] at hne ⊢
  clear hs h36 HE hsl hR hlen hN
  go_enter Tryd.func12, Tryd.ntmps12
  go_wp2_with fail
  refine (HIN.out _).mono ?_
  rintro e w1 ⟨rfl, rfl⟩
  have HO0 : Hid (OwnsZ (w1.alloc (.cells #[] 3)) w1.heap.size (.slice (some ⟨w1.heap.size, 0, none⟩) 0 0) (wl [])) := Lib.hid (World.ownsRow_made (base := w1.heap.size) (e := 3) (size := 1) w1 #[] 0 (Nat.le_refl _) (by decide) rfl)
  have HB0 := Lib.hid ((Below.refl w1.heap.size w1).alloc (Nat.le_refl _) (.cells #[] 3))
  go_wp2_with fail
  refine (HST.out _).mono ?_
  rintro e w2 ⟨⟨v, rfl, hO⟩, hb2⟩
  have hm1 : (wl (List.range m)).length = m := by rw [wl_length, List.length_range]
  have HB2 := Lib.hid (HB0.out.trans (hb2.mono HB0.out.size))
  have HO2 := Lib.hid (ownsZ_up HO0.out hb2)
  obtain ⟨a1, cw, rfl, hnw, -⟩ := New.of_own hO
  rw [hm1] at hnw ⊢
  rcases hnw with h0 | ⟨bw, rfl, hlo, hhi, hC⟩
  · omega
  have HC2 := Lib.hid hC
  have hbw : w1.heap.size < bw := by have : w1.heap.size < (w1.alloc (.cells #[] 3)).heap.size := by simp
                                     omega
  clear hO hb2 hC HST hm1 HO0 HIN HB0
  go_wp2
  have HNE2 : Hid (∀ q, (Value.slice (some ⟨w1.heap.size, 0, none⟩) 0 0).ownBlock = some q → q ≠ bw) := Lib.hid (fun q hq => by
    obtain rfl : w1.heap.size = q := by simpa [Value.ownBlock] using hq
    omega)
  have HA0 : Hid (act (List.range m) [] = List.range m) := Lib.hid rfl
  go_loopw [6, 8] (fun vv x wr => ∃ (k : Nat) (u : List Nat), k ≤ N ∧ x = .int .i64 k ∧ Hid (wf (List.range m) (S.take k) = some u) ∧ (act (List.range m) u).Nodup ∧ (act (List.range m) u).length = m ∧ u.length = k ∧ Hid (OwnsZ wr w1.heap.size vv (wl u)) ∧ Hid (∀ q, vv.ownBlock = some q → q ≠ bw) ∧ Hid (Cells wr bw m (zc (wl (act (List.range m) u)))) ∧ Hid (Below w1.heap.size w1 wr)) (fun _ x _ => N - (intOf x).toNat)
  case atStart => exact ⟨0, [], Nat.zero_le _, rfl, HW0, by rw [HA0.out]; exact List.nodup_range, by rw [HA0.out]; exact List.length_range, rfl, HO2, HNE2, by rw [HA0.out]; exact HC2, HB2⟩
  case round =>
    obtain ⟨k, u, hk, rfl, HWF, hnd, hlL, hul, HO, HNE, HC, HB⟩ := hrel
    by_cases hlt : k < N
    · have hkl : k < S.length := by have := HLN.out; omega
      obtain ⟨b, o, ra, rc, rfl, hbb, hcs, hsz⟩ := HSRC.out _ HB.out k hkl
      have HNX := Lib.hid (HWN.out k u hkl HWF.out)
      have HSTP := Lib.hid (fun h => HWS.out k u hkl HWF.out h)
      have HSZ := Lib.hid hsz
      have hbr := HB.out.size
      obtain ⟨L, hL⟩ : ∃ L, L = act (List.range m) u := ⟨_, rfl⟩
      have HLD := Lib.hid hL
      rw [← hL] at hnd hlL HC HNX HSTP
      generalize S.getD k [] = s at hcs HSZ HNX HSTP
      by_cases hs2 : ¬ s.length = 2
      · have HEN : Hid (R = none) := Lib.hid (HSTP.out (wf1_len hs2))
        have hq : (((s.length : Nat) : Int) != 2) = true := by rw [bne_iff_ne]; omega
        clear hsz hL
        go_wp2
        go_quiet (fail)
        go_wp2
        go_ret2
        exact ⟨by rw [HEN.out]; exact ⟨_, _, rfl, .inl rfl⟩, (drewN_below HB.out _).alloc hbr _⟩
      · have hs2 : s.length = 2 := Classical.not_not.1 hs2
        obtain ⟨x, y, rfl⟩ : ∃ x y, s = [x, y] := by
          rcases s with _ | ⟨x, _ | ⟨y, _ | ⟨z, t⟩⟩⟩
          · simp at hs2
          · simp at hs2
          · exact ⟨x, y, rfl⟩
          · simp at hs2
        obtain ⟨b2, o2, rfl, hb2, hx⟩ := HSZ.out 0 (by simp)
        obtain ⟨b3, o3, e3, -, hy⟩ := HSZ.out 1 (by simp)
        injection e3 with e3
        injection e3 with e3 e4
        subst e3 e4
        have hx : wr.cell? ⟨b2, o2, none⟩ = some (.int .i64 x) := hx
        have hy : wr.cell? ⟨b2, o2 + 1, none⟩ = some (.int .i64 y) := hy
        have hq : ((((2 : Nat) : Int)) != 2) = false := by decide
        have hcs : wr.cell? ⟨b, o + k, none⟩ = some (.slice (some ⟨b2, o2, none⟩) 2 rc) := hcs
        by_cases hxy : ¬ x < y
        · have HEN : Hid (R = none) := Lib.hid (HSTP.out (wf1_ge hxy))
          have hg : decide (x ≥ y) = true := decide_eq_true (by omega)
          clear hsz hL hs2
          go_wp2
          go_quiet (fail)
          go_wp2
          go_ret2
          exact ⟨by rw [HEN.out]; exact ⟨_, _, rfl, .inl rfl⟩, (drewN_below HB.out _).alloc hbr _⟩
        · have hxy : x < y := Classical.not_not.1 hxy
          have hg : decide (x ≥ y) = false := decide_eq_false (by omega)
          have HPC := Lib.hid (plZ_cases L x)
          have HPW := Lib.hid (fun W h => HPL.out bw cw L x hlL W h)
          generalize plZ L x = r at HPC HPW
          clear hsz hs2 hL
          go_wp2
          go_quiet (fail)
          go_wp2_with fail
          refine (HPW.out _ (HC.out.on (drewN_below (Below.refl _ _) _))).mono ?_
          rintro e w3 ⟨rfl, rfl⟩
          rcases HPC.out with ⟨rfl, hno⟩ | ⟨p, rfl, hp, hpm, hpx⟩
          · have HEN : Hid (R = none) := Lib.hid (HSTP.out (wf1_no hno))
            clear hno
            go_wp2
            go_quiet (fail)
            go_wp2
            go_ret2
            exact ⟨by rw [HEN.out]; exact ⟨_, _, rfl, .inl rfl⟩, (drewN_below HB.out _).alloc hbr _⟩
          · have hp0 : decide ((p : Int) < 0) = false := decide_eq_false (by omega)
            obtain ⟨Q, hQ⟩ : ∃ Q, Q = p + 1 := ⟨_, rfl⟩
            have vq : IntKind.i64.wrap ((p : Int) + 1) = (Q : Int) := by rw [IntWalk.i64_in _ (by omega)]; omega
            by_cases hQm : ¬ Q < m
            · have HEN : Hid (R = none) := Lib.hid (HSTP.out (wf1_not hp (fun c => hQm (by omega))))
              have hqm : decide ((Q : Int) ≥ (m : Int)) = true := decide_eq_true (by omega)
              clear hp hQ hpx
              go_wp2
              go_quiet (fail)
              go_wp2
              go_ret2
              exact ⟨by rw [HEN.out]; exact ⟨_, _, rfl, .inl rfl⟩, (drewN_below HB.out _).alloc hbr _⟩
            · have hQm : Q < m := Classical.not_not.1 hQm
              have hqm : decide ((Q : Int) ≥ (m : Int)) = false := decide_eq_false (by omega)
              have hcq := HC.out.cell Q hQm
              rw [zc_wl] at hcq
              by_cases hyq : ¬ ((L.getD Q 0 : Nat) : Int) = y
              · have HEN : Hid (R = none) := Lib.hid (HSTP.out (wf1_not hp (fun c => hyq (by rw [hQ]; exact c.2))))
                have hyb : ((((L.getD Q 0 : Nat) : Int)) != y) = true := bne_iff_ne.2 hyq
                generalize ((L.getD Q 0 : Nat) : Int) = v at hcq hyb
                clear hp hQ hpx hyq
                go_wp2
                go_quiet (fail)
                go_wp2
                go_ret2
                exact ⟨by rw [HEN.out]; exact ⟨_, _, rfl, .inl rfl⟩, (drewN_below HB.out _).alloc hbr _⟩
              · have hyq : ((L.getD Q 0 : Nat) : Int) = y := Classical.not_not.1 hyq
                have HN3 : Hid (wf (List.range m) (S.take (k + 1)) = some (u ++ [p])) := Lib.hid (by
                  rw [HNX.out, wf1_yes (s := [x, y]) rfl hxy hp ⟨by omega, by rw [← hQ]; exact hyq⟩]
                  rfl)
                have hyb : ((((L.getD Q 0 : Nat) : Int)) != y) = false := by rw [hyq]; simp
                have hsw : swB L (p : Int) = true := by
                  unfold swB
                  rw [Int.toNat_natCast]
                  refine decide_eq_true ⟨by omega, by omega, ?_⟩
                  rw [← hQ]
                  have hx0 : ([x, y] : List Int).getD 0 0 = x := rfl
                  omega
                have HSD : Hid (swD L (p : Int) = act (List.range m) (u ++ [p])) := Lib.hid (by unfold swD; rw [hsw, act_snoc, ← HLD.out]; rfl)
                have hnd3 : (act (List.range m) (u ++ [p])).Nodup := by rw [← HSD.out]; exact swD_nodup hnd _
                have hlL3 : (act (List.range m) (u ++ [p])).length = m := by rw [← HSD.out, swD_len, hlL]
                have hul3 : (u ++ [p]).length = k + 1 := by rw [List.length_append, hul]; rfl
                have hwu : (wl u).length = k := by rw [wl_length, hul]
                generalize ((L.getD Q 0 : Nat) : Int) = v at hcq hyb
                clear hp hQ hpx hyq hsw
                go_wp2
                go_quiet (fail)
                go_wp2_with fail
                refine (HSW.out bw cw L (p : Int) hlL hnd _ (HC.out.on (drewN_below (Below.refl _ _) _))).mono ?_
                rintro e w4 ⟨rfl, hC4, hO4⟩
                rw [HSD.out] at hC4
                have HC4 := Lib.hid hC4
                have HO4 := Lib.hid (ownsZ_apart (ownsZ_up HO.out (drewN_below (Below.refl _ _) _)) hO4 HNE.out)
                have HB4 := Lib.hid ((drewN_below HB.out _).trans (hO4.below (by omega) hbr))
                have hbw4 : bw < w4.heap.size := HC4.out.lt
                have hw4 := HB4.out.size
                clear hC4 hO4 HO hcq hyb hx hy hcs
                go_wp2_with (at_builtin; refine wpList_append_lies _ rfl (.tmp 89) (.tmp 91) 24 rfl w1.heap.size 3 i0 _ 1 8 Tryd.underlying24 hi hz0 hz1 hz2 rfl (by decide) _ _ _ rfl (World.ownsRow.alloc HO4.out _) ⟨_, 0, none⟩ 1 1 [.int .i64 (p : Int)] rfl rfl (news1 _ _ _) (one1 _) (by omega) (by simp only [maxLen]; omega) (by omega) (by simp; omega) (w4.heap.size + 1) (by simp) ?_)
                intro g6 c6 w6 hown6 hg6 hat6 hlt6
                have HO6 : Hid (OwnsZ w6 w1.heap.size (.slice (some ⟨g6, 0, none⟩) (k + 1) c6) (wl (u ++ [p]))) := Lib.hid (by
                  have := ownsZ_snoc (zs := wl u) (ys := [(p : Int)]) (by rw [hwu]; exact hown6)
                  rw [wl_snoc]
                  exact this)
                have hbne : some bw ≠ u6.ownBlock := fun e => HNE.out bw e.symm rfl
                have HC6 := Lib.hid ((HC4.out.on ((Below.refl _ _).alloc (Nat.le_refl _) (.cells #[.int .i64 (p : Int)] 3))).block (hg6.block bw (by simp; omega) hbne) hg6.size)
                have HB6 := Lib.hid ((HB4.out.alloc hw4 (.cells #[.int .i64 (p : Int)] 3)).grown hg6 (by simp; omega) (fun q hq => (World.ownsRow.lt HO4.out q hq).1))
                have HNE6 : Hid (∀ q, (Value.slice (some ⟨g6, 0, none⟩) (k + 1) c6).ownBlock = some q → q ≠ bw) := Lib.hid (fun q hq => by
                  obtain rfl : g6 = q := by simpa [Value.ownBlock] using hq
                  rcases hat6 with h | h
                  · exact HNE.out g6 h
                  · omega)
                clear hown6 hg6 hat6 hlt6
                go_wp2
                exact ⟨⟨k + 1, u ++ [p], by omega, by go_num, HN3, hnd3, hlL3, hul3, HO6, HNE6, HC6, HB6⟩, by simp only [intOf]; omega⟩
    · obtain rfl : k = N := by omega
      have HRE : Hid (R = some u) := Lib.hid (by rw [← HWA.out, HLN.out]; exact HWF.out)
      obtain ⟨ra, rc, rfl, hnew, -⟩ := New.of_own HO.out
      have HNW := Lib.hid hnew
      clear hnew HO
      go_wp2
      go_ret2
      exact ⟨by rw [HRE.out]; exact ⟨_, _, rfl, HNW.out⟩, HB.out⟩
end Go.Proofs.YtfpbehnpaedpmaaDoor.Sg
