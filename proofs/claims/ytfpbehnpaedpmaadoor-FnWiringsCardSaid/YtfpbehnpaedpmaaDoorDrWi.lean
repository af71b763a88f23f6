/- The draws of wirings: l12Draw, l12Bent. -/
import Derived.Test.YtfpbehnpaedpmaaDoorWiFrom
import Derived.Test.YtfpbehnpaedpmaaDoorDraw
namespace Go.Proofs.YtfpbehnpaedpmaaDoor.Sg
open Go.RowKit Pt NewI Wi
theorem chain_dec {L : List Nat} (hnd : L.Nodup) (h : ∀ p, p + 1 < L.length → ¬ L.getD p 0 < L.getD (p + 1) 0) : Dec L := by
  induction L with
  | nil => exact List.Pairwise.nil
  | cons a L ih =>
    have hd : Dec L := ih (List.nodup_cons.1 hnd).2 (fun p hp => h (p + 1) (by simpa using hp))
    refine List.pairwise_cons.2 ⟨fun b hb => ?_, hd⟩
    cases L with
    | nil => simp at hb
    | cons c L =>
      have h0 := h 0 (by simp)
      have hac : a ≠ c := fun e => (List.nodup_cons.1 hnd).1 (by rw [e]; exact List.mem_cons_self)
      have hca : c < a := by
        have h0 : ¬ a < c := h0
        omega
      rcases List.mem_cons.1 hb with rfl | hb
      · exact hca
      · have := (List.pairwise_cons.1 hd).1 b hb
        omega
theorem act_nodup {L : List Nat} (h : L.Nodup) (u : List Nat) : (act L u).Nodup := by
  induction u generalizing L with
  | nil => exact h
  | cons p u ih => exact ih (swp_nodup h p)
theorem go_snoc (L u : List Nat) (p : Nat) : go L (u ++ [p]) = (go L u).bind fun M => if p + 1 < M.length ∧ M.getD p 0 < M.getD (p + 1) 0 then some (swp M p) else none := by
  induction u generalizing L with
  | nil => rfl
  | cons q u ih =>
    simp only [List.cons_append, go]
    split
    · exact ih _
    · rfl
theorem go_lt {L u : List Nat} (h : go L u ≠ none) : ∀ p ∈ u, p + 1 < L.length := by
  induction u generalizing L with
  | nil => intro p hp; simp at hp
  | cons q u ih =>
    simp only [go] at h
    split at h
    · rename_i hc
      intro p hp
      rcases List.mem_cons.1 hp with rfl | hp
      · exact hc.1
      · have := ih h p hp
        rw [swp_len] at this
        exact this
    · exact absurd rfl h
theorem go_is {L u : List Nat} (h : go L u ≠ none) : go L u = some (act L u) := (act_inv (go_lt h)).2.2 h
theorem go_more {L u : List Nat} {p : Nat} (h : go L u ≠ none) (h1 : p + 1 < L.length) (h2 : (act L u).getD p 0 < (act L u).getD (p + 1) 0) : go L (u ++ [p]) ≠ none := by
  rw [go_snoc, go_is h]
  show (if p + 1 < (act L u).length ∧ (act L u).getD p 0 < (act L u).getD (p + 1) 0 then some (swp (act L u) p) else none) ≠ none
  rw [if_pos ⟨by rw [act_len]; exact h1, h2⟩]
  simp
/-- While words are too short there is a place for one more exchange. -/
theorem asc_place {m : Nat} {u : List Nat} (h : go (List.range m) u ≠ none) (hu : u.length < m * (m - 1) / 2) : ∃ p, p + 1 < m ∧ (act (List.range m) u).getD p 0 < (act (List.range m) u).getD (p + 1) 0 := by
  refine Classical.byContradiction fun hn => ?_
  have hb := go_lt h
  obtain ⟨-, h2, h3⟩ := act_inv hb
  have hi := h2.2 (h3 h)
  have h0 : inv (List.range m) = 0 := by rw [List.range_eq_range']; exact inv_zero 0 m
  have hnd : (act (List.range m) u).Nodup := act_nodup List.nodup_range u
  have hlen : (act (List.range m) u).length = m := by rw [act_len, List.length_range]
  have hd := chain_dec hnd (fun p hp c => hn ⟨p, by omega, c⟩)
  have hdn := dec_down hd hlen (fun b hb => List.mem_range.1 (act_mem.1 hb))
  have hk := inv_down m
  rw [← hdn, hi, h0] at hk
  omega
end Go.Proofs.YtfpbehnpaedpmaaDoor.Sg
namespace Go.Proofs.YtfpbehnpaedpmaaDoor.Cur
open Go.RowKit Pt NewI Wi Sg
theorem Leaves.extW {b n : Nat} {v : Value} {w wr w' : World} (h : Leaves b v n w wr) (hx : Below w.heap.size wr w') (hb : b < w.heap.size) : Leaves b v n w w' := by
  obtain ⟨h1, ⟨i, q, hi, hq, hh⟩, hg⟩ := h
  refine ⟨?_, ⟨i, q, hi, hq, (hx.block b hb).trans hh⟩, ⟨hx.os.trans hg.os, hx.tape.trans hg.tape, hx.output.trans hg.output, Nat.le_trans hg.size hx.size, fun k hk hne => (hx.block k hk).trans (hg.block k hk hne)⟩⟩
  obtain ⟨a, c, rfl, hn, h0 | ⟨cb, co, rfl, hcb, hby⟩⟩ := h1
  · exact ⟨a, c, rfl, hn, Or.inl h0⟩
  · refine ⟨_, c, rfl, hn, Or.inr ⟨cb, co, rfl, hcb, fun j hj => ?_⟩⟩
    obtain ⟨x, hx1, hc⟩ := hby j hj
    exact ⟨x, hx1, by rw [hx.cell (show cb < w.heap.size by omega)]; exact hc⟩
theorem At.ltW {b n : Nat} {v : Value} {w : World} (h : At w b v n) : b < w.heap.size := by
  obtain ⟨i, q, -, -, hh⟩ := h
  exact (Array.getElem?_eq_some_iff.1 hh).1
theorem ownsZ_leaves {b n B : Nat} {v vv : Value} {w wr : World} {zs : List Int} (h : OwnsZ w B vv zs) (hl : Leaves b v n w wr) (hb : b < B) : OwnsZ wr B vv zs :=
  World.ownsRow.kept h hl.2.2 (by
    cases hv : vv.ownBlock with
    | none => exact .inl rfl
    | some q => exact .inr (fun e => by have := (World.ownsRow.lt h q hv).1; injection e; omega))
theorem cells_leaves {b n g m : Nat} {v : Value} {w wr : World} {f : Nat → Value} (h : Cells w g m f) (hl : Leaves b v n w wr) (hne : g ≠ b) : Cells wr g m f :=
  h.block (hl.2.2.block g h.lt (fun e => hne (by injection e))) hl.2.2.size
def lenV : Value → Nat
  | .slice _ k _ => k
  | _ => 0
theorem cyc_all : ((List.range 6).all fun k => (List.range k).all fun p => (List.range k).all fun s => p == s || decide ((s + k - (p + 1) % k) % k < (s + k - p) % k)) = true := by decide +kernel
theorem cyc_less {k p s : Nat} (hk : k < 6) (hp : p < k) (hs : s < k) (hne : p ≠ s) : (s + k - (p + 1) % k) % k < (s + k - p) % k := by
  have h := List.all_eq_true.1 (List.all_eq_true.1 (List.all_eq_true.1 cyc_all k (List.mem_range.2 hk)) p (List.mem_range.2 hp)) s (List.mem_range.2 hs)
  rw [Bool.or_eq_true, beq_iff_eq, decide_eq_true_eq] at h
  exact h.resolve_left hne
set_option maxHeartbeats 6400000 in
set_option maxRecDepth 100000 in
/-- What a draw of a word leaves: the cursor goes on, the word lies in memory of its own. -/
theorem l12Draw_any (b : Nat) (v : Value) (n : Nat) (w : World) (hv : Bytes w v n b) (hc : At w b v n) :
    Calls Tryd.prog 39 #[.pointer (some ⟨b, 0, none⟩)] w fun e w' => ∃ (m : Nat) (u : List Nat) (vv : Value), e = .returned (.tuple #[.int .i64 m, vv]) ∧ 3 ≤ m ∧ m ≤ 6 ∧ u.length = m * (m - 1) / 2 ∧ go (List.range m) u ≠ none ∧ OwnsZ w' w.heap.size vv (wl u) ∧ Leaves b v n w w' := by
  have hb := hc.ltW
  have HST := Lib.hid (fun m (h6 : m ≤ 6) W => l12Start_any m (by omega) W)
  have HSW := Lib.hid (fun b m c L p hm h2 h6 hL W h => l12Swap_any b m c L p hm h2 (show m ≤ 100 by omega) hL W h)
  obtain ⟨i0, hi, hz0, hz1, hz2⟩ := info_parts infoI
  obtain ⟨w0, hw0⟩ : ∃ w0, w0 = w.alloc (.cells #[.int .i64 0, .int .i64 1, .int .i64 2, .int .i64 2, .int .i64 3] 3) := ⟨_, rfl⟩
  have hbl : Below w.heap.size w w0 := by rw [hw0]; exact (Below.refl _ _).alloc (Nat.le_refl _) _
  have L0 : Leaves b v n w w0 := (show Leaves b v n w w from ⟨hv, hc, grown_refl _ _⟩).extW hbl hb
  have hls : ∀ (j : Nat) x, [(0 : Int), 1, 2, 2, 3][j]? = some x → w0.cell? ⟨w.heap.size, j, none⟩ = some (.int .i64 x) := fun j x hx => by
    rw [hw0]
    rcases j with _ | _ | _ | _ | _ | j
    all_goals first | (have hx := Option.some.inj hx; subst hx; go_simp) | simp at hx
  have HPK := Lib.hid (pickInt_any b w.heap.size 5 v n [0, 1, 2, 2, 3] (by simp) (by simp) w0 L0.1 L0.2.1 hls (by omega))
  have HL0 := Lib.hid L0
  have HW0 := Lib.hid hw0
  clear hv hc hls L0 hw0 hbl
  go_enter Tryd.func39, Tryd.ntmps39
  go_wp2_with fail
  rw [← HW0.out]
  refine HPK.out.mono ?_
  rintro e w1 ⟨x, hx, rfl, hl1⟩
  have HL1 := Lib.hid (HL0.out.trans hl1)
  obtain ⟨m, hm, h3, h6⟩ : ∃ m : Nat, 3 + x = m ∧ 3 ≤ m ∧ m ≤ 6 := by
    simp only [List.mem_cons, List.not_mem_nil, or_false] at hx
    exact ⟨(3 + x).toNat, by omega, by omega, by omega⟩
  have vm : IntKind.i64.wrap (3 + x) = (m : Int) := by rw [hm]; exact IntWalk.i64_in _ (by omega)
  clear hx hm hl1 HPK
  have HO1 : Hid (OwnsZ (w1.alloc (.cells #[] 3)) w.heap.size (.slice (some ⟨w1.heap.size, 0, none⟩) 0 0) (wl [])) := Lib.hid (World.ownsRow_made (base := w.heap.size) (e := 3) (size := 1) w1 #[] 0 HL1.out.2.2.size (by decide) rfl)
  have HL2 := Lib.hid (HL1.out.extW ((Below.refl w.heap.size w1).alloc HL1.out.2.2.size (.cells #[] 3)) hb)
  go_wp2_with fail
  refine (HST.out m h6 _).mono ?_
  rintro e w2 ⟨⟨v2, rfl, hO⟩, hb2⟩
  have hm1 : (wl (List.range m)).length = m := by rw [wl_length, List.length_range]
  have hs1 := HL1.out.2.2.size
  have HL3 := Lib.hid (HL2.out.extW (hb2.mono (by simp; omega)) hb)
  have HO3 := Lib.hid (ownsZ_up HO1.out hb2)
  obtain ⟨a1, cw, rfl, hnw, -⟩ := New.of_own hO
  rw [hm1] at hnw ⊢
  rcases hnw with h0 | ⟨bw, rfl, hlo, hhi, hC⟩
  · omega
  have HC3 := Lib.hid hC
  have hbw : w1.heap.size < bw := by have : w1.heap.size < (w1.alloc (.cells #[] 3)).heap.size := by simp
                                     omega
  have HNE3 : Hid (∀ q, (Value.slice (some ⟨w1.heap.size, 0, none⟩) 0 0).ownBlock = some q → q ≠ bw) := Lib.hid (fun q hq => by
    obtain rfl : w1.heap.size = q := by simpa [Value.ownBlock] using hq
    omega)
  obtain ⟨N, hN⟩ : ∃ N, N = m * (m - 1) / 2 := ⟨_, rfl⟩
  have HNN := Lib.hid hN
  have hN15 : N ≤ 15 := by
    rw [hN]
    have : ∀ m, m < 7 → m * (m - 1) / 2 ≤ 15 := by decide
    exact this m (by omega)
  have HAS := Lib.hid (fun u h (hu : u.length < N) => asc_place (m := m) (u := u) h (by rw [← hN]; exact hu))
  obtain ⟨K, hK⟩ : ∃ K, K = m - 1 := ⟨_, rfl⟩
  have vK : IntKind.i64.wrap ((m : Int) - 1) = (K : Int) := by rw [IntWalk.i64_in _ (by omega)]; omega
  have hKK : 2 ≤ K ∧ K < 6 ∧ K + 1 = m := by omega
  have vP : IntKind.i64.wrap ((m : Int) * (K : Int)) = ((2 * N : Nat) : Int) := by
    rw [hN, hK]
    rcases (by omega : m = 3 ∨ m = 4 ∨ m = 5 ∨ m = 6) with rfl | rfl | rfl | rfl <;> decide +kernel
  have hK0 : ((K : Int) == 0) = false := beq_eq_false_iff_ne.2 (by omega)
  have HBL := Lib.hid (fun W h1 h2 => below_any b v n K (by omega) W h1 h2)
  clear hO hb2 hC hm1 hN hK HL0 HL1 HL2 HO1 vm
  go_wp2
  go_loopw [5] (fun vv wr => ∃ (u : List Nat) (g cc : Nat), u.length ≤ N ∧ vv = .slice (some ⟨g, 0, none⟩) u.length cc ∧ g ≠ bw ∧ Hid (go (List.range m) u ≠ none) ∧ Hid (OwnsZ wr w.heap.size (.slice (some ⟨g, 0, none⟩) u.length cc) (wl u)) ∧ Hid (Cells wr bw m (zc (wl (act (List.range m) u)))) ∧ Hid (Leaves b v n w wr)) (fun vv _ => N - lenV vv)
  case atStart => exact ⟨[], w1.heap.size, 0, Nat.zero_le _, rfl, by omega, Lib.hid (by simp [go]), HO3, HC3, HL3⟩
  case round =>
    rename World => wA
    obtain ⟨u, g, cc, huN, rfl, hgb, HGO, HO, HC, HL⟩ := hrel
    by_cases hlt : u.length < N
    · obtain ⟨P, hP1, hP2⟩ := HAS.out u HGO.out hlt
      have hnd : (act (List.range m) u).Nodup := act_nodup List.nodup_range u
      have hlL : (act (List.range m) u).length = m := by rw [act_len, List.length_range]
      obtain ⟨L, hL⟩ : ∃ L, L = act (List.range m) u := ⟨_, rfl⟩
      have HLD := Lib.hid hL
      rw [← hL] at hP2 hnd hlL HC
      have hwl : (wl u).length = u.length := wl_length u
      obtain ⟨hv1, hc1, -⟩ := HL.out
      clear hL
      go_wp2_with fail
      refine (HBL.out _ hv1 hc1).mono ?_
      rintro e w4 ⟨r, hr, rfl, hl4⟩
      have hrK : r < K := by omega
      have HL4 := Lib.hid (HL.out.trans hl4)
      have HO4 := Lib.hid (ownsZ_leaves HO.out hl4 hb)
      have HC4 := Lib.hid (cells_leaves HC.out hl4 (by omega))
      clear hl4 hv1 hc1 HO HC HL
      go_wp2
      go_loopw [7] (fun pv wr => ∃ p : Nat, p < K ∧ pv = .int .i64 p ∧ Hid (Below w4.heap.size w4 wr)) (fun pv _ => (P + K - (intOf pv).toNat) % K)
      case atStart => exact ⟨r, hrK, rfl, Lib.hid (Below.refl _ _)⟩
      case round =>
        rename World => wB
        obtain ⟨p, hpK, rfl, HB⟩ := hrel
        obtain ⟨Q, hQ⟩ : ∃ Q, Q = p + 1 := ⟨_, rfl⟩
        have vq : IntKind.i64.wrap ((p : Int) + 1) = (Q : Int) := by rw [IntWalk.i64_in _ (by omega)]; omega
        have hpm : p < m := by omega
        have hQm : Q < m := by omega
        have HCB := Lib.hid (HC4.out.on HB.out)
        have c0 := HCB.out.cell p hpm
        have c1 := HCB.out.cell Q hQm
        rw [zc_wl] at c0 c1
        have hne := nodup_ne hnd (i := p) (j := Q) (by omega) (by omega) (by omega)
        by_cases hgt : L.getD Q 0 < L.getD p 0
        · have hpP : p ≠ P := fun e => by subst e; rw [← hQ] at hP2; omega
          have hms := cyc_less hKK.2.1 hpK (show P < K by omega) hpP
          obtain ⟨R, hR⟩ : ∃ R, R = Q % K := ⟨_, rfl⟩
          rw [← hQ, ← hR] at hms
          have hRK : R < K := by rw [hR]; exact Nat.mod_lt _ (by omega)
          have vr : Int.tmod (Q : Int) (K : Int) = (R : Int) := by rw [hR]; rfl
          generalize L.getD p 0 = x at c0 hgt hne
          generalize L.getD Q 0 = y at c1 hgt hne hP2
          have k0 : decide ((x : Int) > (y : Int)) = true := decide_eq_true (by omega)
          clear hR hQ hP2
          go_wp2
          go_quiet (fail)
          go_wp2
          exact ⟨⟨R, hRK, by go_num, Lib.hid (drewN_below HB.out _)⟩, by simp only [intOf, Int.toNat_natCast]; exact hms⟩
        · have hlt2 : L.getD p 0 < L.getD Q 0 := by omega
          have hsw : swB L (p : Int) = true := by
            unfold swB
            rw [Int.toNat_natCast]
            exact decide_eq_true ⟨by omega, by omega, by rw [← hQ]; exact hlt2⟩
          have HGO2 : Hid (go (List.range m) (u ++ [p]) ≠ none) := Lib.hid (go_more HGO.out (by rw [List.length_range]; omega) (by rw [← HLD.out, ← hQ]; exact hlt2))
          have HSD : Hid (swD L (p : Int) = act (List.range m) (u ++ [p])) := Lib.hid (by unfold swD; rw [hsw, act_snoc, ← HLD.out]; rfl)
          have k0 : decide (((L.getD p 0 : Nat) : Int) > ((L.getD Q 0 : Nat) : Int)) = false := decide_eq_false (by omega)
          have hu1 : (u ++ [p]).length = u.length + 1 := by rw [List.length_append]; rfl
          generalize ((L.getD p 0 : Nat) : Int) = x at c0 k0
          generalize ((L.getD Q 0 : Nat) : Int) = y at c1 k0
          clear hP2 hgt hne hlt2 hQ hsw
          go_wp2
          go_quiet (fail)
          go_wp2_with fail
          refine (HSW.out bw m cw L (p : Int) hlL (by omega) (by omega) hnd _ (HCB.out.on (drewN_below (Below.refl _ _) _))).mono ?_
          rintro e w5 ⟨rfl, hC5, hO5⟩
          rw [HSD.out] at hC5
          have HC5 := Lib.hid hC5
          have hsA := HL4.out.2.2.size
          have hsB := HB.out.size
          have hbwl : bw < w5.heap.size := HC5.out.lt
          have hx5 : Below w.heap.size w4 w5 := ((drewN_below HB.out _).mono hsA).trans (hO5.below (by omega) (Nat.le_trans hsA hsB))
          have HL5 := Lib.hid (HL4.out.extW hx5 hb)
          have HO5 := Lib.hid (ownsZ_apart (ownsZ_up HO4.out (drewN_below HB.out _)) hO5 (fun q hq => by
            obtain rfl : g = q := by simpa [Value.ownBlock] using hq
            exact hgb))
          have hs5 := HL5.out.2.2.size
          clear hC5 hO5 hx5 c0 c1 HO4 HC4 HCB
          go_wp2_with (at_builtin; refine wpList_append_lies _ rfl (.tmp 45) (.tmp 47) 24 rfl w.heap.size 3 i0 _ 1 8 Tryd.underlying24 hi hz0 hz1 hz2 rfl (by decide) _ _ _ rfl (World.ownsRow.alloc HO5.out _) ⟨_, 0, none⟩ 1 1 [.int .i64 (p : Int)] rfl rfl (news1 _ _ _) (one1 _) (by omega) (by simp only [maxLen]; omega) (by omega) (by simp; omega) (w5.heap.size + 1) (by simp) ?_)
          intro g6 c6 w6 hown6 hg6 hat6 hlt6
          have HO6 : Hid (OwnsZ w6 w.heap.size (.slice (some ⟨g6, 0, none⟩) (u ++ [p]).length c6) (wl (u ++ [p]))) := Lib.hid (by
            have := ownsZ_snoc (zs := wl u) (ys := [(p : Int)]) (by rw [hwl]; exact hown6)
            rw [hu1, wl_snoc]
            exact this)
          have hbne : some bw ≠ (Value.slice (some ⟨g, 0, none⟩) u.length cc).ownBlock := fun e => by
            simp [Value.ownBlock] at e
            exact hgb e.symm
          have HC6 := Lib.hid ((HC5.out.on ((Below.refl _ _).alloc (Nat.le_refl _) (.cells #[.int .i64 (p : Int)] 3))).block (hg6.block bw (by simp; omega) hbne) hg6.size)
          have hb6 : Below w.heap.size w5 w6 := ((Below.refl w.heap.size w5).alloc hs5 (.cells #[.int .i64 (p : Int)] 3)).grown hg6 (by simp; omega) (fun q hq => (World.ownsRow.lt HO5.out q hq).1)
          have HL6 := Lib.hid (HL5.out.extW hb6 hb)
          have hg6b : g6 ≠ bw := by
            rcases hat6 with h | h
            · obtain rfl : g = g6 := by simpa [Value.ownBlock] using h
              exact hgb
            · omega
          have hu6 : (u ++ [p]).length ≤ N := by omega
          clear hown6 hg6 hat6 hlt6 hb6
          go_wp2
          rw [← hu1]
          exact ⟨⟨u ++ [p], g6, c6, hu6, by trivial, hg6b, HGO2, HO6, HC6, HL6⟩, by simp only [lenV]; omega⟩
    · have huN' : u.length = N := by omega
      have HLF := Lib.hid HL.out
      go_wp2
      go_ret2
      exact ⟨m, u, _, rfl, h3, h6, by rw [huN', HNN.out], HGO.out, HO.out, HLF.out⟩
theorem ownsZ_cells {w : World} {B : Nat} {v : Value} {zs : List Int} (h : OwnsZ w B v zs) (h0 : zs ≠ []) : ∃ g c, v = .slice (some ⟨g, 0, none⟩) zs.length c ∧ zs.length ≤ c ∧ c ≤ maxLen ∧ B ≤ g ∧ Cells w g zs.length (zc zs) := by
  obtain ⟨a, c, rfl, hn, -⟩ := New.of_own h
  rcases hn with hn | ⟨g, rfl, hB, -, hC⟩
  · exact absurd (List.eq_nil_of_length_eq_zero hn) h0
  · rcases h.2 with ⟨e1, -⟩ | ⟨g', cap, cur, e1, -, -, hc1, hc2, -⟩
    · injection e1 with e1; cases e1
    · injection e1 with e1 e2 e3
      subst e3
      exact ⟨g, c, rfl, hc1, hc2, hB, hC⟩
theorem zc_setL {zs : List Int} {r : Nat} {x : Int} (hr : r < zs.length) (j : Nat) (hj : j < zs.length) : (if j = r then Value.int .i64 x else zc zs j) = zc (zs.set r x) j := by
  by_cases e : j = r
  · subst e
    rw [if_pos rfl, zc_lt (by rw [List.length_set]; exact hr), List.getElem_set_self]
  · rw [if_neg e, zc_lt hj, zc_lt (by rw [List.length_set]; exact hj), List.getElem_set_ne (fun h => e h.symm)]
/-- A word, or one that is bent. -/
def BentW (B : Nat) (e : Ending) (w' : World) : Prop := ∃ (m : Nat) (zs : List Int) (g c : Nat), e = .returned (.tuple #[.int .i64 m, .slice (some ⟨g, 0, none⟩) zs.length c]) ∧ 2 ≤ m ∧ m ≤ 7 ∧ 3 ≤ zs.length ∧ zs.length ≤ 15 ∧ zs.length ≤ c ∧ c ≤ maxLen ∧ B ≤ g ∧ (∀ z ∈ zs, -1 ≤ z ∧ z ≤ 5) ∧ Cells w' g zs.length (zc zs)
set_option maxHeartbeats 3200000 in
set_option maxRecDepth 100000 in
theorem l12Bent_any (b : Nat) (v : Value) (n : Nat) (w : World) (hv : Bytes w v n b) (hc : At w b v n) :
    Calls Tryd.prog 33 #[.pointer (some ⟨b, 0, none⟩)] w fun e w' => BentW w.heap.size e w' ∧ Leaves b v n w w' := by
  have hb := hc.ltW
  have HD := Lib.hid (l12Draw_any b v n w hv hc)
  have HBL := Lib.hid (fun k (hk : k ≤ 20) W h1 h2 => below_any b v n k (by omega) W h1 h2)
  clear hv hc
  go_enter Tryd.func33, Tryd.ntmps33
  go_wp2_with fail
  refine HD.out.mono ?_
  rintro e w1 ⟨m, u, vv, rfl, h3, h6, hlen, hgo, hown, hl1⟩
  have hN : 3 ≤ m * (m - 1) / 2 ∧ m * (m - 1) / 2 ≤ 15 := by
    have : ∀ m, m < 7 → 3 ≤ m → 3 ≤ m * (m - 1) / 2 ∧ m * (m - 1) / 2 ≤ 15 := by decide
    exact this m (by omega) h3
  have hbd : ∀ z ∈ wl u, -1 ≤ z ∧ z ≤ 5 := fun z hz => by
    obtain ⟨p, hp, rfl⟩ := List.mem_map.1 hz
    have := Sg.go_lt hgo p hp
    rw [List.length_range] at this
    show -1 ≤ ((p : Nat) : Int) ∧ ((p : Nat) : Int) ≤ 5
    omega
  have hll : (wl u).length = u.length := wl_length u
  obtain ⟨zs, hzs⟩ : ∃ zs, zs = wl u := ⟨_, rfl⟩
  rw [← hzs] at hown hbd hll
  have hl3 : 3 ≤ zs.length ∧ zs.length ≤ 15 := by omega
  obtain ⟨g, c, rfl, hcz, hcm, hBg, hC⟩ := ownsZ_cells hown (fun e => by rw [e] at hl3; simp at hl3)
  have HC := Lib.hid hC
  have HL := Lib.hid hl1
  have HBD := Lib.hid hbd
  have hg0 : g ≠ b := by omega
  obtain ⟨k1, k2, -⟩ := hl1
  clear hown hC hzs hll hlen hgo hN HD hbd
  go_wp2_with fail
  refine (HBL.out 14 (by omega) _ k1 k2).mono ?_
  rintro e w2 ⟨r, hr, rfl, hl2⟩
  have HL2 := Lib.hid (HL.out.trans hl2)
  have HC2 := Lib.hid (cells_leaves HC.out hl2 hg0)
  obtain ⟨k1, k2, -⟩ := hl2
  rcases (by omega : r = 0 ∨ r = 1 ∨ (r ≠ 0 ∧ r ≠ 1)) with rfl | rfl | ⟨hr0, hr1⟩
  · go_wp2_with fail
    refine (HBL.out zs.length (by omega) _ k1 k2).mono ?_
    rintro e w3 ⟨r1, hr1, rfl, hl3'⟩
    have HL3 := Lib.hid (HL2.out.trans hl3')
    have HC3 := Lib.hid (cells_leaves HC2.out hl3' hg0)
    obtain ⟨k1, k2, -⟩ := hl3'
    go_wp2_with fail
    refine (HBL.out 6 (by omega) _ k1 k2).mono ?_
    rintro e w4 ⟨r2, hr2, rfl, hl4⟩
    have HL4 := Lib.hid (HL3.out.trans hl4)
    have HC4 := Lib.hid (cells_leaves HC3.out hl4 hg0)
    have hr1l : r1 < zs.length := by omega
    have v1 : IntKind.i64.wrap ((r2 : Int) - 1) = (r2 : Int) - 1 := IntWalk.i64_in _ (by omega)
    have hcell := HC4.out.cell r1 hr1l
    have hfz := HC4.out.frozen r1
    have hgl : g < w4.heap.size := HC4.out.lt
    have HC5 : Hid (Cells (w4.setCell ⟨g, r1, none⟩ (.int .i64 ((r2 : Int) - 1))) g (zs.set r1 ((r2 : Int) - 1)).length (zc (zs.set r1 ((r2 : Int) - 1)))) := Lib.hid (by
      rw [List.length_set]
      exact (HC4.out.set r1 hr1l _).congr (fun j hj => zc_setL hr1l j hj))
    have hs4 := HL4.out.2.2.size
    have HL5 := Lib.hid (HL4.out.extW ((Below.refl w.heap.size w4).setCell (p := ⟨g, r1, none⟩) (by show w.heap.size ≤ g; omega) (.int .i64 ((r2 : Int) - 1))) hb)
    have HBD5 : Hid (∀ z ∈ zs.set r1 ((r2 : Int) - 1), -1 ≤ z ∧ z ≤ 5) := Lib.hid (fun z hz => by
      rcases List.mem_or_eq_of_mem_set hz with h | h
      · exact HBD.out z h
      · omega)
    have hlen5 : (zs.set r1 ((r2 : Int) - 1)).length = zs.length := List.length_set
    clear hl4 k1 k2
    go_wp2
    go_ret2
    exact ⟨⟨m, zs.set r1 ((r2 : Int) - 1), g, c, by rw [hlen5]; rfl, by omega, by omega, by omega, by omega, by omega, hcm, hBg, HBD5.out, HC5.out⟩, HL5.out⟩
  · obtain ⟨w3, hw3⟩ : ∃ w3, w3 = w2.alloc (.cells #[.int .i64 2, .int .i64 7, .int .i64 4, .int .i64 3] 3) := ⟨_, rfl⟩
    have hs2 := HL2.out.2.2.size
    have hbl : Below w.heap.size w2 w3 := by rw [hw3]; exact (Below.refl w.heap.size w2).alloc hs2 _
    have L3 := HL2.out.extW hbl hb
    have hls : ∀ (j : Nat) x, [(2 : Int), 7, 4, 3][j]? = some x → w3.cell? ⟨w2.heap.size, j, none⟩ = some (.int .i64 x) := fun j x hx => by
      rw [hw3]
      rcases j with _ | _ | _ | _ | j
      all_goals first | (have hx := Option.some.inj hx; subst hx; go_simp) | simp at hx
    have HPK := Lib.hid (pickInt_any b w2.heap.size 4 v n [2, 7, 4, 3] (by simp) (by simp) w3 L3.1 L3.2.1 hls (by omega))
    have HL3 := Lib.hid L3
    have HC3 : Hid (Cells w3 g zs.length (zc zs)) := Lib.hid (by rw [hw3]; exact HC2.out.on ((Below.refl _ _).alloc (Nat.le_refl _) _))
    have HW3 := Lib.hid hw3
    clear k1 k2 hls L3 hw3 hbl
    go_wp2_with fail
    rw [← HW3.out]
    refine HPK.out.mono ?_
    rintro e w4 ⟨x, hx, rfl, hl4⟩
    have HL4 := Lib.hid (HL3.out.trans hl4)
    have HC4 := Lib.hid (cells_leaves HC3.out hl4 hg0)
    obtain ⟨m2, rfl, h2, h7⟩ : ∃ m2 : Nat, x = m2 ∧ 2 ≤ m2 ∧ m2 ≤ 7 := by
      simp only [List.mem_cons, List.not_mem_nil, or_false] at hx
      exact ⟨x.toNat, by omega, by omega, by omega⟩
    clear hx hl4
    go_wp2
    go_ret2
    exact ⟨⟨m2, zs, g, c, rfl, h2, h7, by omega, by omega, hcz, hcm, hBg, HBD.out, HC4.out⟩, HL4.out⟩
  · have hq0 : ((r : Int) == 0) = false := beq_eq_false_iff_ne.2 (by omega)
    have hq1 : ((r : Int) == 1) = false := beq_eq_false_iff_ne.2 (by omega)
    clear k1 k2
    go_wp2
    go_ret2
    exact ⟨⟨m, zs, g, c, rfl, by omega, by omega, by omega, by omega, hcz, hcm, hBg, HBD.out, HC2.out⟩, HL2.out⟩
end Go.Proofs.YtfpbehnpaedpmaaDoor.Cur
