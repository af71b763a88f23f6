/- Several texts in one: CwMin, CwLong. -/
import Derived.Test.YtflcpgdgoencgaaGreatDoorMgY
import Derived.Test.YtflcpgdgoencgaaGreatDoorMgE
import Derived.Test.YtflcpgdgoencgaaGreatDoorMgN
import Derived.BigQuiet
import Derived.Test.YtflcpgdgoencgaaGreatDoorMgH
import Derived.Test.YtflcpgdgoencgaaGreatDoorMgM
/- Caps and cups, as impl tells them: allHaveSign, slices.Compare, cmp.Or, slices.MinFunc. -/
namespace Go.Proofs.YtflcpgdgoencgaaGreatDoor.Sg
open Go.RowKit Pt NewI
set_option maxHeartbeats 1600000 in
set_option maxRecDepth 100000 in
theorem sign3_any (p1 p2 p3 b g c : Nat) (f : Int → Int → Int → Int) (L : List Nat) (hL : ∀ x ∈ L, x < 7) (sn : Int) (t : T3) (h1 : t.1 < L.length) (h2 : t.2.1 < L.length) (h3 : t.2.2 < L.length) (w : World) (hm : MapIs w b f) (k1 : w.cell? ⟨p1, 0, none⟩ = some (.map (some b))) (k2 : w.cell? ⟨p2, 0, none⟩ = some (.slice (some ⟨g, 0, none⟩) L.length c)) (hcl : Cells w g L.length (zc (zl L))) (k3 : w.cell? ⟨p3, 0, none⟩ = some (.int .i64 sn)) :
    Calls Tryz.prog 134 #[.agg #[.int .i64 t.1, .int .i64 t.2.1, .int .i64 t.2.2], .pointer (some ⟨p1, 0, none⟩), .pointer (some ⟨p2, 0, none⟩), .pointer (some ⟨p3, 0, none⟩)] w fun e w' => e = .returned (.bool (!(sgnF f (L.getD t.1 0 : Nat) (L.getD t.2.1 0 : Nat) (L.getD t.2.2 0 : Nat) == sn))) ∧ Below w.heap.size w w' := by
  have lt : ∀ i, i < L.length → L.getD i 0 < 7 := fun i hi => by rw [getD_n hi]; exact hL _ (List.getElem_mem hi)
  have HI : Hid (∀ W, Below w.heap.size w W → Calls Tryz.prog 112 #[.map (some b), .int .i64 (L.getD t.1 0 : Nat), .int .i64 (L.getD t.2.1 0 : Nat), .int .i64 (L.getD t.2.2 0 : Nat)] W fun e w' => e = .returned (.int .i64 (sgnF f (L.getD t.1 0 : Nat) (L.getD t.2.1 0 : Nat) (L.getD t.2.2 0 : Nat))) ∧ W = w') :=
    Lib.hid (fun W hW => at_any b f _ _ _ (by have := lt _ h1; omega) (by have := lt _ h2; omega) (by have := lt _ h3; omega) W (hm.on hW))
  have q1 := hcl.cell _ h1
  have q2 := hcl.cell _ h2
  have q3 := hcl.cell _ h3
  rw [zc_zl h1] at q1
  rw [zc_zl h2] at q2
  rw [zc_zl h3] at q3
  generalize sgnF f (L.getD t.1 0 : Nat) (L.getD t.2.1 0 : Nat) (L.getD t.2.2 0 : Nat) = r at HI ⊢
  generalize L.getD t.1 0 = x1 at q1 HI
  generalize L.getD t.2.1 0 = x2 at q2 HI
  generalize L.getD t.2.2 0 = x3 at q3 HI
  obtain ⟨z0, z1, z2⟩ := box3_made w t.1 t.2.1 t.2.2 126
  have HBa := Lib.hid ((Below.refl w.heap.size w).alloc (Nat.le_refl _) (.cells #[.int .i64 t.1, .int .i64 t.2.1, .int .i64 t.2.2] 126))
  have up : ∀ {a : Addr} {v : Value}, w.cell? a = some v → (w.alloc (.cells #[.int .i64 t.1, .int .i64 t.2.1, .int .i64 t.2.2] 126)).cell? a = some v := fun {a v} h => by rw [World.cell?_alloc_lt _ _ _ (World.block_lt_of_cell? w a h)]; exact h
  have y1 := up q1
  have y2 := up q2
  have y3 := up q3
  have u1 := up k1
  have u2 := up k2
  have u3 := up k3
  have HR : Hid ((r != sn) = !(r == sn)) := Lib.hid rfl
  obtain ⟨i, hi⟩ : ∃ i, i = t.1 := ⟨_, rfl⟩
  obtain ⟨j, hj⟩ : ∃ j, j = t.2.1 := ⟨_, rfl⟩
  obtain ⟨k, hk⟩ : ∃ k, k = t.2.2 := ⟨_, rfl⟩
  generalize t.1 = i at *
  generalize t.2.1 = j at *
  generalize t.2.2 = k at *
  generalize L.length = n at *
  have HA : Hid (∀ k', Calls Tryz.prog 112 #[.map (some b), .int .i64 x1, .int .i64 x2, .int .i64 x3] ((w.alloc (.cells #[.int .i64 i, .int .i64 j, .int .i64 k] 126)).drewN k') fun e w' => e = .returned (.int .i64 r) ∧ w' = (w.alloc (.cells #[.int .i64 i, .int .i64 j, .int .i64 k] 126)).drewN k') := Lib.hid (fun k' => (HI.out _ (drewN_below HBa.out k')).mono fun _ _ ⟨p, r⟩ => ⟨p, r.symm⟩)
  clear q1 q2 q3 k1 k2 k3 up hcl hm lt hL hi hj hk HI
  go_enter Tryz.func134, Tryz.ntmps134
  go_wp2
  go_quiet ((go_at_call 112; exact Calls.quiet_of_same (HA.out _)))
  go_wp2
  go_ret
  exact ⟨rfl, drewN_below HBa.out _⟩
set_option maxHeartbeats 1600000 in
set_option maxRecDepth 100000 in
theorem allHave_any (b : Nat) (f : Int → Int → Int → Int) (v : Value) (L : List Nat) (h7 : L.length ≤ 7) (hL : ∀ x ∈ L, x < 7) (sn : Int) (w : World) (hm : MapIs w b f) (B : Nat) (hv : ArgZ w B v (zl L)) :
    Calls Tryz.prog 95 #[.map (some b), v, .int .i64 sn] w fun e w' => e = .returned (.bool (allS' (sgnF f) sn L)) ∧ Below w.heap.size w w' := by
  have hmf : ∀ (fn : Fn) (first cap : Array Value) (w : World), (Instr.makeFunc fn first cap).run Tryz.prog w = .ok (.func fn first cap) w := fun _ _ _ _ => rfl
  have eg : ∀ args w, (callFunc 134 args).run Tryz.prog w = .ok (.enter 134 args) w := enters_of Tryz.func134 (by kernel_rfl) rfl
  obtain ⟨a, c, rfl, HA⟩ : ∃ a c, v = .slice a L.length c ∧ Hid (L ≠ [] → ∃ g, a = some ⟨g, 0, none⟩ ∧ Cells w g L.length (zc (zl L))) := by
    rcases hv with ⟨h1, rfl⟩ | ⟨h1, g, c, rfl, -, -, -, -, h5⟩
    · have := zl_nil h1
      subst this
      exact ⟨none, 0, rfl, Lib.hid (fun hne => absurd rfl hne)⟩
    · rw [zl_length] at h5 ⊢
      exact ⟨_, c, rfl, Lib.hid (fun _ => ⟨g, rfl, h5⟩)⟩
  obtain ⟨w0, hw0⟩ : ∃ w0, w0 = ((w.alloc (.cells #[.map (some b)] 57)).alloc (.cells #[.slice a L.length c] 28)).alloc (.cells #[.int .i64 sn] 3) := ⟨_, rfl⟩
  have B0 : Below w.heap.size w w0 := by rw [hw0]; exact (((Below.refl _ _).alloc (Nat.le_refl _) _).alloc (by simp) _).alloc (by simp; omega) _
  have c0 : w0.cell? ⟨w.heap.size, 0, none⟩ = some (.map (some b)) := by rw [hw0]; go_simp
  have c1 : w0.cell? ⟨w.heap.size + 1, 0, none⟩ = some (.slice a L.length c) := by rw [hw0]; go_simp
  have c2 : w0.cell? ⟨w.heap.size + 1 + 1, 0, none⟩ = some (.int .i64 sn) := by rw [hw0]; go_simp
  have HB := Lib.hid B0
  have HC0 := Lib.hid c0
  have HC1 := Lib.hid c1
  have HC2 := Lib.hid c2
  have HM := Lib.hid (hm.on B0)
  have HT := Lib.hid (threesOf_all L.length h7)
  have htl := threes_length h7
  have h35 := cnt_le h7
  have HCT := Lib.hid (fun a3 c3 W (hW : Below w0.heap.size w0 W) (hx : Thr none W a3 (threes L.length)) => containsT_any a3 c3 (threes L.length) (by omega) (fun t => !(sgnF f (L.getD t.1 0 : Nat) (L.getD t.2.1 0 : Nat) (L.getD t.2.2 0 : Nat) == sn)) 134 #[.pointer (some ⟨w.heap.size, 0, none⟩), .pointer (some ⟨w.heap.size + 1, 0, none⟩), .pointer (some ⟨w.heap.size + 1 + 1, 0, none⟩)] eg W hx (Lib.hid (fun W2 t hW2 hmt => by
    obtain ⟨t1, t2, t3⟩ := threes_mem h7 hmt
    have hne : L ≠ [] := fun e => by rw [e] at t3; simp at t3
    obtain ⟨g, rfl, hg⟩ := HA.out hne
    have hb2 := hW.trans (hW2.mono hW.size)
    exact sign3_any _ _ _ b g c f L hL sn t (by omega) (by omega) t3 W2 (HM.out.on hb2) (by rw [hb2.cell (Kit.cell_lt HC0.out)]; exact HC0.out) (by rw [hb2.cell (Kit.cell_lt HC1.out)]; exact HC1.out) ((hg.on HB.out).on hb2) (by rw [hb2.cell (Kit.cell_lt HC2.out)]; exact HC2.out))))
  have HE : Hid (allS' (sgnF f) sn L = !((threes L.length).any fun t => !(sgnF f (L.getD t.1 0 : Nat) (L.getD t.2.1 0 : Nat) (L.getD t.2.2 0 : Nat) == sn))) := Lib.hid rfl
  rw [HE.out]
  generalize (threes L.length).any (fun t => !(sgnF f (L.getD t.1 0 : Nat) (L.getD t.2.1 0 : Nat) (L.getD t.2.2 0 : Nat) == sn)) = ans at HCT ⊢
  have HW0 := Lib.hid hw0
  rw [hw0] at c1
  clear hw0 c0 c2 B0 hv hm HE HA HC0 HC1 HC2 HM hL
  go_enter Tryz.func95, Tryz.ntmps95
  go_wp2_with fail
  refine (HT.out _).mono ?_
  rintro e w1 ⟨v3, rfl, hv3, hb1⟩
  rw [← HW0.out] at hv3 hb1
  obtain ⟨a3, k3, rfl, ht3⟩ := thr_of (gx := none) hv3 (fun g e => by cases e)
  have HC := Lib.hid (HCT.out a3 k3 w1 hb1 ht3)
  have HB1 := Lib.hid (HB.out.trans (hb1.mono HB.out.size))
  clear hv3 ht3 hb1 c1 HCT
  generalize (threes L.length).length = q at HC
  go_wp2_with fail
  refine HC.out.mono ?_
  rintro e w2 ⟨rfl, hb2⟩
  have B2 := HB1.out.trans (hb2.mono HB1.out.size)
  go_wp2
  go_ret
  exact ⟨rfl, B2⟩
/-- A list as a slice that is read. -/
def RowL (W : World) (a : Option Addr) (L : List Nat) : Prop := L ≠ [] → ∃ g, a = some ⟨g, 0, none⟩ ∧ ∀ i, i < L.length → W.cell? ⟨g, i, none⟩ = some (.int .i64 (L.getD i 0 : Nat))
theorem RowL.on {W W' : World} {a : Option Addr} {L : List Nat} (h : RowL W a L) (hb : Below W.heap.size W W') : RowL W' a L := fun hne => by
  obtain ⟨g, h1, h2⟩ := h hne
  exact ⟨g, h1, fun i hi => by rw [hb.cell (Kit.cell_lt (h2 i hi))]; exact h2 i hi⟩
theorem argZ_row {W : World} {B : Nat} {v : Value} {L : List Nat} (h : ArgZ W B v (zl L)) : ∃ a c, v = .slice a L.length c ∧ RowL W a L := by
  rcases h with ⟨h1, rfl⟩ | ⟨h1, g, c, rfl, -, -, -, -, h5⟩
  · have := zl_nil h1
    subst this
    exact ⟨none, 0, rfl, fun hne => absurd rfl hne⟩
  · rw [zl_length] at h5 ⊢
    exact ⟨_, c, rfl, fun _ => ⟨g, rfl, fun i hi => by rw [h5.cell i hi, zc_zl hi]⟩⟩
theorem cmpL_step {A B : List Nat} {i : Nat} (h1 : i < A.length) (h2 : i < B.length) : cmpL (A.drop i) (B.drop i) = if (cmpI ((A.getD i 0 : Nat) : Int) ((B.getD i 0 : Nat) : Int) != 0) = true then cmpI ((A.getD i 0 : Nat) : Int) ((B.getD i 0 : Nat) : Int) else cmpL (A.drop (i + 1)) (B.drop (i + 1)) := by
  rw [List.drop_eq_getElem_cons h1, List.drop_eq_getElem_cons h2, getD_n h1, getD_n h2]
  rfl
theorem cmpL_long {A B : List Nat} {i : Nat} (h1 : i < A.length) (h2 : B.length ≤ i) : cmpL (A.drop i) (B.drop i) = 1 := by
  rw [List.drop_eq_getElem_cons h1, List.drop_eq_nil_of_le h2]; rfl
theorem cmpL_short {A B : List Nat} {i : Nat} (h1 : A.length ≤ i) (h2 : i < B.length) : cmpL (A.drop i) (B.drop i) = -1 := by
  rw [List.drop_eq_getElem_cons h2, List.drop_eq_nil_of_le h1]; rfl
theorem cmpL_end {A B : List Nat} {i : Nat} (h1 : A.length ≤ i) (h2 : B.length ≤ i) : cmpL (A.drop i) (B.drop i) = 0 := by
  rw [List.drop_eq_nil_of_le h1, List.drop_eq_nil_of_le h2]; rfl
set_option maxHeartbeats 1600000 in
set_option maxRecDepth 100000 in
theorem compareL_any (a1 a2 : Option Addr) (c1 c2 : Nat) (A B : List Nat) (hA : A.length ≤ 1000) (_hB : B.length ≤ 1000) (w : World) (h1 : RowL w a1 A) (h2 : RowL w a2 B) :
    Calls Tryz.prog 80 #[.slice a1 A.length c1, .slice a2 B.length c2] w fun e w' => e = .returned (.int .i64 (cmpL A B)) ∧ Below w.heap.size w w' := by
  have HC := Lib.hid (fun x y W => compare_any x y W)
  have H1 := Lib.hid h1
  have H2 := Lib.hid h2
  have HST := Lib.hid (fun i k1 k2 => cmpL_step (A := A) (B := B) (i := i) k1 k2)
  have HLO := Lib.hid (fun i k1 k2 => cmpL_long (A := A) (B := B) (i := i) k1 k2)
  have HSH := Lib.hid (fun i k1 k2 => cmpL_short (A := A) (B := B) (i := i) k1 k2)
  have HEN := Lib.hid (fun i k1 k2 => cmpL_end (A := A) (B := B) (i := i) k1 k2)
  have H0 : Hid (cmpL (A.drop 0) (B.drop 0) = cmpL A B) := Lib.hid rfl
  obtain ⟨q, hq⟩ : ∃ q : Nat → Int, q = fun i => cmpL (A.drop i) (B.drop i) := ⟨_, rfl⟩
  have HQ : Hid (∀ i, cmpL (A.drop i) (B.drop i) = q i) := Lib.hid (fun i => by rw [hq])
  rw [← H0.out, HQ.out]
  clear h1 h2 hq H0
  go_enter Tryz.func80, Tryz.ntmps80
  go_wp2
  go_loopw [11] (fun x wr => ∃ i : Nat, i ≤ A.length ∧ i ≤ B.length ∧ x = .int .i64 i ∧ Hid (q i = q 0) ∧ Hid (Below w.heap.size w wr)) (fun x _ => A.length - (intOf x).toNat)
  case atStart => exact ⟨0, Nat.zero_le _, Nat.zero_le _, rfl, Lib.hid rfl, Lib.hid (Below.refl _ _)⟩
  case round =>
    obtain ⟨i, hi1, hi2, rfl, HI, HW⟩ := hrel
    by_cases hlt : i < A.length
    · obtain ⟨g1, rfl, hx⟩ := (H1.out.on HW.out) (fun e => by rw [e] at hlt; exact absurd hlt (Nat.not_lt_zero _))
      have x0 := hx i hlt
      clear hx
      by_cases hlt2 : i < B.length
      · obtain ⟨g2, rfl, hy⟩ := (H2.out.on HW.out) (fun e => by rw [e] at hlt2; exact absurd hlt2 (Nat.not_lt_zero _))
        have y0 := hy i hlt2
        have hst := HST.out i hlt hlt2
        rw [HQ.out, HQ.out] at hst
        have HCC := Lib.hid (fun W => HC.out ((A.getD i 0 : Nat) : Int) ((B.getD i 0 : Nat) : Int) W)
        have gge : decide ((i : Int) ≥ (B.length : Int)) = false := decide_eq_false (by omega)
        have gge' : decide ((B.length : Int) ≤ (i : Int)) = false := decide_eq_false (by omega)
        clear hy
        generalize A.getD i 0 = p1 at x0 HCC hst
        generalize B.getD i 0 = p2 at y0 HCC hst
        generalize cmpI ((p1 : Nat) : Int) ((p2 : Nat) : Int) = z at HCC hst
        cases hz : (z != 0)
        · rw [hz] at hst
          have HN : Hid (q (i + 1) = q 0) := Lib.hid (by rw [← HI.out, hst]; rfl)
          clear hst
          go_wp2_with fail
          refine (HCC.out _).mono ?_
          rintro e w' ⟨rfl, rfl⟩
          go_wp2
          exact ⟨⟨i + 1, by omega, by omega, by go_num, HN, HW⟩, by simp only [intOf]; omega⟩
        · rw [hz] at hst
          have HN : Hid (z = q 0) := Lib.hid (by rw [← HI.out, hst]; rfl)
          clear hst
          go_wp2_with fail
          refine (HCC.out _).mono ?_
          rintro e w' ⟨rfl, rfl⟩
          go_wp2
          go_ret
          exact ⟨ret_int HN.out, HW.out⟩
      · have HN : Hid (1 = q 0) := Lib.hid (by rw [← HI.out, ← HQ.out]; exact (HLO.out i hlt (by omega)).symm)
        have gge : decide ((i : Int) ≥ (B.length : Int)) = true := decide_eq_true (by omega)
        have gge' : decide ((B.length : Int) ≤ (i : Int)) = true := decide_eq_true (by omega)
        go_wp2
        go_ret
        exact ⟨ret_int HN.out, HW.out⟩
    · by_cases hlt2 : i < B.length
      · have HN : Hid (-1 = q 0) := Lib.hid (by rw [← HI.out, ← HQ.out]; exact (HSH.out i (by omega) hlt2).symm)
        go_wp2
        go_ret
        exact ⟨ret_int HN.out, HW.out⟩
      · have HN : Hid (0 = q 0) := Lib.hid (by rw [← HI.out, ← HQ.out]; exact (HEN.out i (by omega) (by omega)).symm)
        go_wp2
        go_ret
        exact ⟨ret_int HN.out, HW.out⟩
set_option maxHeartbeats 800000 in
set_option maxRecDepth 100000 in
theorem or2_any (g c : Nat) (x y : Int) (w : World) (c0 : w.cell? ⟨g, 0, none⟩ = some (.int .i64 x)) (c1 : w.cell? ⟨g, 1, none⟩ = some (.int .i64 y)) :
    Calls Tryz.prog 98 #[.slice (some ⟨g, 0, none⟩) 2 c] w fun e w' => e = .returned (.int .i64 (if (x != 0) = true then x else y)) ∧ w = w' := by
  cases hx : (x != 0)
  · rw [if_neg (by simp)]
    cases hy : (y != 0)
    · have HY : Hid (0 = y) := Lib.hid (by have h0 := hy; simp at h0; exact h0.symm)
      go_enter Tryz.func98, Tryz.ntmps98
      go_wp2
      refine wp_loop_rounds 3 ?_
      rw [rounds_succ]
      go_wp2
      rw [rounds_succ]
      go_wp2
      rw [rounds_succ]
      go_wp2
      go_ret
      exact ⟨ret_int HY.out, rfl⟩
    · go_enter Tryz.func98, Tryz.ntmps98
      go_wp2
      refine wp_loop_rounds 2 ?_
      rw [rounds_succ]
      go_wp2
      rw [rounds_succ]
      go_wp2
      go_ret
      exact ⟨rfl, rfl⟩
  · rw [if_pos rfl]
    go_enter Tryz.func98, Tryz.ntmps98
    go_wp2
    refine wp_loop_rounds 1 ?_
    rw [rounds_succ]
    go_wp2
    go_ret
    exact ⟨rfl, rfl⟩
set_option maxHeartbeats 1600000 in
set_option maxRecDepth 100000 in
theorem cmpD_any (a1 a2 : Option Addr) (c1 c2 : Nat) (A B : List Nat) (hA : A.length ≤ 1000) (hB : B.length ≤ 1000) (w : World) (h1 : RowL w a1 A) (h2 : RowL w a2 B) :
    Calls Tryz.prog 97 #[.slice a1 A.length c1, .slice a2 B.length c2] w fun e w' => e = .returned (.int .i64 (cmpD A B)) ∧ Below w.heap.size w w' := by
  have HC := Lib.hid (fun W (hW : Below w.heap.size w W) => compareL_any a1 a2 c1 c2 A B hA hB W (h1.on hW) (h2.on hW))
  obtain ⟨d, hd⟩ : ∃ d : Int, d = (B.length : Int) - (A.length : Int) := ⟨_, rfl⟩
  have v1 : IntKind.i64.wrap ((B.length : Int) - (A.length : Int)) = d := by rw [hd]; exact IntWalk.i64_in _ (by omega)
  have HE : Hid (cmpD A B = if (d != 0) = true then d else cmpL A B) := Lib.hid (by rw [hd]; rfl)
  rw [HE.out]
  generalize cmpL A B = z at HC ⊢
  have HO := Lib.hid (fun (W : World) => or2_any W.heap.size 2 d z (W.alloc (.cells #[.int .i64 d, .int .i64 z] 3)) (by go_simp) (by go_simp))
  have HB0 := Lib.hid (Below.refl w.heap.size w)
  generalize (if (d != 0) = true then d else z) = r at HO ⊢
  clear hd h1 h2 HE
  go_enter Tryz.func97, Tryz.ntmps97
  go_wp2_with fail
  refine (HC.out _ HB0.out).mono ?_
  rintro e w1 ⟨rfl, hb1⟩
  have HB1 := Lib.hid (hb1.alloc hb1.size (.cells #[.int .i64 d, .int .i64 z] 3))
  clear hb1
  go_wp2_with fail
  refine (HO.out w1).mono ?_
  rintro e w2 ⟨rfl, rfl⟩
  go_wp2
  go_ret
  exact ⟨rfl, HB1.out⟩
/-- Lists in memory: the values vs lie in block g, each is a slice of its list. -/
structure Caps (W : World) (B g : Nat) (vs : List Value) (Ls : List (List Nat)) : Prop where
  len : vs.length = Ls.length
  at' : ∀ (j : Nat) v, vs[j]? = some v → W.cell? ⟨g, j, none⟩ = some v
  arg : ∀ (j : Nat) v L, vs[j]? = some v → Ls[j]? = some L → ArgZ W B v (zl L)
theorem Caps.on {W W' : World} {B g : Nat} {vs : List Value} {Ls : List (List Nat)} (h : Caps W B g vs Ls) (hb : Below W.heap.size W W') : Caps W' B g vs Ls :=
  ⟨h.len, fun j v hj => by rw [hb.cell (Kit.cell_lt (h.at' j v hj))]; exact h.at' j v hj, fun j v L hj hl => (h.arg j v L hj hl).on hb⟩
set_option maxHeartbeats 1600000 in
set_option maxRecDepth 100000 in
theorem minFunc_any (B g c : Nat) (vs : List Value) (L0 : List Nat) (xs : List (List Nat)) (hl : xs.length ≤ 1000) (hs : ∀ L ∈ L0 :: xs, Sm L) (w : World) (hc : Caps w B g vs (L0 :: xs)) :
    Calls Tryz.prog 96 #[.slice (some ⟨g, 0, none⟩) (xs.length + 1 : Nat) c, .func (.func 97) #[] #[]] w fun e w' => ∃ v, e = .returned v ∧ ArgZ w' B v (zl (minK L0 xs)) ∧ Below w.heap.size w w' := by
  have eg : ∀ args w, (callFunc 97 args).run Tryz.prog w = .ok (.enter 97 args) w := enters_of Tryz.func97 (by kernel_rfl) rfl
  have HC := Lib.hid hc
  have hvl : vs.length = xs.length + 1 := by rw [hc.len]; rfl
  obtain ⟨v0, hv0⟩ : ∃ v, vs[0]? = some v := ⟨_, List.getElem?_eq_getElem (by omega)⟩
  have q0 := hc.at' 0 v0 hv0
  obtain ⟨a0, k0, rfl, -⟩ := argZ_row (hc.arg 0 v0 L0 hv0 rfl)
  have HST : Hid (∀ (p : Nat) x, xs[p]? = some x → minK L0 (xs.take (p + 1)) = if key x < key (minK L0 (xs.take p)) then x else minK L0 (xs.take p)) := Lib.hid (fun p x hx => by rw [List.take_add_one, hx]; exact minK_snoc _ _ _)
  have HM0 : Hid (minK L0 (xs.take 0) = L0) := Lib.hid rfl
  have HALL : Hid (minK L0 (xs.take xs.length) = minK L0 xs) := Lib.hid (by rw [List.take_length])
  have HSM : Hid (∀ p, Sm (minK L0 (xs.take p))) := Lib.hid (fun p => by
    rcases (minK_fact (xs.take p) L0).1 with e | e
    · rw [e]; exact hs _ List.mem_cons_self
    · exact hs _ (List.mem_cons_of_mem _ (List.mem_of_mem_take e)))
  have HSX : Hid (∀ x ∈ xs, Sm x) := Lib.hid (fun x hx => hs x (List.mem_cons_of_mem _ hx))
  have HA0 : Hid (ArgZ w B (.slice a0 L0.length k0) (zl L0)) := Lib.hid (hc.arg 0 _ L0 hv0 rfl)
  obtain ⟨mk, hmk⟩ : ∃ mk : Nat → List Nat, mk = fun p => minK L0 (xs.take p) := ⟨_, rfl⟩
  have HQ : Hid (∀ p, minK L0 (xs.take p) = mk p) := Lib.hid (fun p => by rw [hmk])
  rw [← HALL.out, HQ.out]
  rw [HQ.out] at HM0
  have hl1 : decide (((xs.length + 1 : Nat) : Int) < 1) = false := decide_eq_false (by omega)
  clear hc hmk hs hv0 HALL
  go_enter Tryz.func96, Tryz.ntmps96
  go_wp2
  go_loopw [5, 6] (fun mv iv wr => ∃ p : Nat, p ≤ xs.length ∧ iv = .int .i64 (p + 1 : Nat) ∧ (∃ a k, mv = .slice a (mk p).length k ∧ Hid (ArgZ wr B (.slice a (mk p).length k) (zl (mk p)))) ∧ Hid (Below w.heap.size w wr)) (fun _ iv _ => xs.length + 1 - (intOf iv).toNat)
  case atStart => exact ⟨0, Nat.zero_le _, by go_num, ⟨a0, k0, by rw [HM0.out], Lib.hid (by rw [HM0.out]; exact HA0.out)⟩, Lib.hid (Below.refl _ _)⟩
  case round =>
    obtain ⟨p, hp, rfl, ⟨am, km, rfl, HAM⟩, HB⟩ := hrel
    by_cases hlt : p < xs.length
    · obtain ⟨x, hx⟩ : ∃ x, xs[p]? = some x := ⟨_, List.getElem?_eq_getElem hlt⟩
      obtain ⟨v, hv⟩ : ∃ v, vs[p + 1]? = some v := ⟨_, List.getElem?_eq_getElem (by omega)⟩
      have HC2 := Lib.hid (HC.out.on HB.out)
      have y0 := HC2.out.at' (p + 1) v hv
      have hxa := HC2.out.arg (p + 1) v x hv (by simpa using hx)
      obtain ⟨ax, kx, rfl, hrx⟩ := argZ_row hxa
      have HAX := Lib.hid hxa
      obtain ⟨am', km', hv2, hrm⟩ := argZ_row HAM.out
      injection hv2 with e1 e2 e3
      subst e1 e3
      have hst := HST.out p x hx
      rw [HQ.out, HQ.out] at hst
      have hsx := HSX.out x (List.mem_of_getElem? hx)
      have hsm := HSM.out p
      rw [HQ.out] at hsm
      have hsx1 := hsx.1
      have hsm1 := hsm.1
      have HCC := Lib.hid (cmpD_any ax am kx km x (mk p) (by omega) (by omega) wr hrx hrm)
      have hck := cmpD_key hsx hsm
      generalize cmpD x (mk p) = z at HCC hck
      clear hrx hrm hxa hv hsx hsm hx e2
      by_cases hk : key x < key (mk p)
      · rw [if_pos hk] at hst
        rw [decide_eq_true hk] at hck
        have HN := Lib.hid hst
        clear hk hst
        go_wp2_with (go_at_fn 97; refine HCC.out.mono ?_; rintro e w2 ⟨rfl, hb2⟩; have y2 := (hb2.cell (Kit.cell_lt y0)).trans y0)
        have HB2 := Lib.hid (HB.out.trans (hb2.mono HB.out.size))
        have HA2 := Lib.hid (HAX.out.on hb2)
        exact ⟨⟨p + 1, by omega, by go_num, ⟨ax, kx, by rw [HN.out], Lib.hid (by rw [HN.out]; exact HA2.out)⟩, HB2⟩, by simp only [intOf]; omega⟩
      · rw [if_neg hk] at hst
        rw [decide_eq_false hk] at hck
        have HN := Lib.hid hst
        clear hk hst
        go_wp2_with (go_at_fn 97; refine HCC.out.mono ?_; rintro e w2 ⟨rfl, hb2⟩)
        have HB2 := Lib.hid (HB.out.trans (hb2.mono HB.out.size))
        have HA2 := Lib.hid (HAM.out.on hb2)
        exact ⟨⟨p + 1, by omega, by go_num, ⟨am, km, by rw [HN.out], Lib.hid (by rw [HN.out]; exact HA2.out)⟩, HB2⟩, by simp only [intOf]; omega⟩
    · obtain rfl : p = xs.length := by omega
      go_wp2
      go_ret
      exact ⟨_, rfl, HAM.out, HB.out⟩
end Go.Proofs.YtflcpgdgoencgaaGreatDoor.Sg
/- Caps and cups, as impl tells them: longestOf, CapOf, CupOf. -/
namespace Go.Proofs.YtflcpgdgoencgaaGreatDoor.Sg
open Go.RowKit Pt NewI
/-- A value that owns a row of slices, each of its list. -/
structure OwnC (W : World) (B : Nat) (v : Value) (vs : List Value) (Ls : List (List Nat)) : Prop where
  own : W.ownsRow B 28 1 v vs.length vs
  len : vs.length = Ls.length
  arg : ∀ (j : Nat) u L, vs[j]? = some u → Ls[j]? = some L → ArgZ W B u (zl L)
theorem OwnC.nil (W : World) (B : Nat) : OwnC W B (.slice none 0 0) [] [] := ⟨World.ownsRow_nil _ _ _ _, rfl, fun j u L h => by simp at h⟩
theorem OwnC.on {W W' : World} {B : Nat} {v : Value} {vs : List Value} {Ls : List (List Nat)} (h : OwnC W B v vs Ls) (hb : Below W.heap.size W W') : OwnC W' B v vs Ls :=
  ⟨World.ownsRow.kept h.own (row := none) ⟨hb.os, hb.tape, hb.output, hb.size, fun k hk _ => hb.block k hk⟩ (by cases v.ownBlock <;> simp), h.len, fun j u L h1 h2 => (h.arg j u L h1 h2).on hb⟩
theorem argZ_grown {W W1 : World} {B B' n : Nat} {v u : Value} {xs : List Value} {zs : List Int} (h : ArgZ W B u zs) (ho : W.ownsRow B' 28 1 v n xs) (hg : W.grownBy W1 v.ownBlock) : ArgZ W1 B u zs := by
  rcases h with h | ⟨h0, g, c, h1, h2, h3, h4, h5, h6⟩
  · exact .inl h
  · obtain ⟨cs, hcs⟩ := h5
    have hk := hg.block g h6.lt (own_box ho hcs (by decide))
    exact .inr ⟨h0, g, c, h1, h2, h3, h4, ⟨cs, hk.trans hcs⟩, h6.block hk hg.size⟩
theorem OwnC.snoc {W W1 : World} {B : Nat} {v v1 u : Value} {vs : List Value} {Ls : List (List Nat)} {L : List Nat} (h : OwnC W B v vs Ls) (hu : ArgZ W B u (zl L)) (hg : W.grownBy W1 v.ownBlock) (ho : W1.ownsRow B 28 1 v1 (vs.length + 1) (vs ++ [u])) : OwnC W1 B v1 (vs ++ [u]) (Ls ++ [L]) := by
  refine ⟨by rw [List.length_append]; exact ho, by simp [h.len], fun j x M h1 h2 => ?_⟩
  by_cases hj : j < vs.length
  · rw [List.getElem?_append_left hj] at h1
    rw [List.getElem?_append_left (by rw [← h.len]; exact hj)] at h2
    exact argZ_grown (h.arg j x M h1 h2) h.own hg
  · rw [List.getElem?_append_right (by omega)] at h1
    rw [List.getElem?_append_right (by rw [← h.len]; omega)] at h2
    have hj0 : j - vs.length = 0 := by
      rcases Nat.lt_or_ge (j - vs.length) 1 with h | h
      · omega
      · rw [List.getElem?_eq_none (by simpa using h)] at h1; cases h1
    rw [hj0] at h1
    rw [← h.len, hj0] at h2
    simp only [List.getElem?_cons_zero, Option.some.injEq] at h1 h2
    subst h1 h2
    exact argZ_grown hu h.own hg
theorem OwnC.caps {W : World} {B : Nat} {v : Value} {vs : List Value} {L0 : List Nat} {xs : List (List Nat)} (h : OwnC W B v vs (L0 :: xs)) : ∃ g c, v = .slice (some ⟨g, 0, none⟩) (xs.length + 1 : Nat) c ∧ Caps W B g vs (L0 :: xs) := by
  have hl := h.len
  obtain ⟨-, ⟨rfl, h1⟩ | ⟨g, cap, cur, hv, hB, hh, hr⟩⟩ := id h.own
  · rw [h1] at hl; simp at hl
  · subst hv
    have hc := World.ownsRow.cells h.own (g := g) rfl
    refine ⟨g, cap, by rw [hl]; rfl, h.len, fun j u hj => ?_, h.arg⟩
    have := hc j u hj
    rwa [WideShapes.add_plain, Nat.zero_add] at this
set_option maxRecDepth 100000 in
theorem infoII : (Tryz.prog.info? 28).map (fun i => (i.zero, i.size, i.bytes)) = some (some (.slice none 0 0), 1, 24) := by kernel_rfl
theorem newsV (w : World) (v : Value) (t : TypeId) : ∀ (j : Nat) u, [v][j]? = some u → (w.alloc (.cells #[v] t)).cell? (Addr.add ⟨w.heap.size, 0, none⟩ j) = some u
  | 0, u, h => by rw [WideShapes.add_plain, Nat.add_zero, World.cell?_alloc_new]; simpa using h
  | j + 1, u, h => by simp at h
set_option maxHeartbeats 3200000 in
set_option maxRecDepth 100000 in
theorem implLongest (n : Int) (s : ByteArray) (sn : Int) (hs : s.size ≤ 9223372036854775807) (w : World) (hT : Tab w) :
    Calls Tryz.prog 60 #[sg n s, .int .i64 sn] w fun e w' => Got w.heap.size (zl (capL n s.data.toList sn)) e w' ∧ Below w.heap.size w w' := by
  have HS := Lib.hid (box_made w n s 25)
  have HA := Lib.hid (fun W => implAre_sg n s hs W)
  obtain ⟨x0, x1, -⟩ := HS.out
  cases h : arB n s.data.toList
  · have HE : Hid (zl (capL n s.data.toList sn) = []) := Lib.hid (by rw [cap_no h]; rfl)
    rw [h] at HA
    rw [HE.out]
    clear h HE
    go_enter Tryz.func60, Tryz.ntmps60
    go_wp2_with fail
    refine (HA.out _).mono ?_
    rintro e w1 ⟨rfl, hb1⟩
    have B1 := Lib.hid (HS.out.on hb1).2.2
    clear hb1 x0 x1
    go_wp2
    go_ret
    exact ⟨⟨none, 0, rfl, .inl rfl⟩, B1.out⟩
  · obtain ⟨h3, h7, -, -⟩ := arB_yes h
    obtain ⟨m, rfl⟩ : ∃ m : Nat, n = m := ⟨n.toNat, by omega⟩
    have h7 : m ≤ 7 := by omega
    have hpw := pow_le7 h7
    have HMO := Lib.hid (fun W => mapOf_sg m s hs W)
    have HCL : Hid (∀ L0 xs, capsTo (sgnF (lookS m s.data.toList)) sn (2 ^ m) = L0 :: xs → minK L0 xs = capL m s.data.toList sn ∧ (∀ L ∈ L0 :: xs, Sm L) ∧ xs.length ≤ 1000) := Lib.hid (fun L0 xs e => ⟨by unfold capL; rw [if_pos h, Int.toNat_natCast]; exact caps_best h7 e, fun L hL => by
      rw [← e] at hL
      obtain ⟨⟨S, hS, rfl⟩, -⟩ := capsTo_mem.1 hL
      exact asc_sm h7 (elt_asc hS), by
      have := capsTo_len (sgnF (lookS m s.data.toList)) sn (2 ^ m)
      rw [e] at this
      simp at this
      omega⟩)
    obtain ⟨L0, xs, hLx⟩ := caps_some (F := sgnF (lookS m s.data.toList)) (sg := sn) m
    obtain ⟨hk1, hk2, hk3⟩ := HCL.out L0 xs hLx
    rw [← hk1]
    have HMF := Lib.hid (fun B g c vs W hc => minFunc_any B g c vs L0 xs hk3 hk2 W hc)
    have HEL := Lib.hid (fun S (hS : S < 128) W hW => elementsOf_any S hS W hW)
    have HAH := Lib.hid (fun b v S W hm B hv => allHave_any b (lookS m s.data.toList) v (eltN S) (elt_len S) (fun x hx => (mem_elt.1 hx).1) sn W hm B hv)
    have HHIT := Lib.hid (fun p => capsTo_hit (F := sgnF (lookS m s.data.toList)) (sg := sn) (p := p))
    have HMISS := Lib.hid (fun p => capsTo_miss (F := sgnF (lookS m s.data.toList)) (sg := sn) (p := p))
    have HLEN := Lib.hid (capsTo_len (sgnF (lookS m s.data.toList)) sn)
    have HC0 : Hid (capsTo (sgnF (lookS m s.data.toList)) sn 0 = []) := Lib.hid rfl
    obtain ⟨i0, hi, hz0, hz1, hz2⟩ := info_parts infoII
    obtain ⟨M, hM⟩ : ∃ M, M = 2 ^ m := ⟨_, rfl⟩
    have hsh : IntKind.i64.wrap ((2 : Int) ^ m) = (M : Int) := by
      rw [hM]; push_cast; exact IntWalk.i64_in _ (by have : ((2 ^ m : Nat) : Int) = (2 : Int) ^ m := by push_cast; rfl
                                                     omega)
    rw [← hM] at hLx hpw
    have HLX := Lib.hid hLx
    generalize allS' (sgnF (lookS m s.data.toList)) sn = ah at HAH HHIT HMISS
    generalize capsTo (sgnF (lookS m s.data.toList)) sn = ct at HHIT HMISS HLEN HC0 HLX
    generalize lookS m s.data.toList = f at HMO HAH
    have HT := Lib.hid (fun W hW => hT.on (w' := W) hW)
    have hmb : (0 : Int) ≤ (m : Int) ∧ (m : Int) < 64 := by omega
    rw [h] at HA
    clear h hM hLx hk1 hk2 hT HCL
    go_enter Tryz.func60, Tryz.ntmps60
    go_wp2_with fail
    refine (HA.out _).mono ?_
    rintro e w1 ⟨rfl, hb1⟩
    have X1 := Lib.hid (HS.out.on hb1)
    clear hb1 x0 x1
    obtain ⟨x0, x1, -⟩ := X1.out
    go_wp2_with fail
    refine (HMO.out _).mono ?_
    rintro e w2 ⟨b, rfl, -, hm, hb2⟩
    have X2 := Lib.hid (X1.out.on hb2)
    have M2 := Lib.hid hm
    have HO2 : Hid (OwnC w2 w2.heap.size (.slice none 0 0) [] (ct 0)) := Lib.hid (by rw [HC0.out]; exact OwnC.nil _ _)
    clear hb2 hm x0 x1
    obtain ⟨x0, x1, -⟩ := X2.out
    go_wp2
    go_loopw [6, 17] (fun vv x wr => ∃ p : Nat, p ≤ M ∧ x = .int .i64 p ∧ (∃ vs, Hid (OwnC wr w2.heap.size vv vs (ct p))) ∧ Hid (Below w2.heap.size w2 wr)) (fun _ x _ => M - (intOf x).toNat)
    case atStart => exact ⟨0, Nat.zero_le _, rfl, ⟨[], HO2⟩, Lib.hid (Below.refl _ _)⟩
    case round =>
      obtain ⟨p, hp, rfl, ⟨vs, HO⟩, HB⟩ := hrel
      by_cases hlt : p < M
      · have hpl := HLEN.out p
        have hvl := HO.out.len
        have HEC := Lib.hid (HEL.out p (by omega) wr (HT.out _ (X2.out.2.2.trans (HB.out.mono X2.out.2.2.size))))
        have HHP := Lib.hid (HHIT.out p)
        have HMP := Lib.hid (HMISS.out p)
        have hwr := HB.out.size
        have HAC := Lib.hid (fun v W hm hv => HAH.out b v p W hm w2.heap.size hv)
        generalize ah (eltN p) = r at HHP HMP HAC
        generalize eltN p = L at HEC HAC HHP
        generalize ct p = Ls at HO hpl hvl HHP HMP
        go_wp2_with fail
        refine HEC.out.mono ?_
        rintro e w3 ⟨u, rfl, hu, hb3⟩
        have HB3 := Lib.hid (HB.out.trans (hb3.mono hwr))
        have HO3 := Lib.hid (HO.out.on hb3)
        have HU3 := Lib.hid (hu.low hwr)
        clear hu hb3
        go_wp2_with fail
        refine (HAC.out u w3 (M2.out.on HB3.out) HU3.out).mono ?_
        rintro e w4 ⟨rfl, hb4⟩
        have HB4 := Lib.hid (HB3.out.trans (hb4.mono HB3.out.size))
        have HO4 := Lib.hid (HO3.out.on hb4)
        have HU4 := Lib.hid (HU3.out.on hb4)
        have hs4 := HB4.out.size
        clear hb4
        cases r
        · have HE := Lib.hid (HMP.out rfl)
          have HO5 := HO4
          rw [← HE.out] at HO5
          go_wp2
          exact ⟨⟨p + 1, by omega, by go_num, ⟨vs, HO5⟩, HB4⟩, by simp only [intOf]; omega⟩
        · have HE := Lib.hid (HHP.out rfl)
          obtain ⟨au, cu, rfl, -⟩ := argZ_row HU4.out
          go_wp2_with (at_builtin; refine wpList_append_own _ rfl (.tmp 26) (.tmp 28) 42 rfl w2.heap.size 28 i0 _ 1 24 Tryz.underlying42 hi hz0 hz1 hz2 rfl (by decide) _ _ _ rfl (World.ownsRow.alloc HO4.out.own _) ⟨_, 0, none⟩ 1 1 [.slice au L.length cu] rfl rfl (newsV _ _ _) (by simp [Value.oneCell']) (by simp only [maxLen]; omega) (by omega) (by simp; omega) ?_)
          intro v6 w6 hown6 hg6 _
          have HB6 := Lib.hid ((HB4.out.alloc hs4 (.cells #[.slice au L.length cu] 28)).grown hg6 (by simp; omega) (fun k hk => (World.ownsRow.lt HO4.out.own k hk).1))
          have hal := (Below.refl w4.heap.size w4).alloc (Nat.le_refl _) (.cells #[.slice au L.length cu] 28)
          have HO6 := Lib.hid ((HO4.out.on hal).snoc (HU4.out.on hal) hg6 (by rw [hvl]; exact hown6))
          rw [← HE.out] at HO6
          clear hown6 hg6 hal
          go_wp2
          exact ⟨⟨p + 1, by omega, by go_num, ⟨_, HO6⟩, HB6⟩, by simp only [intOf]; omega⟩
      · obtain rfl : p = M := by omega
        have HOM := HO
        rw [HLX.out] at HOM
        obtain ⟨g, c, rfl, hcp⟩ := HOM.out.caps
        have HMC := Lib.hid (HMF.out _ g c vs wr hcp)
        have hs2 := X2.out.2.2.size
        clear hcp HOM
        go_wp2_with fail
        refine HMC.out.mono ?_
        rintro e w5 ⟨v5, rfl, hv5, hb5⟩
        obtain ⟨a5, c5, rfl, hn5⟩ := ArgZ.new hv5
        have HN := Lib.hid hn5
        have B5 := Lib.hid ((X2.out.2.2.trans (HB.out.mono hs2)).trans (hb5.mono (Nat.le_trans hs2 HB.out.size)))
        clear hv5 hb5 hn5
        go_wp2
        go_ret
        exact ⟨⟨a5, c5, rfl, new_low HN.out hs2⟩, B5.out⟩
set_option maxRecDepth 100000 in
theorem implCapOf (n : Int) (s : ByteArray) (hs : s.size ≤ 9223372036854775807) (w : World) (hT : Tab w) :
    Calls Tryz.prog 12 #[sg n s] w fun e w' => Got w.heap.size (zl (capL n s.data.toList (-1))) e w' ∧ Below w.heap.size w w' := by
  have HC := Lib.hid (fun W (hW : Tab W) => implLongest n s (-1) hs W hW)
  have HS := Lib.hid (box_made w n s 25)
  have HT := Lib.hid (hT.on HS.out.2.2)
  obtain ⟨x0, x1, -⟩ := HS.out
  generalize zl (capL n s.data.toList (-1)) = zs at HC ⊢
  clear hT
  go_enter Tryz.func12, Tryz.ntmps12
  go_wp2_with fail
  refine (HC.out _ HT.out).mono ?_
  rintro e w1 ⟨⟨a, c, rfl, hn⟩, hb1⟩
  have B1 := Lib.hid (HS.out.2.2.trans (hb1.mono HS.out.2.2.size))
  have HN := Lib.hid (new_low hn (show w.heap.size ≤ _ by first | exact HS.out.2.2.size | exact Nat.le_refl _))
  clear hn hb1 x0 x1
  go_wp2
  go_ret
  exact ⟨⟨a, c, rfl, HN.out⟩, B1.out⟩
set_option maxRecDepth 100000 in
theorem implCupOf (n : Int) (s : ByteArray) (hs : s.size ≤ 9223372036854775807) (w : World) (hT : Tab w) :
    Calls Tryz.prog 13 #[sg n s] w fun e w' => Got w.heap.size (zl (capL n s.data.toList 1)) e w' ∧ Below w.heap.size w w' := by
  have HC := Lib.hid (fun W (hW : Tab W) => implLongest n s 1 hs W hW)
  have HS := Lib.hid (box_made w n s 25)
  have HT := Lib.hid (hT.on HS.out.2.2)
  obtain ⟨x0, x1, -⟩ := HS.out
  generalize zl (capL n s.data.toList 1) = zs at HC ⊢
  clear hT
  go_enter Tryz.func13, Tryz.ntmps13
  go_wp2_with fail
  refine (HC.out _ HT.out).mono ?_
  rintro e w1 ⟨⟨a, c, rfl, hn⟩, hb1⟩
  have B1 := Lib.hid (HS.out.2.2.trans (hb1.mono HS.out.2.2.size))
  have HN := Lib.hid (new_low hn (show w.heap.size ≤ _ by first | exact HS.out.2.2.size | exact Nat.le_refl _))
  clear hn hb1 x0 x1
  go_wp2
  go_ret
  exact ⟨⟨a, c, rfl, HN.out⟩, B1.out⟩
end Go.Proofs.YtflcpgdgoencgaaGreatDoor.Sg
