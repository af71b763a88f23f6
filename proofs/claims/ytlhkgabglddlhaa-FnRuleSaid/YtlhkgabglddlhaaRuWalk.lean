/- FnRule: the law's own walk: at every code it answers true, and only memory of its own has changed. No condition. -/
import Derived.Test.YtlhkgabglddlhaaMgB
import Derived.Test.YtlhkgabglddlhaaMgC
import Derived.Test.YtlhkgabglddlhaaRuCircSpec
import Derived.Test.YtlhkgabglddlhaaRuMat
import Derived.Test.YtlhkgabglddlhaaRuAcLaw
import Derived.Deep.DeepCutAuto
namespace Go.Proofs.Ytlhkgabglddlhaa.Sg
open Go.RowKit Pt NewI Cur
theorem outC_alloc {Bo : Nat} {n : Int} {x : ByteArray} {W : World} (h : OutC Bo n x W) (o : Obj) : OutC Bo n x (W.alloc o) := h.on ((Below.refl _ _).alloc (Nat.le_refl _) o)
/-- What the walk of FnRule keeps: six boxes and two slices. -/
structure Mem (w : World) (bs br bx by' bc ba : Nat) (ms mr mx mc ma : Int) (Ts Tr tx Tc Ta : ByteArray) (lb hb : Nat) (ab : Option Addr) (zb : List Int) (lq hq : Nat) (aq : Option Addr) (zq : List Int) (W : World) : Prop where
  below : Below w.heap.size w W
  s : OutC bs ms Ts W
  r : OutC br mr Tr W
  x : OutC bx mx tx W
  y : OutC by' mx tx W
  c : OutC bc mc Tc W
  a : OutC ba ma Ta W
  nb : NewI.New W lb hb ab zb.length (NewI.zc zb)
  nq : NewI.New W lq hq aq zq.length (NewI.zc zq)
theorem Mem.on {w : World} {bs br bx by' bc ba : Nat} {ms mr mx mc ma : Int} {Ts Tr tx Tc Ta : ByteArray} {lb hb : Nat} {ab : Option Addr} {zb : List Int} {lq hq : Nat} {aq : Option Addr} {zq : List Int} {W W' : World} (h : Mem w bs br bx by' bc ba ms mr mx mc ma Ts Tr tx Tc Ta lb hb ab zb lq hq aq zq W) (hb' : Below W.heap.size W W') : Mem w bs br bx by' bc ba ms mr mx mc ma Ts Tr tx Tc Ta lb hb ab zb lq hq aq zq W' :=
  ⟨h.below.trans (hb'.mono h.below.size), h.s.on hb', h.r.on hb', h.x.on hb', h.y.on hb', h.c.on hb', h.a.on hb', h.nb.on hb', h.nq.on hb'⟩
theorem rule_cases {ar im ia : Bool} {zb : List Int} (h1 : im = (ar && zb.isEmpty)) (h2 : ia = true → im = true) :
    (ar = false ∧ im = false ∧ ia = false ∧ True) ∨ (ar = true ∧ im = true ∧ ia = true ∧ ((zb.length : Int) == 0) = true) ∨ (ar = true ∧ im = true ∧ ia = false ∧ ((zb.length : Int) == 0) = true) ∨ (ar = true ∧ im = false ∧ ia = false ∧ ((zb.length : Int) == 0) = false) := by
  have hc : ∀ (a : Int) (l : List Int), (((a :: l).length : Int) == 0) = false := fun a l => by rw [beq_eq_false_iff_ne, List.length_cons]; omega
  cases ar
  · cases im
    · cases ia
      · exact .inl ⟨rfl, rfl, rfl, trivial⟩
      · exact absurd (h2 rfl) (by decide)
    · exact absurd h1 (by simp)
  · cases zb with
    | nil =>
      cases im
      · exact absurd h1 (by simp)
      · cases ia
        · exact .inr (.inr (.inl ⟨rfl, rfl, rfl, rfl⟩))
        · exact .inr (.inl ⟨rfl, rfl, rfl, rfl⟩)
    | cons a l =>
      cases im
      · cases ia
        · exact .inr (.inr (.inr ⟨rfl, rfl, rfl, hc a l⟩))
        · exact absurd (h2 rfl) (by decide)
      · exact absurd h1 (by simp)
/-- A slice that holds these numbers. -/
def Tmp (zs : List Int) (a : Option Addr) (W : World) : Prop := ∃ lo hi, NewI.New W lo hi a zs.length (NewI.zc zs)
theorem Tmp.drew {zs : List Int} {a : Option Addr} {W : World} (h : Tmp zs a W) : Tmp zs a W.drew := by
  obtain ⟨lo, hi, h⟩ := h
  exact ⟨lo, hi, h.on (Below.refl _ _).drew⟩
set_option maxHeartbeats 6400000 in
set_option maxRecDepth 100000 in
theorem walkFnRule (v : Value) (n : Nat) (w : World) (hv : Bytes w v n w.heap.size) :
    Calls Try.prog 3 #[v] w fun e w' => e = .returned (.bool true) ∧ Below w.heap.size w w' := by
  have HBIG := Lib.hid (fun W (hW : Below w.heap.size w W) => big_any v n W (bytes_up hv hW))
  have HV := Lib.hid (fun W (hW : Below w.heap.size w W) => bytes_up hv hW)
  have B0 := Lib.hid (Below.refl w.heap.size w)
  clear hv
  by_cases hbig : (n : Int) > 1048576
  · go_enter Try.func3, Try.ntmps3
    go_wp2_with fail
    refine (HBIG.out _ B0.out).mono ?_
    rintro e w1 ⟨rfl, rfl⟩
    go_wp2
    go_ret
    exact ⟨rfl, B0.out⟩
  · have hn : n ≤ 9223372036854700000 := by omega
    go_enter Try.func3, Try.ntmps3
    go_wp2_with fail
    refine (HBIG.out _ B0.out).mono ?_
    rintro e w1 ⟨rfl, rfl⟩
    -- s
    go_wp2_with fail
    refine (drawFirst_any v n hn _ (HV.out _ B0.out)).mono ?_
    rintro e w2 ⟨ms, Ts, rfl, hms, hTs, hb2⟩
    have B2 := Lib.hid (hb2.alloc hb2.size (.cells #[.int .i64 ms, .string Ts] 25))
    have S2 := Lib.hid (outC_made w2 ms Ts 25)
    clear hb2
    obtain ⟨⟨y0, y1⟩, -⟩ := S2.out
    go_wp2_with fail
    refine (implFirst ms Ts (by omega) _).mono ?_
    rintro e w3 ⟨⟨ab, cb, rfl, hnb⟩, hb3⟩
    have B3 := Lib.hid (B2.out.trans (hb3.mono B2.out.size))
    have S3 := Lib.hid (S2.out.on hb3)
    have NB3 := Lib.hid hnb
    clear hb3 hnb y0 y1
    -- r, i
    go_wp2_with fail
    refine (drawRev_any v n hn _ (HV.out _ B3.out)).mono ?_
    rintro e w4 ⟨mr, Tr, ir, rfl, hmr, hTr, hir, hb4⟩
    have B4 := Lib.hid ((B3.out.trans (hb4.mono B3.out.size)).alloc (Nat.le_trans B3.out.size hb4.size) (.cells #[.int .i64 mr, .string Tr] 25))
    have S4 := Lib.hid (outC_alloc (S3.out.on hb4) (.cells #[.int .i64 mr, .string Tr] 25))
    have NB4 := Lib.hid ((NB3.out.on hb4).on ((Below.refl _ _).alloc (Nat.le_refl _) (.cells #[.int .i64 mr, .string Tr] 25)))
    have R4 := Lib.hid (outC_made w4 mr Tr 25)
    clear hb4 S3 NB3
    obtain ⟨mx, tx, bx, hsr, hir2, htx, hkeep⟩ := reverse_keeps mr Tr ir (by omega)
    have HSR := Lib.hid hsr
    have HIR := Lib.hid hir2
    clear hsr hir2
    obtain ⟨⟨y0, y1⟩, -⟩ := R4.out
    go_wp2_with fail
    refine (HIR.out _).mono ?_
    rintro e w5 ⟨rfl, hb5⟩
    clear y0 y1
    have B5 := Lib.hid ((B4.out.trans (hb5.mono B4.out.size)).alloc (Nat.le_trans B4.out.size hb5.size) (.cells #[.int .i64 mx, .string tx] 25))
    have S5 := Lib.hid (outC_alloc (S4.out.on hb5) (.cells #[.int .i64 mx, .string tx] 25))
    have R5 := Lib.hid (outC_alloc (R4.out.on hb5) (.cells #[.int .i64 mx, .string tx] 25))
    have NB5 := Lib.hid ((NB4.out.on hb5).on ((Below.refl _ _).alloc (Nat.le_refl _) (.cells #[.int .i64 mx, .string tx] 25)))
    have X5 := Lib.hid (outC_made w5 mx tx 25)
    clear hb5 B4 S4 R4 NB4
    obtain ⟨⟨y0, y1⟩, -⟩ := R5.out
    go_wp2_with fail
    refine (HSR.out _).mono ?_
    rintro e w6 ⟨rfl, hb6⟩
    clear y0 y1
    have B6 := Lib.hid ((B5.out.trans (hb6.mono B5.out.size)).alloc (Nat.le_trans B5.out.size hb6.size) (.cells #[.int .i64 mx, .string tx] 25))
    have S6 := Lib.hid (outC_alloc (S5.out.on hb6) (.cells #[.int .i64 mx, .string tx] 25))
    have R6 := Lib.hid (outC_alloc (R5.out.on hb6) (.cells #[.int .i64 mx, .string tx] 25))
    have X6 := Lib.hid (outC_alloc (X5.out.on hb6) (.cells #[.int .i64 mx, .string tx] 25))
    have NB6 := Lib.hid ((NB5.out.on hb6).on ((Below.refl _ _).alloc (Nat.le_refl _) (.cells #[.int .i64 mx, .string tx] 25)))
    have Y6 := Lib.hid (outC_made w6 mx tx 25)
    clear hb6 B5 S5 R5 X5 NB5
    go_wp2_with fail
    refine (drawCirc_any v n hn _ (HV.out _ B6.out)).mono ?_
    rintro e w7 ⟨mc, Tc, z0, z1, z2, z3, rfl, hmc, hTc, hE, hb7⟩
    have B7 := Lib.hid ((B6.out.trans (hb7.mono B6.out.size)).alloc (Nat.le_trans B6.out.size hb7.size) (.cells #[.int .i64 mc, .string Tc] 25))
    have S7 := Lib.hid (outC_alloc (S6.out.on hb7) (.cells #[.int .i64 mc, .string Tc] 25))
    have R7 := Lib.hid (outC_alloc (R6.out.on hb7) (.cells #[.int .i64 mc, .string Tc] 25))
    have X7 := Lib.hid (outC_alloc (X6.out.on hb7) (.cells #[.int .i64 mc, .string Tc] 25))
    have Y7 := Lib.hid (outC_alloc (Y6.out.on hb7) (.cells #[.int .i64 mc, .string Tc] 25))
    have NB7 := Lib.hid ((NB6.out.on hb7).on ((Below.refl _ _).alloc (Nat.le_refl _) (.cells #[.int .i64 mc, .string Tc] 25)))
    have C7 := Lib.hid (outC_made w7 mc Tc 25)
    clear hb7 B6 S6 R6 X6 Y6 NB6
    go_wp2_with fail
    refine (drawSets_any v n hn _ (HV.out _ B7.out)).mono ?_
    rintro e w8 ⟨ma, Ta, rfl, hma, hTa, hb8⟩
    have B8 := Lib.hid ((B7.out.trans (hb8.mono B7.out.size)).alloc (Nat.le_trans B7.out.size hb8.size) (.cells #[.int .i64 ma, .string Ta] 25))
    have S8 := Lib.hid (outC_alloc (S7.out.on hb8) (.cells #[.int .i64 ma, .string Ta] 25))
    have R8 := Lib.hid (outC_alloc (R7.out.on hb8) (.cells #[.int .i64 ma, .string Ta] 25))
    have X8 := Lib.hid (outC_alloc (X7.out.on hb8) (.cells #[.int .i64 ma, .string Ta] 25))
    have Y8 := Lib.hid (outC_alloc (Y7.out.on hb8) (.cells #[.int .i64 ma, .string Ta] 25))
    have C8 := Lib.hid (outC_alloc (C7.out.on hb8) (.cells #[.int .i64 ma, .string Ta] 25))
    have NB8 := Lib.hid ((NB7.out.on hb8).on ((Below.refl _ _).alloc (Nat.le_refl _) (.cells #[.int .i64 ma, .string Ta] 25)))
    have A8 := Lib.hid (outC_made w8 ma Ta 25)
    clear hb8 B7 S7 R7 X7 Y7 C7 NB7
    obtain ⟨⟨y0, y1⟩, -⟩ := A8.out
    go_wp2_with fail
    refine (implSets ma Ta (by omega) _).mono ?_
    rintro e w9 ⟨⟨aq, cq, rfl, hnq⟩, hb9⟩
    clear y0 y1
    have B9 := Lib.hid (B8.out.trans (hb9.mono B8.out.size))
    have S9 := Lib.hid (S8.out.on hb9)
    have R9 := Lib.hid (R8.out.on hb9)
    have X9 := Lib.hid (X8.out.on hb9)
    have Y9 := Lib.hid (Y8.out.on hb9)
    have C9 := Lib.hid (C8.out.on hb9)
    have A9 := Lib.hid (A8.out.on hb9)
    have NB9 := Lib.hid (NB8.out.on hb9)
    clear hb9 B8 S8 R8 X8 Y8 C8 A8 NB8
    have NQ9 := Lib.hid hnq
    clear hnq
    -- the memory, packed
    obtain ⟨lb, hb0, NBx⟩ : ∃ lo hi, NewI.New w9 lo hi ab (firstZ ms Ts.data.toList).length (NewI.zc (firstZ ms Ts.data.toList)) := ⟨_, _, NB9.out⟩
    obtain ⟨lq, hq0, NQx⟩ : ∃ lo hi, NewI.New w9 lo hi aq (setsZ ma Ta.data.toList).length (NewI.zc (setsZ ma Ta.data.toList)) := ⟨_, _, NQ9.out⟩
    obtain ⟨PK, hPK⟩ : ∃ P : World → Prop, P = Mem w1 w2.heap.size w4.heap.size w5.heap.size w6.heap.size w7.heap.size w8.heap.size ms mr mx mc ma Ts Tr tx Tc Ta lb hb0 ab (firstZ ms Ts.data.toList) lq hq0 aq (setsZ ma Ta.data.toList) := ⟨_, rfl⟩
    have K9 : Hid (PK w9) := Lib.hid (by rw [hPK]; exact ⟨B9.out, S9.out, R9.out, X9.out, Y9.out, C9.out, A9.out, NBx, NQx⟩)
    have HDR : Hid (∀ W, PK W → PK W.drew) := Lib.hid (by rw [hPK]; exact fun W h => h.on (Below.refl _ _).drew)
    have HON : Hid (∀ W W', PK W → Below W.heap.size W W' → PK W') := Lib.hid (by rw [hPK]; exact fun W W' h hb => h.on hb)
    have HBE : Hid (∀ W, PK W → Below w1.heap.size w1 W) := Lib.hid (by rw [hPK]; exact fun W h => h.below)
    have HNB : Hid (∀ W, PK W → Tmp (firstZ ms Ts.data.toList) ab W) := Lib.hid (by rw [hPK]; exact fun W h => ⟨_, _, h.nb⟩)
    have HNQ : Hid (∀ W, PK W → Tmp (setsZ ma Ta.data.toList) aq W) := Lib.hid (by rw [hPK]; exact fun W h => ⟨_, _, h.nq⟩)
    have HCsxyca : Hid (∀ W, PK W → W.cell? ⟨w2.heap.size, 0, none⟩ = some (.int .i64 ms) ∧ W.cell? ⟨w2.heap.size, 1, none⟩ = some (.string Ts) ∧ W.cell? ⟨w5.heap.size, 0, none⟩ = some (.int .i64 mx) ∧ W.cell? ⟨w5.heap.size, 1, none⟩ = some (.string tx) ∧ W.cell? ⟨w6.heap.size, 0, none⟩ = some (.int .i64 mx) ∧ W.cell? ⟨w6.heap.size, 1, none⟩ = some (.string tx) ∧ W.cell? ⟨w7.heap.size, 0, none⟩ = some (.int .i64 mc) ∧ W.cell? ⟨w7.heap.size, 1, none⟩ = some (.string Tc) ∧ W.cell? ⟨w8.heap.size, 0, none⟩ = some (.int .i64 ma) ∧ W.cell? ⟨w8.heap.size, 1, none⟩ = some (.string Ta) ∧ PK W) := Lib.hid (fun W hk => by have h := hk; rw [hPK] at h; exact ⟨h.s.1.1, h.s.1.2, h.x.1.1, h.x.1.2, h.y.1.1, h.y.1.2, h.c.1.1, h.c.1.2, h.a.1.1, h.a.1.2, hk⟩)
    have HCs : Hid (∀ W, PK W → W.cell? ⟨w2.heap.size, 0, none⟩ = some (.int .i64 ms) ∧ W.cell? ⟨w2.heap.size, 1, none⟩ = some (.string Ts) ∧ PK W) := Lib.hid (fun W hk => by have h := hk; rw [hPK] at h; exact ⟨h.s.1.1, h.s.1.2, hk⟩)
    have HCrx : Hid (∀ W, PK W → W.cell? ⟨w4.heap.size, 0, none⟩ = some (.int .i64 mr) ∧ W.cell? ⟨w4.heap.size, 1, none⟩ = some (.string Tr) ∧ W.cell? ⟨w5.heap.size, 0, none⟩ = some (.int .i64 mx) ∧ W.cell? ⟨w5.heap.size, 1, none⟩ = some (.string tx) ∧ PK W) := Lib.hid (fun W hk => by have h := hk; rw [hPK] at h; exact ⟨h.r.1.1, h.r.1.2, h.x.1.1, h.x.1.2, hk⟩)
    have HCc : Hid (∀ W, PK W → W.cell? ⟨w7.heap.size, 0, none⟩ = some (.int .i64 mc) ∧ W.cell? ⟨w7.heap.size, 1, none⟩ = some (.string Tc) ∧ PK W) := Lib.hid (fun W hk => by have h := hk; rw [hPK] at h; exact ⟨h.c.1.1, h.c.1.2, hk⟩)
    have HCa : Hid (∀ W, PK W → W.cell? ⟨w8.heap.size, 0, none⟩ = some (.int .i64 ma) ∧ W.cell? ⟨w8.heap.size, 1, none⟩ = some (.string Ta) ∧ PK W) := Lib.hid (fun W hk => by have h := hk; rw [hPK] at h; exact ⟨h.a.1.1, h.a.1.2, hk⟩)
    clear hPK B9 S9 R9 X9 Y9 C9 A9 NB9 NQ9 NBx NQx
    have hzb := firstZ_length ms Ts.data.toList
    have hzq := sets_le ma Ta.data.toList hma
    have HMB := Lib.hid (matB_first ms Ts.data.toList)
    have HAB : Hid (aciB ms Ts.data.toList = true → matB ms Ts.data.toList = true) := Lib.hid (fun h => by unfold aciB at h; exact (Bool.and_eq_true_iff.1 h).1)
    have HSR2 := Lib.hid (sets_right ma Ta.data.toList hma)
    have HAB2 : Hid (aciB ma Ta.data.toList = true → matB ma Ta.data.toList = true) := Lib.hid (fun h => by unfold aciB at h; exact (Bool.and_eq_true_iff.1 h).1)
    have HKE := Lib.hid hkeep
    have HCT := Lib.hid (cirT_turn (n := (mc : Int)) (s := Tc.data.toList) (a := z0) (b := z1) (c := z2) (d := z3))
    have e0 : Hid (-1 ≤ z0 ∧ z0 ≤ 100) := Lib.hid hE.1
    have e1 : Hid (-1 ≤ z1 ∧ z1 ≤ 100) := Lib.hid hE.2.1
    have e2 : Hid (-1 ≤ z2 ∧ z2 ≤ 100) := Lib.hid hE.2.2.1
    have e3 : Hid (-1 ≤ z3 ∧ z3 ≤ 100) := Lib.hid hE.2.2.2
    clear hkeep hE HSR HIR
    generalize hfz : firstZ ms Ts.data.toList = zb at *
    have HFZ := Lib.hid hfz; clear hfz
    generalize hsz : setsZ ma Ta.data.toList = zq at *
    have HSZ := Lib.hid hsz; clear hsz
    have HF : Hid (∀ W, (W.cell? ⟨w2.heap.size, 0, none⟩ = some (.int .i64 ms) ∧ W.cell? ⟨w2.heap.size, 1, none⟩ = some (.string Ts) ∧ W.cell? ⟨w5.heap.size, 0, none⟩ = some (.int .i64 mx) ∧ W.cell? ⟨w5.heap.size, 1, none⟩ = some (.string tx) ∧ W.cell? ⟨w6.heap.size, 0, none⟩ = some (.int .i64 mx) ∧ W.cell? ⟨w6.heap.size, 1, none⟩ = some (.string tx) ∧ W.cell? ⟨w7.heap.size, 0, none⟩ = some (.int .i64 mc) ∧ W.cell? ⟨w7.heap.size, 1, none⟩ = some (.string Tc) ∧ W.cell? ⟨w8.heap.size, 0, none⟩ = some (.int .i64 ma) ∧ W.cell? ⟨w8.heap.size, 1, none⟩ = some (.string Ta) ∧ PK W) → Calls Try.prog 22 #[sg ms Ts] W fun e w' => (∃ a' c', e = .returned (.slice a' zb.length c') ∧ Tmp zb a' w') ∧ w'.cell? ⟨w2.heap.size, 0, none⟩ = some (.int .i64 ms) ∧ w'.cell? ⟨w2.heap.size, 1, none⟩ = some (.string Ts) ∧ w'.cell? ⟨w5.heap.size, 0, none⟩ = some (.int .i64 mx) ∧ w'.cell? ⟨w5.heap.size, 1, none⟩ = some (.string tx) ∧ w'.cell? ⟨w6.heap.size, 0, none⟩ = some (.int .i64 mx) ∧ w'.cell? ⟨w6.heap.size, 1, none⟩ = some (.string tx) ∧ w'.cell? ⟨w7.heap.size, 0, none⟩ = some (.int .i64 mc) ∧ w'.cell? ⟨w7.heap.size, 1, none⟩ = some (.string Tc) ∧ w'.cell? ⟨w8.heap.size, 0, none⟩ = some (.int .i64 ma) ∧ w'.cell? ⟨w8.heap.size, 1, none⟩ = some (.string Ta) ∧ PK w') := Lib.hid (fun W hW => by
      refine (specFirst ms Ts (by omega) W).mono fun e w' ⟨⟨a', c', he, hn'⟩, hb⟩ => ⟨⟨a', c', by rw [← HFZ.out]; exact he, by rw [← HFZ.out]; exact ⟨_, _, hn'⟩⟩, HCsxyca.out _ (HON.out _ _ (hW.2.2.2.2.2.2.2.2.2.2) hb)⟩)
    have HQ : Hid (∀ W, (W.cell? ⟨w2.heap.size, 0, none⟩ = some (.int .i64 ms) ∧ W.cell? ⟨w2.heap.size, 1, none⟩ = some (.string Ts) ∧ W.cell? ⟨w5.heap.size, 0, none⟩ = some (.int .i64 mx) ∧ W.cell? ⟨w5.heap.size, 1, none⟩ = some (.string tx) ∧ W.cell? ⟨w6.heap.size, 0, none⟩ = some (.int .i64 mx) ∧ W.cell? ⟨w6.heap.size, 1, none⟩ = some (.string tx) ∧ W.cell? ⟨w7.heap.size, 0, none⟩ = some (.int .i64 mc) ∧ W.cell? ⟨w7.heap.size, 1, none⟩ = some (.string Tc) ∧ W.cell? ⟨w8.heap.size, 0, none⟩ = some (.int .i64 ma) ∧ W.cell? ⟨w8.heap.size, 1, none⟩ = some (.string Ta) ∧ PK W) → Calls Try.prog 25 #[sg ma Ta] W fun e w' => (∃ a' c', e = .returned (.slice a' zq.length c') ∧ Tmp zq a' w') ∧ w'.cell? ⟨w2.heap.size, 0, none⟩ = some (.int .i64 ms) ∧ w'.cell? ⟨w2.heap.size, 1, none⟩ = some (.string Ts) ∧ w'.cell? ⟨w5.heap.size, 0, none⟩ = some (.int .i64 mx) ∧ w'.cell? ⟨w5.heap.size, 1, none⟩ = some (.string tx) ∧ w'.cell? ⟨w6.heap.size, 0, none⟩ = some (.int .i64 mx) ∧ w'.cell? ⟨w6.heap.size, 1, none⟩ = some (.string tx) ∧ w'.cell? ⟨w7.heap.size, 0, none⟩ = some (.int .i64 mc) ∧ w'.cell? ⟨w7.heap.size, 1, none⟩ = some (.string Tc) ∧ w'.cell? ⟨w8.heap.size, 0, none⟩ = some (.int .i64 ma) ∧ w'.cell? ⟨w8.heap.size, 1, none⟩ = some (.string Ta) ∧ PK w') := Lib.hid (fun W hW => by
      refine (specSets ma Ta (by omega) W).mono fun e w' ⟨⟨a', c', he, hn'⟩, hb⟩ => ⟨⟨a', c', by rw [← HSZ.out]; exact he, by rw [← HSZ.out]; exact ⟨_, _, hn'⟩⟩, HCsxyca.out _ (HON.out _ _ (hW.2.2.2.2.2.2.2.2.2.2) hb)⟩)
    have HI1 : Hid (∀ a' c' W, (W.cell? ⟨w2.heap.size, 0, none⟩ = some (.int .i64 ms) ∧ W.cell? ⟨w2.heap.size, 1, none⟩ = some (.string Ts) ∧ W.cell? ⟨w5.heap.size, 0, none⟩ = some (.int .i64 mx) ∧ W.cell? ⟨w5.heap.size, 1, none⟩ = some (.string tx) ∧ W.cell? ⟨w6.heap.size, 0, none⟩ = some (.int .i64 mx) ∧ W.cell? ⟨w6.heap.size, 1, none⟩ = some (.string tx) ∧ W.cell? ⟨w7.heap.size, 0, none⟩ = some (.int .i64 mc) ∧ W.cell? ⟨w7.heap.size, 1, none⟩ = some (.string Tc) ∧ W.cell? ⟨w8.heap.size, 0, none⟩ = some (.int .i64 ma) ∧ W.cell? ⟨w8.heap.size, 1, none⟩ = some (.string Ta) ∧ PK W) → Tmp zb a' W → Calls Try.prog 21 #[.slice ab zb.length cb, .slice a' zb.length c'] W fun e w' => e = .returned (.bool true) ∧ w'.cell? ⟨w2.heap.size, 0, none⟩ = some (.int .i64 ms) ∧ w'.cell? ⟨w2.heap.size, 1, none⟩ = some (.string Ts) ∧ w'.cell? ⟨w5.heap.size, 0, none⟩ = some (.int .i64 mx) ∧ w'.cell? ⟨w5.heap.size, 1, none⟩ = some (.string tx) ∧ w'.cell? ⟨w6.heap.size, 0, none⟩ = some (.int .i64 mx) ∧ w'.cell? ⟨w6.heap.size, 1, none⟩ = some (.string tx) ∧ w'.cell? ⟨w7.heap.size, 0, none⟩ = some (.int .i64 mc) ∧ w'.cell? ⟨w7.heap.size, 1, none⟩ = some (.string Tc) ∧ w'.cell? ⟨w8.heap.size, 0, none⟩ = some (.int .i64 ma) ∧ w'.cell? ⟨w8.heap.size, 1, none⟩ = some (.string Ta) ∧ PK w') := Lib.hid (fun a' c' W hW ⟨lo, hi, h2⟩ => by
      obtain ⟨lo1, hi1, h1⟩ := HNB.out _ (hW.2.2.2.2.2.2.2.2.2.2)
      refine (NewI.sameInts_eq ab a' cb c' lo1 hi1 lo hi zb (by omega) W h1 h2).mono fun e w' ⟨he, hb⟩ => ⟨he, HCsxyca.out _ (HON.out _ _ (hW.2.2.2.2.2.2.2.2.2.2) hb)⟩)
    have HI2 : Hid (∀ a' c' W, (W.cell? ⟨w2.heap.size, 0, none⟩ = some (.int .i64 ms) ∧ W.cell? ⟨w2.heap.size, 1, none⟩ = some (.string Ts) ∧ W.cell? ⟨w5.heap.size, 0, none⟩ = some (.int .i64 mx) ∧ W.cell? ⟨w5.heap.size, 1, none⟩ = some (.string tx) ∧ W.cell? ⟨w6.heap.size, 0, none⟩ = some (.int .i64 mx) ∧ W.cell? ⟨w6.heap.size, 1, none⟩ = some (.string tx) ∧ W.cell? ⟨w7.heap.size, 0, none⟩ = some (.int .i64 mc) ∧ W.cell? ⟨w7.heap.size, 1, none⟩ = some (.string Tc) ∧ W.cell? ⟨w8.heap.size, 0, none⟩ = some (.int .i64 ma) ∧ W.cell? ⟨w8.heap.size, 1, none⟩ = some (.string Ta) ∧ PK W) → Tmp zq a' W → Calls Try.prog 21 #[.slice aq zq.length cq, .slice a' zq.length c'] W fun e w' => e = .returned (.bool true) ∧ w'.cell? ⟨w2.heap.size, 0, none⟩ = some (.int .i64 ms) ∧ w'.cell? ⟨w2.heap.size, 1, none⟩ = some (.string Ts) ∧ w'.cell? ⟨w5.heap.size, 0, none⟩ = some (.int .i64 mx) ∧ w'.cell? ⟨w5.heap.size, 1, none⟩ = some (.string tx) ∧ w'.cell? ⟨w6.heap.size, 0, none⟩ = some (.int .i64 mx) ∧ w'.cell? ⟨w6.heap.size, 1, none⟩ = some (.string tx) ∧ w'.cell? ⟨w7.heap.size, 0, none⟩ = some (.int .i64 mc) ∧ w'.cell? ⟨w7.heap.size, 1, none⟩ = some (.string Tc) ∧ w'.cell? ⟨w8.heap.size, 0, none⟩ = some (.int .i64 ma) ∧ w'.cell? ⟨w8.heap.size, 1, none⟩ = some (.string Ta) ∧ PK w') := Lib.hid (fun a' c' W hW ⟨lo, hi, h2⟩ => by
      obtain ⟨lo1, hi1, h1⟩ := HNQ.out _ (hW.2.2.2.2.2.2.2.2.2.2)
      refine (NewI.sameInts_eq aq a' cq c' lo1 hi1 lo hi zq (by omega) W h1 h2).mono fun e w' ⟨he, hb⟩ => ⟨he, HCsxyca.out _ (HON.out _ _ (hW.2.2.2.2.2.2.2.2.2.2) hb)⟩)
    obtain ⟨tc, htc⟩ : ∃ t : ByteArray, t = ⟨(cirT (cir (sgnF (lookS mc Tc.data.toList)) z0 z1 z2 z3)).toArray⟩ := ⟨_, rfl⟩
    have HTC := Lib.hid htc; clear htc
    have HCI : Hid (∀ W, (W.cell? ⟨w2.heap.size, 0, none⟩ = some (.int .i64 ms) ∧ W.cell? ⟨w2.heap.size, 1, none⟩ = some (.string Ts) ∧ W.cell? ⟨w5.heap.size, 0, none⟩ = some (.int .i64 mx) ∧ W.cell? ⟨w5.heap.size, 1, none⟩ = some (.string tx) ∧ W.cell? ⟨w6.heap.size, 0, none⟩ = some (.int .i64 mx) ∧ W.cell? ⟨w6.heap.size, 1, none⟩ = some (.string tx) ∧ W.cell? ⟨w7.heap.size, 0, none⟩ = some (.int .i64 mc) ∧ W.cell? ⟨w7.heap.size, 1, none⟩ = some (.string Tc) ∧ W.cell? ⟨w8.heap.size, 0, none⟩ = some (.int .i64 ma) ∧ W.cell? ⟨w8.heap.size, 1, none⟩ = some (.string Ta) ∧ PK W) → Calls Try.prog 23 #[sg mc Tc, .int .i64 z0, .int .i64 z1, .int .i64 z2, .int .i64 z3] W fun e w' => e = .returned (.string tc) ∧ w'.cell? ⟨w2.heap.size, 0, none⟩ = some (.int .i64 ms) ∧ w'.cell? ⟨w2.heap.size, 1, none⟩ = some (.string Ts) ∧ w'.cell? ⟨w5.heap.size, 0, none⟩ = some (.int .i64 mx) ∧ w'.cell? ⟨w5.heap.size, 1, none⟩ = some (.string tx) ∧ w'.cell? ⟨w6.heap.size, 0, none⟩ = some (.int .i64 mx) ∧ w'.cell? ⟨w6.heap.size, 1, none⟩ = some (.string tx) ∧ w'.cell? ⟨w7.heap.size, 0, none⟩ = some (.int .i64 mc) ∧ w'.cell? ⟨w7.heap.size, 1, none⟩ = some (.string Tc) ∧ w'.cell? ⟨w8.heap.size, 0, none⟩ = some (.int .i64 ma) ∧ w'.cell? ⟨w8.heap.size, 1, none⟩ = some (.string Ta) ∧ PK w') := Lib.hid (fun W hW => by
      have x0 := e0.out; have x1 := e1.out; have x2 := e2.out; have x3 := e3.out
      refine (implCirc mc Tc z0 z1 z2 z3 (by omega) (by omega) (by omega) (by omega) (by omega) W).mono fun e w' ⟨he, hb⟩ => ⟨by rw [HTC.out]; exact he, HCsxyca.out _ (HON.out _ _ (hW.2.2.2.2.2.2.2.2.2.2) hb)⟩)
    have HCS : Hid (∀ W, (W.cell? ⟨w2.heap.size, 0, none⟩ = some (.int .i64 ms) ∧ W.cell? ⟨w2.heap.size, 1, none⟩ = some (.string Ts) ∧ W.cell? ⟨w5.heap.size, 0, none⟩ = some (.int .i64 mx) ∧ W.cell? ⟨w5.heap.size, 1, none⟩ = some (.string tx) ∧ W.cell? ⟨w6.heap.size, 0, none⟩ = some (.int .i64 mx) ∧ W.cell? ⟨w6.heap.size, 1, none⟩ = some (.string tx) ∧ W.cell? ⟨w7.heap.size, 0, none⟩ = some (.int .i64 mc) ∧ W.cell? ⟨w7.heap.size, 1, none⟩ = some (.string Tc) ∧ W.cell? ⟨w8.heap.size, 0, none⟩ = some (.int .i64 ma) ∧ W.cell? ⟨w8.heap.size, 1, none⟩ = some (.string Ta) ∧ PK W) → Calls Try.prog 24 #[sg mc Tc, .int .i64 z0, .int .i64 z1, .int .i64 z2, .int .i64 z3] W fun e w' => e = .returned (.string tc) ∧ w'.cell? ⟨w2.heap.size, 0, none⟩ = some (.int .i64 ms) ∧ w'.cell? ⟨w2.heap.size, 1, none⟩ = some (.string Ts) ∧ w'.cell? ⟨w5.heap.size, 0, none⟩ = some (.int .i64 mx) ∧ w'.cell? ⟨w5.heap.size, 1, none⟩ = some (.string tx) ∧ w'.cell? ⟨w6.heap.size, 0, none⟩ = some (.int .i64 mx) ∧ w'.cell? ⟨w6.heap.size, 1, none⟩ = some (.string tx) ∧ w'.cell? ⟨w7.heap.size, 0, none⟩ = some (.int .i64 mc) ∧ w'.cell? ⟨w7.heap.size, 1, none⟩ = some (.string Tc) ∧ w'.cell? ⟨w8.heap.size, 0, none⟩ = some (.int .i64 ma) ∧ w'.cell? ⟨w8.heap.size, 1, none⟩ = some (.string Ta) ∧ PK w') := Lib.hid (fun W hW => by
      have x0 := e0.out; have x1 := e1.out; have x2 := e2.out; have x3 := e3.out
      refine (specCirc mc Tc z0 z1 z2 z3 (by omega) W).mono fun e w' ⟨he, hb⟩ => ⟨by rw [HTC.out]; exact he, HCsxyca.out _ (HON.out _ _ (hW.2.2.2.2.2.2.2.2.2.2) hb)⟩)
    have HMI : Hid (∀ W, (W.cell? ⟨w2.heap.size, 0, none⟩ = some (.int .i64 ms) ∧ W.cell? ⟨w2.heap.size, 1, none⟩ = some (.string Ts) ∧ W.cell? ⟨w5.heap.size, 0, none⟩ = some (.int .i64 mx) ∧ W.cell? ⟨w5.heap.size, 1, none⟩ = some (.string tx) ∧ W.cell? ⟨w6.heap.size, 0, none⟩ = some (.int .i64 mx) ∧ W.cell? ⟨w6.heap.size, 1, none⟩ = some (.string tx) ∧ W.cell? ⟨w7.heap.size, 0, none⟩ = some (.int .i64 mc) ∧ W.cell? ⟨w7.heap.size, 1, none⟩ = some (.string Tc) ∧ W.cell? ⟨w8.heap.size, 0, none⟩ = some (.int .i64 ma) ∧ W.cell? ⟨w8.heap.size, 1, none⟩ = some (.string Ta) ∧ PK W) → Calls Try.prog 26 #[sg ms Ts] W fun e w' => e = .returned (.bool (matB ms Ts.data.toList)) ∧ w'.cell? ⟨w2.heap.size, 0, none⟩ = some (.int .i64 ms) ∧ w'.cell? ⟨w2.heap.size, 1, none⟩ = some (.string Ts) ∧ w'.cell? ⟨w5.heap.size, 0, none⟩ = some (.int .i64 mx) ∧ w'.cell? ⟨w5.heap.size, 1, none⟩ = some (.string tx) ∧ w'.cell? ⟨w6.heap.size, 0, none⟩ = some (.int .i64 mx) ∧ w'.cell? ⟨w6.heap.size, 1, none⟩ = some (.string tx) ∧ w'.cell? ⟨w7.heap.size, 0, none⟩ = some (.int .i64 mc) ∧ w'.cell? ⟨w7.heap.size, 1, none⟩ = some (.string Tc) ∧ w'.cell? ⟨w8.heap.size, 0, none⟩ = some (.int .i64 ma) ∧ w'.cell? ⟨w8.heap.size, 1, none⟩ = some (.string Ta) ∧ PK w') := Lib.hid (fun W hW => by
      refine (implMat ms Ts (by omega) W).mono fun e w' ⟨he, hb⟩ => ⟨he, HCsxyca.out _ (HON.out _ _ (hW.2.2.2.2.2.2.2.2.2.2) hb)⟩)
    have HMI3 : Hid (∀ W, (W.cell? ⟨w2.heap.size, 0, none⟩ = some (.int .i64 ms) ∧ W.cell? ⟨w2.heap.size, 1, none⟩ = some (.string Ts) ∧ PK W) → Calls Try.prog 26 #[sg ms Ts] W fun e w' => e = .returned (.bool (matB ms Ts.data.toList)) ∧ w'.cell? ⟨w2.heap.size, 0, none⟩ = some (.int .i64 ms) ∧ w'.cell? ⟨w2.heap.size, 1, none⟩ = some (.string Ts) ∧ PK w') := Lib.hid (fun W hW => by
      refine (implMat ms Ts (by omega) W).mono fun e w' ⟨he, hb⟩ => ⟨he, HCs.out _ (HON.out _ _ (hW.2.2) hb)⟩)
    have HMS : Hid (∀ W, (W.cell? ⟨w2.heap.size, 0, none⟩ = some (.int .i64 ms) ∧ W.cell? ⟨w2.heap.size, 1, none⟩ = some (.string Ts) ∧ W.cell? ⟨w5.heap.size, 0, none⟩ = some (.int .i64 mx) ∧ W.cell? ⟨w5.heap.size, 1, none⟩ = some (.string tx) ∧ W.cell? ⟨w6.heap.size, 0, none⟩ = some (.int .i64 mx) ∧ W.cell? ⟨w6.heap.size, 1, none⟩ = some (.string tx) ∧ W.cell? ⟨w7.heap.size, 0, none⟩ = some (.int .i64 mc) ∧ W.cell? ⟨w7.heap.size, 1, none⟩ = some (.string Tc) ∧ W.cell? ⟨w8.heap.size, 0, none⟩ = some (.int .i64 ma) ∧ W.cell? ⟨w8.heap.size, 1, none⟩ = some (.string Ta) ∧ PK W) → Calls Try.prog 27 #[sg ms Ts] W fun e w' => e = .returned (.bool (matB ms Ts.data.toList)) ∧ w'.cell? ⟨w2.heap.size, 0, none⟩ = some (.int .i64 ms) ∧ w'.cell? ⟨w2.heap.size, 1, none⟩ = some (.string Ts) ∧ w'.cell? ⟨w5.heap.size, 0, none⟩ = some (.int .i64 mx) ∧ w'.cell? ⟨w5.heap.size, 1, none⟩ = some (.string tx) ∧ w'.cell? ⟨w6.heap.size, 0, none⟩ = some (.int .i64 mx) ∧ w'.cell? ⟨w6.heap.size, 1, none⟩ = some (.string tx) ∧ w'.cell? ⟨w7.heap.size, 0, none⟩ = some (.int .i64 mc) ∧ w'.cell? ⟨w7.heap.size, 1, none⟩ = some (.string Tc) ∧ w'.cell? ⟨w8.heap.size, 0, none⟩ = some (.int .i64 ma) ∧ w'.cell? ⟨w8.heap.size, 1, none⟩ = some (.string Ta) ∧ PK w') := Lib.hid (fun W hW => by
      refine (specMat ms Ts (by omega) W).mono fun e w' ⟨he, hb⟩ => ⟨he, HCsxyca.out _ (HON.out _ _ (hW.2.2.2.2.2.2.2.2.2.2) hb)⟩)
    have HAI : Hid (∀ W, (W.cell? ⟨w2.heap.size, 0, none⟩ = some (.int .i64 ms) ∧ W.cell? ⟨w2.heap.size, 1, none⟩ = some (.string Ts) ∧ W.cell? ⟨w5.heap.size, 0, none⟩ = some (.int .i64 mx) ∧ W.cell? ⟨w5.heap.size, 1, none⟩ = some (.string tx) ∧ W.cell? ⟨w6.heap.size, 0, none⟩ = some (.int .i64 mx) ∧ W.cell? ⟨w6.heap.size, 1, none⟩ = some (.string tx) ∧ W.cell? ⟨w7.heap.size, 0, none⟩ = some (.int .i64 mc) ∧ W.cell? ⟨w7.heap.size, 1, none⟩ = some (.string Tc) ∧ W.cell? ⟨w8.heap.size, 0, none⟩ = some (.int .i64 ma) ∧ W.cell? ⟨w8.heap.size, 1, none⟩ = some (.string Ta) ∧ PK W) → Calls Try.prog 28 #[sg ms Ts] W fun e w' => e = .returned (.bool (aciB ms Ts.data.toList)) ∧ w'.cell? ⟨w2.heap.size, 0, none⟩ = some (.int .i64 ms) ∧ w'.cell? ⟨w2.heap.size, 1, none⟩ = some (.string Ts) ∧ w'.cell? ⟨w5.heap.size, 0, none⟩ = some (.int .i64 mx) ∧ w'.cell? ⟨w5.heap.size, 1, none⟩ = some (.string tx) ∧ w'.cell? ⟨w6.heap.size, 0, none⟩ = some (.int .i64 mx) ∧ w'.cell? ⟨w6.heap.size, 1, none⟩ = some (.string tx) ∧ w'.cell? ⟨w7.heap.size, 0, none⟩ = some (.int .i64 mc) ∧ w'.cell? ⟨w7.heap.size, 1, none⟩ = some (.string Tc) ∧ w'.cell? ⟨w8.heap.size, 0, none⟩ = some (.int .i64 ma) ∧ w'.cell? ⟨w8.heap.size, 1, none⟩ = some (.string Ta) ∧ PK w') := Lib.hid (fun W hW => by
      refine (implAci ms Ts (by omega) W).mono fun e w' ⟨he, hb⟩ => ⟨he, HCsxyca.out _ (HON.out _ _ (hW.2.2.2.2.2.2.2.2.2.2) hb)⟩)
    have HAI3 : Hid (∀ W, (W.cell? ⟨w2.heap.size, 0, none⟩ = some (.int .i64 ms) ∧ W.cell? ⟨w2.heap.size, 1, none⟩ = some (.string Ts) ∧ PK W) → Calls Try.prog 28 #[sg ms Ts] W fun e w' => e = .returned (.bool (aciB ms Ts.data.toList)) ∧ w'.cell? ⟨w2.heap.size, 0, none⟩ = some (.int .i64 ms) ∧ w'.cell? ⟨w2.heap.size, 1, none⟩ = some (.string Ts) ∧ PK w') := Lib.hid (fun W hW => by
      refine (implAci ms Ts (by omega) W).mono fun e w' ⟨he, hb⟩ => ⟨he, HCs.out _ (HON.out _ _ (hW.2.2) hb)⟩)
    have HAS : Hid (∀ W, (W.cell? ⟨w2.heap.size, 0, none⟩ = some (.int .i64 ms) ∧ W.cell? ⟨w2.heap.size, 1, none⟩ = some (.string Ts) ∧ W.cell? ⟨w5.heap.size, 0, none⟩ = some (.int .i64 mx) ∧ W.cell? ⟨w5.heap.size, 1, none⟩ = some (.string tx) ∧ W.cell? ⟨w6.heap.size, 0, none⟩ = some (.int .i64 mx) ∧ W.cell? ⟨w6.heap.size, 1, none⟩ = some (.string tx) ∧ W.cell? ⟨w7.heap.size, 0, none⟩ = some (.int .i64 mc) ∧ W.cell? ⟨w7.heap.size, 1, none⟩ = some (.string Tc) ∧ W.cell? ⟨w8.heap.size, 0, none⟩ = some (.int .i64 ma) ∧ W.cell? ⟨w8.heap.size, 1, none⟩ = some (.string Ta) ∧ PK W) → Calls Try.prog 29 #[sg ms Ts] W fun e w' => e = .returned (.bool (aciB ms Ts.data.toList)) ∧ w'.cell? ⟨w2.heap.size, 0, none⟩ = some (.int .i64 ms) ∧ w'.cell? ⟨w2.heap.size, 1, none⟩ = some (.string Ts) ∧ w'.cell? ⟨w5.heap.size, 0, none⟩ = some (.int .i64 mx) ∧ w'.cell? ⟨w5.heap.size, 1, none⟩ = some (.string tx) ∧ w'.cell? ⟨w6.heap.size, 0, none⟩ = some (.int .i64 mx) ∧ w'.cell? ⟨w6.heap.size, 1, none⟩ = some (.string tx) ∧ w'.cell? ⟨w7.heap.size, 0, none⟩ = some (.int .i64 mc) ∧ w'.cell? ⟨w7.heap.size, 1, none⟩ = some (.string Tc) ∧ w'.cell? ⟨w8.heap.size, 0, none⟩ = some (.int .i64 ma) ∧ w'.cell? ⟨w8.heap.size, 1, none⟩ = some (.string Ta) ∧ PK w') := Lib.hid (fun W hW => by
      refine (specAci ms Ts (by omega) W).mono fun e w' ⟨he, hb⟩ => ⟨he, HCsxyca.out _ (HON.out _ _ (hW.2.2.2.2.2.2.2.2.2.2) hb)⟩)
    have HAR3 : Hid (∀ W, (W.cell? ⟨w2.heap.size, 0, none⟩ = some (.int .i64 ms) ∧ W.cell? ⟨w2.heap.size, 1, none⟩ = some (.string Ts) ∧ PK W) → Calls Try.prog 30 #[sg ms Ts] W fun e w' => e = .returned (.bool (arB ms Ts.data.toList)) ∧ w'.cell? ⟨w2.heap.size, 0, none⟩ = some (.int .i64 ms) ∧ w'.cell? ⟨w2.heap.size, 1, none⟩ = some (.string Ts) ∧ PK w') := Lib.hid (fun W hW => by
      refine (specAre_sg ms Ts (by omega) W).mono fun e w' ⟨he, hb⟩ => ⟨he, HCs.out _ (HON.out _ _ (hW.2.2) hb)⟩)
    have HMX : Hid (∀ W, (W.cell? ⟨w4.heap.size, 0, none⟩ = some (.int .i64 mr) ∧ W.cell? ⟨w4.heap.size, 1, none⟩ = some (.string Tr) ∧ W.cell? ⟨w5.heap.size, 0, none⟩ = some (.int .i64 mx) ∧ W.cell? ⟨w5.heap.size, 1, none⟩ = some (.string tx) ∧ PK W) → Calls Try.prog 26 #[sg mx tx] W fun e w' => e = .returned (.bool (matB mx tx.data.toList)) ∧ w'.cell? ⟨w4.heap.size, 0, none⟩ = some (.int .i64 mr) ∧ w'.cell? ⟨w4.heap.size, 1, none⟩ = some (.string Tr) ∧ w'.cell? ⟨w5.heap.size, 0, none⟩ = some (.int .i64 mx) ∧ w'.cell? ⟨w5.heap.size, 1, none⟩ = some (.string tx) ∧ PK w') := Lib.hid (fun W hW => by
      refine (implMat mx tx (by omega) W).mono fun e w' ⟨he, hb⟩ => ⟨he, HCrx.out _ (HON.out _ _ (hW.2.2.2.2) hb)⟩)
    have HMR : Hid (∀ W, (W.cell? ⟨w4.heap.size, 0, none⟩ = some (.int .i64 mr) ∧ W.cell? ⟨w4.heap.size, 1, none⟩ = some (.string Tr) ∧ W.cell? ⟨w5.heap.size, 0, none⟩ = some (.int .i64 mx) ∧ W.cell? ⟨w5.heap.size, 1, none⟩ = some (.string tx) ∧ PK W) → Calls Try.prog 26 #[sg mr Tr] W fun e w' => e = .returned (.bool (matB mr Tr.data.toList)) ∧ w'.cell? ⟨w4.heap.size, 0, none⟩ = some (.int .i64 mr) ∧ w'.cell? ⟨w4.heap.size, 1, none⟩ = some (.string Tr) ∧ w'.cell? ⟨w5.heap.size, 0, none⟩ = some (.int .i64 mx) ∧ w'.cell? ⟨w5.heap.size, 1, none⟩ = some (.string tx) ∧ PK w') := Lib.hid (fun W hW => by
      refine (implMat mr Tr (by omega) W).mono fun e w' ⟨he, hb⟩ => ⟨he, HCrx.out _ (HON.out _ _ (hW.2.2.2.2) hb)⟩)
    -- what the regions compare
    have g1 : (bx != bx) = false := by simp
    have g2 : (mx != mx) = false := by simp
    have g3 : (tx.toList == tx.toList) = true := by simp
    have g4 : (tx.toList != tx.toList) = false := by simp
    have g5 : (tc.toList != tc.toList) = false := by simp
    generalize him : matB ms Ts.data.toList = im at HMI HMI3 HMS HMB HAB
    have HIM := Lib.hid him; clear him
    generalize hia : aciB ms Ts.data.toList = ia at HAI HAI3 HAS HAB
    have HIA := Lib.hid hia; clear hia
    generalize har : arB ms Ts.data.toList = ar at HAR3 HMB
    have HAR := Lib.hid har; clear har
    have g6 : (im != im) = false := by simp
    have g7 : (ia != ia) = false := by simp
    go_upto_region 11 with fail
    go_cut [107] (fun cv wx => cv = .bool false ∧ Hid (PK wx))
    case first =>
     as_aux_lemma =>
      refine wp_region_held (S := fun W => W.cell? ⟨w2.heap.size, 0, none⟩ = some (.int .i64 ms) ∧ W.cell? ⟨w2.heap.size, 1, none⟩ = some (.string Ts) ∧ W.cell? ⟨w5.heap.size, 0, none⟩ = some (.int .i64 mx) ∧ W.cell? ⟨w5.heap.size, 1, none⟩ = some (.string tx) ∧ W.cell? ⟨w6.heap.size, 0, none⟩ = some (.int .i64 mx) ∧ W.cell? ⟨w6.heap.size, 1, none⟩ = some (.string tx) ∧ W.cell? ⟨w7.heap.size, 0, none⟩ = some (.int .i64 mc) ∧ W.cell? ⟨w7.heap.size, 1, none⟩ = some (.string Tc) ∧ W.cell? ⟨w8.heap.size, 0, none⟩ = some (.int .i64 ma) ∧ W.cell? ⟨w8.heap.size, 1, none⟩ = some (.string Ta) ∧ PK W) rfl ?_
      have hHeld := (HCsxyca.out _ (HDR.out _ K9.out))
      (refine Held.takeH (i := 0) (k := 57) (v := ?_) rfl (by as_aux_lemma => kernel_rfl) (by as_aux_lemma => kernel_rfl) (by as_aux_lemma => kernel_rfl) (by as_aux_lemma => kernel_rfl) (fun _ _ _ h => h) (Or.inl ⟨by rfl, ?_⟩) (by assumption) ?_; rotate_left; (focus (intro w hSw; (try dsimp only at hSw); go_simp; (try with_reducible rfl))); (simp only [List.setIfInBounds_toArray, List.set_cons_zero, List.set_cons_succ]))
      (refine Held.takeH (i := 1) (k := 58) (v := ?_) rfl (by as_aux_lemma => kernel_rfl) (by as_aux_lemma => kernel_rfl) (by as_aux_lemma => kernel_rfl) (by as_aux_lemma => kernel_rfl) (fun _ _ _ h => h) (Or.inl ⟨by rfl, ?_⟩) (by assumption) ?_; rotate_left; (focus (intro w hSw; (try dsimp only at hSw); go_simp; (try with_reducible rfl))); (simp only [List.setIfInBounds_toArray, List.set_cons_zero, List.set_cons_succ]))
      refine wpAnyH_ready (rs := [2]) (by as_aux_lemma => kernel_rfl) (by simp) ?_
      refine AllReadyH.cons rfl (fun K hK => ?_) AllReadyH.nil
      go_simp
      refine (HF.out _ hHeld).mono ?_
      rintro e' w' ⟨⟨a', c', rfl, t'⟩, hS'⟩
      refine hK.out _ _ hS' (fun hHeld => ?_)
      clear hK K
      try simp only [Act.put, List.setIfInBounds_toArray, List.set_cons_zero, List.set_cons_succ]
      refine wpAnyH_ready (rs := [3]) (by as_aux_lemma => kernel_rfl) (by simp) ?_
      refine AllReadyH.cons rfl (fun K hK => ?_) AllReadyH.nil
      go_simp
      refine (HI1.out _ _ _ hHeld t').mono ?_
      rintro e' w' ⟨rfl, hS'⟩
      refine hK.out _ _ hS' (fun hHeld => ?_)
      clear hK K
      try simp only [Act.put, List.setIfInBounds_toArray, List.set_cons_zero, List.set_cons_succ]
      (refine Held.takeH (i := 4) (k := 61) (v := .bool false) rfl (by as_aux_lemma => kernel_rfl) (by as_aux_lemma => kernel_rfl) (by as_aux_lemma => kernel_rfl) (by as_aux_lemma => kernel_rfl) (fun _ _ _ h => h) (Or.inl ⟨by rfl, ?_⟩) (by assumption) ?_; (focus (intro w hSw; (try dsimp only at hSw); go_simp; (try rfl))); (simp only [List.setIfInBounds_toArray, List.set_cons_zero, List.set_cons_succ]))
      (refine Held.takeH (i := 5) (k := 62) (v := .bool false) rfl (by as_aux_lemma => kernel_rfl) (by as_aux_lemma => kernel_rfl) (by as_aux_lemma => kernel_rfl) (by as_aux_lemma => kernel_rfl) (fun _ _ _ h => h) (Or.inl ⟨by rfl, ?_⟩) (by assumption) ?_; (focus (intro w hSw; (try dsimp only at hSw); go_simp; (try rfl))); (simp only [List.setIfInBounds_toArray, List.set_cons_zero, List.set_cons_succ]))
      (refine Held.takeH (i := 6) (k := 63) (v := ?_) rfl (by as_aux_lemma => kernel_rfl) (by as_aux_lemma => kernel_rfl) (by as_aux_lemma => kernel_rfl) (by as_aux_lemma => kernel_rfl) (fun _ _ _ h => h) (Or.inl ⟨by rfl, ?_⟩) (by assumption) ?_; rotate_left; (focus (intro w hSw; (try dsimp only at hSw); go_simp; (try with_reducible rfl))); (simp only [List.setIfInBounds_toArray, List.set_cons_zero, List.set_cons_succ]))
      (refine Held.takeH (i := 7) (k := 64) (v := ?_) rfl (by as_aux_lemma => kernel_rfl) (by as_aux_lemma => kernel_rfl) (by as_aux_lemma => kernel_rfl) (by as_aux_lemma => kernel_rfl) (fun _ _ _ h => h) (Or.inl ⟨by rfl, ?_⟩) (by assumption) ?_; rotate_left; (focus (intro w hSw; (try dsimp only at hSw); go_simp; (try with_reducible rfl))); (simp only [List.setIfInBounds_toArray, List.set_cons_zero, List.set_cons_succ]))
      (refine Held.takeH (i := 8) (k := 65) (v := .bool false) rfl (by as_aux_lemma => kernel_rfl) (by as_aux_lemma => kernel_rfl) (by as_aux_lemma => kernel_rfl) (by as_aux_lemma => kernel_rfl) (fun _ _ _ h => h) (Or.inl ⟨by rfl, ?_⟩) (by assumption) ?_; (focus (intro w hSw; (try dsimp only at hSw); go_simp; (try rfl))); (simp only [List.setIfInBounds_toArray, List.set_cons_zero, List.set_cons_succ]))
      (refine Held.takeH (i := 9) (k := 66) (v := .bool false) rfl (by as_aux_lemma => kernel_rfl) (by as_aux_lemma => kernel_rfl) (by as_aux_lemma => kernel_rfl) (by as_aux_lemma => kernel_rfl) (fun _ _ _ h => h) (Or.inl ⟨by rfl, ?_⟩) (by assumption) ?_; (focus (intro w hSw; (try dsimp only at hSw); go_simp; (try rfl))); (simp only [List.setIfInBounds_toArray, List.set_cons_zero, List.set_cons_succ]))
      (refine Held.takeH (i := 10) (k := 67) (v := .bool false) rfl (by as_aux_lemma => kernel_rfl) (by as_aux_lemma => kernel_rfl) (by as_aux_lemma => kernel_rfl) (by as_aux_lemma => kernel_rfl) (fun _ _ _ h => h) (Or.inl ⟨by rfl, ?_⟩) (by assumption) ?_; (focus (intro w hSw; (try dsimp only at hSw); go_simp; (try rfl))); (simp only [List.setIfInBounds_toArray, List.set_cons_zero, List.set_cons_succ]))
      (refine Held.takeH (i := 11) (k := 68) (v := ?_) rfl (by as_aux_lemma => kernel_rfl) (by as_aux_lemma => kernel_rfl) (by as_aux_lemma => kernel_rfl) (by as_aux_lemma => kernel_rfl) (fun _ _ _ h => h) (Or.inl ⟨by rfl, ?_⟩) (by assumption) ?_; rotate_left; (focus (intro w hSw; (try dsimp only at hSw); go_simp; (try with_reducible rfl))); (simp only [List.setIfInBounds_toArray, List.set_cons_zero, List.set_cons_succ]))
      (refine Held.takeH (i := 12) (k := 69) (v := ?_) rfl (by as_aux_lemma => kernel_rfl) (by as_aux_lemma => kernel_rfl) (by as_aux_lemma => kernel_rfl) (by as_aux_lemma => kernel_rfl) (fun _ _ _ h => h) (Or.inl ⟨by rfl, ?_⟩) (by assumption) ?_; rotate_left; (focus (intro w hSw; (try dsimp only at hSw); go_simp; (try with_reducible rfl))); (simp only [List.setIfInBounds_toArray, List.set_cons_zero, List.set_cons_succ]))
      (refine Held.takeH (i := 13) (k := 70) (v := .bool false) rfl (by as_aux_lemma => kernel_rfl) (by as_aux_lemma => kernel_rfl) (by as_aux_lemma => kernel_rfl) (by as_aux_lemma => kernel_rfl) (fun _ _ _ h => h) (Or.inl ⟨by rfl, ?_⟩) (by assumption) ?_; (focus (intro w hSw; (try dsimp only at hSw); go_simp; (try rfl))); (simp only [List.setIfInBounds_toArray, List.set_cons_zero, List.set_cons_succ]))
      (refine Held.takeH (i := 14) (k := 71) (v := .bool false) rfl (by as_aux_lemma => kernel_rfl) (by as_aux_lemma => kernel_rfl) (by as_aux_lemma => kernel_rfl) (by as_aux_lemma => kernel_rfl) (fun _ _ _ h => h) (Or.inl ⟨by rfl, ?_⟩) (by assumption) ?_; (focus (intro w hSw; (try dsimp only at hSw); go_simp; (try rfl))); (simp only [List.setIfInBounds_toArray, List.set_cons_zero, List.set_cons_succ]))
      (refine Held.takeH (i := 15) (k := 72) (v := .bool false) rfl (by as_aux_lemma => kernel_rfl) (by as_aux_lemma => kernel_rfl) (by as_aux_lemma => kernel_rfl) (by as_aux_lemma => kernel_rfl) (fun _ _ _ h => h) (Or.inl ⟨by rfl, ?_⟩) (by assumption) ?_; (focus (intro w hSw; (try dsimp only at hSw); go_simp; (try rfl))); (simp only [List.setIfInBounds_toArray, List.set_cons_zero, List.set_cons_succ]))
      (refine Held.takeH (i := 16) (k := 73) (v := ?_) rfl (by as_aux_lemma => kernel_rfl) (by as_aux_lemma => kernel_rfl) (by as_aux_lemma => kernel_rfl) (by as_aux_lemma => kernel_rfl) (fun _ _ _ h => h) (Or.inl ⟨by rfl, ?_⟩) (by assumption) ?_; rotate_left; (focus (intro w hSw; (try dsimp only at hSw); go_simp; (try with_reducible rfl))); (simp only [List.setIfInBounds_toArray, List.set_cons_zero, List.set_cons_succ]))
      (refine Held.takeH (i := 17) (k := 74) (v := ?_) rfl (by as_aux_lemma => kernel_rfl) (by as_aux_lemma => kernel_rfl) (by as_aux_lemma => kernel_rfl) (by as_aux_lemma => kernel_rfl) (fun _ _ _ h => h) (Or.inl ⟨by rfl, ?_⟩) (by assumption) ?_; rotate_left; (focus (intro w hSw; (try dsimp only at hSw); go_simp; (try with_reducible rfl))); (simp only [List.setIfInBounds_toArray, List.set_cons_zero, List.set_cons_succ]))
      (refine Held.takeH (i := 18) (k := 75) (v := ?_) rfl (by as_aux_lemma => kernel_rfl) (by as_aux_lemma => kernel_rfl) (by as_aux_lemma => kernel_rfl) (by as_aux_lemma => kernel_rfl) (fun _ _ _ h => h) (Or.inl ⟨by rfl, ?_⟩) (by assumption) ?_; rotate_left; (focus (intro w hSw; (try dsimp only at hSw); go_simp; (try with_reducible rfl))); (simp only [List.setIfInBounds_toArray, List.set_cons_zero, List.set_cons_succ]))
      (refine Held.takeH (i := 19) (k := 76) (v := ?_) rfl (by as_aux_lemma => kernel_rfl) (by as_aux_lemma => kernel_rfl) (by as_aux_lemma => kernel_rfl) (by as_aux_lemma => kernel_rfl) (fun _ _ _ h => h) (Or.inl ⟨by rfl, ?_⟩) (by assumption) ?_; rotate_left; (focus (intro w hSw; (try dsimp only at hSw); go_simp; (try with_reducible rfl))); (simp only [List.setIfInBounds_toArray, List.set_cons_zero, List.set_cons_succ]))
      (refine Held.takeH (i := 20) (k := 77) (v := ?_) rfl (by as_aux_lemma => kernel_rfl) (by as_aux_lemma => kernel_rfl) (by as_aux_lemma => kernel_rfl) (by as_aux_lemma => kernel_rfl) (fun _ _ _ h => h) (Or.inl ⟨by rfl, ?_⟩) (by assumption) ?_; rotate_left; (focus (intro w hSw; (try dsimp only at hSw); go_simp; (try with_reducible rfl))); (simp only [List.setIfInBounds_toArray, List.set_cons_zero, List.set_cons_succ]))
      (refine Held.takeH (i := 22) (k := 79) (v := ?_) rfl (by as_aux_lemma => kernel_rfl) (by as_aux_lemma => kernel_rfl) (by as_aux_lemma => kernel_rfl) (by as_aux_lemma => kernel_rfl) (fun _ _ _ h => h) (Or.inl ⟨by rfl, ?_⟩) (by assumption) ?_; rotate_left; (focus (intro w hSw; (try dsimp only at hSw); go_simp; (try with_reducible rfl))); (simp only [List.setIfInBounds_toArray, List.set_cons_zero, List.set_cons_succ]))
      (refine Held.takeH (i := 23) (k := 80) (v := ?_) rfl (by as_aux_lemma => kernel_rfl) (by as_aux_lemma => kernel_rfl) (by as_aux_lemma => kernel_rfl) (by as_aux_lemma => kernel_rfl) (fun _ _ _ h => h) (Or.inl ⟨by rfl, ?_⟩) (by assumption) ?_; rotate_left; (focus (intro w hSw; (try dsimp only at hSw); go_simp; (try with_reducible rfl))); (simp only [List.setIfInBounds_toArray, List.set_cons_zero, List.set_cons_succ]))
      (refine Held.takeH (i := 24) (k := 81) (v := ?_) rfl (by as_aux_lemma => kernel_rfl) (by as_aux_lemma => kernel_rfl) (by as_aux_lemma => kernel_rfl) (by as_aux_lemma => kernel_rfl) (fun _ _ _ h => h) (Or.inl ⟨by rfl, ?_⟩) (by assumption) ?_; rotate_left; (focus (intro w hSw; (try dsimp only at hSw); go_simp; (try with_reducible rfl))); (simp only [List.setIfInBounds_toArray, List.set_cons_zero, List.set_cons_succ]))
      (refine Held.takeH (i := 25) (k := 82) (v := ?_) rfl (by as_aux_lemma => kernel_rfl) (by as_aux_lemma => kernel_rfl) (by as_aux_lemma => kernel_rfl) (by as_aux_lemma => kernel_rfl) (fun _ _ _ h => h) (Or.inl ⟨by rfl, ?_⟩) (by assumption) ?_; rotate_left; (focus (intro w hSw; (try dsimp only at hSw); go_simp; (try with_reducible rfl))); (simp only [List.setIfInBounds_toArray, List.set_cons_zero, List.set_cons_succ]))
      (refine Held.takeH (i := 26) (k := 83) (v := ?_) rfl (by as_aux_lemma => kernel_rfl) (by as_aux_lemma => kernel_rfl) (by as_aux_lemma => kernel_rfl) (by as_aux_lemma => kernel_rfl) (fun _ _ _ h => h) (Or.inl ⟨by rfl, ?_⟩) (by assumption) ?_; rotate_left; (focus (intro w hSw; (try dsimp only at hSw); go_simp; (try with_reducible rfl))); (simp only [List.setIfInBounds_toArray, List.set_cons_zero, List.set_cons_succ]))
      refine wpAnyH_ready (rs := [21]) (by as_aux_lemma => kernel_rfl) (by simp) ?_
      refine AllReadyH.cons rfl (fun K hK => ?_) AllReadyH.nil
      go_simp
      refine (HCI.out _ hHeld).mono ?_
      rintro e' w' ⟨rfl, hS'⟩
      refine hK.out _ _ hS' (fun hHeld => ?_)
      clear hK K
      try simp only [Act.put, List.setIfInBounds_toArray, List.set_cons_zero, List.set_cons_succ]
      refine wpAnyH_ready (rs := [27]) (by as_aux_lemma => kernel_rfl) (by simp) ?_
      refine AllReadyH.cons rfl (fun K hK => ?_) AllReadyH.nil
      go_simp
      refine (HCS.out _ hHeld).mono ?_
      rintro e' w' ⟨rfl, hS'⟩
      refine hK.out _ _ hS' (fun hHeld => ?_)
      clear hK K
      try simp only [Act.put, List.setIfInBounds_toArray, List.set_cons_zero, List.set_cons_succ]
      (refine Held.takeH (i := 28) (k := 85) (v := .bool false) rfl (by as_aux_lemma => kernel_rfl) (by as_aux_lemma => kernel_rfl) (by as_aux_lemma => kernel_rfl) (by as_aux_lemma => kernel_rfl) (fun _ _ _ h => h) (Or.inl ⟨by rfl, ?_⟩) (by assumption) ?_; (focus (intro w hSw; (try dsimp only at hSw); go_simp; (try rfl))); (simp only [List.setIfInBounds_toArray, List.set_cons_zero, List.set_cons_succ]))
      (refine Held.takeH (i := 29) (k := 86) (v := .bool false) rfl (by as_aux_lemma => kernel_rfl) (by as_aux_lemma => kernel_rfl) (by as_aux_lemma => kernel_rfl) (by as_aux_lemma => kernel_rfl) (fun _ _ _ h => h) (Or.inl ⟨by rfl, ?_⟩) (by assumption) ?_; (focus (intro w hSw; (try dsimp only at hSw); go_simp; (try rfl))); (simp only [List.setIfInBounds_toArray, List.set_cons_zero, List.set_cons_succ]))
      (refine Held.takeH (i := 30) (k := 87) (v := .bool false) rfl (by as_aux_lemma => kernel_rfl) (by as_aux_lemma => kernel_rfl) (by as_aux_lemma => kernel_rfl) (by as_aux_lemma => kernel_rfl) (fun _ _ _ h => h) (Or.inl ⟨by rfl, ?_⟩) (by assumption) ?_; (focus (intro w hSw; (try dsimp only at hSw); go_simp; (try rfl))); (simp only [List.setIfInBounds_toArray, List.set_cons_zero, List.set_cons_succ]))
      (refine Held.takeH (i := 31) (k := 88) (v := ?_) rfl (by as_aux_lemma => kernel_rfl) (by as_aux_lemma => kernel_rfl) (by as_aux_lemma => kernel_rfl) (by as_aux_lemma => kernel_rfl) (fun _ _ _ h => h) (Or.inl ⟨by rfl, ?_⟩) (by assumption) ?_; rotate_left; (focus (intro w hSw; (try dsimp only at hSw); go_simp; (try with_reducible rfl))); (simp only [List.setIfInBounds_toArray, List.set_cons_zero, List.set_cons_succ]))
      (refine Held.takeH (i := 32) (k := 89) (v := ?_) rfl (by as_aux_lemma => kernel_rfl) (by as_aux_lemma => kernel_rfl) (by as_aux_lemma => kernel_rfl) (by as_aux_lemma => kernel_rfl) (fun _ _ _ h => h) (Or.inl ⟨by rfl, ?_⟩) (by assumption) ?_; rotate_left; (focus (intro w hSw; (try dsimp only at hSw); go_simp; (try with_reducible rfl))); (simp only [List.setIfInBounds_toArray, List.set_cons_zero, List.set_cons_succ]))
      refine wpAnyH_ready (rs := [33]) (by as_aux_lemma => kernel_rfl) (by simp) ?_
      refine AllReadyH.cons rfl (fun K hK => ?_) AllReadyH.nil
      go_simp
      refine (HQ.out _ hHeld).mono ?_
      rintro e' w' ⟨⟨a2, c2, rfl, t2⟩, hS'⟩
      refine hK.out _ _ hS' (fun hHeld => ?_)
      clear hK K
      try simp only [Act.put, List.setIfInBounds_toArray, List.set_cons_zero, List.set_cons_succ]
      refine wpAnyH_ready (rs := [34]) (by as_aux_lemma => kernel_rfl) (by simp) ?_
      refine AllReadyH.cons rfl (fun K hK => ?_) AllReadyH.nil
      go_simp
      refine (HI2.out _ _ _ hHeld t2).mono ?_
      rintro e' w' ⟨rfl, hS'⟩
      refine hK.out _ _ hS' (fun hHeld => ?_)
      clear hK K
      try simp only [Act.put, List.setIfInBounds_toArray, List.set_cons_zero, List.set_cons_succ]
      (refine Held.takeH (i := 35) (k := 92) (v := .bool false) rfl (by as_aux_lemma => kernel_rfl) (by as_aux_lemma => kernel_rfl) (by as_aux_lemma => kernel_rfl) (by as_aux_lemma => kernel_rfl) (fun _ _ _ h => h) (Or.inl ⟨by rfl, ?_⟩) (by assumption) ?_; (focus (intro w hSw; (try dsimp only at hSw); go_simp; (try rfl))); (simp only [List.setIfInBounds_toArray, List.set_cons_zero, List.set_cons_succ]))
      (refine Held.takeH (i := 36) (k := 93) (v := .bool false) rfl (by as_aux_lemma => kernel_rfl) (by as_aux_lemma => kernel_rfl) (by as_aux_lemma => kernel_rfl) (by as_aux_lemma => kernel_rfl) (fun _ _ _ h => h) (Or.inl ⟨by rfl, ?_⟩) (by assumption) ?_; (focus (intro w hSw; (try dsimp only at hSw); go_simp; (try rfl))); (simp only [List.setIfInBounds_toArray, List.set_cons_zero, List.set_cons_succ]))
      (refine Held.takeH (i := 37) (k := 94) (v := .bool false) rfl (by as_aux_lemma => kernel_rfl) (by as_aux_lemma => kernel_rfl) (by as_aux_lemma => kernel_rfl) (by as_aux_lemma => kernel_rfl) (fun _ _ _ h => h) (Or.inl ⟨by rfl, ?_⟩) (by assumption) ?_; (focus (intro w hSw; (try dsimp only at hSw); go_simp; (try rfl))); (simp only [List.setIfInBounds_toArray, List.set_cons_zero, List.set_cons_succ]))
      (refine Held.takeH (i := 38) (k := 95) (v := ?_) rfl (by as_aux_lemma => kernel_rfl) (by as_aux_lemma => kernel_rfl) (by as_aux_lemma => kernel_rfl) (by as_aux_lemma => kernel_rfl) (fun _ _ _ h => h) (Or.inl ⟨by rfl, ?_⟩) (by assumption) ?_; rotate_left; (focus (intro w hSw; (try dsimp only at hSw); go_simp; (try with_reducible rfl))); (simp only [List.setIfInBounds_toArray, List.set_cons_zero, List.set_cons_succ]))
      (refine Held.takeH (i := 40) (k := 97) (v := ?_) rfl (by as_aux_lemma => kernel_rfl) (by as_aux_lemma => kernel_rfl) (by as_aux_lemma => kernel_rfl) (by as_aux_lemma => kernel_rfl) (fun _ _ _ h => h) (Or.inl ⟨by rfl, ?_⟩) (by assumption) ?_; rotate_left; (focus (intro w hSw; (try dsimp only at hSw); go_simp; (try with_reducible rfl))); (simp only [List.setIfInBounds_toArray, List.set_cons_zero, List.set_cons_succ]))
      refine wpAnyH_ready (rs := [39]) (by as_aux_lemma => kernel_rfl) (by simp) ?_
      refine AllReadyH.cons rfl (fun K hK => ?_) AllReadyH.nil
      go_simp
      refine (HMI.out _ hHeld).mono ?_
      rintro e' w' ⟨rfl, hS'⟩
      refine hK.out _ _ hS' (fun hHeld => ?_)
      clear hK K
      try simp only [Act.put, List.setIfInBounds_toArray, List.set_cons_zero, List.set_cons_succ]
      refine wpAnyH_ready (rs := [41]) (by as_aux_lemma => kernel_rfl) (by simp) ?_
      refine AllReadyH.cons rfl (fun K hK => ?_) AllReadyH.nil
      go_simp
      refine (HMS.out _ hHeld).mono ?_
      rintro e' w' ⟨rfl, hS'⟩
      refine hK.out _ _ hS' (fun hHeld => ?_)
      clear hK K
      try simp only [Act.put, List.setIfInBounds_toArray, List.set_cons_zero, List.set_cons_succ]
      (refine Held.takeH (i := 42) (k := 99) (v := .bool false) rfl (by as_aux_lemma => kernel_rfl) (by as_aux_lemma => kernel_rfl) (by as_aux_lemma => kernel_rfl) (by as_aux_lemma => kernel_rfl) (fun _ _ _ h => h) (Or.inl ⟨by rfl, ?_⟩) (by assumption) ?_; (focus (intro w hSw; (try dsimp only at hSw); go_simp; (try rfl))); (simp only [List.setIfInBounds_toArray, List.set_cons_zero, List.set_cons_succ]))
      (refine Held.takeH (i := 43) (k := 100) (v := .bool false) rfl (by as_aux_lemma => kernel_rfl) (by as_aux_lemma => kernel_rfl) (by as_aux_lemma => kernel_rfl) (by as_aux_lemma => kernel_rfl) (fun _ _ _ h => h) (Or.inl ⟨by rfl, ?_⟩) (by assumption) ?_; (focus (intro w hSw; (try dsimp only at hSw); go_simp; (try rfl))); (simp only [List.setIfInBounds_toArray, List.set_cons_zero, List.set_cons_succ]))
      (refine Held.takeH (i := 44) (k := 101) (v := .bool false) rfl (by as_aux_lemma => kernel_rfl) (by as_aux_lemma => kernel_rfl) (by as_aux_lemma => kernel_rfl) (by as_aux_lemma => kernel_rfl) (fun _ _ _ h => h) (Or.inl ⟨by rfl, ?_⟩) (by assumption) ?_; (focus (intro w hSw; (try dsimp only at hSw); go_simp; (try rfl))); (simp only [List.setIfInBounds_toArray, List.set_cons_zero, List.set_cons_succ]))
      (refine Held.takeH (i := 45) (k := 102) (v := ?_) rfl (by as_aux_lemma => kernel_rfl) (by as_aux_lemma => kernel_rfl) (by as_aux_lemma => kernel_rfl) (by as_aux_lemma => kernel_rfl) (fun _ _ _ h => h) (Or.inl ⟨by rfl, ?_⟩) (by assumption) ?_; rotate_left; (focus (intro w hSw; (try dsimp only at hSw); go_simp; (try with_reducible rfl))); (simp only [List.setIfInBounds_toArray, List.set_cons_zero, List.set_cons_succ]))
      (refine Held.takeH (i := 47) (k := 104) (v := ?_) rfl (by as_aux_lemma => kernel_rfl) (by as_aux_lemma => kernel_rfl) (by as_aux_lemma => kernel_rfl) (by as_aux_lemma => kernel_rfl) (fun _ _ _ h => h) (Or.inl ⟨by rfl, ?_⟩) (by assumption) ?_; rotate_left; (focus (intro w hSw; (try dsimp only at hSw); go_simp; (try with_reducible rfl))); (simp only [List.setIfInBounds_toArray, List.set_cons_zero, List.set_cons_succ]))
      refine wpAnyH_ready (rs := [46]) (by as_aux_lemma => kernel_rfl) (by simp) ?_
      refine AllReadyH.cons rfl (fun K hK => ?_) AllReadyH.nil
      go_simp
      refine (HAI.out _ hHeld).mono ?_
      rintro e' w' ⟨rfl, hS'⟩
      refine hK.out _ _ hS' (fun hHeld => ?_)
      clear hK K
      try simp only [Act.put, List.setIfInBounds_toArray, List.set_cons_zero, List.set_cons_succ]
      refine wpAnyH_ready (rs := [48]) (by as_aux_lemma => kernel_rfl) (by simp) ?_
      refine AllReadyH.cons rfl (fun K hK => ?_) AllReadyH.nil
      go_simp
      refine (HAS.out _ hHeld).mono ?_
      rintro e' w' ⟨rfl, hS'⟩
      refine hK.out _ _ hS' (fun hHeld => ?_)
      clear hK K
      try simp only [Act.put, List.setIfInBounds_toArray, List.set_cons_zero, List.set_cons_succ]
      (refine Held.takeH (i := 49) (k := 106) (v := .bool false) rfl (by as_aux_lemma => kernel_rfl) (by as_aux_lemma => kernel_rfl) (by as_aux_lemma => kernel_rfl) (by as_aux_lemma => kernel_rfl) (fun _ _ _ h => h) (Or.inl ⟨by rfl, ?_⟩) (by assumption) ?_; (focus (intro w hSw; (try dsimp only at hSw); go_simp; (try rfl))); (simp only [List.setIfInBounds_toArray, List.set_cons_zero, List.set_cons_succ]))
      (refine Held.takeH (i := 50) (k := 107) (v := .bool false) rfl (by as_aux_lemma => kernel_rfl) (by as_aux_lemma => kernel_rfl) (by as_aux_lemma => kernel_rfl) (by as_aux_lemma => kernel_rfl) (fun _ _ _ h => h) (Or.inl ⟨by rfl, ?_⟩) (by assumption) ?_; (focus (intro w hSw; (try dsimp only at hSw); go_simp; (try rfl))); (simp only [List.setIfInBounds_toArray, List.set_cons_zero, List.set_cons_succ]))
      refine wpAnyH_done (by as_aux_lemma => kernel_rfl) ?_ _
      go_wp2_with fail
      go_meet
      exact ⟨rfl, Lib.hid hHeld.2.2.2.2.2.2.2.2.2.2⟩
    case rest =>
      obtain ⟨rfl, K11⟩ := hcut
      clear K9 HF HQ HI1 HI2 HCS HMS HAS
      clear g1 g2 g3 g4 g5 g6 g7
      go_upto_region 13 with fail
      go_cut [126] (fun cv wx => cv = .bool false ∧ Hid (PK wx))
      case first =>
        as_aux_lemma =>
        have hcase := rule_cases HMB.out HAB.out
        clear HMB HAB HIM HIA HAR HKE
        rcases hcase with ⟨rfl, rfl, rfl, hl0⟩ | ⟨rfl, rfl, rfl, hl0⟩ | ⟨rfl, rfl, rfl, hl0⟩ | ⟨rfl, rfl, rfl, hl0⟩
        · refine wp_region_held (S := fun W => W.cell? ⟨w2.heap.size, 0, none⟩ = some (.int .i64 ms) ∧ W.cell? ⟨w2.heap.size, 1, none⟩ = some (.string Ts) ∧ PK W) rfl ?_
          have hHeld := (HCs.out _ (HDR.out _ K11.out))
          (refine Held.takeH (i := 0) (k := 108) (v := ?_) rfl (by as_aux_lemma => kernel_rfl) (by as_aux_lemma => kernel_rfl) (by as_aux_lemma => kernel_rfl) (by as_aux_lemma => kernel_rfl) (fun _ _ _ h => h) (Or.inl ⟨by rfl, ?_⟩) (by assumption) ?_; rotate_left; (focus (intro w hSw; (try dsimp only at hSw); go_simp; (try with_reducible rfl))); (simp only [List.setIfInBounds_toArray, List.set_cons_zero, List.set_cons_succ]))
          (refine Held.takeH (i := 2) (k := 110) (v := ?_) rfl (by as_aux_lemma => kernel_rfl) (by as_aux_lemma => kernel_rfl) (by as_aux_lemma => kernel_rfl) (by as_aux_lemma => kernel_rfl) (fun _ _ _ h => h) (Or.inl ⟨by rfl, ?_⟩) (by assumption) ?_; rotate_left; (focus (intro w hSw; (try dsimp only at hSw); go_simp; (try with_reducible rfl))); (simp only [List.setIfInBounds_toArray, List.set_cons_zero, List.set_cons_succ]))
          refine wpAnyH_ready (rs := [1]) (by as_aux_lemma => kernel_rfl) (by simp) ?_
          refine AllReadyH.cons rfl (fun K hK => ?_) AllReadyH.nil
          go_simp
          refine (HMI3.out _ hHeld).mono ?_
          rintro e' w' ⟨rfl, hS'⟩
          refine hK.out _ _ hS' (fun hHeld => ?_)
          clear hK K
          try simp only [Act.put, List.setIfInBounds_toArray, List.set_cons_zero, List.set_cons_succ]
          refine wpAnyH_ready (rs := [3]) (by as_aux_lemma => kernel_rfl) (by simp) ?_
          refine AllReadyH.cons rfl (fun K hK => ?_) AllReadyH.nil
          go_simp
          refine (HAR3.out _ hHeld).mono ?_
          rintro e' w' ⟨rfl, hS'⟩
          refine hK.out _ _ hS' (fun hHeld => ?_)
          clear hK K
          try simp only [Act.put, List.setIfInBounds_toArray, List.set_cons_zero, List.set_cons_succ]
          (refine Held.takeH (i := 4) (k := 112) (v := .bool false) rfl (by as_aux_lemma => kernel_rfl) (by as_aux_lemma => kernel_rfl) (by as_aux_lemma => kernel_rfl) (by as_aux_lemma => kernel_rfl) (fun _ _ _ h => h) (Or.inl ⟨by rfl, ?_⟩) (by assumption) ?_; (focus (intro w hSw; (try dsimp only at hSw); go_simp; (try rfl))); (simp only [List.setIfInBounds_toArray, List.set_cons_zero, List.set_cons_succ]))
          (refine Held.takeH (i := 5) (k := 113) (v := undef) rfl (by as_aux_lemma => kernel_rfl) (by as_aux_lemma => kernel_rfl) (by as_aux_lemma => kernel_rfl) (by as_aux_lemma => kernel_rfl) (fun _ _ _ h => h) (Or.inr ⟨by rfl, rfl⟩) (by assumption) ?_; (simp only [List.setIfInBounds_toArray, List.set_cons_zero, List.set_cons_succ]))
          (refine Held.takeH (i := 6) (k := 114) (v := undef) rfl (by as_aux_lemma => kernel_rfl) (by as_aux_lemma => kernel_rfl) (by as_aux_lemma => kernel_rfl) (by as_aux_lemma => kernel_rfl) (fun _ _ _ h => h) (Or.inr ⟨by rfl, rfl⟩) (by assumption) ?_; (simp only [List.setIfInBounds_toArray, List.set_cons_zero, List.set_cons_succ]))
          (refine Held.takeH (i := 7) (k := 115) (v := undef) rfl (by as_aux_lemma => kernel_rfl) (by as_aux_lemma => kernel_rfl) (by as_aux_lemma => kernel_rfl) (by as_aux_lemma => kernel_rfl) (fun _ _ _ h => h) (Or.inr ⟨by rfl, rfl⟩) (by assumption) ?_; (simp only [List.setIfInBounds_toArray, List.set_cons_zero, List.set_cons_succ]))
          (refine Held.takeH (i := 8) (k := 116) (v := .bool false) rfl (by as_aux_lemma => kernel_rfl) (by as_aux_lemma => kernel_rfl) (by as_aux_lemma => kernel_rfl) (by as_aux_lemma => kernel_rfl) (fun _ _ _ h => h) (Or.inl ⟨by rfl, ?_⟩) (by assumption) ?_; (focus (intro w hSw; (try dsimp only at hSw); go_simp; (try rfl))); (simp only [List.setIfInBounds_toArray, List.set_cons_zero, List.set_cons_succ]))
          (refine Held.takeH (i := 9) (k := 117) (v := .bool false) rfl (by as_aux_lemma => kernel_rfl) (by as_aux_lemma => kernel_rfl) (by as_aux_lemma => kernel_rfl) (by as_aux_lemma => kernel_rfl) (fun _ _ _ h => h) (Or.inl ⟨by rfl, ?_⟩) (by assumption) ?_; (focus (intro w hSw; (try dsimp only at hSw); go_simp; (try rfl))); (simp only [List.setIfInBounds_toArray, List.set_cons_zero, List.set_cons_succ]))
          (refine Held.takeH (i := 10) (k := 118) (v := .bool false) rfl (by as_aux_lemma => kernel_rfl) (by as_aux_lemma => kernel_rfl) (by as_aux_lemma => kernel_rfl) (by as_aux_lemma => kernel_rfl) (fun _ _ _ h => h) (Or.inl ⟨by rfl, ?_⟩) (by assumption) ?_; (focus (intro w hSw; (try dsimp only at hSw); go_simp; (try rfl))); (simp only [List.setIfInBounds_toArray, List.set_cons_zero, List.set_cons_succ]))
          (refine Held.takeH (i := 11) (k := 119) (v := ?_) rfl (by as_aux_lemma => kernel_rfl) (by as_aux_lemma => kernel_rfl) (by as_aux_lemma => kernel_rfl) (by as_aux_lemma => kernel_rfl) (fun _ _ _ h => h) (Or.inl ⟨by rfl, ?_⟩) (by assumption) ?_; rotate_left; (focus (intro w hSw; (try dsimp only at hSw); go_simp; (try with_reducible rfl))); (simp only [List.setIfInBounds_toArray, List.set_cons_zero, List.set_cons_succ]))
          refine wpAnyH_ready (rs := [12]) (by as_aux_lemma => kernel_rfl) (by simp) ?_
          refine AllReadyH.cons rfl (fun K hK => ?_) AllReadyH.nil
          go_simp
          refine (HAI3.out _ hHeld).mono ?_
          rintro e' w' ⟨rfl, hS'⟩
          refine hK.out _ _ hS' (fun hHeld => ?_)
          clear hK K
          try simp only [Act.put, List.setIfInBounds_toArray, List.set_cons_zero, List.set_cons_succ]
          (refine Held.takeH (i := 13) (k := 121) (v := .bool false) rfl (by as_aux_lemma => kernel_rfl) (by as_aux_lemma => kernel_rfl) (by as_aux_lemma => kernel_rfl) (by as_aux_lemma => kernel_rfl) (fun _ _ _ h => h) (Or.inl ⟨by rfl, ?_⟩) (by assumption) ?_; (focus (intro w hSw; (try dsimp only at hSw); go_simp; (try rfl))); (simp only [List.setIfInBounds_toArray, List.set_cons_zero, List.set_cons_succ]))
          (refine Held.takeH (i := 14) (k := 122) (v := undef) rfl (by as_aux_lemma => kernel_rfl) (by as_aux_lemma => kernel_rfl) (by as_aux_lemma => kernel_rfl) (by as_aux_lemma => kernel_rfl) (fun _ _ _ h => h) (Or.inr ⟨by rfl, rfl⟩) (by assumption) ?_; (simp only [List.setIfInBounds_toArray, List.set_cons_zero, List.set_cons_succ]))
          (refine Held.takeH (i := 15) (k := 123) (v := undef) rfl (by as_aux_lemma => kernel_rfl) (by as_aux_lemma => kernel_rfl) (by as_aux_lemma => kernel_rfl) (by as_aux_lemma => kernel_rfl) (fun _ _ _ h => h) (Or.inr ⟨by rfl, rfl⟩) (by assumption) ?_; (simp only [List.setIfInBounds_toArray, List.set_cons_zero, List.set_cons_succ]))
          (refine Held.takeH (i := 16) (k := 124) (v := undef) rfl (by as_aux_lemma => kernel_rfl) (by as_aux_lemma => kernel_rfl) (by as_aux_lemma => kernel_rfl) (by as_aux_lemma => kernel_rfl) (fun _ _ _ h => h) (Or.inr ⟨by rfl, rfl⟩) (by assumption) ?_; (simp only [List.setIfInBounds_toArray, List.set_cons_zero, List.set_cons_succ]))
          (refine Held.takeH (i := 17) (k := 125) (v := .bool false) rfl (by as_aux_lemma => kernel_rfl) (by as_aux_lemma => kernel_rfl) (by as_aux_lemma => kernel_rfl) (by as_aux_lemma => kernel_rfl) (fun _ _ _ h => h) (Or.inl ⟨by rfl, ?_⟩) (by assumption) ?_; (focus (intro w hSw; (try dsimp only at hSw); go_simp; (try rfl))); (simp only [List.setIfInBounds_toArray, List.set_cons_zero, List.set_cons_succ]))
          (refine Held.takeH (i := 18) (k := 126) (v := .bool false) rfl (by as_aux_lemma => kernel_rfl) (by as_aux_lemma => kernel_rfl) (by as_aux_lemma => kernel_rfl) (by as_aux_lemma => kernel_rfl) (fun _ _ _ h => h) (Or.inl ⟨by rfl, ?_⟩) (by assumption) ?_; (focus (intro w hSw; (try dsimp only at hSw); go_simp; (try rfl))); (simp only [List.setIfInBounds_toArray, List.set_cons_zero, List.set_cons_succ]))
          refine wpAnyH_done (by as_aux_lemma => kernel_rfl) ?_ _
          go_wp2_with fail
          go_meet
          exact ⟨rfl, Lib.hid hHeld.2.2⟩
        · refine wp_region_held (S := fun W => W.cell? ⟨w2.heap.size, 0, none⟩ = some (.int .i64 ms) ∧ W.cell? ⟨w2.heap.size, 1, none⟩ = some (.string Ts) ∧ PK W) rfl ?_
          have hHeld := (HCs.out _ (HDR.out _ K11.out))
          (refine Held.takeH (i := 0) (k := 108) (v := ?_) rfl (by as_aux_lemma => kernel_rfl) (by as_aux_lemma => kernel_rfl) (by as_aux_lemma => kernel_rfl) (by as_aux_lemma => kernel_rfl) (fun _ _ _ h => h) (Or.inl ⟨by rfl, ?_⟩) (by assumption) ?_; rotate_left; (focus (intro w hSw; (try dsimp only at hSw); go_simp; (try with_reducible rfl))); (simp only [List.setIfInBounds_toArray, List.set_cons_zero, List.set_cons_succ]))
          (refine Held.takeH (i := 2) (k := 110) (v := ?_) rfl (by as_aux_lemma => kernel_rfl) (by as_aux_lemma => kernel_rfl) (by as_aux_lemma => kernel_rfl) (by as_aux_lemma => kernel_rfl) (fun _ _ _ h => h) (Or.inl ⟨by rfl, ?_⟩) (by assumption) ?_; rotate_left; (focus (intro w hSw; (try dsimp only at hSw); go_simp; (try with_reducible rfl))); (simp only [List.setIfInBounds_toArray, List.set_cons_zero, List.set_cons_succ]))
          refine wpAnyH_ready (rs := [1]) (by as_aux_lemma => kernel_rfl) (by simp) ?_
          refine AllReadyH.cons rfl (fun K hK => ?_) AllReadyH.nil
          go_simp
          refine (HMI3.out _ hHeld).mono ?_
          rintro e' w' ⟨rfl, hS'⟩
          refine hK.out _ _ hS' (fun hHeld => ?_)
          clear hK K
          try simp only [Act.put, List.setIfInBounds_toArray, List.set_cons_zero, List.set_cons_succ]
          refine wpAnyH_ready (rs := [3]) (by as_aux_lemma => kernel_rfl) (by simp) ?_
          refine AllReadyH.cons rfl (fun K hK => ?_) AllReadyH.nil
          go_simp
          refine (HAR3.out _ hHeld).mono ?_
          rintro e' w' ⟨rfl, hS'⟩
          refine hK.out _ _ hS' (fun hHeld => ?_)
          clear hK K
          try simp only [Act.put, List.setIfInBounds_toArray, List.set_cons_zero, List.set_cons_succ]
          (refine Held.takeH (i := 4) (k := 112) (v := .bool true) rfl (by as_aux_lemma => kernel_rfl) (by as_aux_lemma => kernel_rfl) (by as_aux_lemma => kernel_rfl) (by as_aux_lemma => kernel_rfl) (fun _ _ _ h => h) (Or.inl ⟨by rfl, ?_⟩) (by assumption) ?_; (focus (intro w hSw; (try dsimp only at hSw); go_simp; (try rfl))); (simp only [List.setIfInBounds_toArray, List.set_cons_zero, List.set_cons_succ]))
          (refine Held.takeH (i := 5) (k := 113) (v := ?_) rfl (by as_aux_lemma => kernel_rfl) (by as_aux_lemma => kernel_rfl) (by as_aux_lemma => kernel_rfl) (by as_aux_lemma => kernel_rfl) (fun _ _ _ h => h) (Or.inl ⟨by rfl, ?_⟩) (by assumption) ?_; rotate_left; (focus (intro w hSw; (try dsimp only at hSw); go_simp; (try with_reducible rfl))); (simp only [List.setIfInBounds_toArray, List.set_cons_zero, List.set_cons_succ]))
          (refine Held.takeH (i := 6) (k := 114) (v := ?_) rfl (by as_aux_lemma => kernel_rfl) (by as_aux_lemma => kernel_rfl) (by as_aux_lemma => kernel_rfl) (by as_aux_lemma => kernel_rfl) (fun _ _ _ h => h) (Or.inl ⟨by rfl, ?_⟩) (by assumption) ?_; rotate_left; (focus (intro w hSw; (try dsimp only at hSw); go_simp; (try with_reducible rfl))); (simp only [List.setIfInBounds_toArray, List.set_cons_zero, List.set_cons_succ]))
          (refine Held.takeH (i := 7) (k := 115) (v := .bool true) rfl (by as_aux_lemma => kernel_rfl) (by as_aux_lemma => kernel_rfl) (by as_aux_lemma => kernel_rfl) (by as_aux_lemma => kernel_rfl) (fun _ _ _ h => h) (Or.inl ⟨by rfl, ?_⟩) (by assumption) ?_; (focus (intro w hSw; (try dsimp only at hSw); go_simp; (try rfl))); (simp only [List.setIfInBounds_toArray, List.set_cons_zero, List.set_cons_succ]))
          (refine Held.takeH (i := 8) (k := 116) (v := .bool true) rfl (by as_aux_lemma => kernel_rfl) (by as_aux_lemma => kernel_rfl) (by as_aux_lemma => kernel_rfl) (by as_aux_lemma => kernel_rfl) (fun _ _ _ h => h) (Or.inl ⟨by rfl, ?_⟩) (by assumption) ?_; (focus (intro w hSw; (try dsimp only at hSw); go_simp; (try rfl))); (simp only [List.setIfInBounds_toArray, List.set_cons_zero, List.set_cons_succ]))
          (refine Held.takeH (i := 9) (k := 117) (v := .bool false) rfl (by as_aux_lemma => kernel_rfl) (by as_aux_lemma => kernel_rfl) (by as_aux_lemma => kernel_rfl) (by as_aux_lemma => kernel_rfl) (fun _ _ _ h => h) (Or.inl ⟨by rfl, ?_⟩) (by assumption) ?_; (focus (intro w hSw; (try dsimp only at hSw); go_simp; (try rfl))); (simp only [List.setIfInBounds_toArray, List.set_cons_zero, List.set_cons_succ]))
          (refine Held.takeH (i := 10) (k := 118) (v := .bool false) rfl (by as_aux_lemma => kernel_rfl) (by as_aux_lemma => kernel_rfl) (by as_aux_lemma => kernel_rfl) (by as_aux_lemma => kernel_rfl) (fun _ _ _ h => h) (Or.inl ⟨by rfl, ?_⟩) (by assumption) ?_; (focus (intro w hSw; (try dsimp only at hSw); go_simp; (try rfl))); (simp only [List.setIfInBounds_toArray, List.set_cons_zero, List.set_cons_succ]))
          (refine Held.takeH (i := 11) (k := 119) (v := ?_) rfl (by as_aux_lemma => kernel_rfl) (by as_aux_lemma => kernel_rfl) (by as_aux_lemma => kernel_rfl) (by as_aux_lemma => kernel_rfl) (fun _ _ _ h => h) (Or.inl ⟨by rfl, ?_⟩) (by assumption) ?_; rotate_left; (focus (intro w hSw; (try dsimp only at hSw); go_simp; (try with_reducible rfl))); (simp only [List.setIfInBounds_toArray, List.set_cons_zero, List.set_cons_succ]))
          refine wpAnyH_ready (rs := [12]) (by as_aux_lemma => kernel_rfl) (by simp) ?_
          refine AllReadyH.cons rfl (fun K hK => ?_) AllReadyH.nil
          go_simp
          refine (HAI3.out _ hHeld).mono ?_
          rintro e' w' ⟨rfl, hS'⟩
          refine hK.out _ _ hS' (fun hHeld => ?_)
          clear hK K
          try simp only [Act.put, List.setIfInBounds_toArray, List.set_cons_zero, List.set_cons_succ]
          (refine Held.takeH (i := 13) (k := 121) (v := .bool true) rfl (by as_aux_lemma => kernel_rfl) (by as_aux_lemma => kernel_rfl) (by as_aux_lemma => kernel_rfl) (by as_aux_lemma => kernel_rfl) (fun _ _ _ h => h) (Or.inl ⟨by rfl, ?_⟩) (by assumption) ?_; (focus (intro w hSw; (try dsimp only at hSw); go_simp; (try rfl))); (simp only [List.setIfInBounds_toArray, List.set_cons_zero, List.set_cons_succ]))
          (refine Held.takeH (i := 14) (k := 122) (v := ?_) rfl (by as_aux_lemma => kernel_rfl) (by as_aux_lemma => kernel_rfl) (by as_aux_lemma => kernel_rfl) (by as_aux_lemma => kernel_rfl) (fun _ _ _ h => h) (Or.inl ⟨by rfl, ?_⟩) (by assumption) ?_; rotate_left; (focus (intro w hSw; (try dsimp only at hSw); go_simp; (try with_reducible rfl))); (simp only [List.setIfInBounds_toArray, List.set_cons_zero, List.set_cons_succ]))
          refine wpAnyH_ready (rs := [15]) (by as_aux_lemma => kernel_rfl) (by simp) ?_
          refine AllReadyH.cons rfl (fun K hK => ?_) AllReadyH.nil
          go_simp
          refine (HMI3.out _ hHeld).mono ?_
          rintro e' w' ⟨rfl, hS'⟩
          refine hK.out _ _ hS' (fun hHeld => ?_)
          clear hK K
          try simp only [Act.put, List.setIfInBounds_toArray, List.set_cons_zero, List.set_cons_succ]
          (refine Held.takeH (i := 16) (k := 124) (v := .bool false) rfl (by as_aux_lemma => kernel_rfl) (by as_aux_lemma => kernel_rfl) (by as_aux_lemma => kernel_rfl) (by as_aux_lemma => kernel_rfl) (fun _ _ _ h => h) (Or.inl ⟨by rfl, ?_⟩) (by assumption) ?_; (focus (intro w hSw; (try dsimp only at hSw); go_simp; (try rfl))); (simp only [List.setIfInBounds_toArray, List.set_cons_zero, List.set_cons_succ]))
          (refine Held.takeH (i := 17) (k := 125) (v := .bool false) rfl (by as_aux_lemma => kernel_rfl) (by as_aux_lemma => kernel_rfl) (by as_aux_lemma => kernel_rfl) (by as_aux_lemma => kernel_rfl) (fun _ _ _ h => h) (Or.inl ⟨by rfl, ?_⟩) (by assumption) ?_; (focus (intro w hSw; (try dsimp only at hSw); go_simp; (try rfl))); (simp only [List.setIfInBounds_toArray, List.set_cons_zero, List.set_cons_succ]))
          (refine Held.takeH (i := 18) (k := 126) (v := .bool false) rfl (by as_aux_lemma => kernel_rfl) (by as_aux_lemma => kernel_rfl) (by as_aux_lemma => kernel_rfl) (by as_aux_lemma => kernel_rfl) (fun _ _ _ h => h) (Or.inl ⟨by rfl, ?_⟩) (by assumption) ?_; (focus (intro w hSw; (try dsimp only at hSw); go_simp; (try rfl))); (simp only [List.setIfInBounds_toArray, List.set_cons_zero, List.set_cons_succ]))
          refine wpAnyH_done (by as_aux_lemma => kernel_rfl) ?_ _
          go_wp2_with fail
          go_meet
          exact ⟨rfl, Lib.hid hHeld.2.2⟩
        · refine wp_region_held (S := fun W => W.cell? ⟨w2.heap.size, 0, none⟩ = some (.int .i64 ms) ∧ W.cell? ⟨w2.heap.size, 1, none⟩ = some (.string Ts) ∧ PK W) rfl ?_
          have hHeld := (HCs.out _ (HDR.out _ K11.out))
          (refine Held.takeH (i := 0) (k := 108) (v := ?_) rfl (by as_aux_lemma => kernel_rfl) (by as_aux_lemma => kernel_rfl) (by as_aux_lemma => kernel_rfl) (by as_aux_lemma => kernel_rfl) (fun _ _ _ h => h) (Or.inl ⟨by rfl, ?_⟩) (by assumption) ?_; rotate_left; (focus (intro w hSw; (try dsimp only at hSw); go_simp; (try with_reducible rfl))); (simp only [List.setIfInBounds_toArray, List.set_cons_zero, List.set_cons_succ]))
          (refine Held.takeH (i := 2) (k := 110) (v := ?_) rfl (by as_aux_lemma => kernel_rfl) (by as_aux_lemma => kernel_rfl) (by as_aux_lemma => kernel_rfl) (by as_aux_lemma => kernel_rfl) (fun _ _ _ h => h) (Or.inl ⟨by rfl, ?_⟩) (by assumption) ?_; rotate_left; (focus (intro w hSw; (try dsimp only at hSw); go_simp; (try with_reducible rfl))); (simp only [List.setIfInBounds_toArray, List.set_cons_zero, List.set_cons_succ]))
          refine wpAnyH_ready (rs := [1]) (by as_aux_lemma => kernel_rfl) (by simp) ?_
          refine AllReadyH.cons rfl (fun K hK => ?_) AllReadyH.nil
          go_simp
          refine (HMI3.out _ hHeld).mono ?_
          rintro e' w' ⟨rfl, hS'⟩
          refine hK.out _ _ hS' (fun hHeld => ?_)
          clear hK K
          try simp only [Act.put, List.setIfInBounds_toArray, List.set_cons_zero, List.set_cons_succ]
          refine wpAnyH_ready (rs := [3]) (by as_aux_lemma => kernel_rfl) (by simp) ?_
          refine AllReadyH.cons rfl (fun K hK => ?_) AllReadyH.nil
          go_simp
          refine (HAR3.out _ hHeld).mono ?_
          rintro e' w' ⟨rfl, hS'⟩
          refine hK.out _ _ hS' (fun hHeld => ?_)
          clear hK K
          try simp only [Act.put, List.setIfInBounds_toArray, List.set_cons_zero, List.set_cons_succ]
          (refine Held.takeH (i := 4) (k := 112) (v := .bool true) rfl (by as_aux_lemma => kernel_rfl) (by as_aux_lemma => kernel_rfl) (by as_aux_lemma => kernel_rfl) (by as_aux_lemma => kernel_rfl) (fun _ _ _ h => h) (Or.inl ⟨by rfl, ?_⟩) (by assumption) ?_; (focus (intro w hSw; (try dsimp only at hSw); go_simp; (try rfl))); (simp only [List.setIfInBounds_toArray, List.set_cons_zero, List.set_cons_succ]))
          (refine Held.takeH (i := 5) (k := 113) (v := ?_) rfl (by as_aux_lemma => kernel_rfl) (by as_aux_lemma => kernel_rfl) (by as_aux_lemma => kernel_rfl) (by as_aux_lemma => kernel_rfl) (fun _ _ _ h => h) (Or.inl ⟨by rfl, ?_⟩) (by assumption) ?_; rotate_left; (focus (intro w hSw; (try dsimp only at hSw); go_simp; (try with_reducible rfl))); (simp only [List.setIfInBounds_toArray, List.set_cons_zero, List.set_cons_succ]))
          (refine Held.takeH (i := 6) (k := 114) (v := ?_) rfl (by as_aux_lemma => kernel_rfl) (by as_aux_lemma => kernel_rfl) (by as_aux_lemma => kernel_rfl) (by as_aux_lemma => kernel_rfl) (fun _ _ _ h => h) (Or.inl ⟨by rfl, ?_⟩) (by assumption) ?_; rotate_left; (focus (intro w hSw; (try dsimp only at hSw); go_simp; (try with_reducible rfl))); (simp only [List.setIfInBounds_toArray, List.set_cons_zero, List.set_cons_succ]))
          (refine Held.takeH (i := 7) (k := 115) (v := .bool true) rfl (by as_aux_lemma => kernel_rfl) (by as_aux_lemma => kernel_rfl) (by as_aux_lemma => kernel_rfl) (by as_aux_lemma => kernel_rfl) (fun _ _ _ h => h) (Or.inl ⟨by rfl, ?_⟩) (by assumption) ?_; (focus (intro w hSw; (try dsimp only at hSw); go_simp; (try rfl))); (simp only [List.setIfInBounds_toArray, List.set_cons_zero, List.set_cons_succ]))
          (refine Held.takeH (i := 8) (k := 116) (v := .bool true) rfl (by as_aux_lemma => kernel_rfl) (by as_aux_lemma => kernel_rfl) (by as_aux_lemma => kernel_rfl) (by as_aux_lemma => kernel_rfl) (fun _ _ _ h => h) (Or.inl ⟨by rfl, ?_⟩) (by assumption) ?_; (focus (intro w hSw; (try dsimp only at hSw); go_simp; (try rfl))); (simp only [List.setIfInBounds_toArray, List.set_cons_zero, List.set_cons_succ]))
          (refine Held.takeH (i := 9) (k := 117) (v := .bool false) rfl (by as_aux_lemma => kernel_rfl) (by as_aux_lemma => kernel_rfl) (by as_aux_lemma => kernel_rfl) (by as_aux_lemma => kernel_rfl) (fun _ _ _ h => h) (Or.inl ⟨by rfl, ?_⟩) (by assumption) ?_; (focus (intro w hSw; (try dsimp only at hSw); go_simp; (try rfl))); (simp only [List.setIfInBounds_toArray, List.set_cons_zero, List.set_cons_succ]))
          (refine Held.takeH (i := 10) (k := 118) (v := .bool false) rfl (by as_aux_lemma => kernel_rfl) (by as_aux_lemma => kernel_rfl) (by as_aux_lemma => kernel_rfl) (by as_aux_lemma => kernel_rfl) (fun _ _ _ h => h) (Or.inl ⟨by rfl, ?_⟩) (by assumption) ?_; (focus (intro w hSw; (try dsimp only at hSw); go_simp; (try rfl))); (simp only [List.setIfInBounds_toArray, List.set_cons_zero, List.set_cons_succ]))
          (refine Held.takeH (i := 11) (k := 119) (v := ?_) rfl (by as_aux_lemma => kernel_rfl) (by as_aux_lemma => kernel_rfl) (by as_aux_lemma => kernel_rfl) (by as_aux_lemma => kernel_rfl) (fun _ _ _ h => h) (Or.inl ⟨by rfl, ?_⟩) (by assumption) ?_; rotate_left; (focus (intro w hSw; (try dsimp only at hSw); go_simp; (try with_reducible rfl))); (simp only [List.setIfInBounds_toArray, List.set_cons_zero, List.set_cons_succ]))
          refine wpAnyH_ready (rs := [12]) (by as_aux_lemma => kernel_rfl) (by simp) ?_
          refine AllReadyH.cons rfl (fun K hK => ?_) AllReadyH.nil
          go_simp
          refine (HAI3.out _ hHeld).mono ?_
          rintro e' w' ⟨rfl, hS'⟩
          refine hK.out _ _ hS' (fun hHeld => ?_)
          clear hK K
          try simp only [Act.put, List.setIfInBounds_toArray, List.set_cons_zero, List.set_cons_succ]
          (refine Held.takeH (i := 13) (k := 121) (v := .bool false) rfl (by as_aux_lemma => kernel_rfl) (by as_aux_lemma => kernel_rfl) (by as_aux_lemma => kernel_rfl) (by as_aux_lemma => kernel_rfl) (fun _ _ _ h => h) (Or.inl ⟨by rfl, ?_⟩) (by assumption) ?_; (focus (intro w hSw; (try dsimp only at hSw); go_simp; (try rfl))); (simp only [List.setIfInBounds_toArray, List.set_cons_zero, List.set_cons_succ]))
          (refine Held.takeH (i := 14) (k := 122) (v := undef) rfl (by as_aux_lemma => kernel_rfl) (by as_aux_lemma => kernel_rfl) (by as_aux_lemma => kernel_rfl) (by as_aux_lemma => kernel_rfl) (fun _ _ _ h => h) (Or.inr ⟨by rfl, rfl⟩) (by assumption) ?_; (simp only [List.setIfInBounds_toArray, List.set_cons_zero, List.set_cons_succ]))
          (refine Held.takeH (i := 15) (k := 123) (v := undef) rfl (by as_aux_lemma => kernel_rfl) (by as_aux_lemma => kernel_rfl) (by as_aux_lemma => kernel_rfl) (by as_aux_lemma => kernel_rfl) (fun _ _ _ h => h) (Or.inr ⟨by rfl, rfl⟩) (by assumption) ?_; (simp only [List.setIfInBounds_toArray, List.set_cons_zero, List.set_cons_succ]))
          (refine Held.takeH (i := 16) (k := 124) (v := undef) rfl (by as_aux_lemma => kernel_rfl) (by as_aux_lemma => kernel_rfl) (by as_aux_lemma => kernel_rfl) (by as_aux_lemma => kernel_rfl) (fun _ _ _ h => h) (Or.inr ⟨by rfl, rfl⟩) (by assumption) ?_; (simp only [List.setIfInBounds_toArray, List.set_cons_zero, List.set_cons_succ]))
          (refine Held.takeH (i := 17) (k := 125) (v := .bool false) rfl (by as_aux_lemma => kernel_rfl) (by as_aux_lemma => kernel_rfl) (by as_aux_lemma => kernel_rfl) (by as_aux_lemma => kernel_rfl) (fun _ _ _ h => h) (Or.inl ⟨by rfl, ?_⟩) (by assumption) ?_; (focus (intro w hSw; (try dsimp only at hSw); go_simp; (try rfl))); (simp only [List.setIfInBounds_toArray, List.set_cons_zero, List.set_cons_succ]))
          (refine Held.takeH (i := 18) (k := 126) (v := .bool false) rfl (by as_aux_lemma => kernel_rfl) (by as_aux_lemma => kernel_rfl) (by as_aux_lemma => kernel_rfl) (by as_aux_lemma => kernel_rfl) (fun _ _ _ h => h) (Or.inl ⟨by rfl, ?_⟩) (by assumption) ?_; (focus (intro w hSw; (try dsimp only at hSw); go_simp; (try rfl))); (simp only [List.setIfInBounds_toArray, List.set_cons_zero, List.set_cons_succ]))
          refine wpAnyH_done (by as_aux_lemma => kernel_rfl) ?_ _
          go_wp2_with fail
          go_meet
          exact ⟨rfl, Lib.hid hHeld.2.2⟩
        · refine wp_region_held (S := fun W => W.cell? ⟨w2.heap.size, 0, none⟩ = some (.int .i64 ms) ∧ W.cell? ⟨w2.heap.size, 1, none⟩ = some (.string Ts) ∧ PK W) rfl ?_
          have hHeld := (HCs.out _ (HDR.out _ K11.out))
          (refine Held.takeH (i := 0) (k := 108) (v := ?_) rfl (by as_aux_lemma => kernel_rfl) (by as_aux_lemma => kernel_rfl) (by as_aux_lemma => kernel_rfl) (by as_aux_lemma => kernel_rfl) (fun _ _ _ h => h) (Or.inl ⟨by rfl, ?_⟩) (by assumption) ?_; rotate_left; (focus (intro w hSw; (try dsimp only at hSw); go_simp; (try with_reducible rfl))); (simp only [List.setIfInBounds_toArray, List.set_cons_zero, List.set_cons_succ]))
          (refine Held.takeH (i := 2) (k := 110) (v := ?_) rfl (by as_aux_lemma => kernel_rfl) (by as_aux_lemma => kernel_rfl) (by as_aux_lemma => kernel_rfl) (by as_aux_lemma => kernel_rfl) (fun _ _ _ h => h) (Or.inl ⟨by rfl, ?_⟩) (by assumption) ?_; rotate_left; (focus (intro w hSw; (try dsimp only at hSw); go_simp; (try with_reducible rfl))); (simp only [List.setIfInBounds_toArray, List.set_cons_zero, List.set_cons_succ]))
          refine wpAnyH_ready (rs := [1]) (by as_aux_lemma => kernel_rfl) (by simp) ?_
          refine AllReadyH.cons rfl (fun K hK => ?_) AllReadyH.nil
          go_simp
          refine (HMI3.out _ hHeld).mono ?_
          rintro e' w' ⟨rfl, hS'⟩
          refine hK.out _ _ hS' (fun hHeld => ?_)
          clear hK K
          try simp only [Act.put, List.setIfInBounds_toArray, List.set_cons_zero, List.set_cons_succ]
          refine wpAnyH_ready (rs := [3]) (by as_aux_lemma => kernel_rfl) (by simp) ?_
          refine AllReadyH.cons rfl (fun K hK => ?_) AllReadyH.nil
          go_simp
          refine (HAR3.out _ hHeld).mono ?_
          rintro e' w' ⟨rfl, hS'⟩
          refine hK.out _ _ hS' (fun hHeld => ?_)
          clear hK K
          try simp only [Act.put, List.setIfInBounds_toArray, List.set_cons_zero, List.set_cons_succ]
          (refine Held.takeH (i := 4) (k := 112) (v := .bool true) rfl (by as_aux_lemma => kernel_rfl) (by as_aux_lemma => kernel_rfl) (by as_aux_lemma => kernel_rfl) (by as_aux_lemma => kernel_rfl) (fun _ _ _ h => h) (Or.inl ⟨by rfl, ?_⟩) (by assumption) ?_; (focus (intro w hSw; (try dsimp only at hSw); go_simp; (try rfl))); (simp only [List.setIfInBounds_toArray, List.set_cons_zero, List.set_cons_succ]))
          (refine Held.takeH (i := 5) (k := 113) (v := ?_) rfl (by as_aux_lemma => kernel_rfl) (by as_aux_lemma => kernel_rfl) (by as_aux_lemma => kernel_rfl) (by as_aux_lemma => kernel_rfl) (fun _ _ _ h => h) (Or.inl ⟨by rfl, ?_⟩) (by assumption) ?_; rotate_left; (focus (intro w hSw; (try dsimp only at hSw); go_simp; (try with_reducible rfl))); (simp only [List.setIfInBounds_toArray, List.set_cons_zero, List.set_cons_succ]))
          (refine Held.takeH (i := 6) (k := 114) (v := ?_) rfl (by as_aux_lemma => kernel_rfl) (by as_aux_lemma => kernel_rfl) (by as_aux_lemma => kernel_rfl) (by as_aux_lemma => kernel_rfl) (fun _ _ _ h => h) (Or.inl ⟨by rfl, ?_⟩) (by assumption) ?_; rotate_left; (focus (intro w hSw; (try dsimp only at hSw); go_simp; (try with_reducible rfl))); (simp only [List.setIfInBounds_toArray, List.set_cons_zero, List.set_cons_succ]))
          (refine Held.takeH (i := 7) (k := 115) (v := .bool false) rfl (by as_aux_lemma => kernel_rfl) (by as_aux_lemma => kernel_rfl) (by as_aux_lemma => kernel_rfl) (by as_aux_lemma => kernel_rfl) (fun _ _ _ h => h) (Or.inl ⟨by rfl, ?_⟩) (by assumption) ?_; (focus (intro w hSw; (try dsimp only at hSw); go_simp; (try rfl))); (simp only [List.setIfInBounds_toArray, List.set_cons_zero, List.set_cons_succ]))
          (refine Held.takeH (i := 8) (k := 116) (v := .bool false) rfl (by as_aux_lemma => kernel_rfl) (by as_aux_lemma => kernel_rfl) (by as_aux_lemma => kernel_rfl) (by as_aux_lemma => kernel_rfl) (fun _ _ _ h => h) (Or.inl ⟨by rfl, ?_⟩) (by assumption) ?_; (focus (intro w hSw; (try dsimp only at hSw); go_simp; (try rfl))); (simp only [List.setIfInBounds_toArray, List.set_cons_zero, List.set_cons_succ]))
          (refine Held.takeH (i := 9) (k := 117) (v := .bool false) rfl (by as_aux_lemma => kernel_rfl) (by as_aux_lemma => kernel_rfl) (by as_aux_lemma => kernel_rfl) (by as_aux_lemma => kernel_rfl) (fun _ _ _ h => h) (Or.inl ⟨by rfl, ?_⟩) (by assumption) ?_; (focus (intro w hSw; (try dsimp only at hSw); go_simp; (try rfl))); (simp only [List.setIfInBounds_toArray, List.set_cons_zero, List.set_cons_succ]))
          (refine Held.takeH (i := 10) (k := 118) (v := .bool false) rfl (by as_aux_lemma => kernel_rfl) (by as_aux_lemma => kernel_rfl) (by as_aux_lemma => kernel_rfl) (by as_aux_lemma => kernel_rfl) (fun _ _ _ h => h) (Or.inl ⟨by rfl, ?_⟩) (by assumption) ?_; (focus (intro w hSw; (try dsimp only at hSw); go_simp; (try rfl))); (simp only [List.setIfInBounds_toArray, List.set_cons_zero, List.set_cons_succ]))
          (refine Held.takeH (i := 11) (k := 119) (v := ?_) rfl (by as_aux_lemma => kernel_rfl) (by as_aux_lemma => kernel_rfl) (by as_aux_lemma => kernel_rfl) (by as_aux_lemma => kernel_rfl) (fun _ _ _ h => h) (Or.inl ⟨by rfl, ?_⟩) (by assumption) ?_; rotate_left; (focus (intro w hSw; (try dsimp only at hSw); go_simp; (try with_reducible rfl))); (simp only [List.setIfInBounds_toArray, List.set_cons_zero, List.set_cons_succ]))
          refine wpAnyH_ready (rs := [12]) (by as_aux_lemma => kernel_rfl) (by simp) ?_
          refine AllReadyH.cons rfl (fun K hK => ?_) AllReadyH.nil
          go_simp
          refine (HAI3.out _ hHeld).mono ?_
          rintro e' w' ⟨rfl, hS'⟩
          refine hK.out _ _ hS' (fun hHeld => ?_)
          clear hK K
          try simp only [Act.put, List.setIfInBounds_toArray, List.set_cons_zero, List.set_cons_succ]
          (refine Held.takeH (i := 13) (k := 121) (v := .bool false) rfl (by as_aux_lemma => kernel_rfl) (by as_aux_lemma => kernel_rfl) (by as_aux_lemma => kernel_rfl) (by as_aux_lemma => kernel_rfl) (fun _ _ _ h => h) (Or.inl ⟨by rfl, ?_⟩) (by assumption) ?_; (focus (intro w hSw; (try dsimp only at hSw); go_simp; (try rfl))); (simp only [List.setIfInBounds_toArray, List.set_cons_zero, List.set_cons_succ]))
          (refine Held.takeH (i := 14) (k := 122) (v := undef) rfl (by as_aux_lemma => kernel_rfl) (by as_aux_lemma => kernel_rfl) (by as_aux_lemma => kernel_rfl) (by as_aux_lemma => kernel_rfl) (fun _ _ _ h => h) (Or.inr ⟨by rfl, rfl⟩) (by assumption) ?_; (simp only [List.setIfInBounds_toArray, List.set_cons_zero, List.set_cons_succ]))
          (refine Held.takeH (i := 15) (k := 123) (v := undef) rfl (by as_aux_lemma => kernel_rfl) (by as_aux_lemma => kernel_rfl) (by as_aux_lemma => kernel_rfl) (by as_aux_lemma => kernel_rfl) (fun _ _ _ h => h) (Or.inr ⟨by rfl, rfl⟩) (by assumption) ?_; (simp only [List.setIfInBounds_toArray, List.set_cons_zero, List.set_cons_succ]))
          (refine Held.takeH (i := 16) (k := 124) (v := undef) rfl (by as_aux_lemma => kernel_rfl) (by as_aux_lemma => kernel_rfl) (by as_aux_lemma => kernel_rfl) (by as_aux_lemma => kernel_rfl) (fun _ _ _ h => h) (Or.inr ⟨by rfl, rfl⟩) (by assumption) ?_; (simp only [List.setIfInBounds_toArray, List.set_cons_zero, List.set_cons_succ]))
          (refine Held.takeH (i := 17) (k := 125) (v := .bool false) rfl (by as_aux_lemma => kernel_rfl) (by as_aux_lemma => kernel_rfl) (by as_aux_lemma => kernel_rfl) (by as_aux_lemma => kernel_rfl) (fun _ _ _ h => h) (Or.inl ⟨by rfl, ?_⟩) (by assumption) ?_; (focus (intro w hSw; (try dsimp only at hSw); go_simp; (try rfl))); (simp only [List.setIfInBounds_toArray, List.set_cons_zero, List.set_cons_succ]))
          (refine Held.takeH (i := 18) (k := 126) (v := .bool false) rfl (by as_aux_lemma => kernel_rfl) (by as_aux_lemma => kernel_rfl) (by as_aux_lemma => kernel_rfl) (by as_aux_lemma => kernel_rfl) (fun _ _ _ h => h) (Or.inl ⟨by rfl, ?_⟩) (by assumption) ?_; (focus (intro w hSw; (try dsimp only at hSw); go_simp; (try rfl))); (simp only [List.setIfInBounds_toArray, List.set_cons_zero, List.set_cons_succ]))
          refine wpAnyH_done (by as_aux_lemma => kernel_rfl) ?_ _
          go_wp2_with fail
          go_meet
          exact ⟨rfl, Lib.hid hHeld.2.2⟩
      case rest =>
        obtain ⟨rfl, K13⟩ := hcut
        clear K11 HMI3 HAI3 HAR3
        go_upto_region 15 with fail
        go_cut [134] (fun cv wx => cv = .bool false ∧ Hid (PK wx))
        case first =>
          as_aux_lemma =>
          cases bx
          · refine wp_region_held (S := fun W => W.cell? ⟨w4.heap.size, 0, none⟩ = some (.int .i64 mr) ∧ W.cell? ⟨w4.heap.size, 1, none⟩ = some (.string Tr) ∧ W.cell? ⟨w5.heap.size, 0, none⟩ = some (.int .i64 mx) ∧ W.cell? ⟨w5.heap.size, 1, none⟩ = some (.string tx) ∧ PK W) rfl ?_
            have hHeld := (HCrx.out _ (HDR.out _ K13.out))
            (refine Held.takeH (i := 0) (k := 127) (v := .bool false) rfl (by as_aux_lemma => kernel_rfl) (by as_aux_lemma => kernel_rfl) (by as_aux_lemma => kernel_rfl) (by as_aux_lemma => kernel_rfl) (fun _ _ _ h => h) (Or.inl ⟨by rfl, ?_⟩) (by assumption) ?_; (focus (intro w hSw; (try dsimp only at hSw); go_simp; (try rfl))); (simp only [List.setIfInBounds_toArray, List.set_cons_zero, List.set_cons_succ]))
            (refine Held.takeH (i := 1) (k := 128) (v := .bool false) rfl (by as_aux_lemma => kernel_rfl) (by as_aux_lemma => kernel_rfl) (by as_aux_lemma => kernel_rfl) (by as_aux_lemma => kernel_rfl) (fun _ _ _ h => h) (Or.inl ⟨by rfl, ?_⟩) (by assumption) ?_; (focus (intro w hSw; (try dsimp only at hSw); go_simp; (try rfl))); (simp only [List.setIfInBounds_toArray, List.set_cons_zero, List.set_cons_succ]))
            (refine Held.takeH (i := 2) (k := 129) (v := undef) rfl (by as_aux_lemma => kernel_rfl) (by as_aux_lemma => kernel_rfl) (by as_aux_lemma => kernel_rfl) (by as_aux_lemma => kernel_rfl) (fun _ _ _ h => h) (Or.inr ⟨by rfl, rfl⟩) (by assumption) ?_; (simp only [List.setIfInBounds_toArray, List.set_cons_zero, List.set_cons_succ]))
            (refine Held.takeH (i := 3) (k := 130) (v := undef) rfl (by as_aux_lemma => kernel_rfl) (by as_aux_lemma => kernel_rfl) (by as_aux_lemma => kernel_rfl) (by as_aux_lemma => kernel_rfl) (fun _ _ _ h => h) (Or.inr ⟨by rfl, rfl⟩) (by assumption) ?_; (simp only [List.setIfInBounds_toArray, List.set_cons_zero, List.set_cons_succ]))
            (refine Held.takeH (i := 4) (k := 131) (v := undef) rfl (by as_aux_lemma => kernel_rfl) (by as_aux_lemma => kernel_rfl) (by as_aux_lemma => kernel_rfl) (by as_aux_lemma => kernel_rfl) (fun _ _ _ h => h) (Or.inr ⟨by rfl, rfl⟩) (by assumption) ?_; (simp only [List.setIfInBounds_toArray, List.set_cons_zero, List.set_cons_succ]))
            (refine Held.takeH (i := 5) (k := 132) (v := undef) rfl (by as_aux_lemma => kernel_rfl) (by as_aux_lemma => kernel_rfl) (by as_aux_lemma => kernel_rfl) (by as_aux_lemma => kernel_rfl) (fun _ _ _ h => h) (Or.inr ⟨by rfl, rfl⟩) (by assumption) ?_; (simp only [List.setIfInBounds_toArray, List.set_cons_zero, List.set_cons_succ]))
            (refine Held.takeH (i := 6) (k := 133) (v := undef) rfl (by as_aux_lemma => kernel_rfl) (by as_aux_lemma => kernel_rfl) (by as_aux_lemma => kernel_rfl) (by as_aux_lemma => kernel_rfl) (fun _ _ _ h => h) (Or.inr ⟨by rfl, rfl⟩) (by assumption) ?_; (simp only [List.setIfInBounds_toArray, List.set_cons_zero, List.set_cons_succ]))
            (refine Held.takeH (i := 7) (k := 134) (v := .bool false) rfl (by as_aux_lemma => kernel_rfl) (by as_aux_lemma => kernel_rfl) (by as_aux_lemma => kernel_rfl) (by as_aux_lemma => kernel_rfl) (fun _ _ _ h => h) (Or.inl ⟨by rfl, ?_⟩) (by assumption) ?_; (focus (intro w hSw; (try dsimp only at hSw); go_simp; (try rfl))); (simp only [List.setIfInBounds_toArray, List.set_cons_zero, List.set_cons_succ]))
            refine wpAnyH_done (by as_aux_lemma => kernel_rfl) ?_ _
            go_wp2_with fail
            go_meet
            exact ⟨rfl, Lib.hid hHeld.2.2.2.2⟩
          · rw [HKE.out rfl] at HMX
            generalize matB mr Tr.data.toList = q at HMX HMR
            have hq : (q != q) = false := by simp
            refine wp_region_held (S := fun W => W.cell? ⟨w4.heap.size, 0, none⟩ = some (.int .i64 mr) ∧ W.cell? ⟨w4.heap.size, 1, none⟩ = some (.string Tr) ∧ W.cell? ⟨w5.heap.size, 0, none⟩ = some (.int .i64 mx) ∧ W.cell? ⟨w5.heap.size, 1, none⟩ = some (.string tx) ∧ PK W) rfl ?_
            have hHeld := (HCrx.out _ (HDR.out _ K13.out))
            (refine Held.takeH (i := 0) (k := 127) (v := .bool true) rfl (by as_aux_lemma => kernel_rfl) (by as_aux_lemma => kernel_rfl) (by as_aux_lemma => kernel_rfl) (by as_aux_lemma => kernel_rfl) (fun _ _ _ h => h) (Or.inl ⟨by rfl, ?_⟩) (by assumption) ?_; (focus (intro w hSw; (try dsimp only at hSw); go_simp; (try rfl))); (simp only [List.setIfInBounds_toArray, List.set_cons_zero, List.set_cons_succ]))
            (refine Held.takeH (i := 1) (k := 128) (v := .bool true) rfl (by as_aux_lemma => kernel_rfl) (by as_aux_lemma => kernel_rfl) (by as_aux_lemma => kernel_rfl) (by as_aux_lemma => kernel_rfl) (fun _ _ _ h => h) (Or.inl ⟨by rfl, ?_⟩) (by assumption) ?_; (focus (intro w hSw; (try dsimp only at hSw); go_simp; (try rfl))); (simp only [List.setIfInBounds_toArray, List.set_cons_zero, List.set_cons_succ]))
            (refine Held.takeH (i := 2) (k := 129) (v := ?_) rfl (by as_aux_lemma => kernel_rfl) (by as_aux_lemma => kernel_rfl) (by as_aux_lemma => kernel_rfl) (by as_aux_lemma => kernel_rfl) (fun _ _ _ h => h) (Or.inl ⟨by rfl, ?_⟩) (by assumption) ?_; rotate_left; (focus (intro w hSw; (try dsimp only at hSw); go_simp; (try with_reducible rfl))); (simp only [List.setIfInBounds_toArray, List.set_cons_zero, List.set_cons_succ]))
            (refine Held.takeH (i := 4) (k := 131) (v := ?_) rfl (by as_aux_lemma => kernel_rfl) (by as_aux_lemma => kernel_rfl) (by as_aux_lemma => kernel_rfl) (by as_aux_lemma => kernel_rfl) (fun _ _ _ h => h) (Or.inl ⟨by rfl, ?_⟩) (by assumption) ?_; rotate_left; (focus (intro w hSw; (try dsimp only at hSw); go_simp; (try with_reducible rfl))); (simp only [List.setIfInBounds_toArray, List.set_cons_zero, List.set_cons_succ]))
            refine wpAnyH_ready (rs := [3]) (by as_aux_lemma => kernel_rfl) (by simp) ?_
            refine AllReadyH.cons rfl (fun K hK => ?_) AllReadyH.nil
            go_simp
            refine (HMX.out _ hHeld).mono ?_
            rintro e' w' ⟨rfl, hS'⟩
            refine hK.out _ _ hS' (fun hHeld => ?_)
            clear hK K
            try simp only [Act.put, List.setIfInBounds_toArray, List.set_cons_zero, List.set_cons_succ]
            refine wpAnyH_ready (rs := [5]) (by as_aux_lemma => kernel_rfl) (by simp) ?_
            refine AllReadyH.cons rfl (fun K hK => ?_) AllReadyH.nil
            go_simp
            refine (HMR.out _ hHeld).mono ?_
            rintro e' w' ⟨rfl, hS'⟩
            refine hK.out _ _ hS' (fun hHeld => ?_)
            clear hK K
            try simp only [Act.put, List.setIfInBounds_toArray, List.set_cons_zero, List.set_cons_succ]
            (refine Held.takeH (i := 6) (k := 133) (v := .bool false) rfl (by as_aux_lemma => kernel_rfl) (by as_aux_lemma => kernel_rfl) (by as_aux_lemma => kernel_rfl) (by as_aux_lemma => kernel_rfl) (fun _ _ _ h => h) (Or.inl ⟨by rfl, ?_⟩) (by assumption) ?_; (focus (intro w hSw; (try dsimp only at hSw); go_simp; (try rfl))); (simp only [List.setIfInBounds_toArray, List.set_cons_zero, List.set_cons_succ]))
            (refine Held.takeH (i := 7) (k := 134) (v := .bool false) rfl (by as_aux_lemma => kernel_rfl) (by as_aux_lemma => kernel_rfl) (by as_aux_lemma => kernel_rfl) (by as_aux_lemma => kernel_rfl) (fun _ _ _ h => h) (Or.inl ⟨by rfl, ?_⟩) (by assumption) ?_; (focus (intro w hSw; (try dsimp only at hSw); go_simp; (try rfl))); (simp only [List.setIfInBounds_toArray, List.set_cons_zero, List.set_cons_succ]))
            refine wpAnyH_done (by as_aux_lemma => kernel_rfl) ?_ _
            go_wp2_with fail
            go_meet
            exact ⟨rfl, Lib.hid hHeld.2.2.2.2⟩
        case rest =>
          obtain ⟨rfl, K15⟩ := hcut
          clear K13 HMX HMR HKE
          go_wp2_with fail
          refine (drawPts_any v n hn _ (HV.out _ (HBE.out _ K15.out))).mono ?_
          rintro e w10 ⟨g, gc, xs, rfl, hxl, hra, hb10⟩
          have K17 := Lib.hid (HON.out _ _ K15.out hb10)
          obtain ⟨my, ty, yb, hpv, hty, hya⟩ := pts_right xs
          have HP := Lib.hid (specPtsA g gc xs (by omega) _ hra)
          rw [hpv] at HP
          have HYA := Lib.hid hya
          clear hra hb10 hpv K15 hya
          go_wp2_with fail
          refine HP.out.mono ?_
          rintro e w11 ⟨rfl, hb11⟩
          have K18 := Lib.hid (HON.out _ _ (HON.out _ _ K17.out hb11) ((Below.refl _ _).alloc (Nat.le_refl _) (.cells #[.int .i64 my, .string ty] 25)))
          have Y18 := Lib.hid (outC_made w11 my ty 25)
          clear hb11 K17 HP
          go_upto_region 19 with fail
          go_cut [147] (fun cv wx => cv = .bool false ∧ Hid (PK wx))
          case first =>
            as_aux_lemma =>
            obtain ⟨⟨y0, y1⟩, -⟩ := Y18.out
            cases yb
            · go_wp2_with fail
              go_meet
              exact ⟨rfl, K18⟩
            · have HAY := Lib.hid (fun W => implAci my ty (by omega) W)
              rw [HYA.out rfl] at HAY
              go_wp2_with fail
              refine (HAY.out _).mono ?_
              rintro e w12 ⟨rfl, hb12⟩
              have K12 := Lib.hid (HON.out _ _ K18.out hb12)
              clear hb12
              go_wp2_with fail
              go_meet
              exact ⟨rfl, K12⟩
          case rest =>
            obtain ⟨rfl, K19⟩ := hcut
            clear K18 Y18 HYA hty
            have HMA : Hid (∀ W, PK W → Calls Try.prog 26 #[sg ma Ta] W fun e w' => e = .returned (.bool (matB ma Ta.data.toList)) ∧ PK w') := Lib.hid (fun W hW => (implMat ma Ta (by omega) W).mono fun e w' ⟨he, hb⟩ => ⟨he, HON.out _ _ hW hb⟩)
            have HAA : Hid (∀ W, PK W → Calls Try.prog 28 #[sg ma Ta] W fun e w' => e = .returned (.bool (aciB ma Ta.data.toList)) ∧ PK w') := Lib.hid (fun W hW => (implAci ma Ta (by omega) W).mono fun e w' ⟨he, hb⟩ => ⟨he, HON.out _ _ hW hb⟩)
            have HHI : Hid (∀ W, PK W → Calls Try.prog 33 #[.slice aq zq.length cq, .int .i64 0] W fun e w' => e = .returned (.bool (decide ((0 : Int) ∈ zq))) ∧ PK w') := Lib.hid (fun W hW => by
              obtain ⟨lo, hi, h1⟩ := HNQ.out _ hW
              exact (NewI.hasInt_any aq cq lo hi zq (by omega) 0 W h1).mono fun e w' ⟨he, hb⟩ => ⟨he, HON.out _ _ hW hb⟩)
            have hcase : (matB ma Ta.data.toList = false ∧ aciB ma Ta.data.toList = false) ∨ (matB ma Ta.data.toList = true ∧ aciB ma Ta.data.toList = false ∧ (zq.length : Int) = (ma : Int) * ((ma : Int) - 1) + 2 ∧ (3 ≤ ma ∧ ma ≤ 6)) ∨ (matB ma Ta.data.toList = true ∧ aciB ma Ta.data.toList = true ∧ (zq.length : Int) = (ma : Int) * ((ma : Int) - 1) + 2 ∧ (3 ≤ ma ∧ ma ≤ 6) ∧ (0 : Int) ∈ zq) := by
              have h0 := HAB2.out
              obtain ⟨h1, h2⟩ := HSR2.out
              cases hm : matB ma Ta.data.toList
              · refine Or.inl ⟨rfl, ?_⟩
                cases ha : aciB ma Ta.data.toList
                · rfl
                · rw [h0 ha] at hm; cases hm
              · obtain ⟨h3, h7, -⟩ := arB_yes (matB_ar hm)
                have hl : (zq.length : Int) = (ma : Int) * ((ma : Int) - 1) + 2 := by
                  rw [h1 hm]
                  rcases (by omega : ma = 3 ∨ ma = 4 ∨ ma = 5 ∨ ma = 6) with rfl | rfl | rfl | rfl <;> rfl
                cases ha : aciB ma Ta.data.toList
                · exact Or.inr (Or.inl ⟨rfl, rfl, hl, by omega, by omega⟩)
                · exact Or.inr (Or.inr ⟨rfl, rfl, hl, ⟨by omega, by omega⟩, h2 ha⟩)
            go_upto_region 21 with fail
            go_cut [170] (fun cv wx => cv = .bool false ∧ Hid (PK wx))
            case first =>
              as_aux_lemma =>
              obtain ⟨x0, x1, -⟩ := HCa.out _ K19.out
              clear HAB2 HSR2 HSZ
              rcases hcase with ⟨hm, ha⟩ | ⟨hm, ha, hl, hma2⟩ | ⟨hm, ha, hl, hma2, hz⟩
              · rw [hm] at HMA; rw [ha] at HAA; clear hm ha
                go_wp2_with fail
                refine (HMA.out _ K19.out).mono ?_
                rintro e w12 ⟨rfl, hk12⟩
                have K12 := Lib.hid hk12
                clear hk12 x0 x1
                obtain ⟨x0, x1, -⟩ := HCa.out _ K12.out
                go_wp2_with fail
                refine (HAA.out _ K12.out).mono ?_
                rintro e w13 ⟨rfl, hk13⟩
                have K13 := Lib.hid hk13
                clear hk13 x0 x1
                go_wp2_with fail
                go_meet
                exact ⟨rfl, K13⟩
              · rw [hm] at HMA; rw [ha] at HAA; clear hm ha
                have hp : (0 : Int) ≤ (ma : Int) * ((ma : Int) - 1) ∧ (ma : Int) * ((ma : Int) - 1) ≤ 30 := by rcases (by omega : ma = 3 ∨ ma = 4 ∨ ma = 5 ∨ ma = 6) with rfl | rfl | rfl | rfl <;> decide
                have v1 : IntKind.i64.wrap ((ma : Int) - 1) = (ma : Int) - 1 := IntWalk.i64_in _ (by omega)
                have v2 : IntKind.i64.wrap ((ma : Int) * ((ma : Int) - 1)) = (ma : Int) * ((ma : Int) - 1) := IntWalk.i64_in _ (by omega)
                have v3 : IntKind.i64.wrap ((ma : Int) * ((ma : Int) - 1) + 2) = (ma : Int) * ((ma : Int) - 1) + 2 := IntWalk.i64_in _ (by omega)
                have v4 : ((zq.length : Int) != (ma : Int) * ((ma : Int) - 1) + 2) = false := by rw [hl]; simp
                clear hl
                go_wp2_with fail
                refine (HMA.out _ K19.out).mono ?_
                rintro e w12 ⟨rfl, hk12⟩
                have K12 := Lib.hid hk12
                clear hk12 x0 x1
                obtain ⟨x0, x1, -⟩ := HCa.out _ K12.out
                go_wp2_with fail
                refine (HAA.out _ K12.out).mono ?_
                rintro e w13 ⟨rfl, hk13⟩
                have K13 := Lib.hid hk13
                clear hk13 x0 x1
                go_wp2_with fail
                go_meet
                exact ⟨rfl, K13⟩
              · rw [hm] at HMA; rw [ha] at HAA; clear hm ha
                rw [decide_eq_true hz] at HHI; clear hz
                have hp : (0 : Int) ≤ (ma : Int) * ((ma : Int) - 1) ∧ (ma : Int) * ((ma : Int) - 1) ≤ 30 := by rcases (by omega : ma = 3 ∨ ma = 4 ∨ ma = 5 ∨ ma = 6) with rfl | rfl | rfl | rfl <;> decide
                have v1 : IntKind.i64.wrap ((ma : Int) - 1) = (ma : Int) - 1 := IntWalk.i64_in _ (by omega)
                have v2 : IntKind.i64.wrap ((ma : Int) * ((ma : Int) - 1)) = (ma : Int) * ((ma : Int) - 1) := IntWalk.i64_in _ (by omega)
                have v3 : IntKind.i64.wrap ((ma : Int) * ((ma : Int) - 1) + 2) = (ma : Int) * ((ma : Int) - 1) + 2 := IntWalk.i64_in _ (by omega)
                have v4 : ((zq.length : Int) != (ma : Int) * ((ma : Int) - 1) + 2) = false := by rw [hl]; simp
                clear hl
                go_wp2_with fail
                refine (HMA.out _ K19.out).mono ?_
                rintro e w12 ⟨rfl, hk12⟩
                have K12 := Lib.hid hk12
                clear hk12 x0 x1
                obtain ⟨x0, x1, -⟩ := HCa.out _ K12.out
                go_wp2_with fail
                refine (HAA.out _ K12.out).mono ?_
                rintro e w13 ⟨rfl, hk13⟩
                have K13 := Lib.hid hk13
                clear hk13 x0 x1
                go_wp2_with fail
                refine (HHI.out _ K13.out).mono ?_
                rintro e w14 ⟨rfl, hk14⟩
                have K14 := Lib.hid hk14
                clear hk14
                go_wp2_with fail
                go_meet
                exact ⟨rfl, K14⟩
            case rest =>
              obtain ⟨rfl, K21⟩ := hcut
              clear K19 HMA HAA HHI HAB2 HSR2 hcase
              have HCI3 : Hid (∀ W, PK W → Calls Try.prog 23 #[sg mc Tc, .int .i64 z0, .int .i64 z1, .int .i64 z2, .int .i64 z3] W fun e w' => e = .returned (.string tc) ∧ PK w') := Lib.hid (fun W hW => by
                have x0 := e0.out; have x1 := e1.out; have x2 := e2.out; have x3 := e3.out
                exact (implCirc mc Tc z0 z1 z2 z3 (by omega) (by omega) (by omega) (by omega) (by omega) W).mono fun e w' ⟨he, hb⟩ => ⟨by rw [HTC.out]; exact he, HON.out _ _ hW hb⟩)
              have HCI4 : Hid (∀ W, PK W → Calls Try.prog 23 #[sg mc Tc, .int .i64 z1, .int .i64 z0, .int .i64 z2, .int .i64 z3] W fun e w' => e = .returned (.string ⟨(cirT (cir (sgnF (lookS mc Tc.data.toList)) z1 z0 z2 z3)).toArray⟩) ∧ PK w') := Lib.hid (fun W hW => by
                have x0 := e0.out; have x1 := e1.out; have x2 := e2.out; have x3 := e3.out
                exact (implCirc mc Tc z1 z0 z2 z3 (by omega) (by omega) (by omega) (by omega) (by omega) W).mono fun e w' ⟨he, hb⟩ => ⟨he, HON.out _ _ hW hb⟩)
              have hcase : tc = ⟨#[]⟩ ∨ ((∃ x y z, tc = ⟨#[43, x, y, z]⟩) ∧ (cirT (cir (sgnF (lookS mc Tc.data.toList)) z1 z0 z2 z3)).length = 4) := by
                by_cases hnil : cirT (cir (sgnF (lookS mc Tc.data.toList)) z0 z1 z2 z3) = []
                · exact Or.inl (by rw [HTC.out, hnil])
                · obtain ⟨⟨x, y, z, h1⟩, h2⟩ := HCT.out hnil
                  exact Or.inr ⟨⟨x, y, z, by rw [HTC.out, h1]⟩, h2⟩
              generalize hU : cirT (cir (sgnF (lookS mc Tc.data.toList)) z1 z0 z2 z3) = U at HCI4 hcase
              clear hU HCT HTC e0 e1 e2 e3
              obtain ⟨x0, x1, -⟩ := HCc.out _ K21.out
              go_wp2_with fail
              refine (HCI3.out _ K21.out).mono ?_
              rintro e w12 ⟨rfl, hk12⟩
              have K12 := Lib.hid hk12
              clear hk12 x0 x1
              obtain ⟨x0, x1, -⟩ := HCc.out _ K12.out
              rcases hcase with rfl | ⟨⟨x, y, z, rfl⟩, hU4⟩
              · go_wp2_with fail
                go_ret
                exact ⟨rfl, HBE.out _ K12.out⟩
              · have s0 : ((⟨#[43, x, y, z]⟩ : ByteArray).toList == (⟨#[]⟩ : ByteArray).toList) = false := by simp [ByteArray.toList_eq]
                have s1 : ((⟨#[43, x, y, z]⟩ : ByteArray) == (⟨#[]⟩ : ByteArray)) = false := by rw [beq_toListBytes]; exact s0
                have HU4 := Lib.hid hU4
                have s2 : (⟨U.toArray⟩ : ByteArray).size = 4 := by show U.toArray.size = 4; rw [List.size_toArray]; exact hU4
                clear hU4
                go_wp2_with fail
                refine (HCI4.out _ K12.out).mono ?_
                rintro e w13 ⟨rfl, hk13⟩
                have K13 := Lib.hid hk13
                clear hk13 x0 x1
                go_wp2_with fail
                go_ret
                exact ⟨rfl, HBE.out _ K13.out⟩
end Go.Proofs.Ytlhkgabglddlhaa.Sg
