/- FnCrossings: the law's own walk. -/
import Derived.Test.YtinlnafkmoabbaaGreatDoorKrFacts
import Derived.Test.YtinlnafkmoabbaaGreatDoorLawInts
import Derived.Test.YtinlnafkmoabbaaGreatDoorQuLists
import Derived.Test.YtinlnafkmoabbaaGreatDoorMgQ
import Derived.Test.YtinlnafkmoabbaaGreatDoorTakeH
import Derived.Test.YtinlnafkmoabbaaGreatDoorMgKs
import Derived.Deep.DeepCutAuto
import Derived.BigQuiet
namespace Go.Proofs.YtinlnafkmoabbaaGreatDoor.Sg
open Go.RowKit Pt NewI Cur
/-- What the walk of FnCrossings keeps: two boxes. -/
structure MemK (w : World) (bs bt : Nat) (ms mt : Int) (Ts Tt : ByteArray) (W : World) : Prop where
  below : Below w.heap.size w W
  s : OutC bs ms Ts W
  t : OutC bt mt Tt W
theorem MemK.on {w : World} {bs bt : Nat} {ms mt : Int} {Ts Tt : ByteArray} {W W' : World} (h : MemK w bs bt ms mt Ts Tt W) (hb' : Below W.heap.size W W') : MemK w bs bt ms mt Ts Tt W' :=
  ⟨h.below.trans (hb'.mono h.below.size), h.s.on hb', h.t.on hb'⟩
theorem edZ_i64 (n k : Int) : I64 (edZ n k).1 ∧ I64 (edZ n k).2 := by
  unfold edZ I64
  split
  · rename_i h
    obtain ⟨h1, h2, h3⟩ := h
    obtain ⟨b1, b2⟩ := inB_mem h1
    obtain ⟨m1, m2⟩ := edL_lt (n := n.toNat) (k := k.toNat) (by omega) (by omega)
    dsimp only
    omega
  · dsimp only
    omega
/-- What FnCrossings asks where the signs are order signs. -/
theorem walk_yes {n : Int} {s : List UInt8} (h : aciB n s = true) : ∃ S : Nat, huZ n s = S ∧ S < 2097152 ∧ ((szF 21 S : Nat) : Int) = hszZ n s ∧ bits BinOp.andNot IntKind.i64 (huZ n s) (frZ n s) = 0 ∧ cpZ n s (huZ n s) = 0 ∧ cpZ n s (frZ n s) = 0 ∧ cpZ n s (allZ n) = quadsN n s := by
  obtain ⟨h3, h7⟩ := aciB_n h
  obtain ⟨m, rfl⟩ : ∃ m : Nat, n = m := ⟨n.toNat, by omega⟩
  obtain ⟨e1, e2⟩ := hull_size h
  obtain ⟨a, -, c⟩ := hullE_lt (n := m) (sgnF (lookS m s)) (by omega)
  refine ⟨_, e1, by omega, e2, hull_in_free h, hull_plane0 h, free_plane0 h, ?_⟩
  rw [all_quads h]
  unfold quadsN quadsL
  simp [h]
set_option maxHeartbeats 12800000 in
set_option maxRecDepth 100000 in
theorem walkFnCrossings (v : Value) (n : Nat) (w : World) (hv : Bytes w v n w.heap.size) (ht : Lib.TabIs Tryz.prog w "math/bits.deBruijn64tab" .u8 tab64) :
    Calls Tryz.prog 4 #[v] w fun e w' => e = .returned (.bool true) ∧ Below w.heap.size w w' := by
  have HT := Lib.hid (Tab.of ht)
  have HBIG := Lib.hid (fun W (hW : Below w.heap.size w W) => big_any v n W (bytes_up hv hW))
  have HV := Lib.hid (fun W (hW : Below w.heap.size w W) => bytes_up hv hW)
  have B0 := Lib.hid (Below.refl w.heap.size w)
  clear hv ht
  by_cases hbig : (n : Int) > 1048576
  · go_enter Tryz.func4, Tryz.ntmps4
    go_wp2_with fail
    refine (HBIG.out _ B0.out).mono ?_
    rintro e w1 ⟨rfl, rfl⟩
    go_wp2
    go_ret
    exact ⟨rfl, B0.out⟩
  · have hn : n ≤ 9223372036854700000 := by omega
    go_enter Tryz.func4, Tryz.ntmps4
    go_wp2_with fail
    refine (HBIG.out _ B0.out).mono ?_
    rintro e w1 ⟨rfl, rfl⟩
    go_wp2_with fail
    refine (drawEdgeIx_any v n hn _ (HV.out _ B0.out)).mono ?_
    rintro e w2 ⟨n0, i0, j0, rfl, hn0, hi0, hj0, hb2⟩
    have B2 := Lib.hid (B0.out.trans (hb2.mono B0.out.size))
    clear hb2
    go_wp2_with fail
    refine (drawEdgeAt_any v n hn _ (HV.out _ B2.out)).mono ?_
    rintro e w3 ⟨m0, k0, rfl, hm0, hk0, hb3⟩
    have B3 := Lib.hid (B2.out.trans (hb3.mono B2.out.size))
    clear hb3 B2
    go_wp2_with fail
    refine (implEdgeAt m0 k0 (by unfold I64; omega) _).mono ?_
    rintro e w4 ⟨rfl, hb4⟩
    have B4 := Lib.hid (B3.out.trans (hb4.mono B3.out.size))
    clear hb4 B3
    go_wp2_with fail
    refine (specEdgeAt m0 k0 _).mono ?_
    rintro e w' ⟨rfl, rfl⟩
    go_wp2_with fail
    refine (drawDoCross_any v n hn _ (HV.out _ B4.out)).mono ?_
    rintro e w5 ⟨ms, Ts, p0, q0, u0, v0, rfl, hms, hTs, hel, hb5⟩
    have B5 := Lib.hid ((B4.out.trans (hb5.mono B4.out.size)).alloc (Nat.le_trans B4.out.size hb5.size) (.cells #[.int .i64 ms, .string Ts] 25))
    have hal5 := (Below.refl w5.heap.size w5).alloc (Nat.le_refl _) (.cells #[.int .i64 ms, .string Ts] 25)
    have S5 := Lib.hid (outC_made w5 ms Ts 25)
    clear hb5 hal5 B4
    go_wp2_with fail
    refine (drawCrossing_any v n hn _ (HV.out _ B5.out)).mono ?_
    rintro e w6 ⟨mt, Tt, kt, rfl, hmt, hTt, hkt, hb6⟩
    have B6 := Lib.hid ((B5.out.trans (hb6.mono B5.out.size)).alloc (Nat.le_trans B5.out.size hb6.size) (.cells #[.int .i64 mt, .string Tt] 25))
    have hal6 := (Below.refl w6.heap.size w6).alloc (Nat.le_refl _) (.cells #[.int .i64 mt, .string Tt] 25)
    have S6 := Lib.hid ((S5.out.on hb6).on hal6)
    have T6 := Lib.hid (outC_made w6 mt Tt 25)
    clear hb6 hal6 B5 S5
    obtain ⟨⟨y0, y1⟩, -⟩ := T6.out
    go_wp2_with fail
    refine (implCrossings mt Tt (by omega) kt _ (HT.out.on B6.out)).mono ?_
    rintro e w7 ⟨rfl, hb7⟩
    have B7 := Lib.hid (B6.out.trans (hb7.mono B6.out.size))
    have S7 := Lib.hid (S6.out.on hb7)
    have T7 := Lib.hid (T6.out.on hb7)
    clear hb7 B6 S6 T6
    clear y0 y1
    go_wp2_with fail
    refine (drawAllEdges_any v n hn _ (HV.out _ B7.out)).mono ?_
    rintro e w8 ⟨xa, rfl, hxa, hb8⟩
    have B8 := Lib.hid (B7.out.trans (hb8.mono B7.out.size))
    have S8 := Lib.hid (S7.out.on hb8)
    have T8 := Lib.hid (T7.out.on hb8)
    clear hb8 B7 S7 T7
    go_upto_region 11 with fail
    generalize hbs : w5.heap.size = bs at S8 ⊢
    clear hbs
    generalize hbt : w6.heap.size = bt at T8 ⊢
    clear hbt
    -- the memory, packed
    obtain ⟨PK, hPK⟩ : ∃ P : World → Prop, P = MemK w1 bs bt ms mt Ts Tt := ⟨_, rfl⟩
    have Q8 : Hid (PK w8) := Lib.hid (by rw [hPK]; exact ⟨B8.out, S8.out, T8.out⟩)
    have HDR : Hid (∀ W, PK W → PK W.drew) := Lib.hid (by rw [hPK]; exact fun W h => h.on (Below.refl _ _).drew)
    have HON : Hid (∀ W W', PK W → Below W.heap.size W W' → PK W') := Lib.hid (by rw [hPK]; exact fun W W' h hb => h.on hb)
    have HBE : Hid (∀ W, PK W → Below w1.heap.size w1 W) := Lib.hid (by rw [hPK]; exact fun W h => h.below)
    have HTB : Hid (∀ W, PK W → Tab W) := Lib.hid (fun W h => HT.out.on (HBE.out W h))
    have HCst : Hid (∀ W, PK W → W.cell? ⟨bs, 0, none⟩ = some (.int .i64 ms) ∧ W.cell? ⟨bs, 1, none⟩ = some (.string Ts) ∧ W.cell? ⟨bt, 0, none⟩ = some (.int .i64 mt) ∧ W.cell? ⟨bt, 1, none⟩ = some (.string Tt) ∧ PK W) := Lib.hid (fun W hk => by have h := hk; rw [hPK] at h; exact ⟨h.s.1.1, h.s.1.2, h.t.1.1, h.t.1.2, hk⟩)
    have HCs : Hid (∀ W, PK W → W.cell? ⟨bs, 0, none⟩ = some (.int .i64 ms) ∧ W.cell? ⟨bs, 1, none⟩ = some (.string Ts) ∧ PK W) := Lib.hid (fun W hk => by have h := hk; rw [hPK] at h; exact ⟨h.s.1.1, h.s.1.2, hk⟩)
    have HCt : Hid (∀ W, PK W → W.cell? ⟨bt, 0, none⟩ = some (.int .i64 mt) ∧ W.cell? ⟨bt, 1, none⟩ = some (.string Tt) ∧ PK W) := Lib.hid (fun W hk => by have h := hk; rw [hPK] at h; exact ⟨h.t.1.1, h.t.1.2, hk⟩)
    clear hPK HV B0 HBIG B8 S8 T8
    obtain ⟨i64p, i64q, i64u, i64v⟩ : I64 p0 ∧ I64 q0 ∧ I64 u0 ∧ I64 v0 := by unfold Elem at hel; unfold I64; omega
    have HII : Hid (∀ W, (W.cell? ⟨bs, 0, none⟩ = some (.int .i64 ms) ∧ W.cell? ⟨bs, 1, none⟩ = some (.string Ts) ∧ W.cell? ⟨bt, 0, none⟩ = some (.int .i64 mt) ∧ W.cell? ⟨bt, 1, none⟩ = some (.string Tt) ∧ PK W) → Calls Tryz.prog 37 #[.int .i64 n0, .int .i64 i0, .int .i64 j0] W fun e w' => e = .returned (.int .i64 (idxZ n0 i0 j0)) ∧ w'.cell? ⟨bs, 0, none⟩ = some (.int .i64 ms) ∧ w'.cell? ⟨bs, 1, none⟩ = some (.string Ts) ∧ w'.cell? ⟨bt, 0, none⟩ = some (.int .i64 mt) ∧ w'.cell? ⟨bt, 1, none⟩ = some (.string Tt) ∧ PK w') := Lib.hid (fun W hW => by
      refine (implEdgeIndex n0 i0 j0 (by unfold I64; omega) (by unfold I64; omega) (by unfold I64; omega) W).mono fun e w' ⟨he, hb⟩ => ⟨he, HCst.out _ (HON.out _ _ (hW.2.2.2.2) hb)⟩)
    have HIS : Hid (∀ W, (W.cell? ⟨bs, 0, none⟩ = some (.int .i64 ms) ∧ W.cell? ⟨bs, 1, none⟩ = some (.string Ts) ∧ W.cell? ⟨bt, 0, none⟩ = some (.int .i64 mt) ∧ W.cell? ⟨bt, 1, none⟩ = some (.string Tt) ∧ PK W) → Calls Tryz.prog 38 #[.int .i64 n0, .int .i64 i0, .int .i64 j0] W fun e w' => e = .returned (.int .i64 (idxZ n0 i0 j0)) ∧ w'.cell? ⟨bs, 0, none⟩ = some (.int .i64 ms) ∧ w'.cell? ⟨bs, 1, none⟩ = some (.string Ts) ∧ w'.cell? ⟨bt, 0, none⟩ = some (.int .i64 mt) ∧ w'.cell? ⟨bt, 1, none⟩ = some (.string Tt) ∧ PK w') := Lib.hid (fun W hW => by
      refine (specEdgeIndex n0 i0 j0 W).mono fun e w' ⟨he, hb⟩ => ⟨he, HCst.out _ (HON.out _ _ (hW.2.2.2.2) hb)⟩)
    have HDI : Hid (∀ W, (W.cell? ⟨bs, 0, none⟩ = some (.int .i64 ms) ∧ W.cell? ⟨bs, 1, none⟩ = some (.string Ts) ∧ W.cell? ⟨bt, 0, none⟩ = some (.int .i64 mt) ∧ W.cell? ⟨bt, 1, none⟩ = some (.string Tt) ∧ PK W) → Calls Tryz.prog 39 #[sg ms Ts, .int .i64 p0, .int .i64 q0, .int .i64 u0, .int .i64 v0] W fun e w' => e = .returned (.bool (dcB ms Ts.data.toList p0 q0 u0 v0)) ∧ w'.cell? ⟨bs, 0, none⟩ = some (.int .i64 ms) ∧ w'.cell? ⟨bs, 1, none⟩ = some (.string Ts) ∧ w'.cell? ⟨bt, 0, none⟩ = some (.int .i64 mt) ∧ w'.cell? ⟨bt, 1, none⟩ = some (.string Tt) ∧ PK w') := Lib.hid (fun W hW => by
      refine (implDoCross ms Ts (by omega) p0 q0 u0 v0 i64p i64q i64u i64v W).mono fun e w' ⟨he, hb⟩ => ⟨he, HCst.out _ (HON.out _ _ (hW.2.2.2.2) hb)⟩)
    have HDS : Hid (∀ W, (W.cell? ⟨bs, 0, none⟩ = some (.int .i64 ms) ∧ W.cell? ⟨bs, 1, none⟩ = some (.string Ts) ∧ W.cell? ⟨bt, 0, none⟩ = some (.int .i64 mt) ∧ W.cell? ⟨bt, 1, none⟩ = some (.string Tt) ∧ PK W) → Calls Tryz.prog 40 #[sg ms Ts, .int .i64 p0, .int .i64 q0, .int .i64 u0, .int .i64 v0] W fun e w' => e = .returned (.bool (dcB ms Ts.data.toList p0 q0 u0 v0)) ∧ w'.cell? ⟨bs, 0, none⟩ = some (.int .i64 ms) ∧ w'.cell? ⟨bs, 1, none⟩ = some (.string Ts) ∧ w'.cell? ⟨bt, 0, none⟩ = some (.int .i64 mt) ∧ w'.cell? ⟨bt, 1, none⟩ = some (.string Tt) ∧ PK w') := Lib.hid (fun W hW => by
      refine (specDoCross ms Ts (by omega) p0 q0 u0 v0 W).mono fun e w' ⟨he, hb⟩ => ⟨he, HCst.out _ (HON.out _ _ (hW.2.2.2.2) hb)⟩)
    have HCS : Hid (∀ W, (W.cell? ⟨bs, 0, none⟩ = some (.int .i64 ms) ∧ W.cell? ⟨bs, 1, none⟩ = some (.string Ts) ∧ W.cell? ⟨bt, 0, none⟩ = some (.int .i64 mt) ∧ W.cell? ⟨bt, 1, none⟩ = some (.string Tt) ∧ PK W) → Calls Tryz.prog 41 #[sg mt Tt, .int .i64 kt] W fun e w' => e = .returned (.int .i64 (cpZ mt Tt.data.toList kt)) ∧ w'.cell? ⟨bs, 0, none⟩ = some (.int .i64 ms) ∧ w'.cell? ⟨bs, 1, none⟩ = some (.string Ts) ∧ w'.cell? ⟨bt, 0, none⟩ = some (.int .i64 mt) ∧ w'.cell? ⟨bt, 1, none⟩ = some (.string Tt) ∧ PK w') := Lib.hid (fun W hW => by
      refine (specCrossings mt Tt (by omega) kt W).mono fun e w' ⟨he, hb⟩ => ⟨he, HCst.out _ (HON.out _ _ (hW.2.2.2.2) hb)⟩)
    have HAI : Hid (∀ W, (W.cell? ⟨bs, 0, none⟩ = some (.int .i64 ms) ∧ W.cell? ⟨bs, 1, none⟩ = some (.string Ts) ∧ W.cell? ⟨bt, 0, none⟩ = some (.int .i64 mt) ∧ W.cell? ⟨bt, 1, none⟩ = some (.string Tt) ∧ PK W) → Calls Tryz.prog 42 #[.int .i64 xa] W fun e w' => e = .returned (.int .i64 (allZ xa)) ∧ w'.cell? ⟨bs, 0, none⟩ = some (.int .i64 ms) ∧ w'.cell? ⟨bs, 1, none⟩ = some (.string Ts) ∧ w'.cell? ⟨bt, 0, none⟩ = some (.int .i64 mt) ∧ w'.cell? ⟨bt, 1, none⟩ = some (.string Tt) ∧ PK w') := Lib.hid (fun W hW => by
      refine (implAllEdges xa W).mono fun e w' ⟨he, hb⟩ => ⟨he, HCst.out _ (HON.out _ _ (hW.2.2.2.2) hb)⟩)
    have HAS : Hid (∀ W, (W.cell? ⟨bs, 0, none⟩ = some (.int .i64 ms) ∧ W.cell? ⟨bs, 1, none⟩ = some (.string Ts) ∧ W.cell? ⟨bt, 0, none⟩ = some (.int .i64 mt) ∧ W.cell? ⟨bt, 1, none⟩ = some (.string Tt) ∧ PK W) → Calls Tryz.prog 43 #[.int .i64 xa] W fun e w' => e = .returned (.int .i64 (allZ xa)) ∧ w'.cell? ⟨bs, 0, none⟩ = some (.int .i64 ms) ∧ w'.cell? ⟨bs, 1, none⟩ = some (.string Ts) ∧ w'.cell? ⟨bt, 0, none⟩ = some (.int .i64 mt) ∧ w'.cell? ⟨bt, 1, none⟩ = some (.string Tt) ∧ PK w') := Lib.hid (fun W hW => by
      refine (specAllEdges xa W).mono fun e w' ⟨he, hw'⟩ => ⟨he, by rw [← hw']; exact hW⟩)
    have HHI : Hid (∀ W, (W.cell? ⟨bs, 0, none⟩ = some (.int .i64 ms) ∧ W.cell? ⟨bs, 1, none⟩ = some (.string Ts) ∧ W.cell? ⟨bt, 0, none⟩ = some (.int .i64 mt) ∧ W.cell? ⟨bt, 1, none⟩ = some (.string Tt) ∧ PK W) → Calls Tryz.prog 44 #[sg mt Tt] W fun e w' => e = .returned (.int .i64 (huZ mt Tt.data.toList)) ∧ w'.cell? ⟨bs, 0, none⟩ = some (.int .i64 ms) ∧ w'.cell? ⟨bs, 1, none⟩ = some (.string Ts) ∧ w'.cell? ⟨bt, 0, none⟩ = some (.int .i64 mt) ∧ w'.cell? ⟨bt, 1, none⟩ = some (.string Tt) ∧ PK w') := Lib.hid (fun W hW => by
      refine (implHullEdges mt Tt (by omega) W (HTB.out W (hW.2.2.2.2))).mono fun e w' ⟨he, hb⟩ => ⟨he, HCst.out _ (HON.out _ _ (hW.2.2.2.2) hb)⟩)
    have HFI : Hid (∀ W, (W.cell? ⟨bs, 0, none⟩ = some (.int .i64 ms) ∧ W.cell? ⟨bs, 1, none⟩ = some (.string Ts) ∧ W.cell? ⟨bt, 0, none⟩ = some (.int .i64 mt) ∧ W.cell? ⟨bt, 1, none⟩ = some (.string Tt) ∧ PK W) → Calls Tryz.prog 46 #[sg mt Tt] W fun e w' => e = .returned (.int .i64 (frZ mt Tt.data.toList)) ∧ w'.cell? ⟨bs, 0, none⟩ = some (.int .i64 ms) ∧ w'.cell? ⟨bs, 1, none⟩ = some (.string Ts) ∧ w'.cell? ⟨bt, 0, none⟩ = some (.int .i64 mt) ∧ w'.cell? ⟨bt, 1, none⟩ = some (.string Tt) ∧ PK w') := Lib.hid (fun W hW => by
      refine (implFreeEdges mt Tt (by omega) W (HTB.out W (hW.2.2.2.2))).mono fun e w' ⟨he, hb⟩ => ⟨he, HCst.out _ (HON.out _ _ (hW.2.2.2.2) hb)⟩)
    have HHIt : Hid (∀ W, (W.cell? ⟨bt, 0, none⟩ = some (.int .i64 mt) ∧ W.cell? ⟨bt, 1, none⟩ = some (.string Tt) ∧ PK W) → Calls Tryz.prog 44 #[sg mt Tt] W fun e w' => e = .returned (.int .i64 (huZ mt Tt.data.toList)) ∧ w'.cell? ⟨bt, 0, none⟩ = some (.int .i64 mt) ∧ w'.cell? ⟨bt, 1, none⟩ = some (.string Tt) ∧ PK w') := Lib.hid (fun W hW => by
      refine (implHullEdges mt Tt (by omega) W (HTB.out W (hW.2.2))).mono fun e w' ⟨he, hb⟩ => ⟨he, HCt.out _ (HON.out _ _ (hW.2.2) hb)⟩)
    have HFIt : Hid (∀ W, (W.cell? ⟨bt, 0, none⟩ = some (.int .i64 mt) ∧ W.cell? ⟨bt, 1, none⟩ = some (.string Tt) ∧ PK W) → Calls Tryz.prog 46 #[sg mt Tt] W fun e w' => e = .returned (.int .i64 (frZ mt Tt.data.toList)) ∧ w'.cell? ⟨bt, 0, none⟩ = some (.int .i64 mt) ∧ w'.cell? ⟨bt, 1, none⟩ = some (.string Tt) ∧ PK w') := Lib.hid (fun W hW => by
      refine (implFreeEdges mt Tt (by omega) W (HTB.out W (hW.2.2))).mono fun e w' ⟨he, hb⟩ => ⟨he, HCt.out _ (HON.out _ _ (hW.2.2) hb)⟩)
    have HHS : Hid (∀ W, (W.cell? ⟨bs, 0, none⟩ = some (.int .i64 ms) ∧ W.cell? ⟨bs, 1, none⟩ = some (.string Ts) ∧ W.cell? ⟨bt, 0, none⟩ = some (.int .i64 mt) ∧ W.cell? ⟨bt, 1, none⟩ = some (.string Tt) ∧ PK W) → Calls Tryz.prog 45 #[sg mt Tt] W fun e w' => e = .returned (.int .i64 (huZ mt Tt.data.toList)) ∧ w'.cell? ⟨bs, 0, none⟩ = some (.int .i64 ms) ∧ w'.cell? ⟨bs, 1, none⟩ = some (.string Ts) ∧ w'.cell? ⟨bt, 0, none⟩ = some (.int .i64 mt) ∧ w'.cell? ⟨bt, 1, none⟩ = some (.string Tt) ∧ PK w') := Lib.hid (fun W hW => by
      refine (specHullEdges mt Tt (by omega) W).mono fun e w' ⟨he, hb⟩ => ⟨he, HCst.out _ (HON.out _ _ (hW.2.2.2.2) hb)⟩)
    have HFS : Hid (∀ W, (W.cell? ⟨bs, 0, none⟩ = some (.int .i64 ms) ∧ W.cell? ⟨bs, 1, none⟩ = some (.string Ts) ∧ W.cell? ⟨bt, 0, none⟩ = some (.int .i64 mt) ∧ W.cell? ⟨bt, 1, none⟩ = some (.string Tt) ∧ PK W) → Calls Tryz.prog 47 #[sg mt Tt] W fun e w' => e = .returned (.int .i64 (frZ mt Tt.data.toList)) ∧ w'.cell? ⟨bs, 0, none⟩ = some (.int .i64 ms) ∧ w'.cell? ⟨bs, 1, none⟩ = some (.string Ts) ∧ w'.cell? ⟨bt, 0, none⟩ = some (.int .i64 mt) ∧ w'.cell? ⟨bt, 1, none⟩ = some (.string Tt) ∧ PK w') := Lib.hid (fun W hW => by
      refine (specFreeEdges mt Tt (by omega) W).mono fun e w' ⟨he, hb⟩ => ⟨he, HCst.out _ (HON.out _ _ (hW.2.2.2.2) hb)⟩)
    have HPI : Hid (∀ W, (W.cell? ⟨bs, 0, none⟩ = some (.int .i64 ms) ∧ W.cell? ⟨bs, 1, none⟩ = some (.string Ts) ∧ W.cell? ⟨bt, 0, none⟩ = some (.int .i64 mt) ∧ W.cell? ⟨bt, 1, none⟩ = some (.string Tt) ∧ PK W) → Calls Tryz.prog 48 #[sg mt Tt, .int .i64 kt] W fun e w' => e = .returned (.bool ((cpZ mt Tt.data.toList kt) == 0)) ∧ w'.cell? ⟨bs, 0, none⟩ = some (.int .i64 ms) ∧ w'.cell? ⟨bs, 1, none⟩ = some (.string Ts) ∧ w'.cell? ⟨bt, 0, none⟩ = some (.int .i64 mt) ∧ w'.cell? ⟨bt, 1, none⟩ = some (.string Tt) ∧ PK w') := Lib.hid (fun W hW => by
      refine (implPlane mt Tt (by omega) kt W (HTB.out W (hW.2.2.2.2))).mono fun e w' ⟨he, hb⟩ => ⟨he, HCst.out _ (HON.out _ _ (hW.2.2.2.2) hb)⟩)
    have PX1 : Hid (0 ≤ (edZ m0 k0).1 → ∀ W, PK W → Calls Tryz.prog 37 #[.int .i64 m0, .int .i64 (edZ m0 k0).2, .int .i64 (edZ m0 k0).1] W fun e w' => e = .returned (.int .i64 k0) ∧ PK w') := Lib.hid (fun h0 W hW => by
      refine (implEdgeIndex m0 (edZ m0 k0).2 (edZ m0 k0).1 (by unfold I64; omega) (edZ_i64 m0 k0).2 (edZ_i64 m0 k0).1 W).mono fun e w' ⟨he, hb⟩ => ⟨?_, HON.out _ _ hW hb⟩
      rw [he, idx_at m0 k0 h0])
    have PX2 : Hid (∀ W, PK W → Calls Tryz.prog 37 #[.int .i64 n0, .int .i64 i0, .int .i64 j0] W fun e w' => e = .returned (.int .i64 (idxZ n0 i0 j0)) ∧ PK w') := Lib.hid (fun W hW => (implEdgeIndex n0 i0 j0 (by unfold I64; omega) (by unfold I64; omega) (by unfold I64; omega) W).mono fun e w' ⟨he, hb⟩ => ⟨he, HON.out _ _ hW hb⟩)
    have PX3 : Hid (∀ W, PK W → Calls Tryz.prog 37 #[.int .i64 n0, .int .i64 j0, .int .i64 i0] W fun e w' => e = .returned (.int .i64 (idxZ n0 i0 j0)) ∧ PK w') := Lib.hid (fun W hW => by
      refine (implEdgeIndex n0 j0 i0 (by unfold I64; omega) (by unfold I64; omega) (by unfold I64; omega) W).mono fun e w' ⟨he, hb⟩ => ⟨?_, HON.out _ _ hW hb⟩
      rw [he, idx_sym])
    have PD1 : Hid (∀ W, PK W → Calls Tryz.prog 39 #[sg ms Ts, .int .i64 p0, .int .i64 q0, .int .i64 u0, .int .i64 v0] W fun e w' => e = .returned (.bool (dcB ms Ts.data.toList p0 q0 u0 v0)) ∧ PK w') := Lib.hid (fun W hW => (implDoCross ms Ts (by omega) p0 q0 u0 v0 i64p i64q i64u i64v W).mono fun e w' ⟨he, hb⟩ => ⟨he, HON.out _ _ hW hb⟩)
    have PD2 : Hid ((dcB ms Ts.data.toList p0 q0 u0 v0) = true → ∀ W, PK W → Calls Tryz.prog 39 #[sg ms Ts, .int .i64 p0, .int .i64 u0, .int .i64 q0, .int .i64 v0] W fun e w' => e = .returned (.bool false) ∧ PK w') := Lib.hid (fun h0 W hW => by
      refine (implDoCross ms Ts (by omega) p0 u0 q0 v0 i64p i64u i64q i64v W).mono fun e w' ⟨he, hb⟩ => ⟨?_, HON.out _ _ hW hb⟩
      rw [he, (dc_facts h0).1])
    have PD3 : Hid ((dcB ms Ts.data.toList p0 q0 u0 v0) = true → ∀ W, PK W → Calls Tryz.prog 39 #[sg ms Ts, .int .i64 u0, .int .i64 v0, .int .i64 q0, .int .i64 p0] W fun e w' => e = .returned (.bool true) ∧ PK w') := Lib.hid (fun h0 W hW => by
      refine (implDoCross ms Ts (by omega) u0 v0 q0 p0 i64u i64v i64q i64p W).mono fun e w' ⟨he, hb⟩ => ⟨?_, HON.out _ _ hW hb⟩
      rw [he, (dc_facts h0).2])
    have PAC : Hid (∀ W, PK W → Calls Tryz.prog 27 #[sg mt Tt] W fun e w' => e = .returned (.bool (aciB mt Tt.data.toList)) ∧ PK w') := Lib.hid (fun W hW => (specAci mt Tt (by omega) W).mono fun e w' ⟨he, hb⟩ => ⟨he, HON.out _ _ hW hb⟩)
    have GAE : Hid (∀ W, (W.cell? ⟨bt, 0, none⟩ = some (.int .i64 mt) ∧ W.cell? ⟨bt, 1, none⟩ = some (.string Tt) ∧ PK W) → Calls Tryz.prog 42 #[.int .i64 mt] W fun e w' => e = .returned (.int .i64 (allZ mt)) ∧ w'.cell? ⟨bt, 0, none⟩ = some (.int .i64 mt) ∧ w'.cell? ⟨bt, 1, none⟩ = some (.string Tt) ∧ PK w') := Lib.hid (fun W hW => by
      refine (implAllEdges mt W).mono fun e w' ⟨he, hb⟩ => ⟨he, HCt.out _ (HON.out _ _ (hW.2.2) hb)⟩)
    have GCP : Hid (∀ W, (W.cell? ⟨bt, 0, none⟩ = some (.int .i64 mt) ∧ W.cell? ⟨bt, 1, none⟩ = some (.string Tt) ∧ PK W) → Calls Tryz.prog 35 #[sg mt Tt, .int .i64 (allZ mt)] W fun e w' => e = .returned (.int .i64 (cpZ mt Tt.data.toList (allZ mt))) ∧ w'.cell? ⟨bt, 0, none⟩ = some (.int .i64 mt) ∧ w'.cell? ⟨bt, 1, none⟩ = some (.string Tt) ∧ PK w') := Lib.hid (fun W hW => by
      refine (implCrossings mt Tt (by omega) (allZ mt) W (HTB.out W (hW.2.2))).mono fun e w' ⟨he, hb⟩ => ⟨he, HCt.out _ (HON.out _ _ (hW.2.2) hb)⟩)
    have GCQ : Hid (∀ W, (W.cell? ⟨bt, 0, none⟩ = some (.int .i64 mt) ∧ W.cell? ⟨bt, 1, none⟩ = some (.string Tt) ∧ PK W) → Calls Tryz.prog 49 #[sg mt Tt] W fun e w' => e = .returned (.int .i64 (quadsN mt Tt.data.toList)) ∧ w'.cell? ⟨bt, 0, none⟩ = some (.int .i64 mt) ∧ w'.cell? ⟨bt, 1, none⟩ = some (.string Tt) ∧ PK w') := Lib.hid (fun W hW => by
      refine (specCountQuads mt Tt (by omega) W).mono fun e w' ⟨he, hb⟩ => ⟨he, HCt.out _ (HON.out _ _ (hW.2.2) hb)⟩)
    have GHS : Hid (∀ W, (W.cell? ⟨bt, 0, none⟩ = some (.int .i64 mt) ∧ W.cell? ⟨bt, 1, none⟩ = some (.string Tt) ∧ PK W) → Calls Tryz.prog 50 #[sg mt Tt] W fun e w' => e = .returned (.int .i64 (hszZ mt Tt.data.toList)) ∧ w'.cell? ⟨bt, 0, none⟩ = some (.int .i64 mt) ∧ w'.cell? ⟨bt, 1, none⟩ = some (.string Tt) ∧ PK w') := Lib.hid (fun W hW => by
      refine (specHullSize mt Tt (by omega) W).mono fun e w' ⟨he, hb⟩ => ⟨he, HCt.out _ (HON.out _ _ (hW.2.2) hb)⟩)
    have GP1 : Hid (∀ W, (W.cell? ⟨bt, 0, none⟩ = some (.int .i64 mt) ∧ W.cell? ⟨bt, 1, none⟩ = some (.string Tt) ∧ PK W) → Calls Tryz.prog 48 #[sg mt Tt, .int .i64 (huZ mt Tt.data.toList)] W fun e w' => e = .returned (.bool (cpZ mt Tt.data.toList (huZ mt Tt.data.toList) == 0)) ∧ w'.cell? ⟨bt, 0, none⟩ = some (.int .i64 mt) ∧ w'.cell? ⟨bt, 1, none⟩ = some (.string Tt) ∧ PK w') := Lib.hid (fun W hW => by
      refine (implPlane mt Tt (by omega) (huZ mt Tt.data.toList) W (HTB.out W (hW.2.2))).mono fun e w' ⟨he, hb⟩ => ⟨he, HCt.out _ (HON.out _ _ (hW.2.2) hb)⟩)
    have GP2 : Hid (∀ W, (W.cell? ⟨bt, 0, none⟩ = some (.int .i64 mt) ∧ W.cell? ⟨bt, 1, none⟩ = some (.string Tt) ∧ PK W) → Calls Tryz.prog 48 #[sg mt Tt, .int .i64 (frZ mt Tt.data.toList)] W fun e w' => e = .returned (.bool (cpZ mt Tt.data.toList (frZ mt Tt.data.toList) == 0)) ∧ w'.cell? ⟨bt, 0, none⟩ = some (.int .i64 mt) ∧ w'.cell? ⟨bt, 1, none⟩ = some (.string Tt) ∧ PK w') := Lib.hid (fun W hW => by
      refine (implPlane mt Tt (by omega) (frZ mt Tt.data.toList) W (HTB.out W (hW.2.2))).mono fun e w' ⟨he, hb⟩ => ⟨he, HCt.out _ (HON.out _ _ (hW.2.2) hb)⟩)
    have HYES : Hid ((aciB mt Tt.data.toList) = true → ∃ S : Nat, (huZ mt Tt.data.toList) = S ∧ S < 2097152 ∧ ((szF 21 S : Nat) : Int) = hszZ mt Tt.data.toList ∧ bits BinOp.andNot IntKind.i64 (huZ mt Tt.data.toList) (frZ mt Tt.data.toList) = 0 ∧ cpZ mt Tt.data.toList (huZ mt Tt.data.toList) = 0 ∧ cpZ mt Tt.data.toList (frZ mt Tt.data.toList) = 0 ∧ cpZ mt Tt.data.toList (allZ mt) = quadsN mt Tt.data.toList) := Lib.hid (fun h => walk_yes h)
    have HNO : Hid ((aciB mt Tt.data.toList) = false → (cpZ mt Tt.data.toList kt) = -1) := Lib.hid (fun h => cp_no h kt)
    generalize hz1 : cpZ mt Tt.data.toList (huZ mt Tt.data.toList) = c1 at GP1 HYES
    generalize hz2 : cpZ mt Tt.data.toList (frZ mt Tt.data.toList) = c2 at GP2 HYES
    generalize hz3 : cpZ mt Tt.data.toList (allZ mt) = c3 at GCP HYES
    generalize hz4 : (cpZ mt Tt.data.toList kt) = cp at HCS HPI HNO ⊢
    generalize hz5 : (idxZ n0 i0 j0) = ix at HII HIS PX2 PX3
    generalize hz6 : (dcB ms Ts.data.toList p0 q0 u0 v0) = dc at HDI HDS PD1 PD2 PD3
    generalize hz7 : (allZ xa) = ae at HAI HAS
    generalize hz8 : (huZ mt Tt.data.toList) = hu at HHI HHS HHIt GP1 HYES
    generalize hz9 : (frZ mt Tt.data.toList) = fr at HFI HFS HFIt GP2 HYES
    generalize hza : hszZ mt Tt.data.toList = hz at GHS HYES
    generalize hzb : quadsN mt Tt.data.toList = qn at GCQ HYES
    generalize hzc : allZ (mt : Int) = am at GAE GCP
    generalize hzd : (aciB mt Tt.data.toList) = ac at PAC HYES HNO
    generalize hze : edZ m0 k0 = ed at PX1 ⊢
    clear hz1 hz2 hz3 hz4 hz5 hz6 hz7 hz8 hz9 hza hzb hzc hzd hze hTs hTt
    obtain ⟨ea, eb⟩ := ed
    dsimp only at PX1
    have g0 : (ix != ix) = false := by simp
    have g1 : (ea != ea) = false := by simp
    have g2 : (eb != eb) = false := by simp
    have g3 : (cp != cp) = false := by simp
    have g4 : (ae != ae) = false := by simp
    have g5 : (hu != hu) = false := by simp
    have g6 : (fr != fr) = false := by simp
    have g8 : (dc != dc) = false := by cases dc <;> rfl
    have g9 : ((cp == 0) != (cp == 0)) = false := by cases (cp == 0) <;> rfl
    go_cut [133] (fun cv wx => cv = .bool false ∧ Hid (PK wx))
    case first =>
      as_aux_lemma =>
      refine wp_region_held (S := fun W => W.cell? ⟨bs, 0, none⟩ = some (.int .i64 ms) ∧ W.cell? ⟨bs, 1, none⟩ = some (.string Ts) ∧ W.cell? ⟨bt, 0, none⟩ = some (.int .i64 mt) ∧ W.cell? ⟨bt, 1, none⟩ = some (.string Tt) ∧ PK W) rfl ?_
      have hHeld := (HCst.out _ (HDR.out _ Q8.out))
      (refine Held.takeH (i := 0) (k := 64) (v := ?_) rfl (by as_aux_lemma => kernel_rfl) (by as_aux_lemma => kernel_rfl) (by as_aux_lemma => kernel_rfl) (by as_aux_lemma => kernel_rfl) (fun _ _ _ h => h) (Or.inl ⟨by rfl, ?_⟩) (by assumption) ?_; rotate_left; (focus (intro w hSw; (try dsimp only at hSw); go_simp; (try with_reducible rfl))); (simp only [List.setIfInBounds_toArray, List.set_cons_zero, List.set_cons_succ]))
      (refine Held.takeH (i := 1) (k := 65) (v := ?_) rfl (by as_aux_lemma => kernel_rfl) (by as_aux_lemma => kernel_rfl) (by as_aux_lemma => kernel_rfl) (by as_aux_lemma => kernel_rfl) (fun _ _ _ h => h) (Or.inl ⟨by rfl, ?_⟩) (by assumption) ?_; rotate_left; (focus (intro w hSw; (try dsimp only at hSw); go_simp; (try with_reducible rfl))); (simp only [List.setIfInBounds_toArray, List.set_cons_zero, List.set_cons_succ]))
      (refine Held.takeH (i := 2) (k := 66) (v := ?_) rfl (by as_aux_lemma => kernel_rfl) (by as_aux_lemma => kernel_rfl) (by as_aux_lemma => kernel_rfl) (by as_aux_lemma => kernel_rfl) (fun _ _ _ h => h) (Or.inl ⟨by rfl, ?_⟩) (by assumption) ?_; rotate_left; (focus (intro w hSw; (try dsimp only at hSw); go_simp; (try with_reducible rfl))); (simp only [List.setIfInBounds_toArray, List.set_cons_zero, List.set_cons_succ]))
      (refine Held.takeH (i := 4) (k := 68) (v := ?_) rfl (by as_aux_lemma => kernel_rfl) (by as_aux_lemma => kernel_rfl) (by as_aux_lemma => kernel_rfl) (by as_aux_lemma => kernel_rfl) (fun _ _ _ h => h) (Or.inl ⟨by rfl, ?_⟩) (by assumption) ?_; rotate_left; (focus (intro w hSw; (try dsimp only at hSw); go_simp; (try with_reducible rfl))); (simp only [List.setIfInBounds_toArray, List.set_cons_zero, List.set_cons_succ]))
      (refine Held.takeH (i := 5) (k := 69) (v := ?_) rfl (by as_aux_lemma => kernel_rfl) (by as_aux_lemma => kernel_rfl) (by as_aux_lemma => kernel_rfl) (by as_aux_lemma => kernel_rfl) (fun _ _ _ h => h) (Or.inl ⟨by rfl, ?_⟩) (by assumption) ?_; rotate_left; (focus (intro w hSw; (try dsimp only at hSw); go_simp; (try with_reducible rfl))); (simp only [List.setIfInBounds_toArray, List.set_cons_zero, List.set_cons_succ]))
      (refine Held.takeH (i := 6) (k := 70) (v := ?_) rfl (by as_aux_lemma => kernel_rfl) (by as_aux_lemma => kernel_rfl) (by as_aux_lemma => kernel_rfl) (by as_aux_lemma => kernel_rfl) (fun _ _ _ h => h) (Or.inl ⟨by rfl, ?_⟩) (by assumption) ?_; rotate_left; (focus (intro w hSw; (try dsimp only at hSw); go_simp; (try with_reducible rfl))); (simp only [List.setIfInBounds_toArray, List.set_cons_zero, List.set_cons_succ]))
      refine wpAnyH_ready (rs := [3]) (by as_aux_lemma => kernel_rfl) (by simp) ?_
      refine AllReadyH.cons rfl (fun K hK => ?_) AllReadyH.nil
      go_simp
      refine (HII.out _ hHeld).mono ?_
      rintro e' w' ⟨rfl, hS'⟩
      refine hK.out _ _ hS' (fun hHeld => ?_)
      clear hK K
      try simp only [Act.put, List.setIfInBounds_toArray, List.set_cons_zero, List.set_cons_succ]
      refine wpAnyH_ready (rs := [7]) (by as_aux_lemma => kernel_rfl) (by simp) ?_
      refine AllReadyH.cons rfl (fun K hK => ?_) AllReadyH.nil
      go_simp
      refine (HIS.out _ hHeld).mono ?_
      rintro e' w' ⟨rfl, hS'⟩
      refine hK.out _ _ hS' (fun hHeld => ?_)
      clear hK K
      try simp only [Act.put, List.setIfInBounds_toArray, List.set_cons_zero, List.set_cons_succ]
      (refine Held.takeH (i := 8) (k := 72) (v := .bool false) rfl (by as_aux_lemma => kernel_rfl) (by as_aux_lemma => kernel_rfl) (by as_aux_lemma => kernel_rfl) (by as_aux_lemma => kernel_rfl) (fun _ _ _ h => h) (Or.inl ⟨by rfl, ?_⟩) (by assumption) ?_; (focus (intro w hSw; (try dsimp only at hSw); go_simp; (try rfl))); (simp only [List.setIfInBounds_toArray, List.set_cons_zero, List.set_cons_succ]))
      (refine Held.takeH (i := 9) (k := 73) (v := .bool false) rfl (by as_aux_lemma => kernel_rfl) (by as_aux_lemma => kernel_rfl) (by as_aux_lemma => kernel_rfl) (by as_aux_lemma => kernel_rfl) (fun _ _ _ h => h) (Or.inl ⟨by rfl, ?_⟩) (by assumption) ?_; (focus (intro w hSw; (try dsimp only at hSw); go_simp; (try rfl))); (simp only [List.setIfInBounds_toArray, List.set_cons_zero, List.set_cons_succ]))
      (refine Held.takeH (i := 10) (k := 74) (v := ?_) rfl (by as_aux_lemma => kernel_rfl) (by as_aux_lemma => kernel_rfl) (by as_aux_lemma => kernel_rfl) (by as_aux_lemma => kernel_rfl) (fun _ _ _ h => h) (Or.inl ⟨by rfl, ?_⟩) (by assumption) ?_; rotate_left; (focus (intro w hSw; (try dsimp only at hSw); go_simp; (try with_reducible rfl))); (simp only [List.setIfInBounds_toArray, List.set_cons_zero, List.set_cons_succ]))
      (refine Held.takeH (i := 11) (k := 75) (v := ?_) rfl (by as_aux_lemma => kernel_rfl) (by as_aux_lemma => kernel_rfl) (by as_aux_lemma => kernel_rfl) (by as_aux_lemma => kernel_rfl) (fun _ _ _ h => h) (Or.inl ⟨by rfl, ?_⟩) (by assumption) ?_; rotate_left; (focus (intro w hSw; (try dsimp only at hSw); go_simp; (try with_reducible rfl))); (simp only [List.setIfInBounds_toArray, List.set_cons_zero, List.set_cons_succ]))
      (refine Held.takeH (i := 12) (k := 76) (v := .bool false) rfl (by as_aux_lemma => kernel_rfl) (by as_aux_lemma => kernel_rfl) (by as_aux_lemma => kernel_rfl) (by as_aux_lemma => kernel_rfl) (fun _ _ _ h => h) (Or.inl ⟨by rfl, ?_⟩) (by assumption) ?_; (focus (intro w hSw; (try dsimp only at hSw); go_simp; (try rfl))); (simp only [List.setIfInBounds_toArray, List.set_cons_zero, List.set_cons_succ]))
      (refine Held.takeH (i := 13) (k := 77) (v := .bool false) rfl (by as_aux_lemma => kernel_rfl) (by as_aux_lemma => kernel_rfl) (by as_aux_lemma => kernel_rfl) (by as_aux_lemma => kernel_rfl) (fun _ _ _ h => h) (Or.inl ⟨by rfl, ?_⟩) (by assumption) ?_; (focus (intro w hSw; (try dsimp only at hSw); go_simp; (try rfl))); (simp only [List.setIfInBounds_toArray, List.set_cons_zero, List.set_cons_succ]))
      (refine Held.takeH (i := 14) (k := 78) (v := .bool false) rfl (by as_aux_lemma => kernel_rfl) (by as_aux_lemma => kernel_rfl) (by as_aux_lemma => kernel_rfl) (by as_aux_lemma => kernel_rfl) (fun _ _ _ h => h) (Or.inl ⟨by rfl, ?_⟩) (by assumption) ?_; (focus (intro w hSw; (try dsimp only at hSw); go_simp; (try rfl))); (simp only [List.setIfInBounds_toArray, List.set_cons_zero, List.set_cons_succ]))
      (refine Held.takeH (i := 15) (k := 79) (v := ?_) rfl (by as_aux_lemma => kernel_rfl) (by as_aux_lemma => kernel_rfl) (by as_aux_lemma => kernel_rfl) (by as_aux_lemma => kernel_rfl) (fun _ _ _ h => h) (Or.inl ⟨by rfl, ?_⟩) (by assumption) ?_; rotate_left; (focus (intro w hSw; (try dsimp only at hSw); go_simp; (try with_reducible rfl))); (simp only [List.setIfInBounds_toArray, List.set_cons_zero, List.set_cons_succ]))
      (refine Held.takeH (i := 16) (k := 80) (v := ?_) rfl (by as_aux_lemma => kernel_rfl) (by as_aux_lemma => kernel_rfl) (by as_aux_lemma => kernel_rfl) (by as_aux_lemma => kernel_rfl) (fun _ _ _ h => h) (Or.inl ⟨by rfl, ?_⟩) (by assumption) ?_; rotate_left; (focus (intro w hSw; (try dsimp only at hSw); go_simp; (try with_reducible rfl))); (simp only [List.setIfInBounds_toArray, List.set_cons_zero, List.set_cons_succ]))
      (refine Held.takeH (i := 17) (k := 81) (v := .bool false) rfl (by as_aux_lemma => kernel_rfl) (by as_aux_lemma => kernel_rfl) (by as_aux_lemma => kernel_rfl) (by as_aux_lemma => kernel_rfl) (fun _ _ _ h => h) (Or.inl ⟨by rfl, ?_⟩) (by assumption) ?_; (focus (intro w hSw; (try dsimp only at hSw); go_simp; (try rfl))); (simp only [List.setIfInBounds_toArray, List.set_cons_zero, List.set_cons_succ]))
      (refine Held.takeH (i := 18) (k := 82) (v := .bool false) rfl (by as_aux_lemma => kernel_rfl) (by as_aux_lemma => kernel_rfl) (by as_aux_lemma => kernel_rfl) (by as_aux_lemma => kernel_rfl) (fun _ _ _ h => h) (Or.inl ⟨by rfl, ?_⟩) (by assumption) ?_; (focus (intro w hSw; (try dsimp only at hSw); go_simp; (try rfl))); (simp only [List.setIfInBounds_toArray, List.set_cons_zero, List.set_cons_succ]))
      (refine Held.takeH (i := 19) (k := 83) (v := .bool false) rfl (by as_aux_lemma => kernel_rfl) (by as_aux_lemma => kernel_rfl) (by as_aux_lemma => kernel_rfl) (by as_aux_lemma => kernel_rfl) (fun _ _ _ h => h) (Or.inl ⟨by rfl, ?_⟩) (by assumption) ?_; (focus (intro w hSw; (try dsimp only at hSw); go_simp; (try rfl))); (simp only [List.setIfInBounds_toArray, List.set_cons_zero, List.set_cons_succ]))
      (refine Held.takeH (i := 20) (k := 84) (v := ?_) rfl (by as_aux_lemma => kernel_rfl) (by as_aux_lemma => kernel_rfl) (by as_aux_lemma => kernel_rfl) (by as_aux_lemma => kernel_rfl) (fun _ _ _ h => h) (Or.inl ⟨by rfl, ?_⟩) (by assumption) ?_; rotate_left; (focus (intro w hSw; (try dsimp only at hSw); go_simp; (try with_reducible rfl))); (simp only [List.setIfInBounds_toArray, List.set_cons_zero, List.set_cons_succ]))
      (refine Held.takeH (i := 21) (k := 85) (v := ?_) rfl (by as_aux_lemma => kernel_rfl) (by as_aux_lemma => kernel_rfl) (by as_aux_lemma => kernel_rfl) (by as_aux_lemma => kernel_rfl) (fun _ _ _ h => h) (Or.inl ⟨by rfl, ?_⟩) (by assumption) ?_; rotate_left; (focus (intro w hSw; (try dsimp only at hSw); go_simp; (try with_reducible rfl))); (simp only [List.setIfInBounds_toArray, List.set_cons_zero, List.set_cons_succ]))
      (refine Held.takeH (i := 22) (k := 86) (v := ?_) rfl (by as_aux_lemma => kernel_rfl) (by as_aux_lemma => kernel_rfl) (by as_aux_lemma => kernel_rfl) (by as_aux_lemma => kernel_rfl) (fun _ _ _ h => h) (Or.inl ⟨by rfl, ?_⟩) (by assumption) ?_; rotate_left; (focus (intro w hSw; (try dsimp only at hSw); go_simp; (try with_reducible rfl))); (simp only [List.setIfInBounds_toArray, List.set_cons_zero, List.set_cons_succ]))
      (refine Held.takeH (i := 23) (k := 87) (v := ?_) rfl (by as_aux_lemma => kernel_rfl) (by as_aux_lemma => kernel_rfl) (by as_aux_lemma => kernel_rfl) (by as_aux_lemma => kernel_rfl) (fun _ _ _ h => h) (Or.inl ⟨by rfl, ?_⟩) (by assumption) ?_; rotate_left; (focus (intro w hSw; (try dsimp only at hSw); go_simp; (try with_reducible rfl))); (simp only [List.setIfInBounds_toArray, List.set_cons_zero, List.set_cons_succ]))
      (refine Held.takeH (i := 24) (k := 88) (v := ?_) rfl (by as_aux_lemma => kernel_rfl) (by as_aux_lemma => kernel_rfl) (by as_aux_lemma => kernel_rfl) (by as_aux_lemma => kernel_rfl) (fun _ _ _ h => h) (Or.inl ⟨by rfl, ?_⟩) (by assumption) ?_; rotate_left; (focus (intro w hSw; (try dsimp only at hSw); go_simp; (try with_reducible rfl))); (simp only [List.setIfInBounds_toArray, List.set_cons_zero, List.set_cons_succ]))
      (refine Held.takeH (i := 26) (k := 90) (v := ?_) rfl (by as_aux_lemma => kernel_rfl) (by as_aux_lemma => kernel_rfl) (by as_aux_lemma => kernel_rfl) (by as_aux_lemma => kernel_rfl) (fun _ _ _ h => h) (Or.inl ⟨by rfl, ?_⟩) (by assumption) ?_; rotate_left; (focus (intro w hSw; (try dsimp only at hSw); go_simp; (try with_reducible rfl))); (simp only [List.setIfInBounds_toArray, List.set_cons_zero, List.set_cons_succ]))
      (refine Held.takeH (i := 27) (k := 91) (v := ?_) rfl (by as_aux_lemma => kernel_rfl) (by as_aux_lemma => kernel_rfl) (by as_aux_lemma => kernel_rfl) (by as_aux_lemma => kernel_rfl) (fun _ _ _ h => h) (Or.inl ⟨by rfl, ?_⟩) (by assumption) ?_; rotate_left; (focus (intro w hSw; (try dsimp only at hSw); go_simp; (try with_reducible rfl))); (simp only [List.setIfInBounds_toArray, List.set_cons_zero, List.set_cons_succ]))
      (refine Held.takeH (i := 28) (k := 92) (v := ?_) rfl (by as_aux_lemma => kernel_rfl) (by as_aux_lemma => kernel_rfl) (by as_aux_lemma => kernel_rfl) (by as_aux_lemma => kernel_rfl) (fun _ _ _ h => h) (Or.inl ⟨by rfl, ?_⟩) (by assumption) ?_; rotate_left; (focus (intro w hSw; (try dsimp only at hSw); go_simp; (try with_reducible rfl))); (simp only [List.setIfInBounds_toArray, List.set_cons_zero, List.set_cons_succ]))
      (refine Held.takeH (i := 29) (k := 93) (v := ?_) rfl (by as_aux_lemma => kernel_rfl) (by as_aux_lemma => kernel_rfl) (by as_aux_lemma => kernel_rfl) (by as_aux_lemma => kernel_rfl) (fun _ _ _ h => h) (Or.inl ⟨by rfl, ?_⟩) (by assumption) ?_; rotate_left; (focus (intro w hSw; (try dsimp only at hSw); go_simp; (try with_reducible rfl))); (simp only [List.setIfInBounds_toArray, List.set_cons_zero, List.set_cons_succ]))
      (refine Held.takeH (i := 30) (k := 94) (v := ?_) rfl (by as_aux_lemma => kernel_rfl) (by as_aux_lemma => kernel_rfl) (by as_aux_lemma => kernel_rfl) (by as_aux_lemma => kernel_rfl) (fun _ _ _ h => h) (Or.inl ⟨by rfl, ?_⟩) (by assumption) ?_; rotate_left; (focus (intro w hSw; (try dsimp only at hSw); go_simp; (try with_reducible rfl))); (simp only [List.setIfInBounds_toArray, List.set_cons_zero, List.set_cons_succ]))
      refine wpAnyH_ready (rs := [25]) (by as_aux_lemma => kernel_rfl) (by simp) ?_
      refine AllReadyH.cons rfl (fun K hK => ?_) AllReadyH.nil
      go_simp
      refine (HDI.out _ hHeld).mono ?_
      rintro e' w' ⟨rfl, hS'⟩
      refine hK.out _ _ hS' (fun hHeld => ?_)
      clear hK K
      try simp only [Act.put, List.setIfInBounds_toArray, List.set_cons_zero, List.set_cons_succ]
      refine wpAnyH_ready (rs := [31]) (by as_aux_lemma => kernel_rfl) (by simp) ?_
      refine AllReadyH.cons rfl (fun K hK => ?_) AllReadyH.nil
      go_simp
      refine (HDS.out _ hHeld).mono ?_
      rintro e' w' ⟨rfl, hS'⟩
      refine hK.out _ _ hS' (fun hHeld => ?_)
      clear hK K
      try simp only [Act.put, List.setIfInBounds_toArray, List.set_cons_zero, List.set_cons_succ]
      (refine Held.takeH (i := 32) (k := 96) (v := .bool false) rfl (by as_aux_lemma => kernel_rfl) (by as_aux_lemma => kernel_rfl) (by as_aux_lemma => kernel_rfl) (by as_aux_lemma => kernel_rfl) (fun _ _ _ h => h) (Or.inl ⟨by rfl, ?_⟩) (by assumption) ?_; (focus (intro w hSw; (try dsimp only at hSw); go_simp; (try rfl))); (simp only [List.setIfInBounds_toArray, List.set_cons_zero, List.set_cons_succ]))
      (refine Held.takeH (i := 33) (k := 97) (v := .bool false) rfl (by as_aux_lemma => kernel_rfl) (by as_aux_lemma => kernel_rfl) (by as_aux_lemma => kernel_rfl) (by as_aux_lemma => kernel_rfl) (fun _ _ _ h => h) (Or.inl ⟨by rfl, ?_⟩) (by assumption) ?_; (focus (intro w hSw; (try dsimp only at hSw); go_simp; (try rfl))); (simp only [List.setIfInBounds_toArray, List.set_cons_zero, List.set_cons_succ]))
      (refine Held.takeH (i := 34) (k := 98) (v := .bool false) rfl (by as_aux_lemma => kernel_rfl) (by as_aux_lemma => kernel_rfl) (by as_aux_lemma => kernel_rfl) (by as_aux_lemma => kernel_rfl) (fun _ _ _ h => h) (Or.inl ⟨by rfl, ?_⟩) (by assumption) ?_; (focus (intro w hSw; (try dsimp only at hSw); go_simp; (try rfl))); (simp only [List.setIfInBounds_toArray, List.set_cons_zero, List.set_cons_succ]))
      (refine Held.takeH (i := 35) (k := 99) (v := ?_) rfl (by as_aux_lemma => kernel_rfl) (by as_aux_lemma => kernel_rfl) (by as_aux_lemma => kernel_rfl) (by as_aux_lemma => kernel_rfl) (fun _ _ _ h => h) (Or.inl ⟨by rfl, ?_⟩) (by assumption) ?_; rotate_left; (focus (intro w hSw; (try dsimp only at hSw); go_simp; (try with_reducible rfl))); (simp only [List.setIfInBounds_toArray, List.set_cons_zero, List.set_cons_succ]))
      (refine Held.takeH (i := 36) (k := 100) (v := ?_) rfl (by as_aux_lemma => kernel_rfl) (by as_aux_lemma => kernel_rfl) (by as_aux_lemma => kernel_rfl) (by as_aux_lemma => kernel_rfl) (fun _ _ _ h => h) (Or.inl ⟨by rfl, ?_⟩) (by assumption) ?_; rotate_left; (focus (intro w hSw; (try dsimp only at hSw); go_simp; (try with_reducible rfl))); (simp only [List.setIfInBounds_toArray, List.set_cons_zero, List.set_cons_succ]))
      (refine Held.takeH (i := 37) (k := 101) (v := ?_) rfl (by as_aux_lemma => kernel_rfl) (by as_aux_lemma => kernel_rfl) (by as_aux_lemma => kernel_rfl) (by as_aux_lemma => kernel_rfl) (fun _ _ _ h => h) (Or.inl ⟨by rfl, ?_⟩) (by assumption) ?_; rotate_left; (focus (intro w hSw; (try dsimp only at hSw); go_simp; (try with_reducible rfl))); (simp only [List.setIfInBounds_toArray, List.set_cons_zero, List.set_cons_succ]))
      refine wpAnyH_ready (rs := [38]) (by as_aux_lemma => kernel_rfl) (by simp) ?_
      refine AllReadyH.cons rfl (fun K hK => ?_) AllReadyH.nil
      go_simp
      refine (HCS.out _ hHeld).mono ?_
      rintro e' w' ⟨rfl, hS'⟩
      refine hK.out _ _ hS' (fun hHeld => ?_)
      clear hK K
      try simp only [Act.put, List.setIfInBounds_toArray, List.set_cons_zero, List.set_cons_succ]
      (refine Held.takeH (i := 39) (k := 103) (v := .bool false) rfl (by as_aux_lemma => kernel_rfl) (by as_aux_lemma => kernel_rfl) (by as_aux_lemma => kernel_rfl) (by as_aux_lemma => kernel_rfl) (fun _ _ _ h => h) (Or.inl ⟨by rfl, ?_⟩) (by assumption) ?_; (focus (intro w hSw; (try dsimp only at hSw); go_simp; (try rfl))); (simp only [List.setIfInBounds_toArray, List.set_cons_zero, List.set_cons_succ]))
      (refine Held.takeH (i := 40) (k := 104) (v := .bool false) rfl (by as_aux_lemma => kernel_rfl) (by as_aux_lemma => kernel_rfl) (by as_aux_lemma => kernel_rfl) (by as_aux_lemma => kernel_rfl) (fun _ _ _ h => h) (Or.inl ⟨by rfl, ?_⟩) (by assumption) ?_; (focus (intro w hSw; (try dsimp only at hSw); go_simp; (try rfl))); (simp only [List.setIfInBounds_toArray, List.set_cons_zero, List.set_cons_succ]))
      (refine Held.takeH (i := 41) (k := 105) (v := .bool false) rfl (by as_aux_lemma => kernel_rfl) (by as_aux_lemma => kernel_rfl) (by as_aux_lemma => kernel_rfl) (by as_aux_lemma => kernel_rfl) (fun _ _ _ h => h) (Or.inl ⟨by rfl, ?_⟩) (by assumption) ?_; (focus (intro w hSw; (try dsimp only at hSw); go_simp; (try rfl))); (simp only [List.setIfInBounds_toArray, List.set_cons_zero, List.set_cons_succ]))
      (refine Held.takeH (i := 42) (k := 106) (v := ?_) rfl (by as_aux_lemma => kernel_rfl) (by as_aux_lemma => kernel_rfl) (by as_aux_lemma => kernel_rfl) (by as_aux_lemma => kernel_rfl) (fun _ _ _ h => h) (Or.inl ⟨by rfl, ?_⟩) (by assumption) ?_; rotate_left; (focus (intro w hSw; (try dsimp only at hSw); go_simp; (try with_reducible rfl))); (simp only [List.setIfInBounds_toArray, List.set_cons_zero, List.set_cons_succ]))
      (refine Held.takeH (i := 44) (k := 108) (v := ?_) rfl (by as_aux_lemma => kernel_rfl) (by as_aux_lemma => kernel_rfl) (by as_aux_lemma => kernel_rfl) (by as_aux_lemma => kernel_rfl) (fun _ _ _ h => h) (Or.inl ⟨by rfl, ?_⟩) (by assumption) ?_; rotate_left; (focus (intro w hSw; (try dsimp only at hSw); go_simp; (try with_reducible rfl))); (simp only [List.setIfInBounds_toArray, List.set_cons_zero, List.set_cons_succ]))
      refine wpAnyH_ready (rs := [43]) (by as_aux_lemma => kernel_rfl) (by simp) ?_
      refine AllReadyH.cons rfl (fun K hK => ?_) AllReadyH.nil
      go_simp
      refine (HAI.out _ hHeld).mono ?_
      rintro e' w' ⟨rfl, hS'⟩
      refine hK.out _ _ hS' (fun hHeld => ?_)
      clear hK K
      try simp only [Act.put, List.setIfInBounds_toArray, List.set_cons_zero, List.set_cons_succ]
      refine wpAnyH_ready (rs := [45]) (by as_aux_lemma => kernel_rfl) (by simp) ?_
      refine AllReadyH.cons rfl (fun K hK => ?_) AllReadyH.nil
      go_simp
      refine (HAS.out _ hHeld).mono ?_
      rintro e' w' ⟨rfl, hS'⟩
      refine hK.out _ _ hS' (fun hHeld => ?_)
      clear hK K
      try simp only [Act.put, List.setIfInBounds_toArray, List.set_cons_zero, List.set_cons_succ]
      (refine Held.takeH (i := 46) (k := 110) (v := .bool false) rfl (by as_aux_lemma => kernel_rfl) (by as_aux_lemma => kernel_rfl) (by as_aux_lemma => kernel_rfl) (by as_aux_lemma => kernel_rfl) (fun _ _ _ h => h) (Or.inl ⟨by rfl, ?_⟩) (by assumption) ?_; (focus (intro w hSw; (try dsimp only at hSw); go_simp; (try rfl))); (simp only [List.setIfInBounds_toArray, List.set_cons_zero, List.set_cons_succ]))
      (refine Held.takeH (i := 47) (k := 111) (v := .bool false) rfl (by as_aux_lemma => kernel_rfl) (by as_aux_lemma => kernel_rfl) (by as_aux_lemma => kernel_rfl) (by as_aux_lemma => kernel_rfl) (fun _ _ _ h => h) (Or.inl ⟨by rfl, ?_⟩) (by assumption) ?_; (focus (intro w hSw; (try dsimp only at hSw); go_simp; (try rfl))); (simp only [List.setIfInBounds_toArray, List.set_cons_zero, List.set_cons_succ]))
      (refine Held.takeH (i := 48) (k := 112) (v := .bool false) rfl (by as_aux_lemma => kernel_rfl) (by as_aux_lemma => kernel_rfl) (by as_aux_lemma => kernel_rfl) (by as_aux_lemma => kernel_rfl) (fun _ _ _ h => h) (Or.inl ⟨by rfl, ?_⟩) (by assumption) ?_; (focus (intro w hSw; (try dsimp only at hSw); go_simp; (try rfl))); (simp only [List.setIfInBounds_toArray, List.set_cons_zero, List.set_cons_succ]))
      (refine Held.takeH (i := 49) (k := 113) (v := ?_) rfl (by as_aux_lemma => kernel_rfl) (by as_aux_lemma => kernel_rfl) (by as_aux_lemma => kernel_rfl) (by as_aux_lemma => kernel_rfl) (fun _ _ _ h => h) (Or.inl ⟨by rfl, ?_⟩) (by assumption) ?_; rotate_left; (focus (intro w hSw; (try dsimp only at hSw); go_simp; (try with_reducible rfl))); (simp only [List.setIfInBounds_toArray, List.set_cons_zero, List.set_cons_succ]))
      (refine Held.takeH (i := 51) (k := 115) (v := ?_) rfl (by as_aux_lemma => kernel_rfl) (by as_aux_lemma => kernel_rfl) (by as_aux_lemma => kernel_rfl) (by as_aux_lemma => kernel_rfl) (fun _ _ _ h => h) (Or.inl ⟨by rfl, ?_⟩) (by assumption) ?_; rotate_left; (focus (intro w hSw; (try dsimp only at hSw); go_simp; (try with_reducible rfl))); (simp only [List.setIfInBounds_toArray, List.set_cons_zero, List.set_cons_succ]))
      refine wpAnyH_ready (rs := [50]) (by as_aux_lemma => kernel_rfl) (by simp) ?_
      refine AllReadyH.cons rfl (fun K hK => ?_) AllReadyH.nil
      go_simp
      refine (HHI.out _ hHeld).mono ?_
      rintro e' w' ⟨rfl, hS'⟩
      refine hK.out _ _ hS' (fun hHeld => ?_)
      clear hK K
      try simp only [Act.put, List.setIfInBounds_toArray, List.set_cons_zero, List.set_cons_succ]
      refine wpAnyH_ready (rs := [52]) (by as_aux_lemma => kernel_rfl) (by simp) ?_
      refine AllReadyH.cons rfl (fun K hK => ?_) AllReadyH.nil
      go_simp
      refine (HHS.out _ hHeld).mono ?_
      rintro e' w' ⟨rfl, hS'⟩
      refine hK.out _ _ hS' (fun hHeld => ?_)
      clear hK K
      try simp only [Act.put, List.setIfInBounds_toArray, List.set_cons_zero, List.set_cons_succ]
      (refine Held.takeH (i := 53) (k := 117) (v := .bool false) rfl (by as_aux_lemma => kernel_rfl) (by as_aux_lemma => kernel_rfl) (by as_aux_lemma => kernel_rfl) (by as_aux_lemma => kernel_rfl) (fun _ _ _ h => h) (Or.inl ⟨by rfl, ?_⟩) (by assumption) ?_; (focus (intro w hSw; (try dsimp only at hSw); go_simp; (try rfl))); (simp only [List.setIfInBounds_toArray, List.set_cons_zero, List.set_cons_succ]))
      (refine Held.takeH (i := 54) (k := 118) (v := .bool false) rfl (by as_aux_lemma => kernel_rfl) (by as_aux_lemma => kernel_rfl) (by as_aux_lemma => kernel_rfl) (by as_aux_lemma => kernel_rfl) (fun _ _ _ h => h) (Or.inl ⟨by rfl, ?_⟩) (by assumption) ?_; (focus (intro w hSw; (try dsimp only at hSw); go_simp; (try rfl))); (simp only [List.setIfInBounds_toArray, List.set_cons_zero, List.set_cons_succ]))
      (refine Held.takeH (i := 55) (k := 119) (v := .bool false) rfl (by as_aux_lemma => kernel_rfl) (by as_aux_lemma => kernel_rfl) (by as_aux_lemma => kernel_rfl) (by as_aux_lemma => kernel_rfl) (fun _ _ _ h => h) (Or.inl ⟨by rfl, ?_⟩) (by assumption) ?_; (focus (intro w hSw; (try dsimp only at hSw); go_simp; (try rfl))); (simp only [List.setIfInBounds_toArray, List.set_cons_zero, List.set_cons_succ]))
      (refine Held.takeH (i := 56) (k := 120) (v := ?_) rfl (by as_aux_lemma => kernel_rfl) (by as_aux_lemma => kernel_rfl) (by as_aux_lemma => kernel_rfl) (by as_aux_lemma => kernel_rfl) (fun _ _ _ h => h) (Or.inl ⟨by rfl, ?_⟩) (by assumption) ?_; rotate_left; (focus (intro w hSw; (try dsimp only at hSw); go_simp; (try with_reducible rfl))); (simp only [List.setIfInBounds_toArray, List.set_cons_zero, List.set_cons_succ]))
      (refine Held.takeH (i := 58) (k := 122) (v := ?_) rfl (by as_aux_lemma => kernel_rfl) (by as_aux_lemma => kernel_rfl) (by as_aux_lemma => kernel_rfl) (by as_aux_lemma => kernel_rfl) (fun _ _ _ h => h) (Or.inl ⟨by rfl, ?_⟩) (by assumption) ?_; rotate_left; (focus (intro w hSw; (try dsimp only at hSw); go_simp; (try with_reducible rfl))); (simp only [List.setIfInBounds_toArray, List.set_cons_zero, List.set_cons_succ]))
      refine wpAnyH_ready (rs := [57]) (by as_aux_lemma => kernel_rfl) (by simp) ?_
      refine AllReadyH.cons rfl (fun K hK => ?_) AllReadyH.nil
      go_simp
      refine (HFI.out _ hHeld).mono ?_
      rintro e' w' ⟨rfl, hS'⟩
      refine hK.out _ _ hS' (fun hHeld => ?_)
      clear hK K
      try simp only [Act.put, List.setIfInBounds_toArray, List.set_cons_zero, List.set_cons_succ]
      refine wpAnyH_ready (rs := [59]) (by as_aux_lemma => kernel_rfl) (by simp) ?_
      refine AllReadyH.cons rfl (fun K hK => ?_) AllReadyH.nil
      go_simp
      refine (HFS.out _ hHeld).mono ?_
      rintro e' w' ⟨rfl, hS'⟩
      refine hK.out _ _ hS' (fun hHeld => ?_)
      clear hK K
      try simp only [Act.put, List.setIfInBounds_toArray, List.set_cons_zero, List.set_cons_succ]
      (refine Held.takeH (i := 60) (k := 124) (v := .bool false) rfl (by as_aux_lemma => kernel_rfl) (by as_aux_lemma => kernel_rfl) (by as_aux_lemma => kernel_rfl) (by as_aux_lemma => kernel_rfl) (fun _ _ _ h => h) (Or.inl ⟨by rfl, ?_⟩) (by assumption) ?_; (focus (intro w hSw; (try dsimp only at hSw); go_simp; (try rfl))); (simp only [List.setIfInBounds_toArray, List.set_cons_zero, List.set_cons_succ]))
      (refine Held.takeH (i := 61) (k := 125) (v := .bool false) rfl (by as_aux_lemma => kernel_rfl) (by as_aux_lemma => kernel_rfl) (by as_aux_lemma => kernel_rfl) (by as_aux_lemma => kernel_rfl) (fun _ _ _ h => h) (Or.inl ⟨by rfl, ?_⟩) (by assumption) ?_; (focus (intro w hSw; (try dsimp only at hSw); go_simp; (try rfl))); (simp only [List.setIfInBounds_toArray, List.set_cons_zero, List.set_cons_succ]))
      (refine Held.takeH (i := 62) (k := 126) (v := .bool false) rfl (by as_aux_lemma => kernel_rfl) (by as_aux_lemma => kernel_rfl) (by as_aux_lemma => kernel_rfl) (by as_aux_lemma => kernel_rfl) (fun _ _ _ h => h) (Or.inl ⟨by rfl, ?_⟩) (by assumption) ?_; (focus (intro w hSw; (try dsimp only at hSw); go_simp; (try rfl))); (simp only [List.setIfInBounds_toArray, List.set_cons_zero, List.set_cons_succ]))
      (refine Held.takeH (i := 63) (k := 127) (v := ?_) rfl (by as_aux_lemma => kernel_rfl) (by as_aux_lemma => kernel_rfl) (by as_aux_lemma => kernel_rfl) (by as_aux_lemma => kernel_rfl) (fun _ _ _ h => h) (Or.inl ⟨by rfl, ?_⟩) (by assumption) ?_; rotate_left; (focus (intro w hSw; (try dsimp only at hSw); go_simp; (try with_reducible rfl))); (simp only [List.setIfInBounds_toArray, List.set_cons_zero, List.set_cons_succ]))
      (refine Held.takeH (i := 64) (k := 128) (v := ?_) rfl (by as_aux_lemma => kernel_rfl) (by as_aux_lemma => kernel_rfl) (by as_aux_lemma => kernel_rfl) (by as_aux_lemma => kernel_rfl) (fun _ _ _ h => h) (Or.inl ⟨by rfl, ?_⟩) (by assumption) ?_; rotate_left; (focus (intro w hSw; (try dsimp only at hSw); go_simp; (try with_reducible rfl))); (simp only [List.setIfInBounds_toArray, List.set_cons_zero, List.set_cons_succ]))
      (refine Held.takeH (i := 66) (k := 130) (v := ?_) rfl (by as_aux_lemma => kernel_rfl) (by as_aux_lemma => kernel_rfl) (by as_aux_lemma => kernel_rfl) (by as_aux_lemma => kernel_rfl) (fun _ _ _ h => h) (Or.inl ⟨by rfl, ?_⟩) (by assumption) ?_; rotate_left; (focus (intro w hSw; (try dsimp only at hSw); go_simp; (try with_reducible rfl))); (simp only [List.setIfInBounds_toArray, List.set_cons_zero, List.set_cons_succ]))
      (refine Held.takeH (i := 67) (k := 131) (v := .bool (cp == 0)) rfl (by as_aux_lemma => kernel_rfl) (by as_aux_lemma => kernel_rfl) (by as_aux_lemma => kernel_rfl) (by as_aux_lemma => kernel_rfl) (fun _ _ _ h => h) (Or.inl ⟨by rfl, ?_⟩) (by assumption) ?_; (focus (intro w hSw; (try dsimp only at hSw); go_simp; (try rfl))); (simp only [List.setIfInBounds_toArray, List.set_cons_zero, List.set_cons_succ]))
      refine wpAnyH_ready (rs := [65]) (by as_aux_lemma => kernel_rfl) (by simp) ?_
      refine AllReadyH.cons rfl (fun K hK => ?_) AllReadyH.nil
      go_simp
      refine (HPI.out _ hHeld).mono ?_
      rintro e' w' ⟨rfl, hS'⟩
      refine hK.out _ _ hS' (fun hHeld => ?_)
      clear hK K
      try simp only [Act.put, List.setIfInBounds_toArray, List.set_cons_zero, List.set_cons_succ]
      (refine Held.takeH (i := 68) (k := 132) (v := .bool false) rfl (by as_aux_lemma => kernel_rfl) (by as_aux_lemma => kernel_rfl) (by as_aux_lemma => kernel_rfl) (by as_aux_lemma => kernel_rfl) (fun _ _ _ h => h) (Or.inl ⟨by rfl, ?_⟩) (by assumption) ?_; (focus (intro w hSw; (try dsimp only at hSw); go_simp; (try rfl))); (simp only [List.setIfInBounds_toArray, List.set_cons_zero, List.set_cons_succ]))
      (refine Held.takeH (i := 69) (k := 133) (v := .bool false) rfl (by as_aux_lemma => kernel_rfl) (by as_aux_lemma => kernel_rfl) (by as_aux_lemma => kernel_rfl) (by as_aux_lemma => kernel_rfl) (fun _ _ _ h => h) (Or.inl ⟨by rfl, ?_⟩) (by assumption) ?_; (focus (intro w hSw; (try dsimp only at hSw); go_simp; (try rfl))); (simp only [List.setIfInBounds_toArray, List.set_cons_zero, List.set_cons_succ]))
      refine wpAnyH_done (by as_aux_lemma => kernel_rfl) ?_ _
      go_wp2_with fail
      go_meet
      exact ⟨rfl, Lib.hid hHeld.2.2.2.2⟩
    case rest =>
      obtain ⟨rfl, Q9⟩ := hcut
      clear Q8 HII HIS HDI HDS HCS HAI HAS HHI HHS HFI HFS HPI HCst
      -- numbers of edges
      go_upto_region 13 with fail
      go_cut [154] (fun cv wx => cv = .bool false ∧ Hid (PK wx))
      case first =>
        as_aux_lemma =>
        have j1 : (k0 != k0) = false := by simp
        by_cases ha : 0 ≤ ea
        · have a1 : decide (ea ≥ 0) = true := decide_eq_true ha
          have a2 : decide (0 ≤ ea) = true := decide_eq_true ha
          have PX := Lib.hid (PX1.out ha)
          clear PX1
          go_wp2_with fail
          refine (PX.out _ Q9.out).mono ?_
          rintro e w10 ⟨rfl, hk10⟩
          have K10 := Lib.hid hk10
          clear hk10
          go_wp2_with fail
          refine (PX2.out _ K10.out).mono ?_
          rintro e w11 ⟨rfl, hk11⟩
          have K11 := Lib.hid hk11
          clear hk11
          go_wp2_with fail
          refine (PX3.out _ K11.out).mono ?_
          rintro e w12 ⟨rfl, hk12⟩
          have K12 := Lib.hid hk12
          clear hk12
          go_wp2_with fail
          go_meet
          exact ⟨rfl, K12⟩
        · have a1 : decide (ea ≥ 0) = false := decide_eq_false ha
          have a2 : decide (0 ≤ ea) = false := decide_eq_false ha
          clear PX1
          go_wp2_with fail
          refine (PX2.out _ Q9.out).mono ?_
          rintro e w11 ⟨rfl, hk11⟩
          have K11 := Lib.hid hk11
          clear hk11
          go_wp2_with fail
          refine (PX3.out _ K11.out).mono ?_
          rintro e w12 ⟨rfl, hk12⟩
          have K12 := Lib.hid hk12
          clear hk12
          go_wp2_with fail
          go_meet
          exact ⟨rfl, K12⟩
      case rest =>
        obtain ⟨rfl, QA⟩ := hcut
        clear Q9 PX1 PX2 PX3
        -- edges that cross
        obtain ⟨x0, x1, -⟩ := HCs.out _ QA.out
        go_upto_region 15 with fail
        go_cut [177] (fun cv wx => cv = .bool false ∧ Hid (PK wx))
        case first =>
          as_aux_lemma =>
          cases dc
          · go_wp2_with fail
            refine (PD1.out _ QA.out).mono ?_
            rintro e w13 ⟨rfl, hk13⟩
            have K13 := Lib.hid hk13
            clear hk13
            clear x0 x1
            obtain ⟨x0, x1, -⟩ := HCs.out _ K13.out
            go_wp2_with fail
            go_meet
            exact ⟨rfl, K13⟩
          · have P2 := Lib.hid (PD2.out rfl)
            have P3 := Lib.hid (PD3.out rfl)
            clear PD2 PD3
            go_wp2_with fail
            refine (PD1.out _ QA.out).mono ?_
            rintro e w13 ⟨rfl, hk13⟩
            have K13 := Lib.hid hk13
            clear hk13
            clear x0 x1
            obtain ⟨x0, x1, -⟩ := HCs.out _ K13.out
            go_wp2_with fail
            refine (P2.out _ K13.out).mono ?_
            rintro e w14 ⟨rfl, hk14⟩
            have K14 := Lib.hid hk14
            clear hk14
            clear x0 x1
            obtain ⟨x0, x1, -⟩ := HCs.out _ K14.out
            go_wp2_with fail
            refine (P3.out _ K14.out).mono ?_
            rintro e w15 ⟨rfl, hk15⟩
            have K15 := Lib.hid hk15
            clear hk15
            clear x0 x1
            obtain ⟨x0, x1, -⟩ := HCs.out _ K15.out
            go_wp2_with fail
            go_meet
            exact ⟨rfl, K15⟩
        case rest =>
          obtain ⟨rfl, QB⟩ := hcut
          clear QA PD1 PD2 PD3 x0 x1 HCs
          -- signs that are not of an order
          obtain ⟨x0, x1, -⟩ := HCt.out _ QB.out
          cases ac
          · have hcp := HNO.out rfl
            have h1 : (cp == -1) = true := by rw [hcp]; rfl
            go_wp2_with fail
            refine (PAC.out _ QB.out).mono ?_
            rintro e w16 ⟨rfl, hk16⟩
            have K16 := Lib.hid hk16
            clear hk16
            have BF := Lib.hid (HBE.out _ K16.out)
            clear x0 x1
            go_wp2
            go_ret
            exact ⟨rfl, BF.out⟩
          · obtain ⟨S, hS, hS2, hsz, han, h1, h2, h3⟩ := HYES.out rfl
            clear HYES HNO
            go_wp2_with fail
            refine (PAC.out _ QB.out).mono ?_
            rintro e w16 ⟨rfl, hk16⟩
            have K16 := Lib.hid hk16
            clear hk16
            clear x0 x1 QB PAC
            obtain ⟨x0, x1, -⟩ := HCt.out _ K16.out
            have GSZ : Hid (∀ W, (W.cell? ⟨bt, 0, none⟩ = some (.int .i64 mt) ∧ W.cell? ⟨bt, 1, none⟩ = some (.string Tt) ∧ PK W) → Calls Tryz.prog 26 #[.int .i64 hu] W fun e w' => e = .returned (.int .i64 hz) ∧ w'.cell? ⟨bt, 0, none⟩ = some (.int .i64 mt) ∧ w'.cell? ⟨bt, 1, none⟩ = some (.string Tt) ∧ PK w') := Lib.hid (fun W hW => by
              rw [hS, ← hsz]
              exact (sizeE_any S hS2 W).mono fun e w' ⟨he, hw'⟩ => ⟨he, by rw [← hw']; exact hW⟩)
            subst h1 h2 h3
            clear hS hS2 hsz
            have k1 : (c3 != c3) = false := by simp
            have k2 : (hz != hz) = false := by simp
            have k3 : ((0 : Int) == 0) = true := rfl
            rw [k3] at GP1 GP2
            -- all edges, the hull's edges, free edges
            go_upto_region 19 with fail
            go_cut [206] (fun cv wx => cv = .bool false ∧ Hid (PK wx))
            case first =>
              as_aux_lemma =>
              refine wp_region_held (S := fun W => W.cell? ⟨bt, 0, none⟩ = some (.int .i64 mt) ∧ W.cell? ⟨bt, 1, none⟩ = some (.string Tt) ∧ PK W) rfl ?_
              have hHeld := (HCt.out _ (HDR.out _ K16.out))
              (refine Held.takeH (i := 0) (k := 183) (v := ?_) rfl (by as_aux_lemma => kernel_rfl) (by as_aux_lemma => kernel_rfl) (by as_aux_lemma => kernel_rfl) (by as_aux_lemma => kernel_rfl) (fun _ _ _ h => h) (Or.inl ⟨by rfl, ?_⟩) (by assumption) ?_; rotate_left; (focus (intro w hSw; (try dsimp only at hSw); go_simp; (try with_reducible rfl))); (simp only [List.setIfInBounds_toArray, List.set_cons_zero, List.set_cons_succ]))
              (refine Held.takeH (i := 1) (k := 184) (v := ?_) rfl (by as_aux_lemma => kernel_rfl) (by as_aux_lemma => kernel_rfl) (by as_aux_lemma => kernel_rfl) (by as_aux_lemma => kernel_rfl) (fun _ _ _ h => h) (Or.inl ⟨by rfl, ?_⟩) (by assumption) ?_; rotate_left; (focus (intro w hSw; (try dsimp only at hSw); go_simp; (try with_reducible rfl))); (simp only [List.setIfInBounds_toArray, List.set_cons_zero, List.set_cons_succ]))
              (refine Held.takeH (i := 2) (k := 185) (v := ?_) rfl (by as_aux_lemma => kernel_rfl) (by as_aux_lemma => kernel_rfl) (by as_aux_lemma => kernel_rfl) (by as_aux_lemma => kernel_rfl) (fun _ _ _ h => h) (Or.inl ⟨by rfl, ?_⟩) (by assumption) ?_; rotate_left; (focus (intro w hSw; (try dsimp only at hSw); go_simp; (try with_reducible rfl))); (simp only [List.setIfInBounds_toArray, List.set_cons_zero, List.set_cons_succ]))
              (refine Held.takeH (i := 5) (k := 188) (v := ?_) rfl (by as_aux_lemma => kernel_rfl) (by as_aux_lemma => kernel_rfl) (by as_aux_lemma => kernel_rfl) (by as_aux_lemma => kernel_rfl) (fun _ _ _ h => h) (Or.inl ⟨by rfl, ?_⟩) (by assumption) ?_; rotate_left; (focus (intro w hSw; (try dsimp only at hSw); go_simp; (try with_reducible rfl))); (simp only [List.setIfInBounds_toArray, List.set_cons_zero, List.set_cons_succ]))
              refine wpAnyH_ready (rs := [3]) (by as_aux_lemma => kernel_rfl) (by simp) ?_
              refine AllReadyH.cons rfl (fun K hK => ?_) AllReadyH.nil
              go_simp
              refine (GAE.out _ hHeld).mono ?_
              rintro e' w' ⟨rfl, hS'⟩
              refine hK.out _ _ hS' (fun hHeld => ?_)
              clear hK K
              try simp only [Act.put, List.setIfInBounds_toArray, List.set_cons_zero, List.set_cons_succ]
              refine wpAnyH_ready (rs := [4]) (by as_aux_lemma => kernel_rfl) (by simp) ?_
              refine AllReadyH.cons rfl (fun K hK => ?_) AllReadyH.nil
              go_simp
              refine (GCP.out _ hHeld).mono ?_
              rintro e' w' ⟨rfl, hS'⟩
              refine hK.out _ _ hS' (fun hHeld => ?_)
              clear hK K
              try simp only [Act.put, List.setIfInBounds_toArray, List.set_cons_zero, List.set_cons_succ]
              refine wpAnyH_ready (rs := [6]) (by as_aux_lemma => kernel_rfl) (by simp) ?_
              refine AllReadyH.cons rfl (fun K hK => ?_) AllReadyH.nil
              go_simp
              refine (GCQ.out _ hHeld).mono ?_
              rintro e' w' ⟨rfl, hS'⟩
              refine hK.out _ _ hS' (fun hHeld => ?_)
              clear hK K
              try simp only [Act.put, List.setIfInBounds_toArray, List.set_cons_zero, List.set_cons_succ]
              (refine Held.takeH (i := 7) (k := 190) (v := .bool false) rfl (by as_aux_lemma => kernel_rfl) (by as_aux_lemma => kernel_rfl) (by as_aux_lemma => kernel_rfl) (by as_aux_lemma => kernel_rfl) (fun _ _ _ h => h) (Or.inl ⟨by rfl, ?_⟩) (by assumption) ?_; (focus (intro w hSw; (try dsimp only at hSw); go_simp; (try rfl))); (simp only [List.setIfInBounds_toArray, List.set_cons_zero, List.set_cons_succ]))
              (refine Held.takeH (i := 8) (k := 191) (v := .bool false) rfl (by as_aux_lemma => kernel_rfl) (by as_aux_lemma => kernel_rfl) (by as_aux_lemma => kernel_rfl) (by as_aux_lemma => kernel_rfl) (fun _ _ _ h => h) (Or.inl ⟨by rfl, ?_⟩) (by assumption) ?_; (focus (intro w hSw; (try dsimp only at hSw); go_simp; (try rfl))); (simp only [List.setIfInBounds_toArray, List.set_cons_zero, List.set_cons_succ]))
              (refine Held.takeH (i := 9) (k := 192) (v := ?_) rfl (by as_aux_lemma => kernel_rfl) (by as_aux_lemma => kernel_rfl) (by as_aux_lemma => kernel_rfl) (by as_aux_lemma => kernel_rfl) (fun _ _ _ h => h) (Or.inl ⟨by rfl, ?_⟩) (by assumption) ?_; rotate_left; (focus (intro w hSw; (try dsimp only at hSw); go_simp; (try with_reducible rfl))); (simp only [List.setIfInBounds_toArray, List.set_cons_zero, List.set_cons_succ]))
              (refine Held.takeH (i := 12) (k := 195) (v := ?_) rfl (by as_aux_lemma => kernel_rfl) (by as_aux_lemma => kernel_rfl) (by as_aux_lemma => kernel_rfl) (by as_aux_lemma => kernel_rfl) (fun _ _ _ h => h) (Or.inl ⟨by rfl, ?_⟩) (by assumption) ?_; rotate_left; (focus (intro w hSw; (try dsimp only at hSw); go_simp; (try with_reducible rfl))); (simp only [List.setIfInBounds_toArray, List.set_cons_zero, List.set_cons_succ]))
              refine wpAnyH_ready (rs := [10]) (by as_aux_lemma => kernel_rfl) (by simp) ?_
              refine AllReadyH.cons rfl (fun K hK => ?_) AllReadyH.nil
              go_simp
              refine (HHIt.out _ hHeld).mono ?_
              rintro e' w' ⟨rfl, hS'⟩
              refine hK.out _ _ hS' (fun hHeld => ?_)
              clear hK K
              try simp only [Act.put, List.setIfInBounds_toArray, List.set_cons_zero, List.set_cons_succ]
              refine wpAnyH_ready (rs := [11]) (by as_aux_lemma => kernel_rfl) (by simp) ?_
              refine AllReadyH.cons rfl (fun K hK => ?_) AllReadyH.nil
              go_simp
              refine (GSZ.out _ hHeld).mono ?_
              rintro e' w' ⟨rfl, hS'⟩
              refine hK.out _ _ hS' (fun hHeld => ?_)
              clear hK K
              try simp only [Act.put, List.setIfInBounds_toArray, List.set_cons_zero, List.set_cons_succ]
              refine wpAnyH_ready (rs := [13]) (by as_aux_lemma => kernel_rfl) (by simp) ?_
              refine AllReadyH.cons rfl (fun K hK => ?_) AllReadyH.nil
              go_simp
              refine (GHS.out _ hHeld).mono ?_
              rintro e' w' ⟨rfl, hS'⟩
              refine hK.out _ _ hS' (fun hHeld => ?_)
              clear hK K
              try simp only [Act.put, List.setIfInBounds_toArray, List.set_cons_zero, List.set_cons_succ]
              (refine Held.takeH (i := 14) (k := 197) (v := .bool false) rfl (by as_aux_lemma => kernel_rfl) (by as_aux_lemma => kernel_rfl) (by as_aux_lemma => kernel_rfl) (by as_aux_lemma => kernel_rfl) (fun _ _ _ h => h) (Or.inl ⟨by rfl, ?_⟩) (by assumption) ?_; (focus (intro w hSw; (try dsimp only at hSw); go_simp; (try rfl))); (simp only [List.setIfInBounds_toArray, List.set_cons_zero, List.set_cons_succ]))
              (refine Held.takeH (i := 15) (k := 198) (v := .bool false) rfl (by as_aux_lemma => kernel_rfl) (by as_aux_lemma => kernel_rfl) (by as_aux_lemma => kernel_rfl) (by as_aux_lemma => kernel_rfl) (fun _ _ _ h => h) (Or.inl ⟨by rfl, ?_⟩) (by assumption) ?_; (focus (intro w hSw; (try dsimp only at hSw); go_simp; (try rfl))); (simp only [List.setIfInBounds_toArray, List.set_cons_zero, List.set_cons_succ]))
              (refine Held.takeH (i := 16) (k := 199) (v := .bool false) rfl (by as_aux_lemma => kernel_rfl) (by as_aux_lemma => kernel_rfl) (by as_aux_lemma => kernel_rfl) (by as_aux_lemma => kernel_rfl) (fun _ _ _ h => h) (Or.inl ⟨by rfl, ?_⟩) (by assumption) ?_; (focus (intro w hSw; (try dsimp only at hSw); go_simp; (try rfl))); (simp only [List.setIfInBounds_toArray, List.set_cons_zero, List.set_cons_succ]))
              (refine Held.takeH (i := 17) (k := 200) (v := ?_) rfl (by as_aux_lemma => kernel_rfl) (by as_aux_lemma => kernel_rfl) (by as_aux_lemma => kernel_rfl) (by as_aux_lemma => kernel_rfl) (fun _ _ _ h => h) (Or.inl ⟨by rfl, ?_⟩) (by assumption) ?_; rotate_left; (focus (intro w hSw; (try dsimp only at hSw); go_simp; (try with_reducible rfl))); (simp only [List.setIfInBounds_toArray, List.set_cons_zero, List.set_cons_succ]))
              (refine Held.takeH (i := 19) (k := 202) (v := ?_) rfl (by as_aux_lemma => kernel_rfl) (by as_aux_lemma => kernel_rfl) (by as_aux_lemma => kernel_rfl) (by as_aux_lemma => kernel_rfl) (fun _ _ _ h => h) (Or.inl ⟨by rfl, ?_⟩) (by assumption) ?_; rotate_left; (focus (intro w hSw; (try dsimp only at hSw); go_simp; (try with_reducible rfl))); (simp only [List.setIfInBounds_toArray, List.set_cons_zero, List.set_cons_succ]))
              refine wpAnyH_ready (rs := [18]) (by as_aux_lemma => kernel_rfl) (by simp) ?_
              refine AllReadyH.cons rfl (fun K hK => ?_) AllReadyH.nil
              go_simp
              refine (HHIt.out _ hHeld).mono ?_
              rintro e' w' ⟨rfl, hS'⟩
              refine hK.out _ _ hS' (fun hHeld => ?_)
              clear hK K
              try simp only [Act.put, List.setIfInBounds_toArray, List.set_cons_zero, List.set_cons_succ]
              refine wpAnyH_ready (rs := [20]) (by as_aux_lemma => kernel_rfl) (by simp) ?_
              refine AllReadyH.cons rfl (fun K hK => ?_) AllReadyH.nil
              go_simp
              refine (HFIt.out _ hHeld).mono ?_
              rintro e' w' ⟨rfl, hS'⟩
              refine hK.out _ _ hS' (fun hHeld => ?_)
              clear hK K
              try simp only [Act.put, List.setIfInBounds_toArray, List.set_cons_zero, List.set_cons_succ]
              (refine Held.takeH (i := 21) (k := 204) (v := .int .i64 0) rfl (by as_aux_lemma => kernel_rfl) (by as_aux_lemma => kernel_rfl) (by as_aux_lemma => kernel_rfl) (by as_aux_lemma => kernel_rfl) (fun _ _ _ h => h) (Or.inl ⟨by rfl, ?_⟩) (by assumption) ?_; (focus (intro w hSw; (try dsimp only at hSw); go_simp; (try rfl))); (simp only [List.setIfInBounds_toArray, List.set_cons_zero, List.set_cons_succ]))
              (refine Held.takeH (i := 22) (k := 205) (v := .bool false) rfl (by as_aux_lemma => kernel_rfl) (by as_aux_lemma => kernel_rfl) (by as_aux_lemma => kernel_rfl) (by as_aux_lemma => kernel_rfl) (fun _ _ _ h => h) (Or.inl ⟨by rfl, ?_⟩) (by assumption) ?_; (focus (intro w hSw; (try dsimp only at hSw); go_simp; (try rfl))); (simp only [List.setIfInBounds_toArray, List.set_cons_zero, List.set_cons_succ]))
              (refine Held.takeH (i := 23) (k := 206) (v := .bool false) rfl (by as_aux_lemma => kernel_rfl) (by as_aux_lemma => kernel_rfl) (by as_aux_lemma => kernel_rfl) (by as_aux_lemma => kernel_rfl) (fun _ _ _ h => h) (Or.inl ⟨by rfl, ?_⟩) (by assumption) ?_; (focus (intro w hSw; (try dsimp only at hSw); go_simp; (try rfl))); (simp only [List.setIfInBounds_toArray, List.set_cons_zero, List.set_cons_succ]))
              refine wpAnyH_done (by as_aux_lemma => kernel_rfl) ?_ _
              go_wp2_with fail
              go_meet
              exact ⟨rfl, Lib.hid hHeld.2.2⟩
            case rest =>
              obtain ⟨rfl, QC⟩ := hcut
              clear K16 GAE GCP GCQ GHS GSZ x0 x1 han k1 k2
              -- plane sets
              obtain ⟨x0, x1, -⟩ := HCt.out _ QC.out
              go_upto_region 21 with fail
              refine wp_region_held (S := fun W => W.cell? ⟨bt, 0, none⟩ = some (.int .i64 mt) ∧ W.cell? ⟨bt, 1, none⟩ = some (.string Tt) ∧ PK W) rfl ?_
              have hHeld := (HCt.out _ (HDR.out _ QC.out))
              (refine Held.takeH (i := 0) (k := 207) (v := ?_) rfl (by as_aux_lemma => kernel_rfl) (by as_aux_lemma => kernel_rfl) (by as_aux_lemma => kernel_rfl) (by as_aux_lemma => kernel_rfl) (fun _ _ _ h => h) (Or.inl ⟨by rfl, ?_⟩) (by assumption) ?_; rotate_left; (focus (intro w hSw; (try dsimp only at hSw); go_simp; (try with_reducible rfl))); (simp only [List.setIfInBounds_toArray, List.set_cons_zero, List.set_cons_succ]))
              (refine Held.takeH (i := 1) (k := 208) (v := ?_) rfl (by as_aux_lemma => kernel_rfl) (by as_aux_lemma => kernel_rfl) (by as_aux_lemma => kernel_rfl) (by as_aux_lemma => kernel_rfl) (fun _ _ _ h => h) (Or.inl ⟨by rfl, ?_⟩) (by assumption) ?_; rotate_left; (focus (intro w hSw; (try dsimp only at hSw); go_simp; (try with_reducible rfl))); (simp only [List.setIfInBounds_toArray, List.set_cons_zero, List.set_cons_succ]))
              refine wpAnyH_ready (rs := [2]) (by as_aux_lemma => kernel_rfl) (by simp) ?_
              refine AllReadyH.cons rfl (fun K hK => ?_) AllReadyH.nil
              go_simp
              refine (HHIt.out _ hHeld).mono ?_
              rintro e' w' ⟨rfl, hS'⟩
              refine hK.out _ _ hS' (fun hHeld => ?_)
              clear hK K
              try simp only [Act.put, List.setIfInBounds_toArray, List.set_cons_zero, List.set_cons_succ]
              refine wpAnyH_ready (rs := [3]) (by as_aux_lemma => kernel_rfl) (by simp) ?_
              refine AllReadyH.cons rfl (fun K hK => ?_) AllReadyH.nil
              go_simp
              refine (GP1.out _ hHeld).mono ?_
              rintro e' w' ⟨rfl, hS'⟩
              refine hK.out _ _ hS' (fun hHeld => ?_)
              clear hK K
              try simp only [Act.put, List.setIfInBounds_toArray, List.set_cons_zero, List.set_cons_succ]
              (refine Held.takeH (i := 4) (k := 211) (v := .bool true) rfl (by as_aux_lemma => kernel_rfl) (by as_aux_lemma => kernel_rfl) (by as_aux_lemma => kernel_rfl) (by as_aux_lemma => kernel_rfl) (fun _ _ _ h => h) (Or.inl ⟨by rfl, ?_⟩) (by assumption) ?_; (focus (intro w hSw; (try dsimp only at hSw); go_simp; (try rfl))); (simp only [List.setIfInBounds_toArray, List.set_cons_zero, List.set_cons_succ]))
              (refine Held.takeH (i := 5) (k := 212) (v := ?_) rfl (by as_aux_lemma => kernel_rfl) (by as_aux_lemma => kernel_rfl) (by as_aux_lemma => kernel_rfl) (by as_aux_lemma => kernel_rfl) (fun _ _ _ h => h) (Or.inl ⟨by rfl, ?_⟩) (by assumption) ?_; rotate_left; (focus (intro w hSw; (try dsimp only at hSw); go_simp; (try with_reducible rfl))); (simp only [List.setIfInBounds_toArray, List.set_cons_zero, List.set_cons_succ]))
              (refine Held.takeH (i := 6) (k := 213) (v := ?_) rfl (by as_aux_lemma => kernel_rfl) (by as_aux_lemma => kernel_rfl) (by as_aux_lemma => kernel_rfl) (by as_aux_lemma => kernel_rfl) (fun _ _ _ h => h) (Or.inl ⟨by rfl, ?_⟩) (by assumption) ?_; rotate_left; (focus (intro w hSw; (try dsimp only at hSw); go_simp; (try with_reducible rfl))); (simp only [List.setIfInBounds_toArray, List.set_cons_zero, List.set_cons_succ]))
              refine wpAnyH_ready (rs := [7]) (by as_aux_lemma => kernel_rfl) (by simp) ?_
              refine AllReadyH.cons rfl (fun K hK => ?_) AllReadyH.nil
              go_simp
              refine (HFIt.out _ hHeld).mono ?_
              rintro e' w' ⟨rfl, hS'⟩
              refine hK.out _ _ hS' (fun hHeld => ?_)
              clear hK K
              try simp only [Act.put, List.setIfInBounds_toArray, List.set_cons_zero, List.set_cons_succ]
              refine wpAnyH_ready (rs := [8]) (by as_aux_lemma => kernel_rfl) (by simp) ?_
              refine AllReadyH.cons rfl (fun K hK => ?_) AllReadyH.nil
              go_simp
              refine (GP2.out _ hHeld).mono ?_
              rintro e' w' ⟨rfl, hS'⟩
              refine hK.out _ _ hS' (fun hHeld => ?_)
              clear hK K
              try simp only [Act.put, List.setIfInBounds_toArray, List.set_cons_zero, List.set_cons_succ]
              (refine Held.takeH (i := 9) (k := 216) (v := .bool true) rfl (by as_aux_lemma => kernel_rfl) (by as_aux_lemma => kernel_rfl) (by as_aux_lemma => kernel_rfl) (by as_aux_lemma => kernel_rfl) (fun _ _ _ h => h) (Or.inl ⟨by rfl, ?_⟩) (by assumption) ?_; (focus (intro w hSw; (try dsimp only at hSw); go_simp; (try rfl))); (simp only [List.setIfInBounds_toArray, List.set_cons_zero, List.set_cons_succ]))
              (refine Held.takeH (i := 10) (k := 2) (v := .bool true) rfl (by as_aux_lemma => kernel_rfl) (by as_aux_lemma => kernel_rfl) (by as_aux_lemma => kernel_rfl) (by as_aux_lemma => kernel_rfl) (fun _ _ _ h => h) (Or.inl ⟨by rfl, ?_⟩) (by assumption) ?_; (focus (intro w hSw; (try dsimp only at hSw); go_simp; (try rfl))); (simp only [List.setIfInBounds_toArray, List.set_cons_zero, List.set_cons_succ]))
              refine wpAnyH_done (by as_aux_lemma => kernel_rfl) ?_ _
              go_wp2_with fail
              go_ret
              exact ⟨rfl, HBE.out _ hHeld.2.2⟩
end Go.Proofs.YtinlnafkmoabbaaGreatDoor.Sg
