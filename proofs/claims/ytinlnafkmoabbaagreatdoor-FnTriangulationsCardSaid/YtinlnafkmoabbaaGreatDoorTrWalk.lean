/- FnTriangulations: the law's own walk. -/
import Derived.Test.YtinlnafkmoabbaaGreatDoorMgTw
import Derived.Test.YtinlnafkmoabbaaGreatDoorMgTt
import Derived.Test.YtinlnafkmoabbaaGreatDoorDrTri
import Derived.Test.YtinlnafkmoabbaaGreatDoorLawInts
import Derived.Test.YtinlnafkmoabbaaGreatDoorTakeH
import Derived.Test.YtinlnafkmoabbaaGreatDoorTiDist
import Derived.Test.YtinlnafkmoabbaaGreatDoorTiTri
import Derived.Deep.DeepCutAuto
import Derived.BigQuiet
namespace Go.Proofs.YtinlnafkmoabbaaGreatDoor.Sg
open Go.RowKit Pt NewI Cur TrText
/-- A list just made. -/
def TmpT (zs : List Int) (a : Option Addr) (W : World) : Prop := ∃ lo hi, NewI.New W lo hi a zs.length (zc zs)
theorem TmpT.on {zs : List Int} {a : Option Addr} {W W' : World} (h : TmpT zs a W) (hb : Below W.heap.size W W') : TmpT zs a W' := by
  obtain ⟨lo, hi, h⟩ := h
  exact ⟨lo, hi, h.on hb⟩
theorem TmpT.get {zs : List Int} {a : Option Addr} {W : World} (h : TmpT zs a W) {i : Nat} (hi : i < zs.length) : ∃ b, a = some ⟨b, 0, none⟩ ∧ W.cell? ⟨b, i, none⟩ = some (.int .i64 (zs.getD i 0)) := by
  obtain ⟨lo, hi', h⟩ := h
  rcases h with h | ⟨g, h1, -, -, h4⟩
  · omega
  · exact ⟨g, h1, by rw [h4.cell i hi]; rfl⟩
/-- What the walk of FnTriangulations keeps: three boxes and two lists. -/
structure MemT (w : World) (bs bt bp : Nat) (ms mt mp : Int) (Ts Tt Tp : ByteArray) (al af : Option Addr) (zs fs : List Int) (W : World) : Prop where
  below : Below w.heap.size w W
  s : OutC bs ms Ts W
  t : OutC bt mt Tt W
  p : OutC bp mp Tp W
  z : TmpT zs al W
  f : TmpT fs af W
theorem MemT.on {w : World} {bs bt bp : Nat} {ms mt mp : Int} {Ts Tt Tp : ByteArray} {al af : Option Addr} {zs fs : List Int} {W W' : World} (h : MemT w bs bt bp ms mt mp Ts Tt Tp al af zs fs W) (hb' : Below W.heap.size W W') : MemT w bs bt bp ms mt mp Ts Tt Tp al af zs fs W' :=
  ⟨h.below.trans (hb'.mono h.below.size), h.s.on hb', h.t.on hb', h.p.on hb', h.z.on hb', h.f.on hb'⟩
theorem getD_memT {zs : List Int} {i : Nat} (h : i < zs.length) : zs.getD i 0 ∈ zs := by
  rw [List.getD_eq_getElem?_getD, List.getElem?_eq_getElem h]
  exact List.getElem_mem h
theorem mem_zl {L : List Nat} {z : Int} (h : z ∈ zl L) : ∃ u : Nat, u ∈ L ∧ z = (u : Int) := by
  unfold zl at h
  obtain ⟨u, h1, h2⟩ := List.mem_map.1 h
  exact ⟨u, h1, h2.symm⟩
theorem zl_mem {L : List Nat} {u : Nat} (h : u ∈ L) : (u : Int) ∈ zl L := List.mem_map.2 ⟨u, h, rfl⟩
theorem hszZ_bd (n : Int) (s : List UInt8) : -1 ≤ hszZ n s ∧ hszZ n s ≤ 7 := by
  unfold hszZ
  split
  · have := setsTo_length (extS (sgnF (lookS n s)) n.toNat (allS n)).testBit 7
    omega
  · omega
theorem flipZ_bd (n : Int) (s : List UInt8) (a k : Int) : (flipZ n s a k).2 = true → (flipZ n s a k).1 < 2097152 := fun h => (ff_facts (flip_in h)).1
set_option maxHeartbeats 12800000 in
set_option maxRecDepth 100000 in
theorem walkFnTriangulations (v : Value) (n : Nat) (w : World) (hv : Bytes w v n w.heap.size) (ht : Lib.TabIs Tryz.prog w "math/bits.deBruijn64tab" .u8 tab64) :
    Calls Tryz.prog 5 #[v] w fun e w' => e = .returned (.bool true) ∧ Below w.heap.size w w' := by
  have HT := Lib.hid (Tab.of ht)
  have HBIG := Lib.hid (fun W (hW : Below w.heap.size w W) => big_any v n W (bytes_up hv hW))
  have HV := Lib.hid (fun W (hW : Below w.heap.size w W) => bytes_up hv hW)
  have B0 := Lib.hid (Below.refl w.heap.size w)
  clear hv ht
  by_cases hbig : (n : Int) > 1048576
  · go_enter Tryz.func5, Tryz.ntmps5
    go_wp2_with fail
    refine (HBIG.out _ B0.out).mono ?_
    rintro e w1 ⟨rfl, rfl⟩
    go_wp2
    go_ret
    exact ⟨rfl, B0.out⟩
  · have hn : n ≤ 9223372036854700000 := by omega
    go_enter Tryz.func5, Tryz.ntmps5
    go_wp2_with fail
    refine (HBIG.out _ B0.out).mono ?_
    rintro e w1 ⟨rfl, rfl⟩
    go_wp2_with fail
    refine (drawTriang_any v n hn _ (HV.out _ B0.out)).mono ?_
    rintro e w2 ⟨ms, Ts, rfl, hms, hTs, hb2⟩
    have B2 := Lib.hid ((B0.out.trans (hb2.mono B0.out.size)).alloc (Nat.le_trans B0.out.size hb2.size) (.cells #[.int .i64 ms, .string Ts] 25))
    have hal2 := (Below.refl w2.heap.size w2).alloc (Nat.le_refl _) (.cells #[.int .i64 ms, .string Ts] 25)
    have S2 := Lib.hid (outC_made w2 ms Ts 25)
    clear hb2 hal2
    obtain ⟨⟨y0, y1⟩, -⟩ := S2.out
    go_wp2_with fail
    refine (implTris ms Ts (by omega) _ (HT.out.on B2.out)).mono ?_
    rintro e w3 ⟨⟨al, cl, rfl, hnw⟩, hb3⟩
    have B3 := Lib.hid (B2.out.trans (hb3.mono B2.out.size))
    have S3 := Lib.hid (S2.out.on hb3)
    have Z3 : Hid (TmpT (zl (triZ ms Ts.data.toList)) al w3) := Lib.hid ⟨_, _, hnw⟩
    clear hb3 hnw B2 S2
    clear y0 y1
    go_wp2_with fail
    refine (drawFlip_any v n hn _ (HV.out _ B3.out)).mono ?_
    rintro e w4 ⟨mt, Tt, a0, k0, rfl, hmt, hTt, ha0, hk0, hb4⟩
    have B4 := Lib.hid ((B3.out.trans (hb4.mono B3.out.size)).alloc (Nat.le_trans B3.out.size hb4.size) (.cells #[.int .i64 mt, .string Tt] 25))
    have hal4 := (Below.refl w4.heap.size w4).alloc (Nat.le_refl _) (.cells #[.int .i64 mt, .string Tt] 25)
    have S4 := Lib.hid ((S3.out.on hb4).on hal4)
    have Z4 := Lib.hid ((Z3.out.on hb4).on hal4)
    have T4 := Lib.hid (outC_made w4 mt Tt 25)
    clear hb4 hal4 B3 S3 Z3
    obtain ⟨⟨y0, y1⟩, -⟩ := T4.out
    go_wp2_with fail
    refine (implFlip mt Tt (by omega) a0 k0 (by unfold I64; omega) (by unfold I64; omega) _ (HT.out.on B4.out)).mono ?_
    rintro e w5 ⟨rfl, hb5⟩
    have B5 := Lib.hid (B4.out.trans (hb5.mono B4.out.size))
    have S5 := Lib.hid (S4.out.on hb5)
    have Z5 := Lib.hid (Z4.out.on hb5)
    have T5 := Lib.hid (T4.out.on hb5)
    clear hb5 B4 S4 Z4 T4
    clear y0 y1
    obtain ⟨⟨y0, y1⟩, -⟩ := T5.out
    go_wp2_with fail
    refine (specFlip mt Tt (by omega) a0 k0 _).mono ?_
    rintro e w6 ⟨rfl, hb6⟩
    have B6 := Lib.hid (B5.out.trans (hb6.mono B5.out.size))
    have S6 := Lib.hid (S5.out.on hb6)
    have Z6 := Lib.hid (Z5.out.on hb6)
    have T6 := Lib.hid (T5.out.on hb6)
    clear hb6 B5 S5 Z5 T5
    clear y0 y1
    go_wp2_with fail
    refine (drawDist_any v n hn _ (HV.out _ B6.out)).mono ?_
    rintro e w7 ⟨mp, Tp, b0, c0, rfl, hmp, hTp, hb0, hc0, hb7⟩
    have B7 := Lib.hid ((B6.out.trans (hb7.mono B6.out.size)).alloc (Nat.le_trans B6.out.size hb7.size) (.cells #[.int .i64 mp, .string Tp] 25))
    have hal7 := (Below.refl w7.heap.size w7).alloc (Nat.le_refl _) (.cells #[.int .i64 mp, .string Tp] 25)
    have S7 := Lib.hid ((S6.out.on hb7).on hal7)
    have Z7 := Lib.hid ((Z6.out.on hb7).on hal7)
    have T7 := Lib.hid ((T6.out.on hb7).on hal7)
    have P7 := Lib.hid (outC_made w7 mp Tp 25)
    clear hb7 hal7 B6 S6 Z6 T6
    obtain ⟨⟨y0, y1⟩, -⟩ := P7.out
    go_wp2_with fail
    refine (implDist mp Tp (by omega) b0 c0 (by unfold I64; omega) (by unfold I64; omega) _ (HT.out.on B7.out)).mono ?_
    rintro e w8 ⟨rfl, hb8⟩
    have B8 := Lib.hid (B7.out.trans (hb8.mono B7.out.size))
    have S8 := Lib.hid (S7.out.on hb8)
    have Z8 := Lib.hid (Z7.out.on hb8)
    have T8 := Lib.hid (T7.out.on hb8)
    have P8 := Lib.hid (P7.out.on hb8)
    clear hb8 B7 S7 Z7 T7 P7
    clear y0 y1
    go_wp2_with fail
    refine (drawText_any v n hn _ (HV.out _ B8.out)).mono ?_
    rintro e w9 ⟨n0, s0, rfl, hn0, hs0, hb9⟩
    have B9 := Lib.hid (B8.out.trans (hb9.mono B8.out.size))
    have S9 := Lib.hid (S8.out.on hb9)
    have Z9 := Lib.hid (Z8.out.on hb9)
    have T9 := Lib.hid (T8.out.on hb9)
    have P9 := Lib.hid (P8.out.on hb9)
    clear hb9 B8 S8 Z8 T8 P8
    obtain ⟨⟨y0, y1⟩, -⟩ := T9.out
    go_wp2_with fail
    refine (implFlips mt Tt (by omega) a0 (by unfold I64; omega) _ (HT.out.on B9.out)).mono ?_
    rintro e w10 ⟨⟨af, cf, rfl, hnw⟩, hb10⟩
    have B10 := Lib.hid (B9.out.trans (hb10.mono B9.out.size))
    have S10 := Lib.hid (S9.out.on hb10)
    have Z10 := Lib.hid (Z9.out.on hb10)
    have T10 := Lib.hid (T9.out.on hb10)
    have P10 := Lib.hid (P9.out.on hb10)
    have F10 : Hid (TmpT (zl (ffZ mt Tt.data.toList a0)) af w10) := Lib.hid ⟨_, _, hnw⟩
    clear hb10 hnw B9 S9 Z9 T9 P9
    clear y0 y1
    go_upto_region 12 with fail
    generalize hbs : w2.heap.size = bs at S10 ⊢
    clear hbs
    generalize hbt : w4.heap.size = bt at T10 ⊢
    clear hbt
    generalize hbp : w7.heap.size = bp at P10 ⊢
    clear hbp
    -- the memory, packed
    obtain ⟨PK, hPK⟩ : ∃ P : World → Prop, P = MemT w1 bs bt bp ms mt mp Ts Tt Tp al af (zl (triZ ms Ts.data.toList)) (zl (ffZ mt Tt.data.toList a0)) := ⟨_, rfl⟩
    have Q8 : Hid (PK w10) := Lib.hid (by rw [hPK]; exact ⟨B10.out, S10.out, T10.out, P10.out, Z10.out, F10.out⟩)
    have HDR : Hid (∀ W, PK W → PK W.drew) := Lib.hid (by rw [hPK]; exact fun W h => h.on (Below.refl _ _).drew)
    have HON : Hid (∀ W W', PK W → Below W.heap.size W W' → PK W') := Lib.hid (by rw [hPK]; exact fun W W' h hb => h.on hb)
    have HBE : Hid (∀ W, PK W → Below w1.heap.size w1 W) := Lib.hid (by rw [hPK]; exact fun W h => h.below)
    have HTB : Hid (∀ W, PK W → Tab W) := Lib.hid (fun W h => HT.out.on (HBE.out W h))
    have HZZ : Hid (∀ W, PK W → TmpT (zl (triZ ms Ts.data.toList)) al W) := Lib.hid (by rw [hPK]; exact fun W h => h.z)
    have HFZ : Hid (∀ W, PK W → TmpT (zl (ffZ mt Tt.data.toList a0)) af W) := Lib.hid (by rw [hPK]; exact fun W h => h.f)
    have HCstp : Hid (∀ W, PK W → W.cell? ⟨bs, 0, none⟩ = some (.int .i64 ms) ∧ W.cell? ⟨bs, 1, none⟩ = some (.string Ts) ∧ W.cell? ⟨bt, 0, none⟩ = some (.int .i64 mt) ∧ W.cell? ⟨bt, 1, none⟩ = some (.string Tt) ∧ W.cell? ⟨bp, 0, none⟩ = some (.int .i64 mp) ∧ W.cell? ⟨bp, 1, none⟩ = some (.string Tp) ∧ PK W) := Lib.hid (fun W hk => by have h := hk; rw [hPK] at h; exact ⟨h.s.1.1, h.s.1.2, h.t.1.1, h.t.1.2, h.p.1.1, h.p.1.2, hk⟩)
    have HCs : Hid (∀ W, PK W → W.cell? ⟨bs, 0, none⟩ = some (.int .i64 ms) ∧ W.cell? ⟨bs, 1, none⟩ = some (.string Ts) ∧ PK W) := Lib.hid (fun W hk => by have h := hk; rw [hPK] at h; exact ⟨h.s.1.1, h.s.1.2, hk⟩)
    have HCt : Hid (∀ W, PK W → W.cell? ⟨bt, 0, none⟩ = some (.int .i64 mt) ∧ W.cell? ⟨bt, 1, none⟩ = some (.string Tt) ∧ PK W) := Lib.hid (fun W hk => by have h := hk; rw [hPK] at h; exact ⟨h.t.1.1, h.t.1.2, hk⟩)
    have HCp : Hid (∀ W, PK W → W.cell? ⟨bp, 0, none⟩ = some (.int .i64 mp) ∧ W.cell? ⟨bp, 1, none⟩ = some (.string Tp) ∧ PK W) := Lib.hid (fun W hk => by have h := hk; rw [hPK] at h; exact ⟨h.p.1.1, h.p.1.2, hk⟩)
    clear hPK HV B0 HBIG B10 S10 Z10 T10 P10 F10
    have hzl := triZ_len15 ms Ts.data.toList
    have hfl := ffZ_len mt Tt.data.toList a0
    have hhz := hszZ_bd ms Ts.data.toList
    have HS1 : Hid (∀ W, (W.cell? ⟨bs, 0, none⟩ = some (.int .i64 ms) ∧ W.cell? ⟨bs, 1, none⟩ = some (.string Ts) ∧ W.cell? ⟨bt, 0, none⟩ = some (.int .i64 mt) ∧ W.cell? ⟨bt, 1, none⟩ = some (.string Tt) ∧ W.cell? ⟨bp, 0, none⟩ = some (.int .i64 mp) ∧ W.cell? ⟨bp, 1, none⟩ = some (.string Tp) ∧ PK W) → Calls Tryz.prog 60 #[sg ms Ts] W fun e w' => (∃ a' c', e = .returned (.slice a' (zl (triZ ms Ts.data.toList)).length c') ∧ TmpT (zl (triZ ms Ts.data.toList)) a' w') ∧ w'.cell? ⟨bs, 0, none⟩ = some (.int .i64 ms) ∧ w'.cell? ⟨bs, 1, none⟩ = some (.string Ts) ∧ w'.cell? ⟨bt, 0, none⟩ = some (.int .i64 mt) ∧ w'.cell? ⟨bt, 1, none⟩ = some (.string Tt) ∧ w'.cell? ⟨bp, 0, none⟩ = some (.int .i64 mp) ∧ w'.cell? ⟨bp, 1, none⟩ = some (.string Tp) ∧ PK w') := Lib.hid (fun W hW => by
      refine (specTris ms Ts (by omega) W).mono fun e w' ⟨⟨a', c', he, hn'⟩, hb⟩ => ⟨⟨a', c', he, _, _, hn'⟩, HCstp.out _ (HON.out _ _ (hW.2.2.2.2.2.2) hb)⟩)
    have HE1 : Hid (∀ a' c' W, (W.cell? ⟨bs, 0, none⟩ = some (.int .i64 ms) ∧ W.cell? ⟨bs, 1, none⟩ = some (.string Ts) ∧ W.cell? ⟨bt, 0, none⟩ = some (.int .i64 mt) ∧ W.cell? ⟨bt, 1, none⟩ = some (.string Tt) ∧ W.cell? ⟨bp, 0, none⟩ = some (.int .i64 mp) ∧ W.cell? ⟨bp, 1, none⟩ = some (.string Tp) ∧ PK W) → TmpT (zl (triZ ms Ts.data.toList)) a' W → Calls Tryz.prog 14 #[.slice al (zl (triZ ms Ts.data.toList)).length cl, .slice a' (zl (triZ ms Ts.data.toList)).length c'] W fun e w' => e = .returned (.bool true) ∧ w'.cell? ⟨bs, 0, none⟩ = some (.int .i64 ms) ∧ w'.cell? ⟨bs, 1, none⟩ = some (.string Ts) ∧ w'.cell? ⟨bt, 0, none⟩ = some (.int .i64 mt) ∧ w'.cell? ⟨bt, 1, none⟩ = some (.string Tt) ∧ w'.cell? ⟨bp, 0, none⟩ = some (.int .i64 mp) ∧ w'.cell? ⟨bp, 1, none⟩ = some (.string Tp) ∧ PK w') := Lib.hid (fun a' c' W hW ⟨lo, hi, h2⟩ => by
      obtain ⟨lo0, hi0, h1⟩ := HZZ.out _ (hW.2.2.2.2.2.2)
      refine (sameInts_eq al a' cl c' lo0 hi0 lo hi (zl (triZ ms Ts.data.toList)) (by omega) W h1 h2).mono fun e w' ⟨he, hb⟩ => ⟨he, HCstp.out _ (HON.out _ _ (hW.2.2.2.2.2.2) hb)⟩)
    have HS2 : Hid (∀ W, (W.cell? ⟨bs, 0, none⟩ = some (.int .i64 ms) ∧ W.cell? ⟨bs, 1, none⟩ = some (.string Ts) ∧ W.cell? ⟨bt, 0, none⟩ = some (.int .i64 mt) ∧ W.cell? ⟨bt, 1, none⟩ = some (.string Tt) ∧ W.cell? ⟨bp, 0, none⟩ = some (.int .i64 mp) ∧ W.cell? ⟨bp, 1, none⟩ = some (.string Tp) ∧ PK W) → Calls Tryz.prog 64 #[sg mt Tt, .int .i64 a0] W fun e w' => (∃ a' c', e = .returned (.slice a' (zl (ffZ mt Tt.data.toList a0)).length c') ∧ TmpT (zl (ffZ mt Tt.data.toList a0)) a' w') ∧ w'.cell? ⟨bs, 0, none⟩ = some (.int .i64 ms) ∧ w'.cell? ⟨bs, 1, none⟩ = some (.string Ts) ∧ w'.cell? ⟨bt, 0, none⟩ = some (.int .i64 mt) ∧ w'.cell? ⟨bt, 1, none⟩ = some (.string Tt) ∧ w'.cell? ⟨bp, 0, none⟩ = some (.int .i64 mp) ∧ w'.cell? ⟨bp, 1, none⟩ = some (.string Tp) ∧ PK w') := Lib.hid (fun W hW => by
      refine (specFlips mt Tt (by omega) a0 W).mono fun e w' ⟨⟨a', c', he, hn'⟩, hb⟩ => ⟨⟨a', c', he, _, _, hn'⟩, HCstp.out _ (HON.out _ _ (hW.2.2.2.2.2.2) hb)⟩)
    have HE2 : Hid (∀ a' c' W, (W.cell? ⟨bs, 0, none⟩ = some (.int .i64 ms) ∧ W.cell? ⟨bs, 1, none⟩ = some (.string Ts) ∧ W.cell? ⟨bt, 0, none⟩ = some (.int .i64 mt) ∧ W.cell? ⟨bt, 1, none⟩ = some (.string Tt) ∧ W.cell? ⟨bp, 0, none⟩ = some (.int .i64 mp) ∧ W.cell? ⟨bp, 1, none⟩ = some (.string Tp) ∧ PK W) → TmpT (zl (ffZ mt Tt.data.toList a0)) a' W → Calls Tryz.prog 14 #[.slice af (zl (ffZ mt Tt.data.toList a0)).length cf, .slice a' (zl (ffZ mt Tt.data.toList a0)).length c'] W fun e w' => e = .returned (.bool true) ∧ w'.cell? ⟨bs, 0, none⟩ = some (.int .i64 ms) ∧ w'.cell? ⟨bs, 1, none⟩ = some (.string Ts) ∧ w'.cell? ⟨bt, 0, none⟩ = some (.int .i64 mt) ∧ w'.cell? ⟨bt, 1, none⟩ = some (.string Tt) ∧ w'.cell? ⟨bp, 0, none⟩ = some (.int .i64 mp) ∧ w'.cell? ⟨bp, 1, none⟩ = some (.string Tp) ∧ PK w') := Lib.hid (fun a' c' W hW ⟨lo, hi, h2⟩ => by
      obtain ⟨lo0, hi0, h1⟩ := HFZ.out _ (hW.2.2.2.2.2.2)
      refine (sameInts_eq af a' cf c' lo0 hi0 lo hi (zl (ffZ mt Tt.data.toList a0)) (by omega) W h1 h2).mono fun e w' ⟨he, hb⟩ => ⟨he, HCstp.out _ (HON.out _ _ (hW.2.2.2.2.2.2) hb)⟩)
    have HDS : Hid (∀ W, (W.cell? ⟨bs, 0, none⟩ = some (.int .i64 ms) ∧ W.cell? ⟨bs, 1, none⟩ = some (.string Ts) ∧ W.cell? ⟨bt, 0, none⟩ = some (.int .i64 mt) ∧ W.cell? ⟨bt, 1, none⟩ = some (.string Tt) ∧ W.cell? ⟨bp, 0, none⟩ = some (.int .i64 mp) ∧ W.cell? ⟨bp, 1, none⟩ = some (.string Tp) ∧ PK W) → Calls Tryz.prog 61 #[sg mp Tp, .int .i64 b0, .int .i64 c0] W fun e w' => e = .returned (.int .i64 (fdZ mp Tp.data.toList b0 c0)) ∧ w'.cell? ⟨bs, 0, none⟩ = some (.int .i64 ms) ∧ w'.cell? ⟨bs, 1, none⟩ = some (.string Ts) ∧ w'.cell? ⟨bt, 0, none⟩ = some (.int .i64 mt) ∧ w'.cell? ⟨bt, 1, none⟩ = some (.string Tt) ∧ w'.cell? ⟨bp, 0, none⟩ = some (.int .i64 mp) ∧ w'.cell? ⟨bp, 1, none⟩ = some (.string Tp) ∧ PK w') := Lib.hid (fun W hW => by
      refine (specDist mp Tp (by omega) b0 c0 W).mono fun e w' ⟨he, hb⟩ => ⟨he, HCstp.out _ (HON.out _ _ (hW.2.2.2.2.2.2) hb)⟩)
    have HXI : Hid (∀ W, (W.cell? ⟨bs, 0, none⟩ = some (.int .i64 ms) ∧ W.cell? ⟨bs, 1, none⟩ = some (.string Ts) ∧ W.cell? ⟨bt, 0, none⟩ = some (.int .i64 mt) ∧ W.cell? ⟨bt, 1, none⟩ = some (.string Tt) ∧ W.cell? ⟨bp, 0, none⟩ = some (.int .i64 mp) ∧ W.cell? ⟨bp, 1, none⟩ = some (.string Tp) ∧ PK W) → Calls Tryz.prog 62 #[.int .i64 n0, .int .i64 s0] W fun e w' => e = .returned (.string (etZ n0 s0)) ∧ w'.cell? ⟨bs, 0, none⟩ = some (.int .i64 ms) ∧ w'.cell? ⟨bs, 1, none⟩ = some (.string Ts) ∧ w'.cell? ⟨bt, 0, none⟩ = some (.int .i64 mt) ∧ w'.cell? ⟨bt, 1, none⟩ = some (.string Tt) ∧ w'.cell? ⟨bp, 0, none⟩ = some (.int .i64 mp) ∧ w'.cell? ⟨bp, 1, none⟩ = some (.string Tp) ∧ PK w') := Lib.hid (fun W hW => by
      refine (implEdgesText n0 s0 (by unfold I64; omega) (by unfold I64; omega) W (HTB.out W (hW.2.2.2.2.2.2))).mono fun e w' ⟨he, hb⟩ => ⟨he, HCstp.out _ (HON.out _ _ (hW.2.2.2.2.2.2) hb)⟩)
    have HXS : Hid (∀ W, (W.cell? ⟨bs, 0, none⟩ = some (.int .i64 ms) ∧ W.cell? ⟨bs, 1, none⟩ = some (.string Ts) ∧ W.cell? ⟨bt, 0, none⟩ = some (.int .i64 mt) ∧ W.cell? ⟨bt, 1, none⟩ = some (.string Tt) ∧ W.cell? ⟨bp, 0, none⟩ = some (.int .i64 mp) ∧ W.cell? ⟨bp, 1, none⟩ = some (.string Tp) ∧ PK W) → Calls Tryz.prog 63 #[.int .i64 n0, .int .i64 s0] W fun e w' => e = .returned (.string (etZ n0 s0)) ∧ w'.cell? ⟨bs, 0, none⟩ = some (.int .i64 ms) ∧ w'.cell? ⟨bs, 1, none⟩ = some (.string Ts) ∧ w'.cell? ⟨bt, 0, none⟩ = some (.int .i64 mt) ∧ w'.cell? ⟨bt, 1, none⟩ = some (.string Tt) ∧ w'.cell? ⟨bp, 0, none⟩ = some (.int .i64 mp) ∧ w'.cell? ⟨bp, 1, none⟩ = some (.string Tp) ∧ PK w') := Lib.hid (fun W hW => by
      refine (specEdgesText n0 s0 W).mono fun e w' ⟨he, hb⟩ => ⟨he, HCstp.out _ (HON.out _ _ (hW.2.2.2.2.2.2) hb)⟩)
    have HII : Hid (∀ W, (W.cell? ⟨bs, 0, none⟩ = some (.int .i64 ms) ∧ W.cell? ⟨bs, 1, none⟩ = some (.string Ts) ∧ W.cell? ⟨bt, 0, none⟩ = some (.int .i64 mt) ∧ W.cell? ⟨bt, 1, none⟩ = some (.string Tt) ∧ W.cell? ⟨bp, 0, none⟩ = some (.int .i64 mp) ∧ W.cell? ⟨bp, 1, none⟩ = some (.string Tp) ∧ PK W) → Calls Tryz.prog 65 #[sg mt Tt, .int .i64 a0] W fun e w' => e = .returned (.bool (itB mt Tt.data.toList a0)) ∧ w'.cell? ⟨bs, 0, none⟩ = some (.int .i64 ms) ∧ w'.cell? ⟨bs, 1, none⟩ = some (.string Ts) ∧ w'.cell? ⟨bt, 0, none⟩ = some (.int .i64 mt) ∧ w'.cell? ⟨bt, 1, none⟩ = some (.string Tt) ∧ w'.cell? ⟨bp, 0, none⟩ = some (.int .i64 mp) ∧ w'.cell? ⟨bp, 1, none⟩ = some (.string Tp) ∧ PK w') := Lib.hid (fun W hW => by
      refine (implIsTri mt Tt (by omega) a0 (by unfold I64; omega) W (HTB.out W (hW.2.2.2.2.2.2))).mono fun e w' ⟨he, hb⟩ => ⟨he, HCstp.out _ (HON.out _ _ (hW.2.2.2.2.2.2) hb)⟩)
    have HIS : Hid (∀ W, (W.cell? ⟨bs, 0, none⟩ = some (.int .i64 ms) ∧ W.cell? ⟨bs, 1, none⟩ = some (.string Ts) ∧ W.cell? ⟨bt, 0, none⟩ = some (.int .i64 mt) ∧ W.cell? ⟨bt, 1, none⟩ = some (.string Tt) ∧ W.cell? ⟨bp, 0, none⟩ = some (.int .i64 mp) ∧ W.cell? ⟨bp, 1, none⟩ = some (.string Tp) ∧ PK W) → Calls Tryz.prog 66 #[sg mt Tt, .int .i64 a0] W fun e w' => e = .returned (.bool (itB mt Tt.data.toList a0)) ∧ w'.cell? ⟨bs, 0, none⟩ = some (.int .i64 ms) ∧ w'.cell? ⟨bs, 1, none⟩ = some (.string Ts) ∧ w'.cell? ⟨bt, 0, none⟩ = some (.int .i64 mt) ∧ w'.cell? ⟨bt, 1, none⟩ = some (.string Tt) ∧ w'.cell? ⟨bp, 0, none⟩ = some (.int .i64 mp) ∧ w'.cell? ⟨bp, 1, none⟩ = some (.string Tp) ∧ PK w') := Lib.hid (fun W hW => by
      refine (specIsTri mt Tt (by omega) a0 W).mono fun e w' ⟨he, hb⟩ => ⟨he, HCstp.out _ (HON.out _ _ (hW.2.2.2.2.2.2) hb)⟩)
    have HTI : Hid (∀ W, (W.cell? ⟨bs, 0, none⟩ = some (.int .i64 ms) ∧ W.cell? ⟨bs, 1, none⟩ = some (.string Ts) ∧ W.cell? ⟨bt, 0, none⟩ = some (.int .i64 mt) ∧ W.cell? ⟨bt, 1, none⟩ = some (.string Tt) ∧ W.cell? ⟨bp, 0, none⟩ = some (.int .i64 mp) ∧ W.cell? ⟨bp, 1, none⟩ = some (.string Tp) ∧ PK W) → Calls Tryz.prog 67 #[sg mt Tt, .int .i64 a0] W fun e w' => e = .returned (.int .i64 (trsZ mt Tt.data.toList a0)) ∧ w'.cell? ⟨bs, 0, none⟩ = some (.int .i64 ms) ∧ w'.cell? ⟨bs, 1, none⟩ = some (.string Ts) ∧ w'.cell? ⟨bt, 0, none⟩ = some (.int .i64 mt) ∧ w'.cell? ⟨bt, 1, none⟩ = some (.string Tt) ∧ w'.cell? ⟨bp, 0, none⟩ = some (.int .i64 mp) ∧ w'.cell? ⟨bp, 1, none⟩ = some (.string Tp) ∧ PK w') := Lib.hid (fun W hW => by
      refine (implTriangles mt Tt (by omega) a0 (by unfold I64; omega) W (HTB.out W (hW.2.2.2.2.2.2))).mono fun e w' ⟨he, hb⟩ => ⟨he, HCstp.out _ (HON.out _ _ (hW.2.2.2.2.2.2) hb)⟩)
    have HTS : Hid (∀ W, (W.cell? ⟨bs, 0, none⟩ = some (.int .i64 ms) ∧ W.cell? ⟨bs, 1, none⟩ = some (.string Ts) ∧ W.cell? ⟨bt, 0, none⟩ = some (.int .i64 mt) ∧ W.cell? ⟨bt, 1, none⟩ = some (.string Tt) ∧ W.cell? ⟨bp, 0, none⟩ = some (.int .i64 mp) ∧ W.cell? ⟨bp, 1, none⟩ = some (.string Tp) ∧ PK W) → Calls Tryz.prog 68 #[sg mt Tt, .int .i64 a0] W fun e w' => e = .returned (.int .i64 (trsZ mt Tt.data.toList a0)) ∧ w'.cell? ⟨bs, 0, none⟩ = some (.int .i64 ms) ∧ w'.cell? ⟨bs, 1, none⟩ = some (.string Ts) ∧ w'.cell? ⟨bt, 0, none⟩ = some (.int .i64 mt) ∧ w'.cell? ⟨bt, 1, none⟩ = some (.string Tt) ∧ w'.cell? ⟨bp, 0, none⟩ = some (.int .i64 mp) ∧ w'.cell? ⟨bp, 1, none⟩ = some (.string Tp) ∧ PK w') := Lib.hid (fun W hW => by
      refine (specTriangles mt Tt (by omega) a0 W).mono fun e w' ⟨he, hb⟩ => ⟨he, HCstp.out _ (HON.out _ _ (hW.2.2.2.2.2.2) hb)⟩)
    have PHZ : Hid (∀ W, PK W → Calls Tryz.prog 50 #[sg ms Ts] W fun e w' => e = .returned (.int .i64 (hszZ ms Ts.data.toList)) ∧ PK w') := Lib.hid (fun W hW => (specHullSize ms Ts (by omega) W).mono fun e w' ⟨he, hb⟩ => ⟨he, HON.out _ _ hW hb⟩)
    have PFR : Hid (∀ W, PK W → Calls Tryz.prog 47 #[sg ms Ts] W fun e w' => e = .returned (.int .i64 (frZ ms Ts.data.toList)) ∧ PK w') := Lib.hid (fun W hW => (specFreeEdges ms Ts (by omega) W).mono fun e w' ⟨he, hb⟩ => ⟨he, HON.out _ _ hW hb⟩)
    have PAC : Hid (∀ W, PK W → Calls Tryz.prog 27 #[sg ms Ts] W fun e w' => e = .returned (.bool (aciB ms Ts.data.toList)) ∧ PK w') := Lib.hid (fun W hW => (specAci ms Ts (by omega) W).mono fun e w' ⟨he, hb⟩ => ⟨he, HON.out _ _ hW hb⟩)
    have HTF : Hid (∀ z ∈ (zl (triZ ms Ts.data.toList)), (∀ W, Calls Tryz.prog 26 #[.int .i64 z] W fun e w' => e = .returned (.int .i64 (3 * (ms : Int) - 3 - (hszZ ms Ts.data.toList))) ∧ W = w') ∧ (∀ W, PK W → Calls Tryz.prog 65 #[sg ms Ts, .int .i64 z] W fun e w' => e = .returned (.bool true) ∧ PK w') ∧ (∀ W, PK W → Calls Tryz.prog 67 #[sg ms Ts, .int .i64 z] W fun e w' => e = .returned (.int .i64 (2 * (ms : Int) - 2 - (hszZ ms Ts.data.toList))) ∧ PK w') ∧ bits BinOp.andNot IntKind.i64 (frZ ms Ts.data.toList) z = 0) := Lib.hid (fun z hz => by
      obtain ⟨u, hu, rfl⟩ := mem_zl hz
      obtain ⟨h1, h2, h3, h4, h5⟩ := tri_facts hu
      refine ⟨fun W => ?_, fun W hW => ?_, fun W hW => ?_, h5⟩
      · rw [← h2]; exact sizeE_any u h1 W
      · refine (implIsTri ms Ts (by omega) u (by unfold I64; omega) W (HTB.out W (hW))).mono fun e w' ⟨he, hb⟩ => ⟨by rw [he, h3], HON.out _ _ hW hb⟩
      · refine (implTriangles ms Ts (by omega) u (by unfold I64; omega) W (HTB.out W (hW))).mono fun e w' ⟨he, hb⟩ => ⟨by rw [he, h4], HON.out _ _ hW hb⟩)
    have HFF : Hid (∀ z ∈ (zl (ffZ mt Tt.data.toList a0)), ∀ W, PK W → Calls Tryz.prog 57 #[sg mt Tt, .int .i64 a0, .int .i64 z] W fun e w' => e = .returned (.int .i64 1) ∧ PK w') := Lib.hid (fun z hz W hW => by
      obtain ⟨u, hu, rfl⟩ := mem_zl hz
      obtain ⟨h1, -, -, h4, -⟩ := ff_facts hu
      refine (implDist mt Tt (by omega) a0 u (by unfold I64; omega) (by unfold I64; omega) W (HTB.out W (hW))).mono fun e w' ⟨he, hb⟩ => ⟨by rw [he, h4], HON.out _ _ hW hb⟩)
    have PF1 : Hid ((flipZ mt Tt.data.toList a0 k0).2 = true → ∀ W, PK W → Calls Tryz.prog 25 #[.slice af (zl (ffZ mt Tt.data.toList a0)).length cf, .int .i64 ((flipZ mt Tt.data.toList a0 k0).1 : Nat)] W fun e w' => e = .returned (.bool true) ∧ PK w') := Lib.hid (fun h W hW => by
      obtain ⟨lo, hi, h1⟩ := HFZ.out _ hW
      refine (hasInt_any af cf lo hi (zl (ffZ mt Tt.data.toList a0)) (by omega) ((flipZ mt Tt.data.toList a0 k0).1 : Nat) W h1).mono fun e w' ⟨he, hb⟩ => ⟨by rw [he, decide_eq_true (zl_mem (flip_in h))], HON.out _ _ hW hb⟩)
    have PF2 : Hid ((flipZ mt Tt.data.toList a0 k0).2 = true → ∀ W, PK W → Calls Tryz.prog 65 #[sg mt Tt, .int .i64 ((flipZ mt Tt.data.toList a0 k0).1 : Nat)] W fun e w' => e = .returned (.bool true) ∧ PK w') := Lib.hid (fun h W hW => by
      have hlt := flipZ_bd mt Tt.data.toList a0 k0 h
      refine (implIsTri mt Tt (by omega) ((flipZ mt Tt.data.toList a0 k0).1 : Nat) (by unfold I64; omega) W (HTB.out W (hW))).mono fun e w' ⟨he, hb⟩ => ⟨by rw [he, (ff_facts (flip_in h)).2.2.1], HON.out _ _ hW hb⟩)
    have PF3 : Hid ((flipZ mt Tt.data.toList a0 k0).2 = true → ∀ W, PK W → Calls Tryz.prog 59 #[sg mt Tt, .int .i64 ((flipZ mt Tt.data.toList a0 k0).1 : Nat)] W fun e w' => (∃ a' c', e = .returned (.slice a' (zl (ffZ mt Tt.data.toList ((flipZ mt Tt.data.toList a0 k0).1 : Nat))).length c') ∧ TmpT (zl (ffZ mt Tt.data.toList ((flipZ mt Tt.data.toList a0 k0).1 : Nat))) a' w') ∧ PK w') := Lib.hid (fun h W hW => by
      have hlt := flipZ_bd mt Tt.data.toList a0 k0 h
      refine (implFlips mt Tt (by omega) ((flipZ mt Tt.data.toList a0 k0).1 : Nat) (by unfold I64; omega) W (HTB.out W (hW))).mono fun e w' ⟨⟨a', c', he, hn'⟩, hb⟩ => ⟨⟨a', c', he, _, _, hn'⟩, HON.out _ _ hW hb⟩)
    have PF4 : Hid ((flipZ mt Tt.data.toList a0 k0).2 = true → ∀ a' c' W, PK W → TmpT (zl (ffZ mt Tt.data.toList ((flipZ mt Tt.data.toList a0 k0).1 : Nat))) a' W → Calls Tryz.prog 25 #[.slice a' (zl (ffZ mt Tt.data.toList ((flipZ mt Tt.data.toList a0 k0).1 : Nat))).length c', .int .i64 a0] W fun e w' => e = .returned (.bool true) ∧ PK w') := Lib.hid (fun h a' c' W hW ⟨lo, hi, h1⟩ => by
      have hgl := ffZ_len mt Tt.data.toList ((flipZ mt Tt.data.toList a0 k0).1 : Nat)
      obtain ⟨-, -, -, -, t, ht, hm⟩ := ff_facts (flip_in h)
      refine (hasInt_any a' c' lo hi (zl (ffZ mt Tt.data.toList ((flipZ mt Tt.data.toList a0 k0).1 : Nat))) (by omega) a0 W h1).mono fun e w' ⟨he, hb⟩ => ⟨by rw [he, decide_eq_true (by rw [ht]; exact zl_mem (ht ▸ hm))], HON.out _ _ hW hb⟩)
    have PB1 : Hid (∀ W, PK W → Calls Tryz.prog 65 #[sg mp Tp, .int .i64 b0] W fun e w' => e = .returned (.bool (itB mp Tp.data.toList b0)) ∧ PK w') := Lib.hid (fun W hW => (implIsTri mp Tp (by omega) b0 (by unfold I64; omega) W (HTB.out W (hW))).mono fun e w' ⟨he, hb⟩ => ⟨he, HON.out _ _ hW hb⟩)
    have PB2 : Hid (∀ W, PK W → Calls Tryz.prog 65 #[sg mp Tp, .int .i64 c0] W fun e w' => e = .returned (.bool (itB mp Tp.data.toList c0)) ∧ PK w') := Lib.hid (fun W hW => (implIsTri mp Tp (by omega) c0 (by unfold I64; omega) W (HTB.out W (hW))).mono fun e w' ⟨he, hb⟩ => ⟨he, HON.out _ _ hW hb⟩)
    have PB3 : Hid (∀ W, PK W → Calls Tryz.prog 57 #[sg mp Tp, .int .i64 c0, .int .i64 b0] W fun e w' => e = .returned (.int .i64 (fdZ mp Tp.data.toList c0 b0)) ∧ PK w') := Lib.hid (fun W hW => (implDist mp Tp (by omega) c0 b0 (by unfold I64; omega) (by unfold I64; omega) W (HTB.out W (hW))).mono fun e w' ⟨he, hb⟩ => ⟨he, HON.out _ _ hW hb⟩)
    have HDD : Hid (itB mp Tp.data.toList b0 = true → itB mp Tp.data.toList c0 = true → 0 ≤ (fdZ mp Tp.data.toList b0 c0) ∧ fdZ mp Tp.data.toList c0 b0 = (fdZ mp Tp.data.toList b0 c0) ∧ ((fdZ mp Tp.data.toList b0 c0) = 0 ↔ b0 = c0)) := Lib.hid (fun h1 h2 => dist_facts h1 h2)
    have HSM : Hid (((aciB ms Ts.data.toList) && decide ((ms : Int) ≤ 6)) = decide (0 < (zl (triZ ms Ts.data.toList)).length)) := Lib.hid (by rw [zl_length]; exact tri_some ms Ts.data.toList)
    clear hTs hTt hTp
    generalize hz1 : (fdZ mp Tp.data.toList b0 c0) = dz at HDS HDD ⊢
    generalize hz2 : fdZ mp Tp.data.toList c0 b0 = d2 at PB3 HDD
    generalize hz3 : itB mp Tp.data.toList b0 = ib at PB1 HDD
    generalize hz4 : itB mp Tp.data.toList c0 = ic at PB2 HDD
    generalize hz5 : (etZ n0 s0) = et at HXI HXS
    generalize hz6 : (itB mt Tt.data.toList a0) = it at HII HIS
    generalize hz7 : (trsZ mt Tt.data.toList a0) = tr at HTI HTS
    generalize hz8 : (hszZ ms Ts.data.toList) = hz at PHZ HTF hhz
    generalize hz9 : (frZ ms Ts.data.toList) = fr at PFR HTF
    generalize hza : (aciB ms Ts.data.toList) = ac at PAC HSM
    generalize hzb : (zl (ffZ mt Tt.data.toList ((flipZ mt Tt.data.toList a0 k0).1 : Nat))) = gs at PF3 PF4
    generalize hzc : (flipZ mt Tt.data.toList a0 k0) = fl at PF1 PF2 PF3 PF4 ⊢
    generalize hzd : (zl (triZ ms Ts.data.toList)) = zs at HZZ HS1 HE1 HTF HSM hzl ⊢
    generalize hze : (zl (ffZ mt Tt.data.toList a0)) = fs at HFZ HS2 HE2 HFF PF1 hfl ⊢
    clear hz1 hz2 hz3 hz4 hz5 hz6 hz7 hz8 hz9 hza hzb hzc hzd hze
    obtain ⟨fv, fo⟩ := fl
    dsimp only at PF1 PF2 PF3 PF4 ⊢
    have g1 : (fo != fo) = false := by cases fo <;> rfl
    have g2 : (((fv : Nat) : Int) != ((fv : Nat) : Int)) = false := by simp
    have g3 : (dz != dz) = false := by simp
    have g5 : (it != it) = false := by cases it <;> rfl
    have g6 : (tr != tr) = false := by simp
    go_cut [123] (fun cv wx => cv = .bool false ∧ Hid (PK wx))
    case first =>
      as_aux_lemma =>
      refine wp_region_held (S := fun W => W.cell? ⟨bs, 0, none⟩ = some (.int .i64 ms) ∧ W.cell? ⟨bs, 1, none⟩ = some (.string Ts) ∧ W.cell? ⟨bt, 0, none⟩ = some (.int .i64 mt) ∧ W.cell? ⟨bt, 1, none⟩ = some (.string Tt) ∧ W.cell? ⟨bp, 0, none⟩ = some (.int .i64 mp) ∧ W.cell? ⟨bp, 1, none⟩ = some (.string Tp) ∧ PK W) rfl ?_
      have hHeld := (HCstp.out _ (HDR.out _ Q8.out))
      (refine Held.takeH (i := 0) (k := 66) (v := ?_) rfl (by as_aux_lemma => kernel_rfl) (by as_aux_lemma => kernel_rfl) (by as_aux_lemma => kernel_rfl) (by as_aux_lemma => kernel_rfl) (fun _ _ _ h => h) (Or.inl ⟨by rfl, ?_⟩) (by assumption) ?_; rotate_left; (focus (intro w hSw; (try dsimp only at hSw); go_simp; (try with_reducible rfl))); (simp only [List.setIfInBounds_toArray, List.set_cons_zero, List.set_cons_succ]))
      (refine Held.takeH (i := 1) (k := 67) (v := ?_) rfl (by as_aux_lemma => kernel_rfl) (by as_aux_lemma => kernel_rfl) (by as_aux_lemma => kernel_rfl) (by as_aux_lemma => kernel_rfl) (fun _ _ _ h => h) (Or.inl ⟨by rfl, ?_⟩) (by assumption) ?_; rotate_left; (focus (intro w hSw; (try dsimp only at hSw); go_simp; (try with_reducible rfl))); (simp only [List.setIfInBounds_toArray, List.set_cons_zero, List.set_cons_succ]))
      refine wpAnyH_ready (rs := [2]) (by as_aux_lemma => kernel_rfl) (by simp) ?_
      refine AllReadyH.cons rfl (fun K hK => ?_) AllReadyH.nil
      go_simp
      refine (HS1.out _ hHeld).mono ?_
      rintro e' w' ⟨⟨a1', c1', rfl, t1'⟩, hS'⟩
      refine hK.out _ _ hS' (fun hHeld => ?_)
      clear hK K
      try simp only [Act.put, List.setIfInBounds_toArray, List.set_cons_zero, List.set_cons_succ]
      refine wpAnyH_ready (rs := [3]) (by as_aux_lemma => kernel_rfl) (by simp) ?_
      refine AllReadyH.cons rfl (fun K hK => ?_) AllReadyH.nil
      go_simp
      refine (HE1.out _ _ _ hHeld t1').mono ?_
      rintro e' w' ⟨rfl, hS'⟩
      refine hK.out _ _ hS' (fun hHeld => ?_)
      clear hK K
      try simp only [Act.put, List.setIfInBounds_toArray, List.set_cons_zero, List.set_cons_succ]
      (refine Held.takeH (i := 4) (k := 70) (v := .bool false) rfl (by as_aux_lemma => kernel_rfl) (by as_aux_lemma => kernel_rfl) (by as_aux_lemma => kernel_rfl) (by as_aux_lemma => kernel_rfl) (fun _ _ _ h => h) (Or.inl ⟨by rfl, ?_⟩) (by assumption) ?_; (focus (intro w hSw; (try dsimp only at hSw); go_simp; (try rfl))); (simp only [List.setIfInBounds_toArray, List.set_cons_zero, List.set_cons_succ]))
      (refine Held.takeH (i := 5) (k := 71) (v := .bool false) rfl (by as_aux_lemma => kernel_rfl) (by as_aux_lemma => kernel_rfl) (by as_aux_lemma => kernel_rfl) (by as_aux_lemma => kernel_rfl) (fun _ _ _ h => h) (Or.inl ⟨by rfl, ?_⟩) (by assumption) ?_; (focus (intro w hSw; (try dsimp only at hSw); go_simp; (try rfl))); (simp only [List.setIfInBounds_toArray, List.set_cons_zero, List.set_cons_succ]))
      (refine Held.takeH (i := 6) (k := 72) (v := ?_) rfl (by as_aux_lemma => kernel_rfl) (by as_aux_lemma => kernel_rfl) (by as_aux_lemma => kernel_rfl) (by as_aux_lemma => kernel_rfl) (fun _ _ _ h => h) (Or.inl ⟨by rfl, ?_⟩) (by assumption) ?_; rotate_left; (focus (intro w hSw; (try dsimp only at hSw); go_simp; (try with_reducible rfl))); (simp only [List.setIfInBounds_toArray, List.set_cons_zero, List.set_cons_succ]))
      (refine Held.takeH (i := 7) (k := 73) (v := ?_) rfl (by as_aux_lemma => kernel_rfl) (by as_aux_lemma => kernel_rfl) (by as_aux_lemma => kernel_rfl) (by as_aux_lemma => kernel_rfl) (fun _ _ _ h => h) (Or.inl ⟨by rfl, ?_⟩) (by assumption) ?_; rotate_left; (focus (intro w hSw; (try dsimp only at hSw); go_simp; (try with_reducible rfl))); (simp only [List.setIfInBounds_toArray, List.set_cons_zero, List.set_cons_succ]))
      (refine Held.takeH (i := 8) (k := 74) (v := .bool false) rfl (by as_aux_lemma => kernel_rfl) (by as_aux_lemma => kernel_rfl) (by as_aux_lemma => kernel_rfl) (by as_aux_lemma => kernel_rfl) (fun _ _ _ h => h) (Or.inl ⟨by rfl, ?_⟩) (by assumption) ?_; (focus (intro w hSw; (try dsimp only at hSw); go_simp; (try rfl))); (simp only [List.setIfInBounds_toArray, List.set_cons_zero, List.set_cons_succ]))
      (refine Held.takeH (i := 9) (k := 75) (v := .bool false) rfl (by as_aux_lemma => kernel_rfl) (by as_aux_lemma => kernel_rfl) (by as_aux_lemma => kernel_rfl) (by as_aux_lemma => kernel_rfl) (fun _ _ _ h => h) (Or.inl ⟨by rfl, ?_⟩) (by assumption) ?_; (focus (intro w hSw; (try dsimp only at hSw); go_simp; (try rfl))); (simp only [List.setIfInBounds_toArray, List.set_cons_zero, List.set_cons_succ]))
      (refine Held.takeH (i := 10) (k := 76) (v := .bool false) rfl (by as_aux_lemma => kernel_rfl) (by as_aux_lemma => kernel_rfl) (by as_aux_lemma => kernel_rfl) (by as_aux_lemma => kernel_rfl) (fun _ _ _ h => h) (Or.inl ⟨by rfl, ?_⟩) (by assumption) ?_; (focus (intro w hSw; (try dsimp only at hSw); go_simp; (try rfl))); (simp only [List.setIfInBounds_toArray, List.set_cons_zero, List.set_cons_succ]))
      (refine Held.takeH (i := 11) (k := 77) (v := ?_) rfl (by as_aux_lemma => kernel_rfl) (by as_aux_lemma => kernel_rfl) (by as_aux_lemma => kernel_rfl) (by as_aux_lemma => kernel_rfl) (fun _ _ _ h => h) (Or.inl ⟨by rfl, ?_⟩) (by assumption) ?_; rotate_left; (focus (intro w hSw; (try dsimp only at hSw); go_simp; (try with_reducible rfl))); (simp only [List.setIfInBounds_toArray, List.set_cons_zero, List.set_cons_succ]))
      (refine Held.takeH (i := 12) (k := 78) (v := ?_) rfl (by as_aux_lemma => kernel_rfl) (by as_aux_lemma => kernel_rfl) (by as_aux_lemma => kernel_rfl) (by as_aux_lemma => kernel_rfl) (fun _ _ _ h => h) (Or.inl ⟨by rfl, ?_⟩) (by assumption) ?_; rotate_left; (focus (intro w hSw; (try dsimp only at hSw); go_simp; (try with_reducible rfl))); (simp only [List.setIfInBounds_toArray, List.set_cons_zero, List.set_cons_succ]))
      (refine Held.takeH (i := 13) (k := 79) (v := .bool false) rfl (by as_aux_lemma => kernel_rfl) (by as_aux_lemma => kernel_rfl) (by as_aux_lemma => kernel_rfl) (by as_aux_lemma => kernel_rfl) (fun _ _ _ h => h) (Or.inl ⟨by rfl, ?_⟩) (by assumption) ?_; (focus (intro w hSw; (try dsimp only at hSw); go_simp; (try rfl))); (simp only [List.setIfInBounds_toArray, List.set_cons_zero, List.set_cons_succ]))
      (refine Held.takeH (i := 14) (k := 80) (v := .bool false) rfl (by as_aux_lemma => kernel_rfl) (by as_aux_lemma => kernel_rfl) (by as_aux_lemma => kernel_rfl) (by as_aux_lemma => kernel_rfl) (fun _ _ _ h => h) (Or.inl ⟨by rfl, ?_⟩) (by assumption) ?_; (focus (intro w hSw; (try dsimp only at hSw); go_simp; (try rfl))); (simp only [List.setIfInBounds_toArray, List.set_cons_zero, List.set_cons_succ]))
      (refine Held.takeH (i := 15) (k := 81) (v := .bool false) rfl (by as_aux_lemma => kernel_rfl) (by as_aux_lemma => kernel_rfl) (by as_aux_lemma => kernel_rfl) (by as_aux_lemma => kernel_rfl) (fun _ _ _ h => h) (Or.inl ⟨by rfl, ?_⟩) (by assumption) ?_; (focus (intro w hSw; (try dsimp only at hSw); go_simp; (try rfl))); (simp only [List.setIfInBounds_toArray, List.set_cons_zero, List.set_cons_succ]))
      (refine Held.takeH (i := 16) (k := 82) (v := ?_) rfl (by as_aux_lemma => kernel_rfl) (by as_aux_lemma => kernel_rfl) (by as_aux_lemma => kernel_rfl) (by as_aux_lemma => kernel_rfl) (fun _ _ _ h => h) (Or.inl ⟨by rfl, ?_⟩) (by assumption) ?_; rotate_left; (focus (intro w hSw; (try dsimp only at hSw); go_simp; (try with_reducible rfl))); (simp only [List.setIfInBounds_toArray, List.set_cons_zero, List.set_cons_succ]))
      (refine Held.takeH (i := 17) (k := 83) (v := ?_) rfl (by as_aux_lemma => kernel_rfl) (by as_aux_lemma => kernel_rfl) (by as_aux_lemma => kernel_rfl) (by as_aux_lemma => kernel_rfl) (fun _ _ _ h => h) (Or.inl ⟨by rfl, ?_⟩) (by assumption) ?_; rotate_left; (focus (intro w hSw; (try dsimp only at hSw); go_simp; (try with_reducible rfl))); (simp only [List.setIfInBounds_toArray, List.set_cons_zero, List.set_cons_succ]))
      (refine Held.takeH (i := 18) (k := 84) (v := ?_) rfl (by as_aux_lemma => kernel_rfl) (by as_aux_lemma => kernel_rfl) (by as_aux_lemma => kernel_rfl) (by as_aux_lemma => kernel_rfl) (fun _ _ _ h => h) (Or.inl ⟨by rfl, ?_⟩) (by assumption) ?_; rotate_left; (focus (intro w hSw; (try dsimp only at hSw); go_simp; (try with_reducible rfl))); (simp only [List.setIfInBounds_toArray, List.set_cons_zero, List.set_cons_succ]))
      (refine Held.takeH (i := 19) (k := 85) (v := ?_) rfl (by as_aux_lemma => kernel_rfl) (by as_aux_lemma => kernel_rfl) (by as_aux_lemma => kernel_rfl) (by as_aux_lemma => kernel_rfl) (fun _ _ _ h => h) (Or.inl ⟨by rfl, ?_⟩) (by assumption) ?_; rotate_left; (focus (intro w hSw; (try dsimp only at hSw); go_simp; (try with_reducible rfl))); (simp only [List.setIfInBounds_toArray, List.set_cons_zero, List.set_cons_succ]))
      refine wpAnyH_ready (rs := [20]) (by as_aux_lemma => kernel_rfl) (by simp) ?_
      refine AllReadyH.cons rfl (fun K hK => ?_) AllReadyH.nil
      go_simp
      refine (HDS.out _ hHeld).mono ?_
      rintro e' w' ⟨rfl, hS'⟩
      refine hK.out _ _ hS' (fun hHeld => ?_)
      clear hK K
      try simp only [Act.put, List.setIfInBounds_toArray, List.set_cons_zero, List.set_cons_succ]
      (refine Held.takeH (i := 21) (k := 87) (v := .bool false) rfl (by as_aux_lemma => kernel_rfl) (by as_aux_lemma => kernel_rfl) (by as_aux_lemma => kernel_rfl) (by as_aux_lemma => kernel_rfl) (fun _ _ _ h => h) (Or.inl ⟨by rfl, ?_⟩) (by assumption) ?_; (focus (intro w hSw; (try dsimp only at hSw); go_simp; (try rfl))); (simp only [List.setIfInBounds_toArray, List.set_cons_zero, List.set_cons_succ]))
      (refine Held.takeH (i := 22) (k := 88) (v := .bool false) rfl (by as_aux_lemma => kernel_rfl) (by as_aux_lemma => kernel_rfl) (by as_aux_lemma => kernel_rfl) (by as_aux_lemma => kernel_rfl) (fun _ _ _ h => h) (Or.inl ⟨by rfl, ?_⟩) (by assumption) ?_; (focus (intro w hSw; (try dsimp only at hSw); go_simp; (try rfl))); (simp only [List.setIfInBounds_toArray, List.set_cons_zero, List.set_cons_succ]))
      (refine Held.takeH (i := 23) (k := 89) (v := .bool false) rfl (by as_aux_lemma => kernel_rfl) (by as_aux_lemma => kernel_rfl) (by as_aux_lemma => kernel_rfl) (by as_aux_lemma => kernel_rfl) (fun _ _ _ h => h) (Or.inl ⟨by rfl, ?_⟩) (by assumption) ?_; (focus (intro w hSw; (try dsimp only at hSw); go_simp; (try rfl))); (simp only [List.setIfInBounds_toArray, List.set_cons_zero, List.set_cons_succ]))
      (refine Held.takeH (i := 24) (k := 90) (v := ?_) rfl (by as_aux_lemma => kernel_rfl) (by as_aux_lemma => kernel_rfl) (by as_aux_lemma => kernel_rfl) (by as_aux_lemma => kernel_rfl) (fun _ _ _ h => h) (Or.inl ⟨by rfl, ?_⟩) (by assumption) ?_; rotate_left; (focus (intro w hSw; (try dsimp only at hSw); go_simp; (try with_reducible rfl))); (simp only [List.setIfInBounds_toArray, List.set_cons_zero, List.set_cons_succ]))
      (refine Held.takeH (i := 25) (k := 91) (v := ?_) rfl (by as_aux_lemma => kernel_rfl) (by as_aux_lemma => kernel_rfl) (by as_aux_lemma => kernel_rfl) (by as_aux_lemma => kernel_rfl) (fun _ _ _ h => h) (Or.inl ⟨by rfl, ?_⟩) (by assumption) ?_; rotate_left; (focus (intro w hSw; (try dsimp only at hSw); go_simp; (try with_reducible rfl))); (simp only [List.setIfInBounds_toArray, List.set_cons_zero, List.set_cons_succ]))
      (refine Held.takeH (i := 27) (k := 93) (v := ?_) rfl (by as_aux_lemma => kernel_rfl) (by as_aux_lemma => kernel_rfl) (by as_aux_lemma => kernel_rfl) (by as_aux_lemma => kernel_rfl) (fun _ _ _ h => h) (Or.inl ⟨by rfl, ?_⟩) (by assumption) ?_; rotate_left; (focus (intro w hSw; (try dsimp only at hSw); go_simp; (try with_reducible rfl))); (simp only [List.setIfInBounds_toArray, List.set_cons_zero, List.set_cons_succ]))
      (refine Held.takeH (i := 28) (k := 94) (v := ?_) rfl (by as_aux_lemma => kernel_rfl) (by as_aux_lemma => kernel_rfl) (by as_aux_lemma => kernel_rfl) (by as_aux_lemma => kernel_rfl) (fun _ _ _ h => h) (Or.inl ⟨by rfl, ?_⟩) (by assumption) ?_; rotate_left; (focus (intro w hSw; (try dsimp only at hSw); go_simp; (try with_reducible rfl))); (simp only [List.setIfInBounds_toArray, List.set_cons_zero, List.set_cons_succ]))
      refine wpAnyH_ready (rs := [26]) (by as_aux_lemma => kernel_rfl) (by simp) ?_
      refine AllReadyH.cons rfl (fun K hK => ?_) AllReadyH.nil
      go_simp
      refine (HXI.out _ hHeld).mono ?_
      rintro e' w' ⟨rfl, hS'⟩
      refine hK.out _ _ hS' (fun hHeld => ?_)
      clear hK K
      try simp only [Act.put, List.setIfInBounds_toArray, List.set_cons_zero, List.set_cons_succ]
      refine wpAnyH_ready (rs := [29]) (by as_aux_lemma => kernel_rfl) (by simp) ?_
      refine AllReadyH.cons rfl (fun K hK => ?_) AllReadyH.nil
      go_simp
      refine (HXS.out _ hHeld).mono ?_
      rintro e' w' ⟨rfl, hS'⟩
      refine hK.out _ _ hS' (fun hHeld => ?_)
      clear hK K
      try simp only [Act.put, List.setIfInBounds_toArray, List.set_cons_zero, List.set_cons_succ]
      (refine Held.takeH (i := 30) (k := 96) (v := .bool false) rfl (by as_aux_lemma => kernel_rfl) (by as_aux_lemma => kernel_rfl) (by as_aux_lemma => kernel_rfl) (by as_aux_lemma => kernel_rfl) (fun _ _ _ h => h) (Or.inl ⟨by rfl, ?_⟩) (by assumption) ?_; (focus (intro w hSw; (try dsimp only at hSw); go_simp; (try rfl))); (simp only [List.setIfInBounds_toArray, List.set_cons_zero, List.set_cons_succ]))
      (refine Held.takeH (i := 31) (k := 97) (v := .bool false) rfl (by as_aux_lemma => kernel_rfl) (by as_aux_lemma => kernel_rfl) (by as_aux_lemma => kernel_rfl) (by as_aux_lemma => kernel_rfl) (fun _ _ _ h => h) (Or.inl ⟨by rfl, ?_⟩) (by assumption) ?_; (focus (intro w hSw; (try dsimp only at hSw); go_simp; (try rfl))); (simp only [List.setIfInBounds_toArray, List.set_cons_zero, List.set_cons_succ]))
      (refine Held.takeH (i := 32) (k := 98) (v := .bool false) rfl (by as_aux_lemma => kernel_rfl) (by as_aux_lemma => kernel_rfl) (by as_aux_lemma => kernel_rfl) (by as_aux_lemma => kernel_rfl) (fun _ _ _ h => h) (Or.inl ⟨by rfl, ?_⟩) (by assumption) ?_; (focus (intro w hSw; (try dsimp only at hSw); go_simp; (try rfl))); (simp only [List.setIfInBounds_toArray, List.set_cons_zero, List.set_cons_succ]))
      (refine Held.takeH (i := 33) (k := 99) (v := ?_) rfl (by as_aux_lemma => kernel_rfl) (by as_aux_lemma => kernel_rfl) (by as_aux_lemma => kernel_rfl) (by as_aux_lemma => kernel_rfl) (fun _ _ _ h => h) (Or.inl ⟨by rfl, ?_⟩) (by assumption) ?_; rotate_left; (focus (intro w hSw; (try dsimp only at hSw); go_simp; (try with_reducible rfl))); (simp only [List.setIfInBounds_toArray, List.set_cons_zero, List.set_cons_succ]))
      (refine Held.takeH (i := 34) (k := 100) (v := ?_) rfl (by as_aux_lemma => kernel_rfl) (by as_aux_lemma => kernel_rfl) (by as_aux_lemma => kernel_rfl) (by as_aux_lemma => kernel_rfl) (fun _ _ _ h => h) (Or.inl ⟨by rfl, ?_⟩) (by assumption) ?_; rotate_left; (focus (intro w hSw; (try dsimp only at hSw); go_simp; (try with_reducible rfl))); (simp only [List.setIfInBounds_toArray, List.set_cons_zero, List.set_cons_succ]))
      (refine Held.takeH (i := 35) (k := 101) (v := ?_) rfl (by as_aux_lemma => kernel_rfl) (by as_aux_lemma => kernel_rfl) (by as_aux_lemma => kernel_rfl) (by as_aux_lemma => kernel_rfl) (fun _ _ _ h => h) (Or.inl ⟨by rfl, ?_⟩) (by assumption) ?_; rotate_left; (focus (intro w hSw; (try dsimp only at hSw); go_simp; (try with_reducible rfl))); (simp only [List.setIfInBounds_toArray, List.set_cons_zero, List.set_cons_succ]))
      refine wpAnyH_ready (rs := [36]) (by as_aux_lemma => kernel_rfl) (by simp) ?_
      refine AllReadyH.cons rfl (fun K hK => ?_) AllReadyH.nil
      go_simp
      refine (HS2.out _ hHeld).mono ?_
      rintro e' w' ⟨⟨a2', c2', rfl, t2'⟩, hS'⟩
      refine hK.out _ _ hS' (fun hHeld => ?_)
      clear hK K
      try simp only [Act.put, List.setIfInBounds_toArray, List.set_cons_zero, List.set_cons_succ]
      refine wpAnyH_ready (rs := [37]) (by as_aux_lemma => kernel_rfl) (by simp) ?_
      refine AllReadyH.cons rfl (fun K hK => ?_) AllReadyH.nil
      go_simp
      refine (HE2.out _ _ _ hHeld t2').mono ?_
      rintro e' w' ⟨rfl, hS'⟩
      refine hK.out _ _ hS' (fun hHeld => ?_)
      clear hK K
      try simp only [Act.put, List.setIfInBounds_toArray, List.set_cons_zero, List.set_cons_succ]
      (refine Held.takeH (i := 38) (k := 104) (v := .bool false) rfl (by as_aux_lemma => kernel_rfl) (by as_aux_lemma => kernel_rfl) (by as_aux_lemma => kernel_rfl) (by as_aux_lemma => kernel_rfl) (fun _ _ _ h => h) (Or.inl ⟨by rfl, ?_⟩) (by assumption) ?_; (focus (intro w hSw; (try dsimp only at hSw); go_simp; (try rfl))); (simp only [List.setIfInBounds_toArray, List.set_cons_zero, List.set_cons_succ]))
      (refine Held.takeH (i := 39) (k := 105) (v := .bool false) rfl (by as_aux_lemma => kernel_rfl) (by as_aux_lemma => kernel_rfl) (by as_aux_lemma => kernel_rfl) (by as_aux_lemma => kernel_rfl) (fun _ _ _ h => h) (Or.inl ⟨by rfl, ?_⟩) (by assumption) ?_; (focus (intro w hSw; (try dsimp only at hSw); go_simp; (try rfl))); (simp only [List.setIfInBounds_toArray, List.set_cons_zero, List.set_cons_succ]))
      (refine Held.takeH (i := 40) (k := 106) (v := .bool false) rfl (by as_aux_lemma => kernel_rfl) (by as_aux_lemma => kernel_rfl) (by as_aux_lemma => kernel_rfl) (by as_aux_lemma => kernel_rfl) (fun _ _ _ h => h) (Or.inl ⟨by rfl, ?_⟩) (by assumption) ?_; (focus (intro w hSw; (try dsimp only at hSw); go_simp; (try rfl))); (simp only [List.setIfInBounds_toArray, List.set_cons_zero, List.set_cons_succ]))
      (refine Held.takeH (i := 41) (k := 107) (v := ?_) rfl (by as_aux_lemma => kernel_rfl) (by as_aux_lemma => kernel_rfl) (by as_aux_lemma => kernel_rfl) (by as_aux_lemma => kernel_rfl) (fun _ _ _ h => h) (Or.inl ⟨by rfl, ?_⟩) (by assumption) ?_; rotate_left; (focus (intro w hSw; (try dsimp only at hSw); go_simp; (try with_reducible rfl))); (simp only [List.setIfInBounds_toArray, List.set_cons_zero, List.set_cons_succ]))
      (refine Held.takeH (i := 42) (k := 108) (v := ?_) rfl (by as_aux_lemma => kernel_rfl) (by as_aux_lemma => kernel_rfl) (by as_aux_lemma => kernel_rfl) (by as_aux_lemma => kernel_rfl) (fun _ _ _ h => h) (Or.inl ⟨by rfl, ?_⟩) (by assumption) ?_; rotate_left; (focus (intro w hSw; (try dsimp only at hSw); go_simp; (try with_reducible rfl))); (simp only [List.setIfInBounds_toArray, List.set_cons_zero, List.set_cons_succ]))
      (refine Held.takeH (i := 44) (k := 110) (v := ?_) rfl (by as_aux_lemma => kernel_rfl) (by as_aux_lemma => kernel_rfl) (by as_aux_lemma => kernel_rfl) (by as_aux_lemma => kernel_rfl) (fun _ _ _ h => h) (Or.inl ⟨by rfl, ?_⟩) (by assumption) ?_; rotate_left; (focus (intro w hSw; (try dsimp only at hSw); go_simp; (try with_reducible rfl))); (simp only [List.setIfInBounds_toArray, List.set_cons_zero, List.set_cons_succ]))
      (refine Held.takeH (i := 45) (k := 111) (v := ?_) rfl (by as_aux_lemma => kernel_rfl) (by as_aux_lemma => kernel_rfl) (by as_aux_lemma => kernel_rfl) (by as_aux_lemma => kernel_rfl) (fun _ _ _ h => h) (Or.inl ⟨by rfl, ?_⟩) (by assumption) ?_; rotate_left; (focus (intro w hSw; (try dsimp only at hSw); go_simp; (try with_reducible rfl))); (simp only [List.setIfInBounds_toArray, List.set_cons_zero, List.set_cons_succ]))
      refine wpAnyH_ready (rs := [43]) (by as_aux_lemma => kernel_rfl) (by simp) ?_
      refine AllReadyH.cons rfl (fun K hK => ?_) AllReadyH.nil
      go_simp
      refine (HII.out _ hHeld).mono ?_
      rintro e' w' ⟨rfl, hS'⟩
      refine hK.out _ _ hS' (fun hHeld => ?_)
      clear hK K
      try simp only [Act.put, List.setIfInBounds_toArray, List.set_cons_zero, List.set_cons_succ]
      refine wpAnyH_ready (rs := [46]) (by as_aux_lemma => kernel_rfl) (by simp) ?_
      refine AllReadyH.cons rfl (fun K hK => ?_) AllReadyH.nil
      go_simp
      refine (HIS.out _ hHeld).mono ?_
      rintro e' w' ⟨rfl, hS'⟩
      refine hK.out _ _ hS' (fun hHeld => ?_)
      clear hK K
      try simp only [Act.put, List.setIfInBounds_toArray, List.set_cons_zero, List.set_cons_succ]
      (refine Held.takeH (i := 47) (k := 113) (v := .bool false) rfl (by as_aux_lemma => kernel_rfl) (by as_aux_lemma => kernel_rfl) (by as_aux_lemma => kernel_rfl) (by as_aux_lemma => kernel_rfl) (fun _ _ _ h => h) (Or.inl ⟨by rfl, ?_⟩) (by assumption) ?_; (focus (intro w hSw; (try dsimp only at hSw); go_simp; (try rfl))); (simp only [List.setIfInBounds_toArray, List.set_cons_zero, List.set_cons_succ]))
      (refine Held.takeH (i := 48) (k := 114) (v := .bool false) rfl (by as_aux_lemma => kernel_rfl) (by as_aux_lemma => kernel_rfl) (by as_aux_lemma => kernel_rfl) (by as_aux_lemma => kernel_rfl) (fun _ _ _ h => h) (Or.inl ⟨by rfl, ?_⟩) (by assumption) ?_; (focus (intro w hSw; (try dsimp only at hSw); go_simp; (try rfl))); (simp only [List.setIfInBounds_toArray, List.set_cons_zero, List.set_cons_succ]))
      (refine Held.takeH (i := 49) (k := 115) (v := .bool false) rfl (by as_aux_lemma => kernel_rfl) (by as_aux_lemma => kernel_rfl) (by as_aux_lemma => kernel_rfl) (by as_aux_lemma => kernel_rfl) (fun _ _ _ h => h) (Or.inl ⟨by rfl, ?_⟩) (by assumption) ?_; (focus (intro w hSw; (try dsimp only at hSw); go_simp; (try rfl))); (simp only [List.setIfInBounds_toArray, List.set_cons_zero, List.set_cons_succ]))
      (refine Held.takeH (i := 50) (k := 116) (v := ?_) rfl (by as_aux_lemma => kernel_rfl) (by as_aux_lemma => kernel_rfl) (by as_aux_lemma => kernel_rfl) (by as_aux_lemma => kernel_rfl) (fun _ _ _ h => h) (Or.inl ⟨by rfl, ?_⟩) (by assumption) ?_; rotate_left; (focus (intro w hSw; (try dsimp only at hSw); go_simp; (try with_reducible rfl))); (simp only [List.setIfInBounds_toArray, List.set_cons_zero, List.set_cons_succ]))
      (refine Held.takeH (i := 51) (k := 117) (v := ?_) rfl (by as_aux_lemma => kernel_rfl) (by as_aux_lemma => kernel_rfl) (by as_aux_lemma => kernel_rfl) (by as_aux_lemma => kernel_rfl) (fun _ _ _ h => h) (Or.inl ⟨by rfl, ?_⟩) (by assumption) ?_; rotate_left; (focus (intro w hSw; (try dsimp only at hSw); go_simp; (try with_reducible rfl))); (simp only [List.setIfInBounds_toArray, List.set_cons_zero, List.set_cons_succ]))
      (refine Held.takeH (i := 53) (k := 119) (v := ?_) rfl (by as_aux_lemma => kernel_rfl) (by as_aux_lemma => kernel_rfl) (by as_aux_lemma => kernel_rfl) (by as_aux_lemma => kernel_rfl) (fun _ _ _ h => h) (Or.inl ⟨by rfl, ?_⟩) (by assumption) ?_; rotate_left; (focus (intro w hSw; (try dsimp only at hSw); go_simp; (try with_reducible rfl))); (simp only [List.setIfInBounds_toArray, List.set_cons_zero, List.set_cons_succ]))
      (refine Held.takeH (i := 54) (k := 120) (v := ?_) rfl (by as_aux_lemma => kernel_rfl) (by as_aux_lemma => kernel_rfl) (by as_aux_lemma => kernel_rfl) (by as_aux_lemma => kernel_rfl) (fun _ _ _ h => h) (Or.inl ⟨by rfl, ?_⟩) (by assumption) ?_; rotate_left; (focus (intro w hSw; (try dsimp only at hSw); go_simp; (try with_reducible rfl))); (simp only [List.setIfInBounds_toArray, List.set_cons_zero, List.set_cons_succ]))
      refine wpAnyH_ready (rs := [52]) (by as_aux_lemma => kernel_rfl) (by simp) ?_
      refine AllReadyH.cons rfl (fun K hK => ?_) AllReadyH.nil
      go_simp
      refine (HTI.out _ hHeld).mono ?_
      rintro e' w' ⟨rfl, hS'⟩
      refine hK.out _ _ hS' (fun hHeld => ?_)
      clear hK K
      try simp only [Act.put, List.setIfInBounds_toArray, List.set_cons_zero, List.set_cons_succ]
      refine wpAnyH_ready (rs := [55]) (by as_aux_lemma => kernel_rfl) (by simp) ?_
      refine AllReadyH.cons rfl (fun K hK => ?_) AllReadyH.nil
      go_simp
      refine (HTS.out _ hHeld).mono ?_
      rintro e' w' ⟨rfl, hS'⟩
      refine hK.out _ _ hS' (fun hHeld => ?_)
      clear hK K
      try simp only [Act.put, List.setIfInBounds_toArray, List.set_cons_zero, List.set_cons_succ]
      (refine Held.takeH (i := 56) (k := 122) (v := .bool false) rfl (by as_aux_lemma => kernel_rfl) (by as_aux_lemma => kernel_rfl) (by as_aux_lemma => kernel_rfl) (by as_aux_lemma => kernel_rfl) (fun _ _ _ h => h) (Or.inl ⟨by rfl, ?_⟩) (by assumption) ?_; (focus (intro w hSw; (try dsimp only at hSw); go_simp; (try rfl))); (simp only [List.setIfInBounds_toArray, List.set_cons_zero, List.set_cons_succ]))
      (refine Held.takeH (i := 57) (k := 123) (v := .bool false) rfl (by as_aux_lemma => kernel_rfl) (by as_aux_lemma => kernel_rfl) (by as_aux_lemma => kernel_rfl) (by as_aux_lemma => kernel_rfl) (fun _ _ _ h => h) (Or.inl ⟨by rfl, ?_⟩) (by assumption) ?_; (focus (intro w hSw; (try dsimp only at hSw); go_simp; (try rfl))); (simp only [List.setIfInBounds_toArray, List.set_cons_zero, List.set_cons_succ]))
      refine wpAnyH_done (by as_aux_lemma => kernel_rfl) ?_ _
      go_wp2_with fail
      go_meet
      exact ⟨rfl, Lib.hid hHeld.2.2.2.2.2.2⟩
    case rest =>
      obtain ⟨rfl, Q9⟩ := hcut
      clear Q8 HS1 HE1 HS2 HE2 HDS HXI HXS HII HIS HTI HTS HCstp g1 g2 g5 g6
      -- the size of the hull
      obtain ⟨x0, x1, -⟩ := HCs.out _ Q9.out
      go_wp2_with fail
      refine (PHZ.out _ Q9.out).mono ?_
      rintro e wA ⟨rfl, hkA⟩
      have QA := Lib.hid hkA
      clear hkA x0 x1 Q9 PHZ
      -- all triangulations
      go_wp2_with fail
      go_loopw [20] (fun x wr => ∃ i : Nat, i ≤ zs.length ∧ x = .int .i64 i ∧ Hid (PK wr)) (fun x _ => zs.length - (intOf x).toNat)
      case atStart => exact ⟨0, Nat.zero_le _, rfl, QA⟩
      case round =>
        clear QA
        obtain ⟨i, hi, rfl, Q9⟩ := hrel
        by_cases hlt : i < zs.length
        · as_aux_lemma =>
          obtain ⟨bz, rfl, y0⟩ := (HZZ.out _ Q9.out).get hlt
          have HZC : Hid (∀ W, PK W → W.cell? ⟨bz, i, none⟩ = some (.int .i64 (zs.getD i 0))) := Lib.hid (fun W hW => by obtain ⟨b, e1, e2⟩ := (HZZ.out _ hW).get hlt; injection e1 with e1; injection e1 with e1; subst e1; exact e2)
          have HCZ := Lib.hid (HTF.out (zs.getD i 0) (getD_memT hlt))
          generalize zs.getD i 0 = zv at y0 HZC HCZ
          have han := HCZ.out.2.2.2
          obtain ⟨p1, hp1⟩ : ∃ p : Int, p = 3 * (ms : Int) := ⟨_, rfl⟩
          obtain ⟨p2, hp2⟩ : ∃ p : Int, p = p1 - 3 := ⟨_, rfl⟩
          obtain ⟨q1, hq1⟩ : ∃ p : Int, p = p2 - hz := ⟨_, rfl⟩
          obtain ⟨p3, hp3⟩ : ∃ p : Int, p = 2 * (ms : Int) := ⟨_, rfl⟩
          obtain ⟨p4, hp4⟩ : ∃ p : Int, p = p3 - 2 := ⟨_, rfl⟩
          obtain ⟨q2, hq2⟩ : ∃ p : Int, p = p4 - hz := ⟨_, rfl⟩
          have v1 : IntKind.i64.wrap (3 * (ms : Int)) = p1 := by rw [IntWalk.i64_in _ (by omega), hp1]
          have v2 : IntKind.i64.wrap (p1 - 3) = p2 := by rw [IntWalk.i64_in _ (by omega), hp2]
          have v3 : IntKind.i64.wrap (p2 - hz) = q1 := by rw [IntWalk.i64_in _ (by omega), hq1]
          have v4 : IntKind.i64.wrap (2 * (ms : Int)) = p3 := by rw [IntWalk.i64_in _ (by omega), hp3]
          have v5 : IntKind.i64.wrap (p3 - 2) = p4 := by rw [IntWalk.i64_in _ (by omega), hp4]
          have v6 : IntKind.i64.wrap (p4 - hz) = q2 := by rw [IntWalk.i64_in _ (by omega), hq2]
          have HC18 : Hid (∀ W, PK W → W.cell? ⟨bs, 0, none⟩ = some (.int .i64 ms) ∧ W.cell? ⟨bs, 1, none⟩ = some (.string Ts) ∧ W.cell? ⟨bz, i, none⟩ = some (.int .i64 zv) ∧ PK W) := Lib.hid (fun W hW => ⟨(HCs.out W hW).1, (HCs.out W hW).2.1, HZC.out W hW, hW⟩)
          have HA18 : Hid (∀ W, (W.cell? ⟨bs, 0, none⟩ = some (.int .i64 ms) ∧ W.cell? ⟨bs, 1, none⟩ = some (.string Ts) ∧ W.cell? ⟨bz, i, none⟩ = some (.int .i64 zv) ∧ PK W) → Calls Tryz.prog 26 #[.int .i64 zv] W fun e w' => e = .returned (.int .i64 q1) ∧ w'.cell? ⟨bs, 0, none⟩ = some (.int .i64 ms) ∧ w'.cell? ⟨bs, 1, none⟩ = some (.string Ts) ∧ w'.cell? ⟨bz, i, none⟩ = some (.int .i64 zv) ∧ PK w') := Lib.hid (fun W hW => (HCZ.out.1 W).mono fun e w' ⟨he, hw⟩ => ⟨by rw [he, hq1, hp2, hp1], by rw [← hw]; exact hW⟩)
          have HB18 : Hid (∀ W, (W.cell? ⟨bs, 0, none⟩ = some (.int .i64 ms) ∧ W.cell? ⟨bs, 1, none⟩ = some (.string Ts) ∧ W.cell? ⟨bz, i, none⟩ = some (.int .i64 zv) ∧ PK W) → Calls Tryz.prog 65 #[sg ms Ts, .int .i64 zv] W fun e w' => e = .returned (.bool true) ∧ w'.cell? ⟨bs, 0, none⟩ = some (.int .i64 ms) ∧ w'.cell? ⟨bs, 1, none⟩ = some (.string Ts) ∧ w'.cell? ⟨bz, i, none⟩ = some (.int .i64 zv) ∧ PK w') := Lib.hid (fun W hW => (HCZ.out.2.1 W hW.2.2.2).mono fun e w' ⟨he, hk⟩ => ⟨he, HC18.out _ hk⟩)
          have HD18 : Hid (∀ W, (W.cell? ⟨bs, 0, none⟩ = some (.int .i64 ms) ∧ W.cell? ⟨bs, 1, none⟩ = some (.string Ts) ∧ W.cell? ⟨bz, i, none⟩ = some (.int .i64 zv) ∧ PK W) → Calls Tryz.prog 67 #[sg ms Ts, .int .i64 zv] W fun e w' => e = .returned (.int .i64 q2) ∧ w'.cell? ⟨bs, 0, none⟩ = some (.int .i64 ms) ∧ w'.cell? ⟨bs, 1, none⟩ = some (.string Ts) ∧ w'.cell? ⟨bz, i, none⟩ = some (.int .i64 zv) ∧ PK w') := Lib.hid (fun W hW => (HCZ.out.2.2.1 W hW.2.2.2).mono fun e w' ⟨he, hk⟩ => ⟨by rw [he, hq2, hp4, hp3], HC18.out _ hk⟩)
          have HF18 : Hid (∀ W, (W.cell? ⟨bs, 0, none⟩ = some (.int .i64 ms) ∧ W.cell? ⟨bs, 1, none⟩ = some (.string Ts) ∧ W.cell? ⟨bz, i, none⟩ = some (.int .i64 zv) ∧ PK W) → Calls Tryz.prog 47 #[sg ms Ts] W fun e w' => e = .returned (.int .i64 fr) ∧ w'.cell? ⟨bs, 0, none⟩ = some (.int .i64 ms) ∧ w'.cell? ⟨bs, 1, none⟩ = some (.string Ts) ∧ w'.cell? ⟨bz, i, none⟩ = some (.int .i64 zv) ∧ PK w') := Lib.hid (fun W hW => (PFR.out W hW.2.2.2).mono fun e w' ⟨he, hk⟩ => ⟨he, HC18.out _ hk⟩)
          have i1 : (0 : Int) ≤ (i : Int) := by omega
          have i2 : (i : Int) < (zs.length : Int) := by omega
          have b1 : (q1 != q1) = false := by simp
          have b2 : (q2 != q2) = false := by simp
          clear hp1 hp2 hq1 hp3 hp4 hq2 hhz
          obtain ⟨x0, x1, -⟩ := HC18.out _ Q9.out
          go_upto_region 18 with fail
          refine wp_region_held (S := fun W => W.cell? ⟨bs, 0, none⟩ = some (.int .i64 ms) ∧ W.cell? ⟨bs, 1, none⟩ = some (.string Ts) ∧ W.cell? ⟨bz, i, none⟩ = some (.int .i64 zv) ∧ PK W) rfl ?_
          have hHeld := (HC18.out _ (HDR.out _ Q9.out))
          (refine Held.takeH (i := 0) (k := 132) (v := ?_) rfl (by as_aux_lemma => kernel_rfl) (by as_aux_lemma => kernel_rfl) (by as_aux_lemma => kernel_rfl) (by as_aux_lemma => kernel_rfl) (fun _ _ _ h => h) (Or.inl ⟨by rfl, ?_⟩) (by assumption) ?_; rotate_left; (focus (intro w hSw; (try dsimp only at hSw); go_simp; (try with_reducible rfl))); (simp only [List.setIfInBounds_toArray, List.set_cons_zero, List.set_cons_succ]))
          (refine Held.takeH (i := 1) (k := 133) (v := ?_) rfl (by as_aux_lemma => kernel_rfl) (by as_aux_lemma => kernel_rfl) (by as_aux_lemma => kernel_rfl) (by as_aux_lemma => kernel_rfl) (fun _ _ _ h => h) (Or.inl ⟨by rfl, ?_⟩) (by assumption) ?_; rotate_left; (focus (intro w hSw; (try dsimp only at hSw); go_simp; (try with_reducible rfl))); (simp only [List.setIfInBounds_toArray, List.set_cons_zero, List.set_cons_succ]))
          (refine Held.takeH (i := 2) (k := 134) (v := ?_) rfl (by as_aux_lemma => kernel_rfl) (by as_aux_lemma => kernel_rfl) (by as_aux_lemma => kernel_rfl) (by as_aux_lemma => kernel_rfl) (fun _ _ _ h => h) (Or.inl ⟨by rfl, ?_⟩) (by assumption) ?_; rotate_left; (focus (intro w hSw; (try dsimp only at hSw); go_simp; (try with_reducible rfl))); (simp only [List.setIfInBounds_toArray, List.set_cons_zero, List.set_cons_succ]))
          (refine Held.takeH (i := 3) (k := 135) (v := ?_) rfl (by as_aux_lemma => kernel_rfl) (by as_aux_lemma => kernel_rfl) (by as_aux_lemma => kernel_rfl) (by as_aux_lemma => kernel_rfl) (fun _ _ _ h => h) (Or.inl ⟨by rfl, ?_⟩) (by assumption) ?_; rotate_left; (focus (intro w hSw; (try dsimp only at hSw); go_simp; (try with_reducible rfl))); (simp only [List.setIfInBounds_toArray, List.set_cons_zero, List.set_cons_succ]))
          (refine Held.takeH (i := 5) (k := 137) (v := ?_) rfl (by as_aux_lemma => kernel_rfl) (by as_aux_lemma => kernel_rfl) (by as_aux_lemma => kernel_rfl) (by as_aux_lemma => kernel_rfl) (fun _ _ _ h => h) (Or.inl ⟨by rfl, ?_⟩) (by assumption) ?_; rotate_left; (focus (intro w hSw; (try dsimp only at hSw); go_simp; (try with_reducible rfl))); (simp only [List.setIfInBounds_toArray, List.set_cons_zero, List.set_cons_succ]))
          (refine Held.takeH (i := 6) (k := 138) (v := ?_) rfl (by as_aux_lemma => kernel_rfl) (by as_aux_lemma => kernel_rfl) (by as_aux_lemma => kernel_rfl) (by as_aux_lemma => kernel_rfl) (fun _ _ _ h => h) (Or.inl ⟨by rfl, ?_⟩) (by assumption) ?_; rotate_left; (focus (intro w hSw; (try dsimp only at hSw); go_simp; (try with_reducible rfl))); (simp only [List.setIfInBounds_toArray, List.set_cons_zero, List.set_cons_succ]))
          (refine Held.takeH (i := 7) (k := 139) (v := .int .i64 p1) rfl (by as_aux_lemma => kernel_rfl) (by as_aux_lemma => kernel_rfl) (by as_aux_lemma => kernel_rfl) (by as_aux_lemma => kernel_rfl) (fun _ _ _ h => h) (Or.inl ⟨by rfl, ?_⟩) (by assumption) ?_; (focus (intro w hSw; (try dsimp only at hSw); go_simp; (try rfl))); (simp only [List.setIfInBounds_toArray, List.set_cons_zero, List.set_cons_succ]))
          (refine Held.takeH (i := 8) (k := 140) (v := .int .i64 p2) rfl (by as_aux_lemma => kernel_rfl) (by as_aux_lemma => kernel_rfl) (by as_aux_lemma => kernel_rfl) (by as_aux_lemma => kernel_rfl) (fun _ _ _ h => h) (Or.inl ⟨by rfl, ?_⟩) (by assumption) ?_; (focus (intro w hSw; (try dsimp only at hSw); go_simp; (try rfl))); (simp only [List.setIfInBounds_toArray, List.set_cons_zero, List.set_cons_succ]))
          (refine Held.takeH (i := 9) (k := 141) (v := ?_) rfl (by as_aux_lemma => kernel_rfl) (by as_aux_lemma => kernel_rfl) (by as_aux_lemma => kernel_rfl) (by as_aux_lemma => kernel_rfl) (fun _ _ _ h => h) (Or.inl ⟨by rfl, ?_⟩) (by assumption) ?_; rotate_left; (focus (intro w hSw; (try dsimp only at hSw); go_simp; (try with_reducible rfl))); (simp only [List.setIfInBounds_toArray, List.set_cons_zero, List.set_cons_succ]))
          (refine Held.takeH (i := 10) (k := 142) (v := .int .i64 q1) rfl (by as_aux_lemma => kernel_rfl) (by as_aux_lemma => kernel_rfl) (by as_aux_lemma => kernel_rfl) (by as_aux_lemma => kernel_rfl) (fun _ _ _ h => h) (Or.inl ⟨by rfl, ?_⟩) (by assumption) ?_; (focus (intro w hSw; (try dsimp only at hSw); go_simp; (try rfl))); (simp only [List.setIfInBounds_toArray, List.set_cons_zero, List.set_cons_succ]))
          refine wpAnyH_ready (rs := [4]) (by as_aux_lemma => kernel_rfl) (by simp) ?_
          refine AllReadyH.cons rfl (fun K hK => ?_) AllReadyH.nil
          go_simp
          refine (HA18.out _ hHeld).mono ?_
          rintro e' w' ⟨rfl, hS'⟩
          refine hK.out _ _ hS' (fun hHeld => ?_)
          clear hK K
          try simp only [Act.put, List.setIfInBounds_toArray, List.set_cons_zero, List.set_cons_succ]
          (refine Held.takeH (i := 11) (k := 143) (v := .bool false) rfl (by as_aux_lemma => kernel_rfl) (by as_aux_lemma => kernel_rfl) (by as_aux_lemma => kernel_rfl) (by as_aux_lemma => kernel_rfl) (fun _ _ _ h => h) (Or.inl ⟨by rfl, ?_⟩) (by assumption) ?_; (focus (intro w hSw; (try dsimp only at hSw); go_simp; (try rfl))); (simp only [List.setIfInBounds_toArray, List.set_cons_zero, List.set_cons_succ]))
          (refine Held.takeH (i := 12) (k := 144) (v := .bool false) rfl (by as_aux_lemma => kernel_rfl) (by as_aux_lemma => kernel_rfl) (by as_aux_lemma => kernel_rfl) (by as_aux_lemma => kernel_rfl) (fun _ _ _ h => h) (Or.inl ⟨by rfl, ?_⟩) (by assumption) ?_; (focus (intro w hSw; (try dsimp only at hSw); go_simp; (try rfl))); (simp only [List.setIfInBounds_toArray, List.set_cons_zero, List.set_cons_succ]))
          (refine Held.takeH (i := 13) (k := 145) (v := ?_) rfl (by as_aux_lemma => kernel_rfl) (by as_aux_lemma => kernel_rfl) (by as_aux_lemma => kernel_rfl) (by as_aux_lemma => kernel_rfl) (fun _ _ _ h => h) (Or.inl ⟨by rfl, ?_⟩) (by assumption) ?_; rotate_left; (focus (intro w hSw; (try dsimp only at hSw); go_simp; (try with_reducible rfl))); (simp only [List.setIfInBounds_toArray, List.set_cons_zero, List.set_cons_succ]))
          (refine Held.takeH (i := 14) (k := 146) (v := ?_) rfl (by as_aux_lemma => kernel_rfl) (by as_aux_lemma => kernel_rfl) (by as_aux_lemma => kernel_rfl) (by as_aux_lemma => kernel_rfl) (fun _ _ _ h => h) (Or.inl ⟨by rfl, ?_⟩) (by assumption) ?_; rotate_left; (focus (intro w hSw; (try dsimp only at hSw); go_simp; (try with_reducible rfl))); (simp only [List.setIfInBounds_toArray, List.set_cons_zero, List.set_cons_succ]))
          (refine Held.takeH (i := 15) (k := 147) (v := ?_) rfl (by as_aux_lemma => kernel_rfl) (by as_aux_lemma => kernel_rfl) (by as_aux_lemma => kernel_rfl) (by as_aux_lemma => kernel_rfl) (fun _ _ _ h => h) (Or.inl ⟨by rfl, ?_⟩) (by assumption) ?_; rotate_left; (focus (intro w hSw; (try dsimp only at hSw); go_simp; (try with_reducible rfl))); (simp only [List.setIfInBounds_toArray, List.set_cons_zero, List.set_cons_succ]))
          (refine Held.takeH (i := 16) (k := 148) (v := ?_) rfl (by as_aux_lemma => kernel_rfl) (by as_aux_lemma => kernel_rfl) (by as_aux_lemma => kernel_rfl) (by as_aux_lemma => kernel_rfl) (fun _ _ _ h => h) (Or.inl ⟨by rfl, ?_⟩) (by assumption) ?_; rotate_left; (focus (intro w hSw; (try dsimp only at hSw); go_simp; (try with_reducible rfl))); (simp only [List.setIfInBounds_toArray, List.set_cons_zero, List.set_cons_succ]))
          (refine Held.takeH (i := 17) (k := 149) (v := ?_) rfl (by as_aux_lemma => kernel_rfl) (by as_aux_lemma => kernel_rfl) (by as_aux_lemma => kernel_rfl) (by as_aux_lemma => kernel_rfl) (fun _ _ _ h => h) (Or.inl ⟨by rfl, ?_⟩) (by assumption) ?_; rotate_left; (focus (intro w hSw; (try dsimp only at hSw); go_simp; (try with_reducible rfl))); (simp only [List.setIfInBounds_toArray, List.set_cons_zero, List.set_cons_succ]))
          refine wpAnyH_ready (rs := [18]) (by as_aux_lemma => kernel_rfl) (by simp) ?_
          refine AllReadyH.cons rfl (fun K hK => ?_) AllReadyH.nil
          go_simp
          refine (HB18.out _ hHeld).mono ?_
          rintro e' w' ⟨rfl, hS'⟩
          refine hK.out _ _ hS' (fun hHeld => ?_)
          clear hK K
          try simp only [Act.put, List.setIfInBounds_toArray, List.set_cons_zero, List.set_cons_succ]
          (refine Held.takeH (i := 19) (k := 151) (v := .bool false) rfl (by as_aux_lemma => kernel_rfl) (by as_aux_lemma => kernel_rfl) (by as_aux_lemma => kernel_rfl) (by as_aux_lemma => kernel_rfl) (fun _ _ _ h => h) (Or.inl ⟨by rfl, ?_⟩) (by assumption) ?_; (focus (intro w hSw; (try dsimp only at hSw); go_simp; (try rfl))); (simp only [List.setIfInBounds_toArray, List.set_cons_zero, List.set_cons_succ]))
          (refine Held.takeH (i := 20) (k := 152) (v := .bool false) rfl (by as_aux_lemma => kernel_rfl) (by as_aux_lemma => kernel_rfl) (by as_aux_lemma => kernel_rfl) (by as_aux_lemma => kernel_rfl) (fun _ _ _ h => h) (Or.inl ⟨by rfl, ?_⟩) (by assumption) ?_; (focus (intro w hSw; (try dsimp only at hSw); go_simp; (try rfl))); (simp only [List.setIfInBounds_toArray, List.set_cons_zero, List.set_cons_succ]))
          (refine Held.takeH (i := 21) (k := 153) (v := .bool false) rfl (by as_aux_lemma => kernel_rfl) (by as_aux_lemma => kernel_rfl) (by as_aux_lemma => kernel_rfl) (by as_aux_lemma => kernel_rfl) (fun _ _ _ h => h) (Or.inl ⟨by rfl, ?_⟩) (by assumption) ?_; (focus (intro w hSw; (try dsimp only at hSw); go_simp; (try rfl))); (simp only [List.setIfInBounds_toArray, List.set_cons_zero, List.set_cons_succ]))
          (refine Held.takeH (i := 22) (k := 154) (v := ?_) rfl (by as_aux_lemma => kernel_rfl) (by as_aux_lemma => kernel_rfl) (by as_aux_lemma => kernel_rfl) (by as_aux_lemma => kernel_rfl) (fun _ _ _ h => h) (Or.inl ⟨by rfl, ?_⟩) (by assumption) ?_; rotate_left; (focus (intro w hSw; (try dsimp only at hSw); go_simp; (try with_reducible rfl))); (simp only [List.setIfInBounds_toArray, List.set_cons_zero, List.set_cons_succ]))
          (refine Held.takeH (i := 23) (k := 155) (v := ?_) rfl (by as_aux_lemma => kernel_rfl) (by as_aux_lemma => kernel_rfl) (by as_aux_lemma => kernel_rfl) (by as_aux_lemma => kernel_rfl) (fun _ _ _ h => h) (Or.inl ⟨by rfl, ?_⟩) (by assumption) ?_; rotate_left; (focus (intro w hSw; (try dsimp only at hSw); go_simp; (try with_reducible rfl))); (simp only [List.setIfInBounds_toArray, List.set_cons_zero, List.set_cons_succ]))
          (refine Held.takeH (i := 24) (k := 156) (v := ?_) rfl (by as_aux_lemma => kernel_rfl) (by as_aux_lemma => kernel_rfl) (by as_aux_lemma => kernel_rfl) (by as_aux_lemma => kernel_rfl) (fun _ _ _ h => h) (Or.inl ⟨by rfl, ?_⟩) (by assumption) ?_; rotate_left; (focus (intro w hSw; (try dsimp only at hSw); go_simp; (try with_reducible rfl))); (simp only [List.setIfInBounds_toArray, List.set_cons_zero, List.set_cons_succ]))
          (refine Held.takeH (i := 25) (k := 157) (v := ?_) rfl (by as_aux_lemma => kernel_rfl) (by as_aux_lemma => kernel_rfl) (by as_aux_lemma => kernel_rfl) (by as_aux_lemma => kernel_rfl) (fun _ _ _ h => h) (Or.inl ⟨by rfl, ?_⟩) (by assumption) ?_; rotate_left; (focus (intro w hSw; (try dsimp only at hSw); go_simp; (try with_reducible rfl))); (simp only [List.setIfInBounds_toArray, List.set_cons_zero, List.set_cons_succ]))
          (refine Held.takeH (i := 26) (k := 158) (v := ?_) rfl (by as_aux_lemma => kernel_rfl) (by as_aux_lemma => kernel_rfl) (by as_aux_lemma => kernel_rfl) (by as_aux_lemma => kernel_rfl) (fun _ _ _ h => h) (Or.inl ⟨by rfl, ?_⟩) (by assumption) ?_; rotate_left; (focus (intro w hSw; (try dsimp only at hSw); go_simp; (try with_reducible rfl))); (simp only [List.setIfInBounds_toArray, List.set_cons_zero, List.set_cons_succ]))
          (refine Held.takeH (i := 28) (k := 160) (v := ?_) rfl (by as_aux_lemma => kernel_rfl) (by as_aux_lemma => kernel_rfl) (by as_aux_lemma => kernel_rfl) (by as_aux_lemma => kernel_rfl) (fun _ _ _ h => h) (Or.inl ⟨by rfl, ?_⟩) (by assumption) ?_; rotate_left; (focus (intro w hSw; (try dsimp only at hSw); go_simp; (try with_reducible rfl))); (simp only [List.setIfInBounds_toArray, List.set_cons_zero, List.set_cons_succ]))
          (refine Held.takeH (i := 29) (k := 161) (v := ?_) rfl (by as_aux_lemma => kernel_rfl) (by as_aux_lemma => kernel_rfl) (by as_aux_lemma => kernel_rfl) (by as_aux_lemma => kernel_rfl) (fun _ _ _ h => h) (Or.inl ⟨by rfl, ?_⟩) (by assumption) ?_; rotate_left; (focus (intro w hSw; (try dsimp only at hSw); go_simp; (try with_reducible rfl))); (simp only [List.setIfInBounds_toArray, List.set_cons_zero, List.set_cons_succ]))
          (refine Held.takeH (i := 30) (k := 162) (v := .int .i64 p3) rfl (by as_aux_lemma => kernel_rfl) (by as_aux_lemma => kernel_rfl) (by as_aux_lemma => kernel_rfl) (by as_aux_lemma => kernel_rfl) (fun _ _ _ h => h) (Or.inl ⟨by rfl, ?_⟩) (by assumption) ?_; (focus (intro w hSw; (try dsimp only at hSw); go_simp; (try rfl))); (simp only [List.setIfInBounds_toArray, List.set_cons_zero, List.set_cons_succ]))
          (refine Held.takeH (i := 31) (k := 163) (v := .int .i64 p4) rfl (by as_aux_lemma => kernel_rfl) (by as_aux_lemma => kernel_rfl) (by as_aux_lemma => kernel_rfl) (by as_aux_lemma => kernel_rfl) (fun _ _ _ h => h) (Or.inl ⟨by rfl, ?_⟩) (by assumption) ?_; (focus (intro w hSw; (try dsimp only at hSw); go_simp; (try rfl))); (simp only [List.setIfInBounds_toArray, List.set_cons_zero, List.set_cons_succ]))
          (refine Held.takeH (i := 32) (k := 164) (v := ?_) rfl (by as_aux_lemma => kernel_rfl) (by as_aux_lemma => kernel_rfl) (by as_aux_lemma => kernel_rfl) (by as_aux_lemma => kernel_rfl) (fun _ _ _ h => h) (Or.inl ⟨by rfl, ?_⟩) (by assumption) ?_; rotate_left; (focus (intro w hSw; (try dsimp only at hSw); go_simp; (try with_reducible rfl))); (simp only [List.setIfInBounds_toArray, List.set_cons_zero, List.set_cons_succ]))
          (refine Held.takeH (i := 33) (k := 165) (v := .int .i64 q2) rfl (by as_aux_lemma => kernel_rfl) (by as_aux_lemma => kernel_rfl) (by as_aux_lemma => kernel_rfl) (by as_aux_lemma => kernel_rfl) (fun _ _ _ h => h) (Or.inl ⟨by rfl, ?_⟩) (by assumption) ?_; (focus (intro w hSw; (try dsimp only at hSw); go_simp; (try rfl))); (simp only [List.setIfInBounds_toArray, List.set_cons_zero, List.set_cons_succ]))
          refine wpAnyH_ready (rs := [27]) (by as_aux_lemma => kernel_rfl) (by simp) ?_
          refine AllReadyH.cons rfl (fun K hK => ?_) AllReadyH.nil
          go_simp
          refine (HD18.out _ hHeld).mono ?_
          rintro e' w' ⟨rfl, hS'⟩
          refine hK.out _ _ hS' (fun hHeld => ?_)
          clear hK K
          try simp only [Act.put, List.setIfInBounds_toArray, List.set_cons_zero, List.set_cons_succ]
          (refine Held.takeH (i := 34) (k := 166) (v := .bool false) rfl (by as_aux_lemma => kernel_rfl) (by as_aux_lemma => kernel_rfl) (by as_aux_lemma => kernel_rfl) (by as_aux_lemma => kernel_rfl) (fun _ _ _ h => h) (Or.inl ⟨by rfl, ?_⟩) (by assumption) ?_; (focus (intro w hSw; (try dsimp only at hSw); go_simp; (try rfl))); (simp only [List.setIfInBounds_toArray, List.set_cons_zero, List.set_cons_succ]))
          (refine Held.takeH (i := 35) (k := 167) (v := .bool false) rfl (by as_aux_lemma => kernel_rfl) (by as_aux_lemma => kernel_rfl) (by as_aux_lemma => kernel_rfl) (by as_aux_lemma => kernel_rfl) (fun _ _ _ h => h) (Or.inl ⟨by rfl, ?_⟩) (by assumption) ?_; (focus (intro w hSw; (try dsimp only at hSw); go_simp; (try rfl))); (simp only [List.setIfInBounds_toArray, List.set_cons_zero, List.set_cons_succ]))
          (refine Held.takeH (i := 36) (k := 168) (v := .bool false) rfl (by as_aux_lemma => kernel_rfl) (by as_aux_lemma => kernel_rfl) (by as_aux_lemma => kernel_rfl) (by as_aux_lemma => kernel_rfl) (fun _ _ _ h => h) (Or.inl ⟨by rfl, ?_⟩) (by assumption) ?_; (focus (intro w hSw; (try dsimp only at hSw); go_simp; (try rfl))); (simp only [List.setIfInBounds_toArray, List.set_cons_zero, List.set_cons_succ]))
          (refine Held.takeH (i := 37) (k := 169) (v := ?_) rfl (by as_aux_lemma => kernel_rfl) (by as_aux_lemma => kernel_rfl) (by as_aux_lemma => kernel_rfl) (by as_aux_lemma => kernel_rfl) (fun _ _ _ h => h) (Or.inl ⟨by rfl, ?_⟩) (by assumption) ?_; rotate_left; (focus (intro w hSw; (try dsimp only at hSw); go_simp; (try with_reducible rfl))); (simp only [List.setIfInBounds_toArray, List.set_cons_zero, List.set_cons_succ]))
          (refine Held.takeH (i := 39) (k := 171) (v := ?_) rfl (by as_aux_lemma => kernel_rfl) (by as_aux_lemma => kernel_rfl) (by as_aux_lemma => kernel_rfl) (by as_aux_lemma => kernel_rfl) (fun _ _ _ h => h) (Or.inl ⟨by rfl, ?_⟩) (by assumption) ?_; rotate_left; (focus (intro w hSw; (try dsimp only at hSw); go_simp; (try with_reducible rfl))); (simp only [List.setIfInBounds_toArray, List.set_cons_zero, List.set_cons_succ]))
          (refine Held.takeH (i := 40) (k := 172) (v := ?_) rfl (by as_aux_lemma => kernel_rfl) (by as_aux_lemma => kernel_rfl) (by as_aux_lemma => kernel_rfl) (by as_aux_lemma => kernel_rfl) (fun _ _ _ h => h) (Or.inl ⟨by rfl, ?_⟩) (by assumption) ?_; rotate_left; (focus (intro w hSw; (try dsimp only at hSw); go_simp; (try with_reducible rfl))); (simp only [List.setIfInBounds_toArray, List.set_cons_zero, List.set_cons_succ]))
          (refine Held.takeH (i := 41) (k := 173) (v := ?_) rfl (by as_aux_lemma => kernel_rfl) (by as_aux_lemma => kernel_rfl) (by as_aux_lemma => kernel_rfl) (by as_aux_lemma => kernel_rfl) (fun _ _ _ h => h) (Or.inl ⟨by rfl, ?_⟩) (by assumption) ?_; rotate_left; (focus (intro w hSw; (try dsimp only at hSw); go_simp; (try with_reducible rfl))); (simp only [List.setIfInBounds_toArray, List.set_cons_zero, List.set_cons_succ]))
          (refine Held.takeH (i := 42) (k := 174) (v := ?_) rfl (by as_aux_lemma => kernel_rfl) (by as_aux_lemma => kernel_rfl) (by as_aux_lemma => kernel_rfl) (by as_aux_lemma => kernel_rfl) (fun _ _ _ h => h) (Or.inl ⟨by rfl, ?_⟩) (by assumption) ?_; rotate_left; (focus (intro w hSw; (try dsimp only at hSw); go_simp; (try with_reducible rfl))); (simp only [List.setIfInBounds_toArray, List.set_cons_zero, List.set_cons_succ]))
          refine wpAnyH_ready (rs := [38]) (by as_aux_lemma => kernel_rfl) (by simp) ?_
          refine AllReadyH.cons rfl (fun K hK => ?_) AllReadyH.nil
          go_simp
          refine (HF18.out _ hHeld).mono ?_
          rintro e' w' ⟨rfl, hS'⟩
          refine hK.out _ _ hS' (fun hHeld => ?_)
          clear hK K
          try simp only [Act.put, List.setIfInBounds_toArray, List.set_cons_zero, List.set_cons_succ]
          (refine Held.takeH (i := 43) (k := 175) (v := .int .i64 0) rfl (by as_aux_lemma => kernel_rfl) (by as_aux_lemma => kernel_rfl) (by as_aux_lemma => kernel_rfl) (by as_aux_lemma => kernel_rfl) (fun _ _ _ h => h) (Or.inl ⟨by rfl, ?_⟩) (by assumption) ?_; (focus (intro w hSw; (try dsimp only at hSw); go_simp; (try rfl))); (simp only [List.setIfInBounds_toArray, List.set_cons_zero, List.set_cons_succ]))
          (refine Held.takeH (i := 44) (k := 176) (v := .bool false) rfl (by as_aux_lemma => kernel_rfl) (by as_aux_lemma => kernel_rfl) (by as_aux_lemma => kernel_rfl) (by as_aux_lemma => kernel_rfl) (fun _ _ _ h => h) (Or.inl ⟨by rfl, ?_⟩) (by assumption) ?_; (focus (intro w hSw; (try dsimp only at hSw); go_simp; (try rfl))); (simp only [List.setIfInBounds_toArray, List.set_cons_zero, List.set_cons_succ]))
          (refine Held.takeH (i := 45) (k := 177) (v := .bool false) rfl (by as_aux_lemma => kernel_rfl) (by as_aux_lemma => kernel_rfl) (by as_aux_lemma => kernel_rfl) (by as_aux_lemma => kernel_rfl) (fun _ _ _ h => h) (Or.inl ⟨by rfl, ?_⟩) (by assumption) ?_; (focus (intro w hSw; (try dsimp only at hSw); go_simp; (try rfl))); (simp only [List.setIfInBounds_toArray, List.set_cons_zero, List.set_cons_succ]))
          refine wpAnyH_done (by as_aux_lemma => kernel_rfl) ?_ _
          go_wp2_with fail
          exact ⟨⟨i + 1, by omega, by go_num, Lib.hid hHeld.2.2.2⟩, by simp only [intOf]; omega⟩
        · obtain rfl : i = zs.length := by omega
          clear hlt hi HTF HZZ PFR
          -- how far apart
          obtain ⟨x0, x1, -⟩ := HCp.out _ Q9.out
          go_upto_region 20 with fail
          go_cut [205] (fun cv wx => cv = .bool false ∧ Hid (PK wx))
          case first =>
            as_aux_lemma =>
            cases ib
            · clear HDD
              go_wp2_with fail
              refine (PB1.out _ Q9.out).mono ?_
              rintro e w20 ⟨rfl, hk20⟩
              have K20 := Lib.hid hk20
              clear hk20 x0 x1
              obtain ⟨x0, x1, -⟩ := HCp.out _ K20.out
              go_wp2_with fail
              go_meet
              exact ⟨rfl, K20⟩
            · cases ic
              · clear HDD
                go_wp2_with fail
                refine (PB1.out _ Q9.out).mono ?_
                rintro e w20 ⟨rfl, hk20⟩
                have K20 := Lib.hid hk20
                clear hk20 x0 x1
                obtain ⟨x0, x1, -⟩ := HCp.out _ K20.out
                go_wp2_with fail
                refine (PB2.out _ K20.out).mono ?_
                rintro e w21 ⟨rfl, hk21⟩
                have K21 := Lib.hid hk21
                clear hk21 x0 x1
                obtain ⟨x0, x1, -⟩ := HCp.out _ K21.out
                go_wp2_with fail
                go_meet
                exact ⟨rfl, K21⟩
              · obtain ⟨hd0, hd2, hdz⟩ := HDD.out rfl rfl
                subst hd2
                have j1 : decide (d2 < 0) = false := decide_eq_false (by omega)
                by_cases hbc : b0 = c0
                · have j2 : (d2 == 0) = true := by rw [hdz.2 hbc]; rfl
                  have j3 : (b0 == c0) = true := beq_iff_eq.2 hbc
                  clear HDD hdz hd0 hbc
                  go_wp2_with fail
                  refine (PB1.out _ Q9.out).mono ?_
                  rintro e w20 ⟨rfl, hk20⟩
                  have K20 := Lib.hid hk20
                  clear hk20 x0 x1
                  obtain ⟨x0, x1, -⟩ := HCp.out _ K20.out
                  go_wp2_with fail
                  refine (PB2.out _ K20.out).mono ?_
                  rintro e w21 ⟨rfl, hk21⟩
                  have K21 := Lib.hid hk21
                  clear hk21 x0 x1
                  obtain ⟨x0, x1, -⟩ := HCp.out _ K21.out
                  go_wp2_with fail
                  refine (PB3.out _ K21.out).mono ?_
                  rintro e w22 ⟨rfl, hk22⟩
                  have K22 := Lib.hid hk22
                  clear hk22 x0 x1
                  obtain ⟨x0, x1, -⟩ := HCp.out _ K22.out
                  go_wp2_with fail
                  go_meet
                  exact ⟨rfl, K22⟩
                · have j2 : (d2 == 0) = false := by simp; exact fun h => hbc (hdz.1 h)
                  have j3 : (b0 == c0) = false := by simp; exact hbc
                  clear HDD hdz hd0 hbc
                  go_wp2_with fail
                  refine (PB1.out _ Q9.out).mono ?_
                  rintro e w20 ⟨rfl, hk20⟩
                  have K20 := Lib.hid hk20
                  clear hk20 x0 x1
                  obtain ⟨x0, x1, -⟩ := HCp.out _ K20.out
                  go_wp2_with fail
                  refine (PB2.out _ K20.out).mono ?_
                  rintro e w21 ⟨rfl, hk21⟩
                  have K21 := Lib.hid hk21
                  clear hk21 x0 x1
                  obtain ⟨x0, x1, -⟩ := HCp.out _ K21.out
                  go_wp2_with fail
                  refine (PB3.out _ K21.out).mono ?_
                  rintro e w22 ⟨rfl, hk22⟩
                  have K22 := Lib.hid hk22
                  clear hk22 x0 x1
                  obtain ⟨x0, x1, -⟩ := HCp.out _ K22.out
                  go_wp2_with fail
                  go_meet
                  exact ⟨rfl, K22⟩
          case rest =>
            obtain ⟨rfl, QB⟩ := hcut
            clear Q9 PB1 PB2 PB3 HDD x0 x1 g3
            -- flips go both ways
            obtain ⟨x0, x1, -⟩ := HCt.out _ QB.out
            go_upto_region 22 with fail
            go_cut [226] (fun cv wx => cv = .bool false ∧ Hid (PK wx))
            case first =>
              as_aux_lemma =>
              cases fo
              · clear PF1 PF2 PF3 PF4
                go_wp2_with fail
                go_meet
                exact ⟨rfl, QB⟩
              · have P1 := Lib.hid (PF1.out rfl)
                have P2 := Lib.hid (PF2.out rfl)
                have P3 := Lib.hid (PF3.out rfl)
                have P4 := Lib.hid (PF4.out rfl)
                clear PF1 PF2 PF3 PF4
                go_wp2_with fail
                refine (P1.out _ QB.out).mono ?_
                rintro e w30 ⟨rfl, hk30⟩
                have K30 := Lib.hid hk30
                clear hk30 x0 x1
                obtain ⟨x0, x1, -⟩ := HCt.out _ K30.out
                go_wp2_with fail
                refine (P2.out _ K30.out).mono ?_
                rintro e w31 ⟨rfl, hk31⟩
                have K31 := Lib.hid hk31
                clear hk31 x0 x1
                obtain ⟨x0, x1, -⟩ := HCt.out _ K31.out
                go_wp2_with fail
                refine (P3.out _ K31.out).mono ?_
                rintro e w32 ⟨⟨a', c', rfl, t'⟩, hk32⟩
                have T32 := Lib.hid t'
                have K32 := Lib.hid hk32
                clear t' hk32 x0 x1
                obtain ⟨x0, x1, -⟩ := HCt.out _ K32.out
                go_wp2_with fail
                refine (P4.out _ _ _ K32.out T32.out).mono ?_
                rintro e w33 ⟨rfl, hk33⟩
                have K33 := Lib.hid hk33
                clear hk33 x0 x1
                go_wp2_with fail
                go_meet
                exact ⟨rfl, K33⟩
            case rest =>
              obtain ⟨rfl, QC⟩ := hcut
              clear QB PF1 PF2 PF3 PF4 x0 x1
              -- each flip is one step
              go_wp2_with fail
              go_loopw [21] (fun x wr => ∃ i : Nat, i ≤ fs.length ∧ x = .int .i64 i ∧ Hid (PK wr)) (fun x _ => fs.length - (intOf x).toNat)
              case atStart => exact ⟨0, Nat.zero_le _, rfl, QC⟩
              case round =>
                clear QC
                obtain ⟨i, hi, rfl, Q9⟩ := hrel
                by_cases hlt : i < fs.length
                · as_aux_lemma =>
                  obtain ⟨bf, rfl, y0⟩ := (HFZ.out _ Q9.out).get hlt
                  have HZC : Hid (∀ W, PK W → W.cell? ⟨bf, i, none⟩ = some (.int .i64 (fs.getD i 0))) := Lib.hid (fun W hW => by obtain ⟨b, e1, e2⟩ := (HFZ.out _ hW).get hlt; injection e1 with e1; injection e1 with e1; subst e1; exact e2)
                  have HCZ := Lib.hid (HFF.out (fs.getD i 0) (getD_memT hlt))
                  generalize fs.getD i 0 = zv at y0 HZC HCZ
                  have HC27 : Hid (∀ W, PK W → W.cell? ⟨bt, 0, none⟩ = some (.int .i64 mt) ∧ W.cell? ⟨bt, 1, none⟩ = some (.string Tt) ∧ W.cell? ⟨bf, i, none⟩ = some (.int .i64 zv) ∧ PK W) := Lib.hid (fun W hW => ⟨(HCt.out W hW).1, (HCt.out W hW).2.1, HZC.out W hW, hW⟩)
                  have HA27 : Hid (∀ W, (W.cell? ⟨bt, 0, none⟩ = some (.int .i64 mt) ∧ W.cell? ⟨bt, 1, none⟩ = some (.string Tt) ∧ W.cell? ⟨bf, i, none⟩ = some (.int .i64 zv) ∧ PK W) → Calls Tryz.prog 57 #[sg mt Tt, .int .i64 a0, .int .i64 zv] W fun e w' => e = .returned (.int .i64 1) ∧ w'.cell? ⟨bt, 0, none⟩ = some (.int .i64 mt) ∧ w'.cell? ⟨bt, 1, none⟩ = some (.string Tt) ∧ w'.cell? ⟨bf, i, none⟩ = some (.int .i64 zv) ∧ PK w') := Lib.hid (fun W hW => (HCZ.out W hW.2.2.2).mono fun e w' ⟨he, hk⟩ => ⟨he, HC27.out _ hk⟩)
                  have i1 : (0 : Int) ≤ (i : Int) := by omega
                  have i2 : (i : Int) < (fs.length : Int) := by omega
                  obtain ⟨x0, x1, -⟩ := HC27.out _ Q9.out
                  go_upto_region 27 with fail
                  refine wp_region_held (S := fun W => W.cell? ⟨bt, 0, none⟩ = some (.int .i64 mt) ∧ W.cell? ⟨bt, 1, none⟩ = some (.string Tt) ∧ W.cell? ⟨bf, i, none⟩ = some (.int .i64 zv) ∧ PK W) rfl ?_
                  have hHeld := (HC27.out _ (HDR.out _ Q9.out))
                  (refine Held.takeH (i := 0) (k := 233) (v := ?_) rfl (by as_aux_lemma => kernel_rfl) (by as_aux_lemma => kernel_rfl) (by as_aux_lemma => kernel_rfl) (by as_aux_lemma => kernel_rfl) (fun _ _ _ h => h) (Or.inl ⟨by rfl, ?_⟩) (by assumption) ?_; rotate_left; (focus (intro w hSw; (try dsimp only at hSw); go_simp; (try with_reducible rfl))); (simp only [List.setIfInBounds_toArray, List.set_cons_zero, List.set_cons_succ]))
                  (refine Held.takeH (i := 1) (k := 234) (v := ?_) rfl (by as_aux_lemma => kernel_rfl) (by as_aux_lemma => kernel_rfl) (by as_aux_lemma => kernel_rfl) (by as_aux_lemma => kernel_rfl) (fun _ _ _ h => h) (Or.inl ⟨by rfl, ?_⟩) (by assumption) ?_; rotate_left; (focus (intro w hSw; (try dsimp only at hSw); go_simp; (try with_reducible rfl))); (simp only [List.setIfInBounds_toArray, List.set_cons_zero, List.set_cons_succ]))
                  (refine Held.takeH (i := 2) (k := 235) (v := ?_) rfl (by as_aux_lemma => kernel_rfl) (by as_aux_lemma => kernel_rfl) (by as_aux_lemma => kernel_rfl) (by as_aux_lemma => kernel_rfl) (fun _ _ _ h => h) (Or.inl ⟨by rfl, ?_⟩) (by assumption) ?_; rotate_left; (focus (intro w hSw; (try dsimp only at hSw); go_simp; (try with_reducible rfl))); (simp only [List.setIfInBounds_toArray, List.set_cons_zero, List.set_cons_succ]))
                  (refine Held.takeH (i := 3) (k := 236) (v := ?_) rfl (by as_aux_lemma => kernel_rfl) (by as_aux_lemma => kernel_rfl) (by as_aux_lemma => kernel_rfl) (by as_aux_lemma => kernel_rfl) (fun _ _ _ h => h) (Or.inl ⟨by rfl, ?_⟩) (by assumption) ?_; rotate_left; (focus (intro w hSw; (try dsimp only at hSw); go_simp; (try with_reducible rfl))); (simp only [List.setIfInBounds_toArray, List.set_cons_zero, List.set_cons_succ]))
                  (refine Held.takeH (i := 4) (k := 237) (v := ?_) rfl (by as_aux_lemma => kernel_rfl) (by as_aux_lemma => kernel_rfl) (by as_aux_lemma => kernel_rfl) (by as_aux_lemma => kernel_rfl) (fun _ _ _ h => h) (Or.inl ⟨by rfl, ?_⟩) (by assumption) ?_; rotate_left; (focus (intro w hSw; (try dsimp only at hSw); go_simp; (try with_reducible rfl))); (simp only [List.setIfInBounds_toArray, List.set_cons_zero, List.set_cons_succ]))
                  (refine Held.takeH (i := 5) (k := 238) (v := ?_) rfl (by as_aux_lemma => kernel_rfl) (by as_aux_lemma => kernel_rfl) (by as_aux_lemma => kernel_rfl) (by as_aux_lemma => kernel_rfl) (fun _ _ _ h => h) (Or.inl ⟨by rfl, ?_⟩) (by assumption) ?_; rotate_left; (focus (intro w hSw; (try dsimp only at hSw); go_simp; (try with_reducible rfl))); (simp only [List.setIfInBounds_toArray, List.set_cons_zero, List.set_cons_succ]))
                  refine wpAnyH_ready (rs := [6]) (by as_aux_lemma => kernel_rfl) (by simp) ?_
                  refine AllReadyH.cons rfl (fun K hK => ?_) AllReadyH.nil
                  go_simp
                  refine (HA27.out _ hHeld).mono ?_
                  rintro e' w' ⟨rfl, hS'⟩
                  refine hK.out _ _ hS' (fun hHeld => ?_)
                  clear hK K
                  try simp only [Act.put, List.setIfInBounds_toArray, List.set_cons_zero, List.set_cons_succ]
                  (refine Held.takeH (i := 7) (k := 240) (v := .bool false) rfl (by as_aux_lemma => kernel_rfl) (by as_aux_lemma => kernel_rfl) (by as_aux_lemma => kernel_rfl) (by as_aux_lemma => kernel_rfl) (fun _ _ _ h => h) (Or.inl ⟨by rfl, ?_⟩) (by assumption) ?_; (focus (intro w hSw; (try dsimp only at hSw); go_simp; (try rfl))); (simp only [List.setIfInBounds_toArray, List.set_cons_zero, List.set_cons_succ]))
                  refine wpAnyH_done (by as_aux_lemma => kernel_rfl) ?_ _
                  go_wp2_with fail
                  exact ⟨⟨i + 1, by omega, by go_num, Lib.hid hHeld.2.2.2⟩, by simp only [intOf]; omega⟩
                · obtain rfl : i = fs.length := by omega
                  clear hlt hi HFF HFZ
                  -- is there one at all
                  obtain ⟨x0, x1, -⟩ := HCs.out _ Q9.out
                  have hsm := HSM.out
                  obtain ⟨q, hq⟩ : ∃ q : Nat, q = zs.length := ⟨_, rfl⟩
                  rw [← hq] at hsm ⊢
                  clear HSM
                  cases ac
                  · have e1 : q = 0 := by simp at hsm; omega
                    subst e1
                    clear hsm hq
                    go_wp2_with fail
                    refine (PAC.out _ Q9.out).mono ?_
                    rintro e w40 ⟨rfl, hk40⟩
                    have BF := Lib.hid (HBE.out _ hk40)
                    clear x0 x1
                    obtain ⟨x0, x1, -⟩ := HCs.out _ hk40
                    clear hk40
                    go_wp2
                    go_ret
                    exact ⟨rfl, BF.out⟩
                  · by_cases h6 : (ms : Int) ≤ 6
                    · have e1 : 0 < q := by simpa [h6] using hsm
                      have k1 : decide ((ms : Int) ≤ 6) = true := decide_eq_true h6
                      have k2 : decide ((q : Int) > 0) = true := decide_eq_true (by omega)
                      have k3 : decide ((0 : Int) < (q : Int)) = true := decide_eq_true (by omega)
                      have k4 : decide (0 < q) = true := decide_eq_true e1
                      have k5 : decide (ms ≤ 6) = true := decide_eq_true (by omega)
                      clear hsm hq h6 e1
                      go_wp2_with fail
                      refine (PAC.out _ Q9.out).mono ?_
                      rintro e w40 ⟨rfl, hk40⟩
                      have BF := Lib.hid (HBE.out _ hk40)
                      clear x0 x1
                      obtain ⟨x0, x1, -⟩ := HCs.out _ hk40
                      clear hk40
                      go_wp2
                      go_ret
                      exact ⟨rfl, BF.out⟩
                    · have e1 : ¬ 0 < q := by simpa [h6] using hsm
                      obtain rfl : q = 0 := by omega
                      have k1 : decide ((ms : Int) ≤ 6) = false := decide_eq_false h6
                      have k5 : decide (ms ≤ 6) = false := decide_eq_false (by omega)
                      clear hsm hq h6 e1
                      go_wp2_with fail
                      refine (PAC.out _ Q9.out).mono ?_
                      rintro e w40 ⟨rfl, hk40⟩
                      have BF := Lib.hid (HBE.out _ hk40)
                      clear x0 x1
                      obtain ⟨x0, x1, -⟩ := HCs.out _ hk40
                      clear hk40
                      go_wp2
                      go_ret
                      exact ⟨rfl, BF.out⟩
end Go.Proofs.YtinlnafkmoabbaaGreatDoor.Sg
