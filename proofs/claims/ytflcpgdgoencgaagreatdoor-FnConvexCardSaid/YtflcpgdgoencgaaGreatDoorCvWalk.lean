/- FnConvex: the law's own walk. -/
import Derived.Test.YtflcpgdgoencgaaGreatDoorMgV
import Derived.Test.YtflcpgdgoencgaaGreatDoorMgW
import Derived.Test.YtflcpgdgoencgaaGreatDoorCwLens
import Derived.Test.YtflcpgdgoencgaaGreatDoorQuLists
import Derived.Test.YtflcpgdgoencgaaGreatDoorMgQ
import Derived.Test.YtflcpgdgoencgaaGreatDoorTakeH
import Derived.Deep.DeepCutAuto
import Derived.BigQuiet
namespace Go.Proofs.YtflcpgdgoencgaaGreatDoor.Sg
open Go.RowKit Pt NewI NewII Cur
/-- A list just made. -/
def TmpC (zs : List Int) (a : Option Addr) (W : World) : Prop := ∃ lo hi, NewI.New W lo hi a zs.length (zc zs)
theorem TmpC.on {zs : List Int} {a : Option Addr} {W W' : World} (h : TmpC zs a W) (hb : Below W.heap.size W W') : TmpC zs a W' := by
  obtain ⟨lo, hi, h⟩ := h
  exact ⟨lo, hi, h.on hb⟩
theorem TmpC.get {zs : List Int} {a : Option Addr} {W : World} (h : TmpC zs a W) {i : Nat} (hi : i < zs.length) : ∃ b, a = some ⟨b, 0, none⟩ ∧ W.cell? ⟨b, i, none⟩ = some (.int .i64 (zs.getD i 0)) := by
  obtain ⟨lo, hi', h⟩ := h
  rcases h with h | ⟨g, h1, -, -, h4⟩
  · omega
  · exact ⟨g, h1, by rw [h4.cell i hi]; rfl⟩
/-- What the walk of FnConvex keeps: four boxes and four lists. -/
structure MemC (w : World) (bs bc bl bp : Nat) (ms mc ml mp : Int) (Ts Tc Tl Tp : ByteArray) (al ae aw au : Option Addr) (zs es ws us : List Int) (W : World) : Prop where
  below : Below w.heap.size w W
  s : OutC bs ms Ts W
  c : OutC bc mc Tc W
  l : OutC bl ml Tl W
  p : OutC bp mp Tp W
  z : TmpC zs al W
  e : TmpC es ae W
  x : TmpC ws aw W
  u : TmpC us au W
theorem MemC.on {w : World} {bs bc bl bp : Nat} {ms mc ml mp : Int} {Ts Tc Tl Tp : ByteArray} {al ae aw au : Option Addr} {zs es ws us : List Int} {W W' : World} (h : MemC w bs bc bl bp ms mc ml mp Ts Tc Tl Tp al ae aw au zs es ws us W) (hb' : Below W.heap.size W W') : MemC w bs bc bl bp ms mc ml mp Ts Tc Tl Tp al ae aw au zs es ws us W' :=
  ⟨h.below.trans (hb'.mono h.below.size), h.s.on hb', h.c.on hb', h.l.on hb', h.p.on hb', h.z.on hb', h.e.on hb', h.x.on hb', h.u.on hb'⟩
theorem getD_memZ {zs : List Int} {i : Nat} (h : i < zs.length) : zs.getD i 0 ∈ zs := by
  rw [List.getD_eq_getElem?_getD, List.getElem?_eq_getElem h]
  exact List.getElem_mem h
theorem lcZ_bd (n : Int) (s : List UInt8) : -1 ≤ lcZ n s ∧ lcZ n s ≤ 8 := by
  unfold lcZ
  split
  · rename_i h
    have h7 := (aciB_n h).2
    have : ∀ (c : Nat → Nat) k, lcTo c k ≤ k := fun c k => by
      induction k with
      | zero => exact Nat.le_refl _
      | succ k ih => rw [lcTo]; split <;> omega
    have := this (cvN (sgnF (lookS n s)) n.toNat) n.toNat
    omega
  · omega
theorem capL_two {n : Int} {s : List UInt8} (h : arB n s = true) (sg : Int) : 2 ≤ (zl (capL n s sg)).length := by rw [zl_length]; exact cap_two h sg
theorem capL_flip {n : Nat} {s : List UInt8} (h : arB n s = true) (b : ByteArray) (hb : b = ⟨(s.map flip1).toArray⟩) : zl (capL n b.data.toList (-1)) = zl (capL n s 1) := by
  subst hb
  exact congrArg zl (cap_opp h)
set_option maxHeartbeats 12800000 in
set_option maxRecDepth 100000 in
theorem walkFnConvex (v : Value) (n : Nat) (w : World) (hv : Bytes w v n w.heap.size) (ht : Lib.TabIs Tryz.prog w "math/bits.deBruijn64tab" .u8 tab64) :
    Calls Tryz.prog 3 #[v] w fun e w' => e = .returned (.bool true) ∧ Below w.heap.size w w' := by
  have HT := Lib.hid (Tab.of ht)
  have HBIG := Lib.hid (fun W (hW : Below w.heap.size w W) => big_any v n W (bytes_up hv hW))
  have HV := Lib.hid (fun W (hW : Below w.heap.size w W) => bytes_up hv hW)
  have B0 := Lib.hid (Below.refl w.heap.size w)
  clear hv ht
  by_cases hbig : (n : Int) > 1048576
  · go_enter Tryz.func3, Tryz.ntmps3
    go_wp2_with fail
    refine (HBIG.out _ B0.out).mono ?_
    rintro e w1 ⟨rfl, rfl⟩
    go_wp2
    go_ret
    exact ⟨rfl, B0.out⟩
  · have hn : n ≤ 9223372036854700000 := by omega
    go_enter Tryz.func3, Tryz.ntmps3
    go_wp2_with fail
    refine (HBIG.out _ B0.out).mono ?_
    rintro e w1 ⟨rfl, rfl⟩
    go_wp2_with fail
    refine (drawCv_any v n hn _ (HV.out _ B0.out)).mono ?_
    rintro e w2 ⟨ms, Ts, kk, rfl, hms, hTs, hkk, hb2⟩
    have B2 := Lib.hid (hb2.alloc hb2.size (.cells #[.int .i64 ms, .string Ts] 25))
    have hal2 := (Below.refl w2.heap.size w2).alloc (Nat.le_refl _) (.cells #[.int .i64 ms, .string Ts] 25)
    have S2 := Lib.hid (outC_made w2 ms Ts 25)
    clear hb2 hal2
    obtain ⟨⟨y0, y1⟩, -⟩ := S2.out
    go_wp2_with fail
    refine (implConvexSets ms Ts kk (by omega) _ (HT.out.on B2.out)).mono ?_
    rintro e w3 ⟨⟨al, cl, rfl, hnw⟩, hb3⟩
    have B3 := Lib.hid (B2.out.trans (hb3.mono B2.out.size))
    have S3 := Lib.hid (S2.out.on hb3)
    have Z3 : Hid (TmpC (cvZ ms Ts.data.toList kk false) al w3) := Lib.hid ⟨_, _, hnw⟩
    clear hb3 y0 y1 hnw B2 S2
    obtain ⟨⟨y0, y1⟩, -⟩ := S3.out
    go_wp2_with fail
    refine (implEmptySets ms Ts kk (by omega) _ (HT.out.on B3.out)).mono ?_
    rintro e w4 ⟨⟨ae, ce, rfl, hnw⟩, hb4⟩
    have B4 := Lib.hid (B3.out.trans (hb4.mono B3.out.size))
    have S4 := Lib.hid (S3.out.on hb4)
    have Z4 := Lib.hid (Z3.out.on hb4)
    have E4 : Hid (TmpC (cvZ ms Ts.data.toList kk true) ae w4) := Lib.hid ⟨_, _, hnw⟩
    clear hb4 y0 y1 hnw B3 S3 Z3
    go_wp2_with fail
    refine (drawIsCv_any v n hn _ (HV.out _ B4.out)).mono ?_
    rintro e w5 ⟨mc, Tc, ic, rfl, hmc, hTc, hic, hb5⟩
    have B5 := Lib.hid ((B4.out.trans (hb5.mono B4.out.size)).alloc (Nat.le_trans B4.out.size hb5.size) (.cells #[.int .i64 mc, .string Tc] 25))
    have hal5 := (Below.refl w5.heap.size w5).alloc (Nat.le_refl _) (.cells #[.int .i64 mc, .string Tc] 25)
    have S5 := Lib.hid ((S4.out.on hb5).on hal5)
    have Z5 := Lib.hid ((Z4.out.on hb5).on hal5)
    have E5 := Lib.hid ((E4.out.on hb5).on hal5)
    have C5 := Lib.hid (outC_made w5 mc Tc 25)
    clear hb5 hal5 B4 S4 Z4 E4
    go_wp2_with fail
    refine (drawLarge_any v n hn _ (HV.out _ B5.out)).mono ?_
    rintro e w6 ⟨ml, Tl, rfl, hml, hTl, hb6⟩
    have B6 := Lib.hid ((B5.out.trans (hb6.mono B5.out.size)).alloc (Nat.le_trans B5.out.size hb6.size) (.cells #[.int .i64 ml, .string Tl] 25))
    have hal6 := (Below.refl w6.heap.size w6).alloc (Nat.le_refl _) (.cells #[.int .i64 ml, .string Tl] 25)
    have S6 := Lib.hid ((S5.out.on hb6).on hal6)
    have Z6 := Lib.hid ((Z5.out.on hb6).on hal6)
    have E6 := Lib.hid ((E5.out.on hb6).on hal6)
    have C6 := Lib.hid ((C5.out.on hb6).on hal6)
    have L6 := Lib.hid (outC_made w6 ml Tl 25)
    clear hb6 hal6 B5 S5 Z5 E5 C5
    go_wp2_with fail
    refine (drawCap_any v n hn _ (HV.out _ B6.out)).mono ?_
    rintro e w7 ⟨mp, Tp, rfl, hmp, hTp, hb7⟩
    have B7 := Lib.hid ((B6.out.trans (hb7.mono B6.out.size)).alloc (Nat.le_trans B6.out.size hb7.size) (.cells #[.int .i64 mp, .string Tp] 25))
    have hal7 := (Below.refl w7.heap.size w7).alloc (Nat.le_refl _) (.cells #[.int .i64 mp, .string Tp] 25)
    have S7 := Lib.hid ((S6.out.on hb7).on hal7)
    have Z7 := Lib.hid ((Z6.out.on hb7).on hal7)
    have E7 := Lib.hid ((E6.out.on hb7).on hal7)
    have C7 := Lib.hid ((C6.out.on hb7).on hal7)
    have L7 := Lib.hid ((L6.out.on hb7).on hal7)
    have P7 := Lib.hid (outC_made w7 mp Tp 25)
    clear hb7 hal7 B6 S6 Z6 E6 C6 L6
    obtain ⟨⟨y0, y1⟩, -⟩ := P7.out
    go_wp2_with fail
    refine (implCapOf mp Tp (by omega) _ (HT.out.on B7.out)).mono ?_
    rintro e w8 ⟨⟨aw, cw, rfl, hnw⟩, hb8⟩
    have B8 := Lib.hid (B7.out.trans (hb8.mono B7.out.size))
    have S8 := Lib.hid (S7.out.on hb8)
    have Z8 := Lib.hid (Z7.out.on hb8)
    have E8 := Lib.hid (E7.out.on hb8)
    have C8 := Lib.hid (C7.out.on hb8)
    have L8 := Lib.hid (L7.out.on hb8)
    have P8 := Lib.hid (P7.out.on hb8)
    have X8 : Hid (TmpC (zl (capL mp Tp.data.toList (-1))) aw w8) := Lib.hid ⟨_, _, hnw⟩
    clear hb8 y0 y1 hnw B7 S7 Z7 E7 C7 L7 P7
    obtain ⟨⟨y0, y1⟩, -⟩ := P8.out
    go_wp2_with fail
    refine (implCupOf mp Tp (by omega) _ (HT.out.on B8.out)).mono ?_
    rintro e w9 ⟨⟨au, cu, rfl, hnw⟩, hb9⟩
    have B9 := Lib.hid (B8.out.trans (hb9.mono B8.out.size))
    have S9 := Lib.hid (S8.out.on hb9)
    have Z9 := Lib.hid (Z8.out.on hb9)
    have E9 := Lib.hid (E8.out.on hb9)
    have C9 := Lib.hid (C8.out.on hb9)
    have L9 := Lib.hid (L8.out.on hb9)
    have P9 := Lib.hid (P8.out.on hb9)
    have X9 := Lib.hid (X8.out.on hb9)
    have U9 : Hid (TmpC (zl (capL mp Tp.data.toList 1)) au w9) := Lib.hid ⟨_, _, hnw⟩
    clear hb9 y0 y1 hnw B8 S8 Z8 E8 C8 L8 P8 X8
    go_upto_region 11 with fail
    generalize hbs : w2.heap.size = bs at S9 ⊢
    clear hbs
    generalize hbc : w5.heap.size = bc at C9 ⊢
    clear hbc
    generalize hbl : w6.heap.size = bl at L9 ⊢
    clear hbl
    generalize hbp : w7.heap.size = bp at P9 ⊢
    clear hbp
    -- the memory, packed
    obtain ⟨PK, hPK⟩ : ∃ P : World → Prop, P = MemC w1 bs bc bl bp ms mc ml mp Ts Tc Tl Tp al ae aw au (cvZ ms Ts.data.toList kk false) (cvZ ms Ts.data.toList kk true) (zl (capL mp Tp.data.toList (-1))) (zl (capL mp Tp.data.toList 1)) := ⟨_, rfl⟩
    have Q8 : Hid (PK w9) := Lib.hid (by rw [hPK]; exact ⟨B9.out, S9.out, C9.out, L9.out, P9.out, Z9.out, E9.out, X9.out, U9.out⟩)
    have HDR : Hid (∀ W, PK W → PK W.drew) := Lib.hid (by rw [hPK]; exact fun W h => h.on (Below.refl _ _).drew)
    have HON : Hid (∀ W W', PK W → Below W.heap.size W W' → PK W') := Lib.hid (by rw [hPK]; exact fun W W' h hb => h.on hb)
    have HBE : Hid (∀ W, PK W → Below w1.heap.size w1 W) := Lib.hid (by rw [hPK]; exact fun W h => h.below)
    have HTB : Hid (∀ W, PK W → Tab W) := Lib.hid (fun W h => HT.out.on (HBE.out W h))
    have HZZ : Hid (∀ W, PK W → TmpC (cvZ ms Ts.data.toList kk false) al W) := Lib.hid (by rw [hPK]; exact fun W h => h.z)
    have HEZ : Hid (∀ W, PK W → TmpC (cvZ ms Ts.data.toList kk true) ae W) := Lib.hid (by rw [hPK]; exact fun W h => h.e)
    have HXZ : Hid (∀ W, PK W → TmpC (zl (capL mp Tp.data.toList (-1))) aw W) := Lib.hid (by rw [hPK]; exact fun W h => h.x)
    have HUZ : Hid (∀ W, PK W → TmpC (zl (capL mp Tp.data.toList 1)) au W) := Lib.hid (by rw [hPK]; exact fun W h => h.u)
    have HCsclp : Hid (∀ W, PK W → W.cell? ⟨bs, 0, none⟩ = some (.int .i64 ms) ∧ W.cell? ⟨bs, 1, none⟩ = some (.string Ts) ∧ W.cell? ⟨bc, 0, none⟩ = some (.int .i64 mc) ∧ W.cell? ⟨bc, 1, none⟩ = some (.string Tc) ∧ W.cell? ⟨bl, 0, none⟩ = some (.int .i64 ml) ∧ W.cell? ⟨bl, 1, none⟩ = some (.string Tl) ∧ W.cell? ⟨bp, 0, none⟩ = some (.int .i64 mp) ∧ W.cell? ⟨bp, 1, none⟩ = some (.string Tp) ∧ PK W) := Lib.hid (fun W hk => by have h := hk; rw [hPK] at h; exact ⟨h.s.1.1, h.s.1.2, h.c.1.1, h.c.1.2, h.l.1.1, h.l.1.2, h.p.1.1, h.p.1.2, hk⟩)
    have HCs : Hid (∀ W, PK W → W.cell? ⟨bs, 0, none⟩ = some (.int .i64 ms) ∧ W.cell? ⟨bs, 1, none⟩ = some (.string Ts) ∧ PK W) := Lib.hid (fun W hk => by have h := hk; rw [hPK] at h; exact ⟨h.s.1.1, h.s.1.2, hk⟩)
    have HCl : Hid (∀ W, PK W → W.cell? ⟨bl, 0, none⟩ = some (.int .i64 ml) ∧ W.cell? ⟨bl, 1, none⟩ = some (.string Tl) ∧ PK W) := Lib.hid (fun W hk => by have h := hk; rw [hPK] at h; exact ⟨h.l.1.1, h.l.1.2, hk⟩)
    have HCp : Hid (∀ W, PK W → W.cell? ⟨bp, 0, none⟩ = some (.int .i64 mp) ∧ W.cell? ⟨bp, 1, none⟩ = some (.string Tp) ∧ PK W) := Lib.hid (fun W hk => by have h := hk; rw [hPK] at h; exact ⟨h.p.1.1, h.p.1.2, hk⟩)
    clear hPK HV B0 HBIG B9 S9 Z9 E9 C9 L9 P9 X9 U9
    have hzl := cvZ_len128 ms Ts.data.toList kk false
    have hel := cvZ_len128 ms Ts.data.toList kk true
    have hwl := capL_len7 mp Tp.data.toList (-1)
    have hul := capL_len7 mp Tp.data.toList 1
    have HS1 : Hid (∀ W, (W.cell? ⟨bs, 0, none⟩ = some (.int .i64 ms) ∧ W.cell? ⟨bs, 1, none⟩ = some (.string Ts) ∧ W.cell? ⟨bc, 0, none⟩ = some (.int .i64 mc) ∧ W.cell? ⟨bc, 1, none⟩ = some (.string Tc) ∧ W.cell? ⟨bl, 0, none⟩ = some (.int .i64 ml) ∧ W.cell? ⟨bl, 1, none⟩ = some (.string Tl) ∧ W.cell? ⟨bp, 0, none⟩ = some (.int .i64 mp) ∧ W.cell? ⟨bp, 1, none⟩ = some (.string Tp) ∧ PK W) → Calls Tryz.prog 15 #[sg ms Ts, .int .i64 kk] W fun e w' => (∃ a' c', e = .returned (.slice a' (cvZ ms Ts.data.toList kk false).length c') ∧ TmpC (cvZ ms Ts.data.toList kk false) a' w') ∧ w'.cell? ⟨bs, 0, none⟩ = some (.int .i64 ms) ∧ w'.cell? ⟨bs, 1, none⟩ = some (.string Ts) ∧ w'.cell? ⟨bc, 0, none⟩ = some (.int .i64 mc) ∧ w'.cell? ⟨bc, 1, none⟩ = some (.string Tc) ∧ w'.cell? ⟨bl, 0, none⟩ = some (.int .i64 ml) ∧ w'.cell? ⟨bl, 1, none⟩ = some (.string Tl) ∧ w'.cell? ⟨bp, 0, none⟩ = some (.int .i64 mp) ∧ w'.cell? ⟨bp, 1, none⟩ = some (.string Tp) ∧ PK w') := Lib.hid (fun W hW => by
      refine (specConvexSets ms Ts kk (by omega) W).mono fun e w' ⟨⟨a', c', he, hn'⟩, hb⟩ => ⟨⟨a', c', he, _, _, hn'⟩, HCsclp.out _ (HON.out _ _ (hW.2.2.2.2.2.2.2.2) hb)⟩)
    have HE1 : Hid (∀ a' c' W, (W.cell? ⟨bs, 0, none⟩ = some (.int .i64 ms) ∧ W.cell? ⟨bs, 1, none⟩ = some (.string Ts) ∧ W.cell? ⟨bc, 0, none⟩ = some (.int .i64 mc) ∧ W.cell? ⟨bc, 1, none⟩ = some (.string Tc) ∧ W.cell? ⟨bl, 0, none⟩ = some (.int .i64 ml) ∧ W.cell? ⟨bl, 1, none⟩ = some (.string Tl) ∧ W.cell? ⟨bp, 0, none⟩ = some (.int .i64 mp) ∧ W.cell? ⟨bp, 1, none⟩ = some (.string Tp) ∧ PK W) → TmpC (cvZ ms Ts.data.toList kk false) a' W → Calls Tryz.prog 14 #[.slice al (cvZ ms Ts.data.toList kk false).length cl, .slice a' (cvZ ms Ts.data.toList kk false).length c'] W fun e w' => e = .returned (.bool true) ∧ w'.cell? ⟨bs, 0, none⟩ = some (.int .i64 ms) ∧ w'.cell? ⟨bs, 1, none⟩ = some (.string Ts) ∧ w'.cell? ⟨bc, 0, none⟩ = some (.int .i64 mc) ∧ w'.cell? ⟨bc, 1, none⟩ = some (.string Tc) ∧ w'.cell? ⟨bl, 0, none⟩ = some (.int .i64 ml) ∧ w'.cell? ⟨bl, 1, none⟩ = some (.string Tl) ∧ w'.cell? ⟨bp, 0, none⟩ = some (.int .i64 mp) ∧ w'.cell? ⟨bp, 1, none⟩ = some (.string Tp) ∧ PK w') := Lib.hid (fun a' c' W hW ⟨lo, hi, h2⟩ => by
      obtain ⟨lo0, hi0, h1⟩ := HZZ.out _ (hW.2.2.2.2.2.2.2.2)
      refine (sameInts_eq al a' cl c' lo0 hi0 lo hi (cvZ ms Ts.data.toList kk false) (by omega) W h1 h2).mono fun e w' ⟨he, hb⟩ => ⟨he, HCsclp.out _ (HON.out _ _ (hW.2.2.2.2.2.2.2.2) hb)⟩)
    have HS2 : Hid (∀ W, (W.cell? ⟨bs, 0, none⟩ = some (.int .i64 ms) ∧ W.cell? ⟨bs, 1, none⟩ = some (.string Ts) ∧ W.cell? ⟨bc, 0, none⟩ = some (.int .i64 mc) ∧ W.cell? ⟨bc, 1, none⟩ = some (.string Tc) ∧ W.cell? ⟨bl, 0, none⟩ = some (.int .i64 ml) ∧ W.cell? ⟨bl, 1, none⟩ = some (.string Tl) ∧ W.cell? ⟨bp, 0, none⟩ = some (.int .i64 mp) ∧ W.cell? ⟨bp, 1, none⟩ = some (.string Tp) ∧ PK W) → Calls Tryz.prog 16 #[sg ms Ts, .int .i64 kk] W fun e w' => (∃ a' c', e = .returned (.slice a' (cvZ ms Ts.data.toList kk true).length c') ∧ TmpC (cvZ ms Ts.data.toList kk true) a' w') ∧ w'.cell? ⟨bs, 0, none⟩ = some (.int .i64 ms) ∧ w'.cell? ⟨bs, 1, none⟩ = some (.string Ts) ∧ w'.cell? ⟨bc, 0, none⟩ = some (.int .i64 mc) ∧ w'.cell? ⟨bc, 1, none⟩ = some (.string Tc) ∧ w'.cell? ⟨bl, 0, none⟩ = some (.int .i64 ml) ∧ w'.cell? ⟨bl, 1, none⟩ = some (.string Tl) ∧ w'.cell? ⟨bp, 0, none⟩ = some (.int .i64 mp) ∧ w'.cell? ⟨bp, 1, none⟩ = some (.string Tp) ∧ PK w') := Lib.hid (fun W hW => by
      refine (specEmptySets ms Ts kk (by omega) W).mono fun e w' ⟨⟨a', c', he, hn'⟩, hb⟩ => ⟨⟨a', c', he, _, _, hn'⟩, HCsclp.out _ (HON.out _ _ (hW.2.2.2.2.2.2.2.2) hb)⟩)
    have HE2 : Hid (∀ a' c' W, (W.cell? ⟨bs, 0, none⟩ = some (.int .i64 ms) ∧ W.cell? ⟨bs, 1, none⟩ = some (.string Ts) ∧ W.cell? ⟨bc, 0, none⟩ = some (.int .i64 mc) ∧ W.cell? ⟨bc, 1, none⟩ = some (.string Tc) ∧ W.cell? ⟨bl, 0, none⟩ = some (.int .i64 ml) ∧ W.cell? ⟨bl, 1, none⟩ = some (.string Tl) ∧ W.cell? ⟨bp, 0, none⟩ = some (.int .i64 mp) ∧ W.cell? ⟨bp, 1, none⟩ = some (.string Tp) ∧ PK W) → TmpC (cvZ ms Ts.data.toList kk true) a' W → Calls Tryz.prog 14 #[.slice ae (cvZ ms Ts.data.toList kk true).length ce, .slice a' (cvZ ms Ts.data.toList kk true).length c'] W fun e w' => e = .returned (.bool true) ∧ w'.cell? ⟨bs, 0, none⟩ = some (.int .i64 ms) ∧ w'.cell? ⟨bs, 1, none⟩ = some (.string Ts) ∧ w'.cell? ⟨bc, 0, none⟩ = some (.int .i64 mc) ∧ w'.cell? ⟨bc, 1, none⟩ = some (.string Tc) ∧ w'.cell? ⟨bl, 0, none⟩ = some (.int .i64 ml) ∧ w'.cell? ⟨bl, 1, none⟩ = some (.string Tl) ∧ w'.cell? ⟨bp, 0, none⟩ = some (.int .i64 mp) ∧ w'.cell? ⟨bp, 1, none⟩ = some (.string Tp) ∧ PK w') := Lib.hid (fun a' c' W hW ⟨lo, hi, h2⟩ => by
      obtain ⟨lo0, hi0, h1⟩ := HEZ.out _ (hW.2.2.2.2.2.2.2.2)
      refine (sameInts_eq ae a' ce c' lo0 hi0 lo hi (cvZ ms Ts.data.toList kk true) (by omega) W h1 h2).mono fun e w' ⟨he, hb⟩ => ⟨he, HCsclp.out _ (HON.out _ _ (hW.2.2.2.2.2.2.2.2) hb)⟩)
    have HS3 : Hid (∀ W, (W.cell? ⟨bs, 0, none⟩ = some (.int .i64 ms) ∧ W.cell? ⟨bs, 1, none⟩ = some (.string Ts) ∧ W.cell? ⟨bc, 0, none⟩ = some (.int .i64 mc) ∧ W.cell? ⟨bc, 1, none⟩ = some (.string Tc) ∧ W.cell? ⟨bl, 0, none⟩ = some (.int .i64 ml) ∧ W.cell? ⟨bl, 1, none⟩ = some (.string Tl) ∧ W.cell? ⟨bp, 0, none⟩ = some (.int .i64 mp) ∧ W.cell? ⟨bp, 1, none⟩ = some (.string Tp) ∧ PK W) → Calls Tryz.prog 21 #[sg mp Tp] W fun e w' => (∃ a' c', e = .returned (.slice a' (zl (capL mp Tp.data.toList (-1))).length c') ∧ TmpC (zl (capL mp Tp.data.toList (-1))) a' w') ∧ w'.cell? ⟨bs, 0, none⟩ = some (.int .i64 ms) ∧ w'.cell? ⟨bs, 1, none⟩ = some (.string Ts) ∧ w'.cell? ⟨bc, 0, none⟩ = some (.int .i64 mc) ∧ w'.cell? ⟨bc, 1, none⟩ = some (.string Tc) ∧ w'.cell? ⟨bl, 0, none⟩ = some (.int .i64 ml) ∧ w'.cell? ⟨bl, 1, none⟩ = some (.string Tl) ∧ w'.cell? ⟨bp, 0, none⟩ = some (.int .i64 mp) ∧ w'.cell? ⟨bp, 1, none⟩ = some (.string Tp) ∧ PK w') := Lib.hid (fun W hW => by
      refine (specCap mp Tp (by omega) W).mono fun e w' ⟨⟨a', c', he, hn'⟩, hb⟩ => ⟨⟨a', c', he, _, _, hn'⟩, HCsclp.out _ (HON.out _ _ (hW.2.2.2.2.2.2.2.2) hb)⟩)
    have HE3 : Hid (∀ a' c' W, (W.cell? ⟨bs, 0, none⟩ = some (.int .i64 ms) ∧ W.cell? ⟨bs, 1, none⟩ = some (.string Ts) ∧ W.cell? ⟨bc, 0, none⟩ = some (.int .i64 mc) ∧ W.cell? ⟨bc, 1, none⟩ = some (.string Tc) ∧ W.cell? ⟨bl, 0, none⟩ = some (.int .i64 ml) ∧ W.cell? ⟨bl, 1, none⟩ = some (.string Tl) ∧ W.cell? ⟨bp, 0, none⟩ = some (.int .i64 mp) ∧ W.cell? ⟨bp, 1, none⟩ = some (.string Tp) ∧ PK W) → TmpC (zl (capL mp Tp.data.toList (-1))) a' W → Calls Tryz.prog 14 #[.slice aw (zl (capL mp Tp.data.toList (-1))).length cw, .slice a' (zl (capL mp Tp.data.toList (-1))).length c'] W fun e w' => e = .returned (.bool true) ∧ w'.cell? ⟨bs, 0, none⟩ = some (.int .i64 ms) ∧ w'.cell? ⟨bs, 1, none⟩ = some (.string Ts) ∧ w'.cell? ⟨bc, 0, none⟩ = some (.int .i64 mc) ∧ w'.cell? ⟨bc, 1, none⟩ = some (.string Tc) ∧ w'.cell? ⟨bl, 0, none⟩ = some (.int .i64 ml) ∧ w'.cell? ⟨bl, 1, none⟩ = some (.string Tl) ∧ w'.cell? ⟨bp, 0, none⟩ = some (.int .i64 mp) ∧ w'.cell? ⟨bp, 1, none⟩ = some (.string Tp) ∧ PK w') := Lib.hid (fun a' c' W hW ⟨lo, hi, h2⟩ => by
      obtain ⟨lo0, hi0, h1⟩ := HXZ.out _ (hW.2.2.2.2.2.2.2.2)
      refine (sameInts_eq aw a' cw c' lo0 hi0 lo hi (zl (capL mp Tp.data.toList (-1))) (by omega) W h1 h2).mono fun e w' ⟨he, hb⟩ => ⟨he, HCsclp.out _ (HON.out _ _ (hW.2.2.2.2.2.2.2.2) hb)⟩)
    have HS4 : Hid (∀ W, (W.cell? ⟨bs, 0, none⟩ = some (.int .i64 ms) ∧ W.cell? ⟨bs, 1, none⟩ = some (.string Ts) ∧ W.cell? ⟨bc, 0, none⟩ = some (.int .i64 mc) ∧ W.cell? ⟨bc, 1, none⟩ = some (.string Tc) ∧ W.cell? ⟨bl, 0, none⟩ = some (.int .i64 ml) ∧ W.cell? ⟨bl, 1, none⟩ = some (.string Tl) ∧ W.cell? ⟨bp, 0, none⟩ = some (.int .i64 mp) ∧ W.cell? ⟨bp, 1, none⟩ = some (.string Tp) ∧ PK W) → Calls Tryz.prog 22 #[sg mp Tp] W fun e w' => (∃ a' c', e = .returned (.slice a' (zl (capL mp Tp.data.toList 1)).length c') ∧ TmpC (zl (capL mp Tp.data.toList 1)) a' w') ∧ w'.cell? ⟨bs, 0, none⟩ = some (.int .i64 ms) ∧ w'.cell? ⟨bs, 1, none⟩ = some (.string Ts) ∧ w'.cell? ⟨bc, 0, none⟩ = some (.int .i64 mc) ∧ w'.cell? ⟨bc, 1, none⟩ = some (.string Tc) ∧ w'.cell? ⟨bl, 0, none⟩ = some (.int .i64 ml) ∧ w'.cell? ⟨bl, 1, none⟩ = some (.string Tl) ∧ w'.cell? ⟨bp, 0, none⟩ = some (.int .i64 mp) ∧ w'.cell? ⟨bp, 1, none⟩ = some (.string Tp) ∧ PK w') := Lib.hid (fun W hW => by
      refine (specCup mp Tp (by omega) W).mono fun e w' ⟨⟨a', c', he, hn'⟩, hb⟩ => ⟨⟨a', c', he, _, _, hn'⟩, HCsclp.out _ (HON.out _ _ (hW.2.2.2.2.2.2.2.2) hb)⟩)
    have HE4 : Hid (∀ a' c' W, (W.cell? ⟨bs, 0, none⟩ = some (.int .i64 ms) ∧ W.cell? ⟨bs, 1, none⟩ = some (.string Ts) ∧ W.cell? ⟨bc, 0, none⟩ = some (.int .i64 mc) ∧ W.cell? ⟨bc, 1, none⟩ = some (.string Tc) ∧ W.cell? ⟨bl, 0, none⟩ = some (.int .i64 ml) ∧ W.cell? ⟨bl, 1, none⟩ = some (.string Tl) ∧ W.cell? ⟨bp, 0, none⟩ = some (.int .i64 mp) ∧ W.cell? ⟨bp, 1, none⟩ = some (.string Tp) ∧ PK W) → TmpC (zl (capL mp Tp.data.toList 1)) a' W → Calls Tryz.prog 14 #[.slice au (zl (capL mp Tp.data.toList 1)).length cu, .slice a' (zl (capL mp Tp.data.toList 1)).length c'] W fun e w' => e = .returned (.bool true) ∧ w'.cell? ⟨bs, 0, none⟩ = some (.int .i64 ms) ∧ w'.cell? ⟨bs, 1, none⟩ = some (.string Ts) ∧ w'.cell? ⟨bc, 0, none⟩ = some (.int .i64 mc) ∧ w'.cell? ⟨bc, 1, none⟩ = some (.string Tc) ∧ w'.cell? ⟨bl, 0, none⟩ = some (.int .i64 ml) ∧ w'.cell? ⟨bl, 1, none⟩ = some (.string Tl) ∧ w'.cell? ⟨bp, 0, none⟩ = some (.int .i64 mp) ∧ w'.cell? ⟨bp, 1, none⟩ = some (.string Tp) ∧ PK w') := Lib.hid (fun a' c' W hW ⟨lo, hi, h2⟩ => by
      obtain ⟨lo0, hi0, h1⟩ := HUZ.out _ (hW.2.2.2.2.2.2.2.2)
      refine (sameInts_eq au a' cu c' lo0 hi0 lo hi (zl (capL mp Tp.data.toList 1)) (by omega) W h1 h2).mono fun e w' ⟨he, hb⟩ => ⟨he, HCsclp.out _ (HON.out _ _ (hW.2.2.2.2.2.2.2.2) hb)⟩)
    have HII : Hid (∀ W, (W.cell? ⟨bs, 0, none⟩ = some (.int .i64 ms) ∧ W.cell? ⟨bs, 1, none⟩ = some (.string Ts) ∧ W.cell? ⟨bc, 0, none⟩ = some (.int .i64 mc) ∧ W.cell? ⟨bc, 1, none⟩ = some (.string Tc) ∧ W.cell? ⟨bl, 0, none⟩ = some (.int .i64 ml) ∧ W.cell? ⟨bl, 1, none⟩ = some (.string Tl) ∧ W.cell? ⟨bp, 0, none⟩ = some (.int .i64 mp) ∧ W.cell? ⟨bp, 1, none⟩ = some (.string Tp) ∧ PK W) → Calls Tryz.prog 17 #[sg mc Tc, .int .i64 ic] W fun e w' => e = .returned (.bool (isCvB mc Tc.data.toList ic)) ∧ w'.cell? ⟨bs, 0, none⟩ = some (.int .i64 ms) ∧ w'.cell? ⟨bs, 1, none⟩ = some (.string Ts) ∧ w'.cell? ⟨bc, 0, none⟩ = some (.int .i64 mc) ∧ w'.cell? ⟨bc, 1, none⟩ = some (.string Tc) ∧ w'.cell? ⟨bl, 0, none⟩ = some (.int .i64 ml) ∧ w'.cell? ⟨bl, 1, none⟩ = some (.string Tl) ∧ w'.cell? ⟨bp, 0, none⟩ = some (.int .i64 mp) ∧ w'.cell? ⟨bp, 1, none⟩ = some (.string Tp) ∧ PK w') := Lib.hid (fun W hW => by
      refine (implIsConvexSet mc Tc ic (by omega) W (HTB.out W (hW.2.2.2.2.2.2.2.2))).mono fun e w' ⟨he, hb⟩ => ⟨he, HCsclp.out _ (HON.out _ _ (hW.2.2.2.2.2.2.2.2) hb)⟩)
    have HIS : Hid (∀ W, (W.cell? ⟨bs, 0, none⟩ = some (.int .i64 ms) ∧ W.cell? ⟨bs, 1, none⟩ = some (.string Ts) ∧ W.cell? ⟨bc, 0, none⟩ = some (.int .i64 mc) ∧ W.cell? ⟨bc, 1, none⟩ = some (.string Tc) ∧ W.cell? ⟨bl, 0, none⟩ = some (.int .i64 ml) ∧ W.cell? ⟨bl, 1, none⟩ = some (.string Tl) ∧ W.cell? ⟨bp, 0, none⟩ = some (.int .i64 mp) ∧ W.cell? ⟨bp, 1, none⟩ = some (.string Tp) ∧ PK W) → Calls Tryz.prog 18 #[sg mc Tc, .int .i64 ic] W fun e w' => e = .returned (.bool (isCvB mc Tc.data.toList ic)) ∧ w'.cell? ⟨bs, 0, none⟩ = some (.int .i64 ms) ∧ w'.cell? ⟨bs, 1, none⟩ = some (.string Ts) ∧ w'.cell? ⟨bc, 0, none⟩ = some (.int .i64 mc) ∧ w'.cell? ⟨bc, 1, none⟩ = some (.string Tc) ∧ w'.cell? ⟨bl, 0, none⟩ = some (.int .i64 ml) ∧ w'.cell? ⟨bl, 1, none⟩ = some (.string Tl) ∧ w'.cell? ⟨bp, 0, none⟩ = some (.int .i64 mp) ∧ w'.cell? ⟨bp, 1, none⟩ = some (.string Tp) ∧ PK w') := Lib.hid (fun W hW => by
      refine (specIsConvexSet mc Tc ic (by omega) W).mono fun e w' ⟨he, hb⟩ => ⟨he, HCsclp.out _ (HON.out _ _ (hW.2.2.2.2.2.2.2.2) hb)⟩)
    have HLI : Hid (∀ W, (W.cell? ⟨bs, 0, none⟩ = some (.int .i64 ms) ∧ W.cell? ⟨bs, 1, none⟩ = some (.string Ts) ∧ W.cell? ⟨bc, 0, none⟩ = some (.int .i64 mc) ∧ W.cell? ⟨bc, 1, none⟩ = some (.string Tc) ∧ W.cell? ⟨bl, 0, none⟩ = some (.int .i64 ml) ∧ W.cell? ⟨bl, 1, none⟩ = some (.string Tl) ∧ W.cell? ⟨bp, 0, none⟩ = some (.int .i64 mp) ∧ W.cell? ⟨bp, 1, none⟩ = some (.string Tp) ∧ PK W) → Calls Tryz.prog 19 #[sg ml Tl] W fun e w' => e = .returned (.int .i64 (lcZ ml Tl.data.toList)) ∧ w'.cell? ⟨bs, 0, none⟩ = some (.int .i64 ms) ∧ w'.cell? ⟨bs, 1, none⟩ = some (.string Ts) ∧ w'.cell? ⟨bc, 0, none⟩ = some (.int .i64 mc) ∧ w'.cell? ⟨bc, 1, none⟩ = some (.string Tc) ∧ w'.cell? ⟨bl, 0, none⟩ = some (.int .i64 ml) ∧ w'.cell? ⟨bl, 1, none⟩ = some (.string Tl) ∧ w'.cell? ⟨bp, 0, none⟩ = some (.int .i64 mp) ∧ w'.cell? ⟨bp, 1, none⟩ = some (.string Tp) ∧ PK w') := Lib.hid (fun W hW => by
      refine (implLargest ml Tl (by omega) W (HTB.out W (hW.2.2.2.2.2.2.2.2))).mono fun e w' ⟨he, hb⟩ => ⟨he, HCsclp.out _ (HON.out _ _ (hW.2.2.2.2.2.2.2.2) hb)⟩)
    have HLS : Hid (∀ W, (W.cell? ⟨bs, 0, none⟩ = some (.int .i64 ms) ∧ W.cell? ⟨bs, 1, none⟩ = some (.string Ts) ∧ W.cell? ⟨bc, 0, none⟩ = some (.int .i64 mc) ∧ W.cell? ⟨bc, 1, none⟩ = some (.string Tc) ∧ W.cell? ⟨bl, 0, none⟩ = some (.int .i64 ml) ∧ W.cell? ⟨bl, 1, none⟩ = some (.string Tl) ∧ W.cell? ⟨bp, 0, none⟩ = some (.int .i64 mp) ∧ W.cell? ⟨bp, 1, none⟩ = some (.string Tp) ∧ PK W) → Calls Tryz.prog 20 #[sg ml Tl] W fun e w' => e = .returned (.int .i64 (lcZ ml Tl.data.toList)) ∧ w'.cell? ⟨bs, 0, none⟩ = some (.int .i64 ms) ∧ w'.cell? ⟨bs, 1, none⟩ = some (.string Ts) ∧ w'.cell? ⟨bc, 0, none⟩ = some (.int .i64 mc) ∧ w'.cell? ⟨bc, 1, none⟩ = some (.string Tc) ∧ w'.cell? ⟨bl, 0, none⟩ = some (.int .i64 ml) ∧ w'.cell? ⟨bl, 1, none⟩ = some (.string Tl) ∧ w'.cell? ⟨bp, 0, none⟩ = some (.int .i64 mp) ∧ w'.cell? ⟨bp, 1, none⟩ = some (.string Tp) ∧ PK w') := Lib.hid (fun W hW => by
      refine (specLargest ml Tl (by omega) W).mono fun e w' ⟨he, hb⟩ => ⟨he, HCsclp.out _ (HON.out _ _ (hW.2.2.2.2.2.2.2.2) hb)⟩)
    have HVI : Hid (∀ W, (W.cell? ⟨bs, 0, none⟩ = some (.int .i64 ms) ∧ W.cell? ⟨bs, 1, none⟩ = some (.string Ts) ∧ W.cell? ⟨bc, 0, none⟩ = some (.int .i64 mc) ∧ W.cell? ⟨bc, 1, none⟩ = some (.string Tc) ∧ W.cell? ⟨bl, 0, none⟩ = some (.int .i64 ml) ∧ W.cell? ⟨bl, 1, none⟩ = some (.string Tl) ∧ W.cell? ⟨bp, 0, none⟩ = some (.int .i64 mp) ∧ W.cell? ⟨bp, 1, none⟩ = some (.string Tp) ∧ PK W) → Calls Tryz.prog 23 #[sg ml Tl] W fun e w' => e = .returned (.int .i64 (evZ ml Tl.data.toList)) ∧ w'.cell? ⟨bs, 0, none⟩ = some (.int .i64 ms) ∧ w'.cell? ⟨bs, 1, none⟩ = some (.string Ts) ∧ w'.cell? ⟨bc, 0, none⟩ = some (.int .i64 mc) ∧ w'.cell? ⟨bc, 1, none⟩ = some (.string Tc) ∧ w'.cell? ⟨bl, 0, none⟩ = some (.int .i64 ml) ∧ w'.cell? ⟨bl, 1, none⟩ = some (.string Tl) ∧ w'.cell? ⟨bp, 0, none⟩ = some (.int .i64 mp) ∧ w'.cell? ⟨bp, 1, none⟩ = some (.string Tp) ∧ PK w') := Lib.hid (fun W hW => by
      refine (implEvenSum ml Tl (by omega) W (HTB.out W (hW.2.2.2.2.2.2.2.2))).mono fun e w' ⟨he, hb⟩ => ⟨he, HCsclp.out _ (HON.out _ _ (hW.2.2.2.2.2.2.2.2) hb)⟩)
    have HVS : Hid (∀ W, (W.cell? ⟨bs, 0, none⟩ = some (.int .i64 ms) ∧ W.cell? ⟨bs, 1, none⟩ = some (.string Ts) ∧ W.cell? ⟨bc, 0, none⟩ = some (.int .i64 mc) ∧ W.cell? ⟨bc, 1, none⟩ = some (.string Tc) ∧ W.cell? ⟨bl, 0, none⟩ = some (.int .i64 ml) ∧ W.cell? ⟨bl, 1, none⟩ = some (.string Tl) ∧ W.cell? ⟨bp, 0, none⟩ = some (.int .i64 mp) ∧ W.cell? ⟨bp, 1, none⟩ = some (.string Tp) ∧ PK W) → Calls Tryz.prog 24 #[sg ml Tl] W fun e w' => e = .returned (.int .i64 (evZ ml Tl.data.toList)) ∧ w'.cell? ⟨bs, 0, none⟩ = some (.int .i64 ms) ∧ w'.cell? ⟨bs, 1, none⟩ = some (.string Ts) ∧ w'.cell? ⟨bc, 0, none⟩ = some (.int .i64 mc) ∧ w'.cell? ⟨bc, 1, none⟩ = some (.string Tc) ∧ w'.cell? ⟨bl, 0, none⟩ = some (.int .i64 ml) ∧ w'.cell? ⟨bl, 1, none⟩ = some (.string Tl) ∧ w'.cell? ⟨bp, 0, none⟩ = some (.int .i64 mp) ∧ w'.cell? ⟨bp, 1, none⟩ = some (.string Tp) ∧ PK w') := Lib.hid (fun W hW => by
      refine (specEvenSum ml Tl (by omega) W).mono fun e w' ⟨he, hb⟩ => ⟨he, HCsclp.out _ (HON.out _ _ (hW.2.2.2.2.2.2.2.2) hb)⟩)
    have HGI : Hid (∀ W, (W.cell? ⟨bl, 0, none⟩ = some (.int .i64 ml) ∧ W.cell? ⟨bl, 1, none⟩ = some (.string Tl) ∧ PK W) → Calls Tryz.prog 19 #[sg ml Tl] W fun e w' => e = .returned (.int .i64 (lcZ ml Tl.data.toList)) ∧ w'.cell? ⟨bl, 0, none⟩ = some (.int .i64 ml) ∧ w'.cell? ⟨bl, 1, none⟩ = some (.string Tl) ∧ PK w') := Lib.hid (fun W hW => by
      refine (implLargest ml Tl (by omega) W (HTB.out W (hW.2.2))).mono fun e w' ⟨he, hb⟩ => ⟨he, HCl.out _ (HON.out _ _ (hW.2.2) hb)⟩)
    have HGE : Hid (∀ W, (W.cell? ⟨bl, 0, none⟩ = some (.int .i64 ml) ∧ W.cell? ⟨bl, 1, none⟩ = some (.string Tl) ∧ PK W) → Calls Tryz.prog 23 #[sg ml Tl] W fun e w' => e = .returned (.int .i64 (evZ ml Tl.data.toList)) ∧ w'.cell? ⟨bl, 0, none⟩ = some (.int .i64 ml) ∧ w'.cell? ⟨bl, 1, none⟩ = some (.string Tl) ∧ PK w') := Lib.hid (fun W hW => by
      refine (implEvenSum ml Tl (by omega) W (HTB.out W (hW.2.2))).mono fun e w' ⟨he, hb⟩ => ⟨he, HCl.out _ (HON.out _ _ (hW.2.2) hb)⟩)
    have HGA : Hid (∀ W, (W.cell? ⟨bl, 0, none⟩ = some (.int .i64 ml) ∧ W.cell? ⟨bl, 1, none⟩ = some (.string Tl) ∧ PK W) → Calls Tryz.prog 27 #[sg ml Tl] W fun e w' => e = .returned (.bool (aciB ml Tl.data.toList)) ∧ w'.cell? ⟨bl, 0, none⟩ = some (.int .i64 ml) ∧ w'.cell? ⟨bl, 1, none⟩ = some (.string Tl) ∧ PK w') := Lib.hid (fun W hW => by
      refine (specAci ml Tl (by omega) W).mono fun e w' ⟨he, hb⟩ => ⟨he, HCl.out _ (HON.out _ _ (hW.2.2) hb)⟩)
    have HGH : Hid (∀ W, (W.cell? ⟨bl, 0, none⟩ = some (.int .i64 ml) ∧ W.cell? ⟨bl, 1, none⟩ = some (.string Tl) ∧ PK W) → Calls Tryz.prog 29 #[sg ml Tl] W fun e w' => e = .returned (.int .i64 (hszZ ml Tl.data.toList)) ∧ w'.cell? ⟨bl, 0, none⟩ = some (.int .i64 ml) ∧ w'.cell? ⟨bl, 1, none⟩ = some (.string Tl) ∧ PK w') := Lib.hid (fun W hW => by
      refine (specHullSize ml Tl (by omega) W).mono fun e w' ⟨he, hb⟩ => ⟨he, HCl.out _ (HON.out _ _ (hW.2.2) hb)⟩)
    have PAS : Hid (∀ W, PK W → Calls Tryz.prog 27 #[sg ms Ts] W fun e w' => e = .returned (.bool (aciB ms Ts.data.toList)) ∧ PK w') := Lib.hid (fun W hW => (specAci ms Ts (by omega) W).mono fun e w' ⟨he, hb⟩ => ⟨he, HON.out _ _ hW hb⟩)
    have PCQ : Hid (∀ W, PK W → Calls Tryz.prog 28 #[sg ms Ts] W fun e w' => e = .returned (.int .i64 (quadsN ms Ts.data.toList)) ∧ PK w') := Lib.hid (fun W hW => (specCountQuads ms Ts (by omega) W).mono fun e w' ⟨he, hb⟩ => ⟨he, HON.out _ _ hW hb⟩)
    have POP : Hid (∀ W, PK W → Calls Tryz.prog 30 #[sg mp Tp] W fun e w' => e = .returned (oppV mp Tp) ∧ PK w') := Lib.hid (fun W hW => (specOpp mp Tp (by omega) W).mono fun e w' ⟨he, hb⟩ => ⟨he, HON.out _ _ hW hb⟩)
    have PHI : Hid (∀ z ∈ (cvZ ms Ts.data.toList kk true), ∀ W, PK W → Calls Tryz.prog 25 #[.slice al (cvZ ms Ts.data.toList kk false).length cl, .int .i64 z] W fun e w' => e = .returned (.bool true) ∧ PK w') := Lib.hid (fun z hz W hW => by
      obtain ⟨lo, hi, h1⟩ := HZZ.out _ hW
      refine (hasInt_any al cl lo hi (cvZ ms Ts.data.toList kk false) (by omega) z W h1).mono fun e w' ⟨he, hb⟩ => ⟨?_, HON.out _ _ hW hb⟩
      rw [he, decide_eq_true (em_cv hz)])
    have HCI : Hid (∀ z ∈ (cvZ ms Ts.data.toList kk false), (∀ W, Calls Tryz.prog 26 #[.int .i64 z] W fun e w' => e = .returned (.int .i64 kk) ∧ W = w') ∧ ∀ W, PK W → Calls Tryz.prog 17 #[sg ms Ts, .int .i64 z] W fun e w' => e = .returned (.bool true) ∧ PK w') := Lib.hid (fun z hz => by
      obtain ⟨S, rfl, hS, hk, hi⟩ := cv_is hz
      refine ⟨fun W => ?_, fun W hW => ?_⟩
      · exact (size_any S hS W).mono fun e w' ⟨he, hb⟩ => ⟨by rw [he, hk], hb⟩
      · refine (implIsConvexSet ms Ts S (by omega) W (HTB.out W hW)).mono fun e w' ⟨he, hb⟩ => ⟨by rw [he, hi], HON.out _ _ hW hb⟩)
    have HQ4 : Hid (aciB ms Ts.data.toList = true → kk = 4 → 4 ≤ ms → ((cvZ ms Ts.data.toList kk false).length : Int) = quadsN ms Ts.data.toList) := Lib.hid (fun h e h4 => by rw [e]; exact cv_len4 h h4)
    have HN3 : Hid (aciB ms Ts.data.toList = true → 3 ≤ ms) := Lib.hid (fun h => by have := (aciB_n h).1; omega)
    have HLL : Hid (aciB ml Tl.data.toList = true → 3 ≤ ml ∧ ml ≤ 7 ∧ (evZ ml Tl.data.toList) = ((ml * (ml - 1) / 2 : Nat) : Int) - ml + 1 ∧ hszZ ml Tl.data.toList ≤ (lcZ ml Tl.data.toList) ∧ (5 ≤ ml → 4 ≤ (lcZ ml Tl.data.toList))) := Lib.hid (fun h => ⟨by have := (aciB_n h).1; omega, by have := (aciB_n h).2; omega, evZ_yes h, (lcZ_facts h).1, (lcZ_facts h).2⟩)
    have hlb := lcZ_bd ml Tl.data.toList
    have HW2 : Hid (arB mp Tp.data.toList = true → 2 ≤ (zl (capL mp Tp.data.toList (-1))).length ∧ 2 ≤ (zl (capL mp Tp.data.toList 1)).length) := Lib.hid (fun h => ⟨capL_two h _, capL_two h _⟩)
    have PFL : Hid (arB mp Tp.data.toList = true → ∀ W, PK W → Calls Tryz.prog 12 #[sg mp ⟨(Tp.data.toList.map flip1).toArray⟩] W fun e w' => (∃ a' c', e = .returned (.slice a' (zl (capL mp Tp.data.toList 1)).length c') ∧ TmpC (zl (capL mp Tp.data.toList 1)) a' w') ∧ PK w') := Lib.hid (fun h W hW => by
      have hc := capL_flip h ⟨(Tp.data.toList.map flip1).toArray⟩ rfl
      have h8 : (⟨(Tp.data.toList.map flip1).toArray⟩ : ByteArray).size ≤ 9223372036854775807 := by
        show ((Tp.data.toList.map flip1).toArray).size ≤ _
        have : Tp.data.toList.length = Tp.size := rfl
        simp
        omega
      refine (implCapOf mp _ h8 W (HTB.out W hW)).mono fun e w' ⟨hg, hb⟩ => ?_
      rw [hc] at hg
      obtain ⟨a', c', he, hn'⟩ := hg
      exact ⟨⟨a', c', he, _, _, hn'⟩, HON.out _ _ hW hb⟩)
    have PSU : Hid (∀ a' c' W, PK W → TmpC (zl (capL mp Tp.data.toList 1)) a' W → Calls Tryz.prog 14 #[.slice a' (zl (capL mp Tp.data.toList 1)).length c', .slice au (zl (capL mp Tp.data.toList 1)).length cu] W fun e w' => e = .returned (.bool true) ∧ PK w') := Lib.hid (fun a' c' W hW ⟨lo, hi, h2⟩ => by
      obtain ⟨lo0, hi0, h1⟩ := HUZ.out _ hW
      refine (sameInts_eq a' au c' cu lo hi lo0 hi0 (zl (capL mp Tp.data.toList 1)) (by omega) W h2 h1).mono fun e w' ⟨he, hb⟩ => ⟨he, HON.out _ _ hW hb⟩)
    clear HT hTs hTc hTl hTp HTB HXZ HUZ
    generalize hz1 : (isCvB mc Tc.data.toList ic) = cb at HII HIS
    generalize hz2 : (lcZ ml Tl.data.toList) = lc at HLI HLS HGI HLL hlb
    generalize hz3 : (evZ ml Tl.data.toList) = ev at HVI HVS HGE HLL
    generalize hz4 : hszZ ml Tl.data.toList = hz at HGH HLL
    generalize hz5 : quadsN ms Ts.data.toList = qn at PCQ HQ4
    clear hz1 hz2 hz3 hz4 hz5
    generalize hgzs : (cvZ ms Ts.data.toList kk false) = zs at HZZ HS1 HE1 PHI HCI HQ4 hzl ⊢
    clear hgzs
    generalize hges : (cvZ ms Ts.data.toList kk true) = es at HEZ HS2 HE2 PHI hel ⊢
    clear hges
    generalize hgws : (zl (capL mp Tp.data.toList (-1))) = ws at HS3 HE3 HW2 hwl ⊢
    clear hgws
    generalize hgus : (zl (capL mp Tp.data.toList 1)) = us at HS4 HE4 HW2 PFL PSU hul ⊢
    clear hgus
    have g1 : (cb != cb) = false := by cases cb <;> rfl
    have g2 : (lc != lc) = false := by simp
    have g3 : (ev != ev) = false := by simp
    go_cut [93] (fun cv wx => cv = .bool false ∧ Hid (PK wx))
    case first =>
      as_aux_lemma =>
      refine wp_region_held (S := fun W => W.cell? ⟨bs, 0, none⟩ = some (.int .i64 ms) ∧ W.cell? ⟨bs, 1, none⟩ = some (.string Ts) ∧ W.cell? ⟨bc, 0, none⟩ = some (.int .i64 mc) ∧ W.cell? ⟨bc, 1, none⟩ = some (.string Tc) ∧ W.cell? ⟨bl, 0, none⟩ = some (.int .i64 ml) ∧ W.cell? ⟨bl, 1, none⟩ = some (.string Tl) ∧ W.cell? ⟨bp, 0, none⟩ = some (.int .i64 mp) ∧ W.cell? ⟨bp, 1, none⟩ = some (.string Tp) ∧ PK W) rfl ?_
      have hHeld := (HCsclp.out _ (HDR.out _ Q8.out))
      (refine Held.takeH (i := 0) (k := 43) (v := ?_) rfl (by as_aux_lemma => kernel_rfl) (by as_aux_lemma => kernel_rfl) (by as_aux_lemma => kernel_rfl) (by as_aux_lemma => kernel_rfl) (fun _ _ _ h => h) (Or.inl ⟨by rfl, ?_⟩) (by assumption) ?_; rotate_left; (focus (intro w hSw; (try dsimp only at hSw); go_simp; (try with_reducible rfl))); (simp only [List.setIfInBounds_toArray, List.set_cons_zero, List.set_cons_succ]))
      (refine Held.takeH (i := 1) (k := 44) (v := ?_) rfl (by as_aux_lemma => kernel_rfl) (by as_aux_lemma => kernel_rfl) (by as_aux_lemma => kernel_rfl) (by as_aux_lemma => kernel_rfl) (fun _ _ _ h => h) (Or.inl ⟨by rfl, ?_⟩) (by assumption) ?_; rotate_left; (focus (intro w hSw; (try dsimp only at hSw); go_simp; (try with_reducible rfl))); (simp only [List.setIfInBounds_toArray, List.set_cons_zero, List.set_cons_succ]))
      (refine Held.takeH (i := 2) (k := 45) (v := ?_) rfl (by as_aux_lemma => kernel_rfl) (by as_aux_lemma => kernel_rfl) (by as_aux_lemma => kernel_rfl) (by as_aux_lemma => kernel_rfl) (fun _ _ _ h => h) (Or.inl ⟨by rfl, ?_⟩) (by assumption) ?_; rotate_left; (focus (intro w hSw; (try dsimp only at hSw); go_simp; (try with_reducible rfl))); (simp only [List.setIfInBounds_toArray, List.set_cons_zero, List.set_cons_succ]))
      refine wpAnyH_ready (rs := [3]) (by as_aux_lemma => kernel_rfl) (by simp) ?_
      refine AllReadyH.cons rfl (fun K hK => ?_) AllReadyH.nil
      go_simp
      refine (HS1.out _ hHeld).mono ?_
      rintro e' w' ⟨⟨a1', c1', rfl, t1'⟩, hS'⟩
      refine hK.out _ _ hS' (fun hHeld => ?_)
      clear hK K
      try simp only [Act.put, List.setIfInBounds_toArray, List.set_cons_zero, List.set_cons_succ]
      refine wpAnyH_ready (rs := [4]) (by as_aux_lemma => kernel_rfl) (by simp) ?_
      refine AllReadyH.cons rfl (fun K hK => ?_) AllReadyH.nil
      go_simp
      refine (HE1.out _ _ _ hHeld t1').mono ?_
      rintro e' w' ⟨rfl, hS'⟩
      refine hK.out _ _ hS' (fun hHeld => ?_)
      clear hK K
      try simp only [Act.put, List.setIfInBounds_toArray, List.set_cons_zero, List.set_cons_succ]
      (refine Held.takeH (i := 5) (k := 48) (v := .bool false) rfl (by as_aux_lemma => kernel_rfl) (by as_aux_lemma => kernel_rfl) (by as_aux_lemma => kernel_rfl) (by as_aux_lemma => kernel_rfl) (fun _ _ _ h => h) (Or.inl ⟨by rfl, ?_⟩) (by assumption) ?_; (focus (intro w hSw; (try dsimp only at hSw); go_simp; (try rfl))); (simp only [List.setIfInBounds_toArray, List.set_cons_zero, List.set_cons_succ]))
      (refine Held.takeH (i := 6) (k := 49) (v := .bool false) rfl (by as_aux_lemma => kernel_rfl) (by as_aux_lemma => kernel_rfl) (by as_aux_lemma => kernel_rfl) (by as_aux_lemma => kernel_rfl) (fun _ _ _ h => h) (Or.inl ⟨by rfl, ?_⟩) (by assumption) ?_; (focus (intro w hSw; (try dsimp only at hSw); go_simp; (try rfl))); (simp only [List.setIfInBounds_toArray, List.set_cons_zero, List.set_cons_succ]))
      (refine Held.takeH (i := 7) (k := 50) (v := ?_) rfl (by as_aux_lemma => kernel_rfl) (by as_aux_lemma => kernel_rfl) (by as_aux_lemma => kernel_rfl) (by as_aux_lemma => kernel_rfl) (fun _ _ _ h => h) (Or.inl ⟨by rfl, ?_⟩) (by assumption) ?_; rotate_left; (focus (intro w hSw; (try dsimp only at hSw); go_simp; (try with_reducible rfl))); (simp only [List.setIfInBounds_toArray, List.set_cons_zero, List.set_cons_succ]))
      (refine Held.takeH (i := 8) (k := 51) (v := ?_) rfl (by as_aux_lemma => kernel_rfl) (by as_aux_lemma => kernel_rfl) (by as_aux_lemma => kernel_rfl) (by as_aux_lemma => kernel_rfl) (fun _ _ _ h => h) (Or.inl ⟨by rfl, ?_⟩) (by assumption) ?_; rotate_left; (focus (intro w hSw; (try dsimp only at hSw); go_simp; (try with_reducible rfl))); (simp only [List.setIfInBounds_toArray, List.set_cons_zero, List.set_cons_succ]))
      (refine Held.takeH (i := 9) (k := 52) (v := ?_) rfl (by as_aux_lemma => kernel_rfl) (by as_aux_lemma => kernel_rfl) (by as_aux_lemma => kernel_rfl) (by as_aux_lemma => kernel_rfl) (fun _ _ _ h => h) (Or.inl ⟨by rfl, ?_⟩) (by assumption) ?_; rotate_left; (focus (intro w hSw; (try dsimp only at hSw); go_simp; (try with_reducible rfl))); (simp only [List.setIfInBounds_toArray, List.set_cons_zero, List.set_cons_succ]))
      refine wpAnyH_ready (rs := [10]) (by as_aux_lemma => kernel_rfl) (by simp) ?_
      refine AllReadyH.cons rfl (fun K hK => ?_) AllReadyH.nil
      go_simp
      refine (HS2.out _ hHeld).mono ?_
      rintro e' w' ⟨⟨a2', c2', rfl, t2'⟩, hS'⟩
      refine hK.out _ _ hS' (fun hHeld => ?_)
      clear hK K
      try simp only [Act.put, List.setIfInBounds_toArray, List.set_cons_zero, List.set_cons_succ]
      refine wpAnyH_ready (rs := [11]) (by as_aux_lemma => kernel_rfl) (by simp) ?_
      refine AllReadyH.cons rfl (fun K hK => ?_) AllReadyH.nil
      go_simp
      refine (HE2.out _ _ _ hHeld t2').mono ?_
      rintro e' w' ⟨rfl, hS'⟩
      refine hK.out _ _ hS' (fun hHeld => ?_)
      clear hK K
      try simp only [Act.put, List.setIfInBounds_toArray, List.set_cons_zero, List.set_cons_succ]
      (refine Held.takeH (i := 12) (k := 55) (v := .bool false) rfl (by as_aux_lemma => kernel_rfl) (by as_aux_lemma => kernel_rfl) (by as_aux_lemma => kernel_rfl) (by as_aux_lemma => kernel_rfl) (fun _ _ _ h => h) (Or.inl ⟨by rfl, ?_⟩) (by assumption) ?_; (focus (intro w hSw; (try dsimp only at hSw); go_simp; (try rfl))); (simp only [List.setIfInBounds_toArray, List.set_cons_zero, List.set_cons_succ]))
      (refine Held.takeH (i := 13) (k := 56) (v := .bool false) rfl (by as_aux_lemma => kernel_rfl) (by as_aux_lemma => kernel_rfl) (by as_aux_lemma => kernel_rfl) (by as_aux_lemma => kernel_rfl) (fun _ _ _ h => h) (Or.inl ⟨by rfl, ?_⟩) (by assumption) ?_; (focus (intro w hSw; (try dsimp only at hSw); go_simp; (try rfl))); (simp only [List.setIfInBounds_toArray, List.set_cons_zero, List.set_cons_succ]))
      (refine Held.takeH (i := 14) (k := 57) (v := .bool false) rfl (by as_aux_lemma => kernel_rfl) (by as_aux_lemma => kernel_rfl) (by as_aux_lemma => kernel_rfl) (by as_aux_lemma => kernel_rfl) (fun _ _ _ h => h) (Or.inl ⟨by rfl, ?_⟩) (by assumption) ?_; (focus (intro w hSw; (try dsimp only at hSw); go_simp; (try rfl))); (simp only [List.setIfInBounds_toArray, List.set_cons_zero, List.set_cons_succ]))
      (refine Held.takeH (i := 15) (k := 58) (v := ?_) rfl (by as_aux_lemma => kernel_rfl) (by as_aux_lemma => kernel_rfl) (by as_aux_lemma => kernel_rfl) (by as_aux_lemma => kernel_rfl) (fun _ _ _ h => h) (Or.inl ⟨by rfl, ?_⟩) (by assumption) ?_; rotate_left; (focus (intro w hSw; (try dsimp only at hSw); go_simp; (try with_reducible rfl))); (simp only [List.setIfInBounds_toArray, List.set_cons_zero, List.set_cons_succ]))
      (refine Held.takeH (i := 16) (k := 59) (v := ?_) rfl (by as_aux_lemma => kernel_rfl) (by as_aux_lemma => kernel_rfl) (by as_aux_lemma => kernel_rfl) (by as_aux_lemma => kernel_rfl) (fun _ _ _ h => h) (Or.inl ⟨by rfl, ?_⟩) (by assumption) ?_; rotate_left; (focus (intro w hSw; (try dsimp only at hSw); go_simp; (try with_reducible rfl))); (simp only [List.setIfInBounds_toArray, List.set_cons_zero, List.set_cons_succ]))
      (refine Held.takeH (i := 18) (k := 61) (v := ?_) rfl (by as_aux_lemma => kernel_rfl) (by as_aux_lemma => kernel_rfl) (by as_aux_lemma => kernel_rfl) (by as_aux_lemma => kernel_rfl) (fun _ _ _ h => h) (Or.inl ⟨by rfl, ?_⟩) (by assumption) ?_; rotate_left; (focus (intro w hSw; (try dsimp only at hSw); go_simp; (try with_reducible rfl))); (simp only [List.setIfInBounds_toArray, List.set_cons_zero, List.set_cons_succ]))
      (refine Held.takeH (i := 19) (k := 62) (v := ?_) rfl (by as_aux_lemma => kernel_rfl) (by as_aux_lemma => kernel_rfl) (by as_aux_lemma => kernel_rfl) (by as_aux_lemma => kernel_rfl) (fun _ _ _ h => h) (Or.inl ⟨by rfl, ?_⟩) (by assumption) ?_; rotate_left; (focus (intro w hSw; (try dsimp only at hSw); go_simp; (try with_reducible rfl))); (simp only [List.setIfInBounds_toArray, List.set_cons_zero, List.set_cons_succ]))
      refine wpAnyH_ready (rs := [17]) (by as_aux_lemma => kernel_rfl) (by simp) ?_
      refine AllReadyH.cons rfl (fun K hK => ?_) AllReadyH.nil
      go_simp
      refine (HII.out _ hHeld).mono ?_
      rintro e' w' ⟨rfl, hS'⟩
      refine hK.out _ _ hS' (fun hHeld => ?_)
      clear hK K
      try simp only [Act.put, List.setIfInBounds_toArray, List.set_cons_zero, List.set_cons_succ]
      refine wpAnyH_ready (rs := [20]) (by as_aux_lemma => kernel_rfl) (by simp) ?_
      refine AllReadyH.cons rfl (fun K hK => ?_) AllReadyH.nil
      go_simp
      refine (HIS.out _ hHeld).mono ?_
      rintro e' w' ⟨rfl, hS'⟩
      refine hK.out _ _ hS' (fun hHeld => ?_)
      clear hK K
      try simp only [Act.put, List.setIfInBounds_toArray, List.set_cons_zero, List.set_cons_succ]
      (refine Held.takeH (i := 21) (k := 64) (v := .bool false) rfl (by as_aux_lemma => kernel_rfl) (by as_aux_lemma => kernel_rfl) (by as_aux_lemma => kernel_rfl) (by as_aux_lemma => kernel_rfl) (fun _ _ _ h => h) (Or.inl ⟨by rfl, ?_⟩) (by assumption) ?_; (focus (intro w hSw; (try dsimp only at hSw); go_simp; (try rfl))); (simp only [List.setIfInBounds_toArray, List.set_cons_zero, List.set_cons_succ]))
      (refine Held.takeH (i := 22) (k := 65) (v := .bool false) rfl (by as_aux_lemma => kernel_rfl) (by as_aux_lemma => kernel_rfl) (by as_aux_lemma => kernel_rfl) (by as_aux_lemma => kernel_rfl) (fun _ _ _ h => h) (Or.inl ⟨by rfl, ?_⟩) (by assumption) ?_; (focus (intro w hSw; (try dsimp only at hSw); go_simp; (try rfl))); (simp only [List.setIfInBounds_toArray, List.set_cons_zero, List.set_cons_succ]))
      (refine Held.takeH (i := 23) (k := 66) (v := .bool false) rfl (by as_aux_lemma => kernel_rfl) (by as_aux_lemma => kernel_rfl) (by as_aux_lemma => kernel_rfl) (by as_aux_lemma => kernel_rfl) (fun _ _ _ h => h) (Or.inl ⟨by rfl, ?_⟩) (by assumption) ?_; (focus (intro w hSw; (try dsimp only at hSw); go_simp; (try rfl))); (simp only [List.setIfInBounds_toArray, List.set_cons_zero, List.set_cons_succ]))
      (refine Held.takeH (i := 24) (k := 67) (v := ?_) rfl (by as_aux_lemma => kernel_rfl) (by as_aux_lemma => kernel_rfl) (by as_aux_lemma => kernel_rfl) (by as_aux_lemma => kernel_rfl) (fun _ _ _ h => h) (Or.inl ⟨by rfl, ?_⟩) (by assumption) ?_; rotate_left; (focus (intro w hSw; (try dsimp only at hSw); go_simp; (try with_reducible rfl))); (simp only [List.setIfInBounds_toArray, List.set_cons_zero, List.set_cons_succ]))
      (refine Held.takeH (i := 26) (k := 69) (v := ?_) rfl (by as_aux_lemma => kernel_rfl) (by as_aux_lemma => kernel_rfl) (by as_aux_lemma => kernel_rfl) (by as_aux_lemma => kernel_rfl) (fun _ _ _ h => h) (Or.inl ⟨by rfl, ?_⟩) (by assumption) ?_; rotate_left; (focus (intro w hSw; (try dsimp only at hSw); go_simp; (try with_reducible rfl))); (simp only [List.setIfInBounds_toArray, List.set_cons_zero, List.set_cons_succ]))
      refine wpAnyH_ready (rs := [25]) (by as_aux_lemma => kernel_rfl) (by simp) ?_
      refine AllReadyH.cons rfl (fun K hK => ?_) AllReadyH.nil
      go_simp
      refine (HLI.out _ hHeld).mono ?_
      rintro e' w' ⟨rfl, hS'⟩
      refine hK.out _ _ hS' (fun hHeld => ?_)
      clear hK K
      try simp only [Act.put, List.setIfInBounds_toArray, List.set_cons_zero, List.set_cons_succ]
      refine wpAnyH_ready (rs := [27]) (by as_aux_lemma => kernel_rfl) (by simp) ?_
      refine AllReadyH.cons rfl (fun K hK => ?_) AllReadyH.nil
      go_simp
      refine (HLS.out _ hHeld).mono ?_
      rintro e' w' ⟨rfl, hS'⟩
      refine hK.out _ _ hS' (fun hHeld => ?_)
      clear hK K
      try simp only [Act.put, List.setIfInBounds_toArray, List.set_cons_zero, List.set_cons_succ]
      (refine Held.takeH (i := 28) (k := 71) (v := .bool false) rfl (by as_aux_lemma => kernel_rfl) (by as_aux_lemma => kernel_rfl) (by as_aux_lemma => kernel_rfl) (by as_aux_lemma => kernel_rfl) (fun _ _ _ h => h) (Or.inl ⟨by rfl, ?_⟩) (by assumption) ?_; (focus (intro w hSw; (try dsimp only at hSw); go_simp; (try rfl))); (simp only [List.setIfInBounds_toArray, List.set_cons_zero, List.set_cons_succ]))
      (refine Held.takeH (i := 29) (k := 72) (v := .bool false) rfl (by as_aux_lemma => kernel_rfl) (by as_aux_lemma => kernel_rfl) (by as_aux_lemma => kernel_rfl) (by as_aux_lemma => kernel_rfl) (fun _ _ _ h => h) (Or.inl ⟨by rfl, ?_⟩) (by assumption) ?_; (focus (intro w hSw; (try dsimp only at hSw); go_simp; (try rfl))); (simp only [List.setIfInBounds_toArray, List.set_cons_zero, List.set_cons_succ]))
      (refine Held.takeH (i := 30) (k := 73) (v := .bool false) rfl (by as_aux_lemma => kernel_rfl) (by as_aux_lemma => kernel_rfl) (by as_aux_lemma => kernel_rfl) (by as_aux_lemma => kernel_rfl) (fun _ _ _ h => h) (Or.inl ⟨by rfl, ?_⟩) (by assumption) ?_; (focus (intro w hSw; (try dsimp only at hSw); go_simp; (try rfl))); (simp only [List.setIfInBounds_toArray, List.set_cons_zero, List.set_cons_succ]))
      (refine Held.takeH (i := 31) (k := 74) (v := ?_) rfl (by as_aux_lemma => kernel_rfl) (by as_aux_lemma => kernel_rfl) (by as_aux_lemma => kernel_rfl) (by as_aux_lemma => kernel_rfl) (fun _ _ _ h => h) (Or.inl ⟨by rfl, ?_⟩) (by assumption) ?_; rotate_left; (focus (intro w hSw; (try dsimp only at hSw); go_simp; (try with_reducible rfl))); (simp only [List.setIfInBounds_toArray, List.set_cons_zero, List.set_cons_succ]))
      (refine Held.takeH (i := 32) (k := 75) (v := ?_) rfl (by as_aux_lemma => kernel_rfl) (by as_aux_lemma => kernel_rfl) (by as_aux_lemma => kernel_rfl) (by as_aux_lemma => kernel_rfl) (fun _ _ _ h => h) (Or.inl ⟨by rfl, ?_⟩) (by assumption) ?_; rotate_left; (focus (intro w hSw; (try dsimp only at hSw); go_simp; (try with_reducible rfl))); (simp only [List.setIfInBounds_toArray, List.set_cons_zero, List.set_cons_succ]))
      refine wpAnyH_ready (rs := [33]) (by as_aux_lemma => kernel_rfl) (by simp) ?_
      refine AllReadyH.cons rfl (fun K hK => ?_) AllReadyH.nil
      go_simp
      refine (HS3.out _ hHeld).mono ?_
      rintro e' w' ⟨⟨a3', c3', rfl, t3'⟩, hS'⟩
      refine hK.out _ _ hS' (fun hHeld => ?_)
      clear hK K
      try simp only [Act.put, List.setIfInBounds_toArray, List.set_cons_zero, List.set_cons_succ]
      refine wpAnyH_ready (rs := [34]) (by as_aux_lemma => kernel_rfl) (by simp) ?_
      refine AllReadyH.cons rfl (fun K hK => ?_) AllReadyH.nil
      go_simp
      refine (HE3.out _ _ _ hHeld t3').mono ?_
      rintro e' w' ⟨rfl, hS'⟩
      refine hK.out _ _ hS' (fun hHeld => ?_)
      clear hK K
      try simp only [Act.put, List.setIfInBounds_toArray, List.set_cons_zero, List.set_cons_succ]
      (refine Held.takeH (i := 35) (k := 78) (v := .bool false) rfl (by as_aux_lemma => kernel_rfl) (by as_aux_lemma => kernel_rfl) (by as_aux_lemma => kernel_rfl) (by as_aux_lemma => kernel_rfl) (fun _ _ _ h => h) (Or.inl ⟨by rfl, ?_⟩) (by assumption) ?_; (focus (intro w hSw; (try dsimp only at hSw); go_simp; (try rfl))); (simp only [List.setIfInBounds_toArray, List.set_cons_zero, List.set_cons_succ]))
      (refine Held.takeH (i := 36) (k := 79) (v := .bool false) rfl (by as_aux_lemma => kernel_rfl) (by as_aux_lemma => kernel_rfl) (by as_aux_lemma => kernel_rfl) (by as_aux_lemma => kernel_rfl) (fun _ _ _ h => h) (Or.inl ⟨by rfl, ?_⟩) (by assumption) ?_; (focus (intro w hSw; (try dsimp only at hSw); go_simp; (try rfl))); (simp only [List.setIfInBounds_toArray, List.set_cons_zero, List.set_cons_succ]))
      (refine Held.takeH (i := 37) (k := 80) (v := .bool false) rfl (by as_aux_lemma => kernel_rfl) (by as_aux_lemma => kernel_rfl) (by as_aux_lemma => kernel_rfl) (by as_aux_lemma => kernel_rfl) (fun _ _ _ h => h) (Or.inl ⟨by rfl, ?_⟩) (by assumption) ?_; (focus (intro w hSw; (try dsimp only at hSw); go_simp; (try rfl))); (simp only [List.setIfInBounds_toArray, List.set_cons_zero, List.set_cons_succ]))
      (refine Held.takeH (i := 38) (k := 81) (v := ?_) rfl (by as_aux_lemma => kernel_rfl) (by as_aux_lemma => kernel_rfl) (by as_aux_lemma => kernel_rfl) (by as_aux_lemma => kernel_rfl) (fun _ _ _ h => h) (Or.inl ⟨by rfl, ?_⟩) (by assumption) ?_; rotate_left; (focus (intro w hSw; (try dsimp only at hSw); go_simp; (try with_reducible rfl))); (simp only [List.setIfInBounds_toArray, List.set_cons_zero, List.set_cons_succ]))
      (refine Held.takeH (i := 39) (k := 82) (v := ?_) rfl (by as_aux_lemma => kernel_rfl) (by as_aux_lemma => kernel_rfl) (by as_aux_lemma => kernel_rfl) (by as_aux_lemma => kernel_rfl) (fun _ _ _ h => h) (Or.inl ⟨by rfl, ?_⟩) (by assumption) ?_; rotate_left; (focus (intro w hSw; (try dsimp only at hSw); go_simp; (try with_reducible rfl))); (simp only [List.setIfInBounds_toArray, List.set_cons_zero, List.set_cons_succ]))
      refine wpAnyH_ready (rs := [40]) (by as_aux_lemma => kernel_rfl) (by simp) ?_
      refine AllReadyH.cons rfl (fun K hK => ?_) AllReadyH.nil
      go_simp
      refine (HS4.out _ hHeld).mono ?_
      rintro e' w' ⟨⟨a4', c4', rfl, t4'⟩, hS'⟩
      refine hK.out _ _ hS' (fun hHeld => ?_)
      clear hK K
      try simp only [Act.put, List.setIfInBounds_toArray, List.set_cons_zero, List.set_cons_succ]
      refine wpAnyH_ready (rs := [41]) (by as_aux_lemma => kernel_rfl) (by simp) ?_
      refine AllReadyH.cons rfl (fun K hK => ?_) AllReadyH.nil
      go_simp
      refine (HE4.out _ _ _ hHeld t4').mono ?_
      rintro e' w' ⟨rfl, hS'⟩
      refine hK.out _ _ hS' (fun hHeld => ?_)
      clear hK K
      try simp only [Act.put, List.setIfInBounds_toArray, List.set_cons_zero, List.set_cons_succ]
      (refine Held.takeH (i := 42) (k := 85) (v := .bool false) rfl (by as_aux_lemma => kernel_rfl) (by as_aux_lemma => kernel_rfl) (by as_aux_lemma => kernel_rfl) (by as_aux_lemma => kernel_rfl) (fun _ _ _ h => h) (Or.inl ⟨by rfl, ?_⟩) (by assumption) ?_; (focus (intro w hSw; (try dsimp only at hSw); go_simp; (try rfl))); (simp only [List.setIfInBounds_toArray, List.set_cons_zero, List.set_cons_succ]))
      (refine Held.takeH (i := 43) (k := 86) (v := .bool false) rfl (by as_aux_lemma => kernel_rfl) (by as_aux_lemma => kernel_rfl) (by as_aux_lemma => kernel_rfl) (by as_aux_lemma => kernel_rfl) (fun _ _ _ h => h) (Or.inl ⟨by rfl, ?_⟩) (by assumption) ?_; (focus (intro w hSw; (try dsimp only at hSw); go_simp; (try rfl))); (simp only [List.setIfInBounds_toArray, List.set_cons_zero, List.set_cons_succ]))
      (refine Held.takeH (i := 44) (k := 87) (v := .bool false) rfl (by as_aux_lemma => kernel_rfl) (by as_aux_lemma => kernel_rfl) (by as_aux_lemma => kernel_rfl) (by as_aux_lemma => kernel_rfl) (fun _ _ _ h => h) (Or.inl ⟨by rfl, ?_⟩) (by assumption) ?_; (focus (intro w hSw; (try dsimp only at hSw); go_simp; (try rfl))); (simp only [List.setIfInBounds_toArray, List.set_cons_zero, List.set_cons_succ]))
      (refine Held.takeH (i := 45) (k := 88) (v := ?_) rfl (by as_aux_lemma => kernel_rfl) (by as_aux_lemma => kernel_rfl) (by as_aux_lemma => kernel_rfl) (by as_aux_lemma => kernel_rfl) (fun _ _ _ h => h) (Or.inl ⟨by rfl, ?_⟩) (by assumption) ?_; rotate_left; (focus (intro w hSw; (try dsimp only at hSw); go_simp; (try with_reducible rfl))); (simp only [List.setIfInBounds_toArray, List.set_cons_zero, List.set_cons_succ]))
      (refine Held.takeH (i := 47) (k := 90) (v := ?_) rfl (by as_aux_lemma => kernel_rfl) (by as_aux_lemma => kernel_rfl) (by as_aux_lemma => kernel_rfl) (by as_aux_lemma => kernel_rfl) (fun _ _ _ h => h) (Or.inl ⟨by rfl, ?_⟩) (by assumption) ?_; rotate_left; (focus (intro w hSw; (try dsimp only at hSw); go_simp; (try with_reducible rfl))); (simp only [List.setIfInBounds_toArray, List.set_cons_zero, List.set_cons_succ]))
      refine wpAnyH_ready (rs := [46]) (by as_aux_lemma => kernel_rfl) (by simp) ?_
      refine AllReadyH.cons rfl (fun K hK => ?_) AllReadyH.nil
      go_simp
      refine (HVI.out _ hHeld).mono ?_
      rintro e' w' ⟨rfl, hS'⟩
      refine hK.out _ _ hS' (fun hHeld => ?_)
      clear hK K
      try simp only [Act.put, List.setIfInBounds_toArray, List.set_cons_zero, List.set_cons_succ]
      refine wpAnyH_ready (rs := [48]) (by as_aux_lemma => kernel_rfl) (by simp) ?_
      refine AllReadyH.cons rfl (fun K hK => ?_) AllReadyH.nil
      go_simp
      refine (HVS.out _ hHeld).mono ?_
      rintro e' w' ⟨rfl, hS'⟩
      refine hK.out _ _ hS' (fun hHeld => ?_)
      clear hK K
      try simp only [Act.put, List.setIfInBounds_toArray, List.set_cons_zero, List.set_cons_succ]
      (refine Held.takeH (i := 49) (k := 92) (v := .bool false) rfl (by as_aux_lemma => kernel_rfl) (by as_aux_lemma => kernel_rfl) (by as_aux_lemma => kernel_rfl) (by as_aux_lemma => kernel_rfl) (fun _ _ _ h => h) (Or.inl ⟨by rfl, ?_⟩) (by assumption) ?_; (focus (intro w hSw; (try dsimp only at hSw); go_simp; (try rfl))); (simp only [List.setIfInBounds_toArray, List.set_cons_zero, List.set_cons_succ]))
      (refine Held.takeH (i := 50) (k := 93) (v := .bool false) rfl (by as_aux_lemma => kernel_rfl) (by as_aux_lemma => kernel_rfl) (by as_aux_lemma => kernel_rfl) (by as_aux_lemma => kernel_rfl) (fun _ _ _ h => h) (Or.inl ⟨by rfl, ?_⟩) (by assumption) ?_; (focus (intro w hSw; (try dsimp only at hSw); go_simp; (try rfl))); (simp only [List.setIfInBounds_toArray, List.set_cons_zero, List.set_cons_succ]))
      refine wpAnyH_done (by as_aux_lemma => kernel_rfl) ?_ _
      go_wp2_with fail
      go_meet
      exact ⟨rfl, Lib.hid hHeld.2.2.2.2.2.2.2.2⟩
    case rest =>
      obtain ⟨rfl, Q9⟩ := hcut
      clear Q8 HS1 HE1 HS2 HE2 HS3 HE3 HS4 HE4 HII HIS HLI HLS HVI HVS HCsclp g1 g2
      -- empty sets are convex
      go_wp2_with fail
      go_loopw [13] (fun x wr => ∃ i : Nat, i ≤ es.length ∧ x = .int .i64 i ∧ Hid (PK wr)) (fun x _ => es.length - (intOf x).toNat)
      case atStart => exact ⟨0, Nat.zero_le _, rfl, Q9⟩
      case round =>
        clear Q9
        obtain ⟨i, hi, rfl, Q9⟩ := hrel
        by_cases hlt : i < es.length
        · obtain ⟨be, rfl, y0⟩ := (HEZ.out _ Q9.out).get hlt
          have HH := Lib.hid (fun W hW => PHI.out (es.getD i 0) (getD_memZ hlt) W hW)
          generalize es.getD i 0 = zv at y0 HH
          have i1 : (0 : Int) ≤ (i : Int) := by omega
          have i2 : (i : Int) < (es.length : Int) := by omega
          go_wp2_with fail
          refine (HH.out _ Q9.out).mono ?_
          rintro e w9 ⟨rfl, hk9⟩
          have K9 := Lib.hid hk9
          clear hk9 y0
          go_wp2
          exact ⟨⟨i + 1, by omega, by go_num, K9⟩, by simp only [intOf]; omega⟩
        · obtain rfl : i = es.length := by omega
          clear hlt hi PHI HEZ
          -- convex sets have as many elements as asked
          go_wp2_with fail
          go_loopw [14] (fun x wr => ∃ i : Nat, i ≤ zs.length ∧ x = .int .i64 i ∧ Hid (PK wr)) (fun x _ => zs.length - (intOf x).toNat)
          case atStart => exact ⟨0, Nat.zero_le _, rfl, Q9⟩
          case round =>
            clear Q9
            obtain ⟨i, hi, rfl, Q9⟩ := hrel
            by_cases hlt : i < zs.length
            · obtain ⟨bz, rfl, y0⟩ := (HZZ.out _ Q9.out).get hlt
              have HZC : Hid (∀ W, PK W → W.cell? ⟨bz, i, none⟩ = some (.int .i64 (zs.getD i 0))) := Lib.hid (fun W hW => by obtain ⟨b, e1, e2⟩ := (HZZ.out _ hW).get hlt; injection e1 with e1; injection e1 with e1; subst e1; exact e2)
              have HCZ := Lib.hid (HCI.out (zs.getD i 0) (getD_memZ hlt))
              generalize zs.getD i 0 = zv at y0 HZC HCZ
              have HC21 : Hid (∀ W, PK W → W.cell? ⟨bs, 0, none⟩ = some (.int .i64 ms) ∧ W.cell? ⟨bs, 1, none⟩ = some (.string Ts) ∧ W.cell? ⟨bz, i, none⟩ = some (.int .i64 zv) ∧ PK W) := Lib.hid (fun W hW => ⟨(HCs.out W hW).1, (HCs.out W hW).2.1, HZC.out W hW, hW⟩)
              have HA21 : Hid (∀ W, (W.cell? ⟨bs, 0, none⟩ = some (.int .i64 ms) ∧ W.cell? ⟨bs, 1, none⟩ = some (.string Ts) ∧ W.cell? ⟨bz, i, none⟩ = some (.int .i64 zv) ∧ PK W) → Calls Tryz.prog 26 #[.int .i64 zv] W fun e w' => e = .returned (.int .i64 kk) ∧ w'.cell? ⟨bs, 0, none⟩ = some (.int .i64 ms) ∧ w'.cell? ⟨bs, 1, none⟩ = some (.string Ts) ∧ w'.cell? ⟨bz, i, none⟩ = some (.int .i64 zv) ∧ PK w') := Lib.hid (fun W hW => (HCZ.out.1 W).mono fun e w' ⟨he, hw⟩ => ⟨he, by rw [← hw]; exact hW⟩)
              have HB21 : Hid (∀ W, (W.cell? ⟨bs, 0, none⟩ = some (.int .i64 ms) ∧ W.cell? ⟨bs, 1, none⟩ = some (.string Ts) ∧ W.cell? ⟨bz, i, none⟩ = some (.int .i64 zv) ∧ PK W) → Calls Tryz.prog 17 #[sg ms Ts, .int .i64 zv] W fun e w' => e = .returned (.bool true) ∧ w'.cell? ⟨bs, 0, none⟩ = some (.int .i64 ms) ∧ w'.cell? ⟨bs, 1, none⟩ = some (.string Ts) ∧ w'.cell? ⟨bz, i, none⟩ = some (.int .i64 zv) ∧ PK w') := Lib.hid (fun W hW => (HCZ.out.2 W hW.2.2.2).mono fun e w' ⟨he, hk⟩ => ⟨he, HC21.out _ hk⟩)
              have i1 : (0 : Int) ≤ (i : Int) := by omega
              have i2 : (i : Int) < (zs.length : Int) := by omega
              have b1 : (kk != kk) = false := by simp
              obtain ⟨x0, x1, -⟩ := HC21.out _ Q9.out
              go_upto_region 21 with fail
              refine wp_region_held (S := fun W => W.cell? ⟨bs, 0, none⟩ = some (.int .i64 ms) ∧ W.cell? ⟨bs, 1, none⟩ = some (.string Ts) ∧ W.cell? ⟨bz, i, none⟩ = some (.int .i64 zv) ∧ PK W) rfl ?_
              have hHeld := (HC21.out _ (HDR.out _ Q9.out))
              (refine Held.takeH (i := 0) (k := 113) (v := ?_) rfl (by as_aux_lemma => kernel_rfl) (by as_aux_lemma => kernel_rfl) (by as_aux_lemma => kernel_rfl) (by as_aux_lemma => kernel_rfl) (fun _ _ _ h => h) (Or.inl ⟨by rfl, ?_⟩) (by assumption) ?_; rotate_left; (focus (intro w hSw; (try dsimp only at hSw); go_simp; (try with_reducible rfl))); (simp only [List.setIfInBounds_toArray, List.set_cons_zero, List.set_cons_succ]))
              (refine Held.takeH (i := 1) (k := 114) (v := ?_) rfl (by as_aux_lemma => kernel_rfl) (by as_aux_lemma => kernel_rfl) (by as_aux_lemma => kernel_rfl) (by as_aux_lemma => kernel_rfl) (fun _ _ _ h => h) (Or.inl ⟨by rfl, ?_⟩) (by assumption) ?_; rotate_left; (focus (intro w hSw; (try dsimp only at hSw); go_simp; (try with_reducible rfl))); (simp only [List.setIfInBounds_toArray, List.set_cons_zero, List.set_cons_succ]))
              (refine Held.takeH (i := 2) (k := 115) (v := ?_) rfl (by as_aux_lemma => kernel_rfl) (by as_aux_lemma => kernel_rfl) (by as_aux_lemma => kernel_rfl) (by as_aux_lemma => kernel_rfl) (fun _ _ _ h => h) (Or.inl ⟨by rfl, ?_⟩) (by assumption) ?_; rotate_left; (focus (intro w hSw; (try dsimp only at hSw); go_simp; (try with_reducible rfl))); (simp only [List.setIfInBounds_toArray, List.set_cons_zero, List.set_cons_succ]))
              (refine Held.takeH (i := 3) (k := 116) (v := ?_) rfl (by as_aux_lemma => kernel_rfl) (by as_aux_lemma => kernel_rfl) (by as_aux_lemma => kernel_rfl) (by as_aux_lemma => kernel_rfl) (fun _ _ _ h => h) (Or.inl ⟨by rfl, ?_⟩) (by assumption) ?_; rotate_left; (focus (intro w hSw; (try dsimp only at hSw); go_simp; (try with_reducible rfl))); (simp only [List.setIfInBounds_toArray, List.set_cons_zero, List.set_cons_succ]))
              (refine Held.takeH (i := 5) (k := 118) (v := ?_) rfl (by as_aux_lemma => kernel_rfl) (by as_aux_lemma => kernel_rfl) (by as_aux_lemma => kernel_rfl) (by as_aux_lemma => kernel_rfl) (fun _ _ _ h => h) (Or.inl ⟨by rfl, ?_⟩) (by assumption) ?_; rotate_left; (focus (intro w hSw; (try dsimp only at hSw); go_simp; (try with_reducible rfl))); (simp only [List.setIfInBounds_toArray, List.set_cons_zero, List.set_cons_succ]))
              refine wpAnyH_ready (rs := [4]) (by as_aux_lemma => kernel_rfl) (by simp) ?_
              refine AllReadyH.cons rfl (fun K hK => ?_) AllReadyH.nil
              go_simp
              refine (HA21.out _ hHeld).mono ?_
              rintro e' w' ⟨rfl, hS'⟩
              refine hK.out _ _ hS' (fun hHeld => ?_)
              clear hK K
              try simp only [Act.put, List.setIfInBounds_toArray, List.set_cons_zero, List.set_cons_succ]
              (refine Held.takeH (i := 6) (k := 119) (v := .bool false) rfl (by as_aux_lemma => kernel_rfl) (by as_aux_lemma => kernel_rfl) (by as_aux_lemma => kernel_rfl) (by as_aux_lemma => kernel_rfl) (fun _ _ _ h => h) (Or.inl ⟨by rfl, ?_⟩) (by assumption) ?_; (focus (intro w hSw; (try dsimp only at hSw); go_simp; (try rfl))); (simp only [List.setIfInBounds_toArray, List.set_cons_zero, List.set_cons_succ]))
              (refine Held.takeH (i := 7) (k := 120) (v := .bool false) rfl (by as_aux_lemma => kernel_rfl) (by as_aux_lemma => kernel_rfl) (by as_aux_lemma => kernel_rfl) (by as_aux_lemma => kernel_rfl) (fun _ _ _ h => h) (Or.inl ⟨by rfl, ?_⟩) (by assumption) ?_; (focus (intro w hSw; (try dsimp only at hSw); go_simp; (try rfl))); (simp only [List.setIfInBounds_toArray, List.set_cons_zero, List.set_cons_succ]))
              (refine Held.takeH (i := 8) (k := 121) (v := ?_) rfl (by as_aux_lemma => kernel_rfl) (by as_aux_lemma => kernel_rfl) (by as_aux_lemma => kernel_rfl) (by as_aux_lemma => kernel_rfl) (fun _ _ _ h => h) (Or.inl ⟨by rfl, ?_⟩) (by assumption) ?_; rotate_left; (focus (intro w hSw; (try dsimp only at hSw); go_simp; (try with_reducible rfl))); (simp only [List.setIfInBounds_toArray, List.set_cons_zero, List.set_cons_succ]))
              (refine Held.takeH (i := 9) (k := 122) (v := ?_) rfl (by as_aux_lemma => kernel_rfl) (by as_aux_lemma => kernel_rfl) (by as_aux_lemma => kernel_rfl) (by as_aux_lemma => kernel_rfl) (fun _ _ _ h => h) (Or.inl ⟨by rfl, ?_⟩) (by assumption) ?_; rotate_left; (focus (intro w hSw; (try dsimp only at hSw); go_simp; (try with_reducible rfl))); (simp only [List.setIfInBounds_toArray, List.set_cons_zero, List.set_cons_succ]))
              (refine Held.takeH (i := 10) (k := 123) (v := ?_) rfl (by as_aux_lemma => kernel_rfl) (by as_aux_lemma => kernel_rfl) (by as_aux_lemma => kernel_rfl) (by as_aux_lemma => kernel_rfl) (fun _ _ _ h => h) (Or.inl ⟨by rfl, ?_⟩) (by assumption) ?_; rotate_left; (focus (intro w hSw; (try dsimp only at hSw); go_simp; (try with_reducible rfl))); (simp only [List.setIfInBounds_toArray, List.set_cons_zero, List.set_cons_succ]))
              (refine Held.takeH (i := 11) (k := 124) (v := ?_) rfl (by as_aux_lemma => kernel_rfl) (by as_aux_lemma => kernel_rfl) (by as_aux_lemma => kernel_rfl) (by as_aux_lemma => kernel_rfl) (fun _ _ _ h => h) (Or.inl ⟨by rfl, ?_⟩) (by assumption) ?_; rotate_left; (focus (intro w hSw; (try dsimp only at hSw); go_simp; (try with_reducible rfl))); (simp only [List.setIfInBounds_toArray, List.set_cons_zero, List.set_cons_succ]))
              (refine Held.takeH (i := 12) (k := 125) (v := ?_) rfl (by as_aux_lemma => kernel_rfl) (by as_aux_lemma => kernel_rfl) (by as_aux_lemma => kernel_rfl) (by as_aux_lemma => kernel_rfl) (fun _ _ _ h => h) (Or.inl ⟨by rfl, ?_⟩) (by assumption) ?_; rotate_left; (focus (intro w hSw; (try dsimp only at hSw); go_simp; (try with_reducible rfl))); (simp only [List.setIfInBounds_toArray, List.set_cons_zero, List.set_cons_succ]))
              refine wpAnyH_ready (rs := [13]) (by as_aux_lemma => kernel_rfl) (by simp) ?_
              refine AllReadyH.cons rfl (fun K hK => ?_) AllReadyH.nil
              go_simp
              refine (HB21.out _ hHeld).mono ?_
              rintro e' w' ⟨rfl, hS'⟩
              refine hK.out _ _ hS' (fun hHeld => ?_)
              clear hK K
              try simp only [Act.put, List.setIfInBounds_toArray, List.set_cons_zero, List.set_cons_succ]
              (refine Held.takeH (i := 14) (k := 127) (v := .bool false) rfl (by as_aux_lemma => kernel_rfl) (by as_aux_lemma => kernel_rfl) (by as_aux_lemma => kernel_rfl) (by as_aux_lemma => kernel_rfl) (fun _ _ _ h => h) (Or.inl ⟨by rfl, ?_⟩) (by assumption) ?_; (focus (intro w hSw; (try dsimp only at hSw); go_simp; (try rfl))); (simp only [List.setIfInBounds_toArray, List.set_cons_zero, List.set_cons_succ]))
              (refine Held.takeH (i := 15) (k := 128) (v := .bool false) rfl (by as_aux_lemma => kernel_rfl) (by as_aux_lemma => kernel_rfl) (by as_aux_lemma => kernel_rfl) (by as_aux_lemma => kernel_rfl) (fun _ _ _ h => h) (Or.inl ⟨by rfl, ?_⟩) (by assumption) ?_; (focus (intro w hSw; (try dsimp only at hSw); go_simp; (try rfl))); (simp only [List.setIfInBounds_toArray, List.set_cons_zero, List.set_cons_succ]))
              refine wpAnyH_done (by as_aux_lemma => kernel_rfl) ?_ _
              go_wp2_with fail
              exact ⟨⟨i + 1, by omega, by go_num, Lib.hid hHeld.2.2.2⟩, by simp only [intOf]; omega⟩
            · obtain rfl : i = zs.length := by omega
              clear hlt hi HCI HZZ
              -- sets of four
              obtain ⟨x0, x1, -⟩ := HCs.out _ Q9.out
              go_upto_region 23 with fail
              go_cut [146] (fun cv wx => cv = .bool false ∧ Hid (PK wx))
              case first =>
                as_aux_lemma =>
                cases hac : aciB ms Ts.data.toList
                · rw [hac] at PAS
                  go_wp2_with fail
                  refine (PAS.out _ Q9.out).mono ?_
                  rintro e w10 ⟨rfl, hk10⟩
                  have K10 := Lib.hid hk10
                  clear hk10 x0 x1
                  obtain ⟨x0, x1, -⟩ := HCs.out _ K10.out
                  go_wp2_with fail
                  go_meet
                  exact ⟨rfl, K10⟩
                · rw [hac] at PAS
                  by_cases hk4 : kk = 4
                  · have b4 : (kk == 4) = true := by rw [hk4]; rfl
                    by_cases h4 : 4 ≤ ms
                    · have he := HQ4.out hac hk4 h4
                      have b5 : ((zs.length : Int) != qn) = false := by rw [he]; simp
                      clear hk4 he h4 hac
                      go_wp2_with fail
                      refine (PAS.out _ Q9.out).mono ?_
                      rintro e w10 ⟨rfl, hk10⟩
                      have K10 := Lib.hid hk10
                      clear hk10 x0 x1
                      obtain ⟨x0, x1, -⟩ := HCs.out _ K10.out
                      go_wp2_with fail
                      refine (PCQ.out _ K10.out).mono ?_
                      rintro e w11 ⟨rfl, hk11⟩
                      have K11 := Lib.hid hk11
                      clear hk11 x0 x1
                      obtain ⟨x0, x1, -⟩ := HCs.out _ K11.out
                      go_wp2_with fail
                      go_meet
                      exact ⟨rfl, K11⟩
                    · have b6 : decide ((ms : Int) ≥ 4) = false := decide_eq_false (by omega)
                      have b7 : decide ((4 : Int) ≤ (ms : Int)) = false := decide_eq_false (by omega)
                      have b8 : decide (4 ≤ ms) = false := decide_eq_false h4
                      clear h4 hk4 hac
                      cases b5 : ((zs.length : Int) != qn)
                      · go_wp2_with fail
                        refine (PAS.out _ Q9.out).mono ?_
                        rintro e w10 ⟨rfl, hk10⟩
                        have K10 := Lib.hid hk10
                        clear hk10 x0 x1
                        obtain ⟨x0, x1, -⟩ := HCs.out _ K10.out
                        go_wp2_with fail
                        refine (PCQ.out _ K10.out).mono ?_
                        rintro e w11 ⟨rfl, hk11⟩
                        have K11 := Lib.hid hk11
                        clear hk11 x0 x1
                        obtain ⟨x0, x1, -⟩ := HCs.out _ K11.out
                        go_wp2_with fail
                        go_meet
                        exact ⟨rfl, K11⟩
                      · go_wp2_with fail
                        refine (PAS.out _ Q9.out).mono ?_
                        rintro e w10 ⟨rfl, hk10⟩
                        have K10 := Lib.hid hk10
                        clear hk10 x0 x1
                        obtain ⟨x0, x1, -⟩ := HCs.out _ K10.out
                        go_wp2_with fail
                        refine (PCQ.out _ K10.out).mono ?_
                        rintro e w11 ⟨rfl, hk11⟩
                        have K11 := Lib.hid hk11
                        clear hk11 x0 x1
                        obtain ⟨x0, x1, -⟩ := HCs.out _ K11.out
                        go_wp2_with fail
                        go_meet
                        exact ⟨rfl, K11⟩
                  · have b4 : (kk == 4) = false := beq_eq_false_iff_ne.2 hk4
                    clear hk4 hac
                    go_wp2_with fail
                    refine (PAS.out _ Q9.out).mono ?_
                    rintro e w10 ⟨rfl, hk10⟩
                    have K10 := Lib.hid hk10
                    clear hk10 x0 x1
                    obtain ⟨x0, x1, -⟩ := HCs.out _ K10.out
                    go_wp2_with fail
                    go_meet
                    exact ⟨rfl, K10⟩
              case rest =>
                obtain ⟨rfl, Q10⟩ := hcut
                clear Q9 PAS PCQ HQ4 HN3 x0 x1
                -- the sum and the largest
                obtain ⟨x0, x1, -⟩ := HCl.out _ Q10.out
                go_upto_region 25 with fail
                go_cut [181] (fun cv wx => cv = .bool false ∧ Hid (PK wx))
                case first =>
                  as_aux_lemma =>
                  cases hac : aciB ml Tl.data.toList
                  · rw [hac] at HGA
                    refine wp_region_held (S := fun W => W.cell? ⟨bl, 0, none⟩ = some (.int .i64 ml) ∧ W.cell? ⟨bl, 1, none⟩ = some (.string Tl) ∧ PK W) rfl ?_
                    have hHeld := (HCl.out _ (HDR.out _ Q10.out))
                    (refine Held.takeH (i := 0) (k := 147) (v := ?_) rfl (by as_aux_lemma => kernel_rfl) (by as_aux_lemma => kernel_rfl) (by as_aux_lemma => kernel_rfl) (by as_aux_lemma => kernel_rfl) (fun _ _ _ h => h) (Or.inl ⟨by rfl, ?_⟩) (by assumption) ?_; rotate_left; (focus (intro w hSw; (try dsimp only at hSw); go_simp; (try with_reducible rfl))); (simp only [List.setIfInBounds_toArray, List.set_cons_zero, List.set_cons_succ]))
                    refine wpAnyH_ready (rs := [1]) (by as_aux_lemma => kernel_rfl) (by simp) ?_
                    refine AllReadyH.cons rfl (fun K hK => ?_) AllReadyH.nil
                    go_simp
                    refine (HGA.out _ hHeld).mono ?_
                    rintro e' w' ⟨rfl, hS'⟩
                    refine hK.out _ _ hS' (fun hHeld => ?_)
                    clear hK K
                    try simp only [Act.put, List.setIfInBounds_toArray, List.set_cons_zero, List.set_cons_succ]
                    (refine Held.takeH (i := 2) (k := 149) (v := .bool false) rfl (by as_aux_lemma => kernel_rfl) (by as_aux_lemma => kernel_rfl) (by as_aux_lemma => kernel_rfl) (by as_aux_lemma => kernel_rfl) (fun _ _ _ h => h) (Or.inl ⟨by rfl, ?_⟩) (by assumption) ?_; (focus (intro w hSw; (try dsimp only at hSw); go_simp; (try rfl))); (simp only [List.setIfInBounds_toArray, List.set_cons_zero, List.set_cons_succ]))
                    (refine Held.takeH (i := 3) (k := 150) (v := undef) rfl (by as_aux_lemma => kernel_rfl) (by as_aux_lemma => kernel_rfl) (by as_aux_lemma => kernel_rfl) (by as_aux_lemma => kernel_rfl) (fun _ _ _ h => h) (Or.inr ⟨by rfl, rfl⟩) (by assumption) ?_; (simp only [List.setIfInBounds_toArray, List.set_cons_zero, List.set_cons_succ]))
                    (refine Held.takeH (i := 4) (k := 151) (v := undef) rfl (by as_aux_lemma => kernel_rfl) (by as_aux_lemma => kernel_rfl) (by as_aux_lemma => kernel_rfl) (by as_aux_lemma => kernel_rfl) (fun _ _ _ h => h) (Or.inr ⟨by rfl, rfl⟩) (by assumption) ?_; (simp only [List.setIfInBounds_toArray, List.set_cons_zero, List.set_cons_succ]))
                    (refine Held.takeH (i := 5) (k := 152) (v := undef) rfl (by as_aux_lemma => kernel_rfl) (by as_aux_lemma => kernel_rfl) (by as_aux_lemma => kernel_rfl) (by as_aux_lemma => kernel_rfl) (fun _ _ _ h => h) (Or.inr ⟨by rfl, rfl⟩) (by assumption) ?_; (simp only [List.setIfInBounds_toArray, List.set_cons_zero, List.set_cons_succ]))
                    (refine Held.takeH (i := 6) (k := 153) (v := undef) rfl (by as_aux_lemma => kernel_rfl) (by as_aux_lemma => kernel_rfl) (by as_aux_lemma => kernel_rfl) (by as_aux_lemma => kernel_rfl) (fun _ _ _ h => h) (Or.inr ⟨by rfl, rfl⟩) (by assumption) ?_; (simp only [List.setIfInBounds_toArray, List.set_cons_zero, List.set_cons_succ]))
                    (refine Held.takeH (i := 7) (k := 154) (v := undef) rfl (by as_aux_lemma => kernel_rfl) (by as_aux_lemma => kernel_rfl) (by as_aux_lemma => kernel_rfl) (by as_aux_lemma => kernel_rfl) (fun _ _ _ h => h) (Or.inr ⟨by rfl, rfl⟩) (by assumption) ?_; (simp only [List.setIfInBounds_toArray, List.set_cons_zero, List.set_cons_succ]))
                    (refine Held.takeH (i := 8) (k := 155) (v := undef) rfl (by as_aux_lemma => kernel_rfl) (by as_aux_lemma => kernel_rfl) (by as_aux_lemma => kernel_rfl) (by as_aux_lemma => kernel_rfl) (fun _ _ _ h => h) (Or.inr ⟨by rfl, rfl⟩) (by assumption) ?_; (simp only [List.setIfInBounds_toArray, List.set_cons_zero, List.set_cons_succ]))
                    (refine Held.takeH (i := 9) (k := 156) (v := undef) rfl (by as_aux_lemma => kernel_rfl) (by as_aux_lemma => kernel_rfl) (by as_aux_lemma => kernel_rfl) (by as_aux_lemma => kernel_rfl) (fun _ _ _ h => h) (Or.inr ⟨by rfl, rfl⟩) (by assumption) ?_; (simp only [List.setIfInBounds_toArray, List.set_cons_zero, List.set_cons_succ]))
                    (refine Held.takeH (i := 10) (k := 157) (v := undef) rfl (by as_aux_lemma => kernel_rfl) (by as_aux_lemma => kernel_rfl) (by as_aux_lemma => kernel_rfl) (by as_aux_lemma => kernel_rfl) (fun _ _ _ h => h) (Or.inr ⟨by rfl, rfl⟩) (by assumption) ?_; (simp only [List.setIfInBounds_toArray, List.set_cons_zero, List.set_cons_succ]))
                    (refine Held.takeH (i := 11) (k := 158) (v := undef) rfl (by as_aux_lemma => kernel_rfl) (by as_aux_lemma => kernel_rfl) (by as_aux_lemma => kernel_rfl) (by as_aux_lemma => kernel_rfl) (fun _ _ _ h => h) (Or.inr ⟨by rfl, rfl⟩) (by assumption) ?_; (simp only [List.setIfInBounds_toArray, List.set_cons_zero, List.set_cons_succ]))
                    (refine Held.takeH (i := 12) (k := 159) (v := undef) rfl (by as_aux_lemma => kernel_rfl) (by as_aux_lemma => kernel_rfl) (by as_aux_lemma => kernel_rfl) (by as_aux_lemma => kernel_rfl) (fun _ _ _ h => h) (Or.inr ⟨by rfl, rfl⟩) (by assumption) ?_; (simp only [List.setIfInBounds_toArray, List.set_cons_zero, List.set_cons_succ]))
                    (refine Held.takeH (i := 13) (k := 160) (v := undef) rfl (by as_aux_lemma => kernel_rfl) (by as_aux_lemma => kernel_rfl) (by as_aux_lemma => kernel_rfl) (by as_aux_lemma => kernel_rfl) (fun _ _ _ h => h) (Or.inr ⟨by rfl, rfl⟩) (by assumption) ?_; (simp only [List.setIfInBounds_toArray, List.set_cons_zero, List.set_cons_succ]))
                    (refine Held.takeH (i := 14) (k := 161) (v := undef) rfl (by as_aux_lemma => kernel_rfl) (by as_aux_lemma => kernel_rfl) (by as_aux_lemma => kernel_rfl) (by as_aux_lemma => kernel_rfl) (fun _ _ _ h => h) (Or.inr ⟨by rfl, rfl⟩) (by assumption) ?_; (simp only [List.setIfInBounds_toArray, List.set_cons_zero, List.set_cons_succ]))
                    (refine Held.takeH (i := 15) (k := 162) (v := undef) rfl (by as_aux_lemma => kernel_rfl) (by as_aux_lemma => kernel_rfl) (by as_aux_lemma => kernel_rfl) (by as_aux_lemma => kernel_rfl) (fun _ _ _ h => h) (Or.inr ⟨by rfl, rfl⟩) (by assumption) ?_; (simp only [List.setIfInBounds_toArray, List.set_cons_zero, List.set_cons_succ]))
                    (refine Held.takeH (i := 16) (k := 163) (v := undef) rfl (by as_aux_lemma => kernel_rfl) (by as_aux_lemma => kernel_rfl) (by as_aux_lemma => kernel_rfl) (by as_aux_lemma => kernel_rfl) (fun _ _ _ h => h) (Or.inr ⟨by rfl, rfl⟩) (by assumption) ?_; (simp only [List.setIfInBounds_toArray, List.set_cons_zero, List.set_cons_succ]))
                    (refine Held.takeH (i := 17) (k := 164) (v := undef) rfl (by as_aux_lemma => kernel_rfl) (by as_aux_lemma => kernel_rfl) (by as_aux_lemma => kernel_rfl) (by as_aux_lemma => kernel_rfl) (fun _ _ _ h => h) (Or.inr ⟨by rfl, rfl⟩) (by assumption) ?_; (simp only [List.setIfInBounds_toArray, List.set_cons_zero, List.set_cons_succ]))
                    (refine Held.takeH (i := 18) (k := 165) (v := undef) rfl (by as_aux_lemma => kernel_rfl) (by as_aux_lemma => kernel_rfl) (by as_aux_lemma => kernel_rfl) (by as_aux_lemma => kernel_rfl) (fun _ _ _ h => h) (Or.inr ⟨by rfl, rfl⟩) (by assumption) ?_; (simp only [List.setIfInBounds_toArray, List.set_cons_zero, List.set_cons_succ]))
                    (refine Held.takeH (i := 19) (k := 166) (v := undef) rfl (by as_aux_lemma => kernel_rfl) (by as_aux_lemma => kernel_rfl) (by as_aux_lemma => kernel_rfl) (by as_aux_lemma => kernel_rfl) (fun _ _ _ h => h) (Or.inr ⟨by rfl, rfl⟩) (by assumption) ?_; (simp only [List.setIfInBounds_toArray, List.set_cons_zero, List.set_cons_succ]))
                    (refine Held.takeH (i := 20) (k := 167) (v := undef) rfl (by as_aux_lemma => kernel_rfl) (by as_aux_lemma => kernel_rfl) (by as_aux_lemma => kernel_rfl) (by as_aux_lemma => kernel_rfl) (fun _ _ _ h => h) (Or.inr ⟨by rfl, rfl⟩) (by assumption) ?_; (simp only [List.setIfInBounds_toArray, List.set_cons_zero, List.set_cons_succ]))
                    (refine Held.takeH (i := 21) (k := 168) (v := undef) rfl (by as_aux_lemma => kernel_rfl) (by as_aux_lemma => kernel_rfl) (by as_aux_lemma => kernel_rfl) (by as_aux_lemma => kernel_rfl) (fun _ _ _ h => h) (Or.inr ⟨by rfl, rfl⟩) (by assumption) ?_; (simp only [List.setIfInBounds_toArray, List.set_cons_zero, List.set_cons_succ]))
                    (refine Held.takeH (i := 22) (k := 169) (v := undef) rfl (by as_aux_lemma => kernel_rfl) (by as_aux_lemma => kernel_rfl) (by as_aux_lemma => kernel_rfl) (by as_aux_lemma => kernel_rfl) (fun _ _ _ h => h) (Or.inr ⟨by rfl, rfl⟩) (by assumption) ?_; (simp only [List.setIfInBounds_toArray, List.set_cons_zero, List.set_cons_succ]))
                    (refine Held.takeH (i := 23) (k := 170) (v := undef) rfl (by as_aux_lemma => kernel_rfl) (by as_aux_lemma => kernel_rfl) (by as_aux_lemma => kernel_rfl) (by as_aux_lemma => kernel_rfl) (fun _ _ _ h => h) (Or.inr ⟨by rfl, rfl⟩) (by assumption) ?_; (simp only [List.setIfInBounds_toArray, List.set_cons_zero, List.set_cons_succ]))
                    (refine Held.takeH (i := 24) (k := 171) (v := undef) rfl (by as_aux_lemma => kernel_rfl) (by as_aux_lemma => kernel_rfl) (by as_aux_lemma => kernel_rfl) (by as_aux_lemma => kernel_rfl) (fun _ _ _ h => h) (Or.inr ⟨by rfl, rfl⟩) (by assumption) ?_; (simp only [List.setIfInBounds_toArray, List.set_cons_zero, List.set_cons_succ]))
                    (refine Held.takeH (i := 25) (k := 172) (v := undef) rfl (by as_aux_lemma => kernel_rfl) (by as_aux_lemma => kernel_rfl) (by as_aux_lemma => kernel_rfl) (by as_aux_lemma => kernel_rfl) (fun _ _ _ h => h) (Or.inr ⟨by rfl, rfl⟩) (by assumption) ?_; (simp only [List.setIfInBounds_toArray, List.set_cons_zero, List.set_cons_succ]))
                    (refine Held.takeH (i := 26) (k := 173) (v := undef) rfl (by as_aux_lemma => kernel_rfl) (by as_aux_lemma => kernel_rfl) (by as_aux_lemma => kernel_rfl) (by as_aux_lemma => kernel_rfl) (fun _ _ _ h => h) (Or.inr ⟨by rfl, rfl⟩) (by assumption) ?_; (simp only [List.setIfInBounds_toArray, List.set_cons_zero, List.set_cons_succ]))
                    (refine Held.takeH (i := 27) (k := 174) (v := undef) rfl (by as_aux_lemma => kernel_rfl) (by as_aux_lemma => kernel_rfl) (by as_aux_lemma => kernel_rfl) (by as_aux_lemma => kernel_rfl) (fun _ _ _ h => h) (Or.inr ⟨by rfl, rfl⟩) (by assumption) ?_; (simp only [List.setIfInBounds_toArray, List.set_cons_zero, List.set_cons_succ]))
                    (refine Held.takeH (i := 28) (k := 175) (v := undef) rfl (by as_aux_lemma => kernel_rfl) (by as_aux_lemma => kernel_rfl) (by as_aux_lemma => kernel_rfl) (by as_aux_lemma => kernel_rfl) (fun _ _ _ h => h) (Or.inr ⟨by rfl, rfl⟩) (by assumption) ?_; (simp only [List.setIfInBounds_toArray, List.set_cons_zero, List.set_cons_succ]))
                    (refine Held.takeH (i := 29) (k := 176) (v := undef) rfl (by as_aux_lemma => kernel_rfl) (by as_aux_lemma => kernel_rfl) (by as_aux_lemma => kernel_rfl) (by as_aux_lemma => kernel_rfl) (fun _ _ _ h => h) (Or.inr ⟨by rfl, rfl⟩) (by assumption) ?_; (simp only [List.setIfInBounds_toArray, List.set_cons_zero, List.set_cons_succ]))
                    (refine Held.takeH (i := 30) (k := 177) (v := undef) rfl (by as_aux_lemma => kernel_rfl) (by as_aux_lemma => kernel_rfl) (by as_aux_lemma => kernel_rfl) (by as_aux_lemma => kernel_rfl) (fun _ _ _ h => h) (Or.inr ⟨by rfl, rfl⟩) (by assumption) ?_; (simp only [List.setIfInBounds_toArray, List.set_cons_zero, List.set_cons_succ]))
                    (refine Held.takeH (i := 31) (k := 178) (v := undef) rfl (by as_aux_lemma => kernel_rfl) (by as_aux_lemma => kernel_rfl) (by as_aux_lemma => kernel_rfl) (by as_aux_lemma => kernel_rfl) (fun _ _ _ h => h) (Or.inr ⟨by rfl, rfl⟩) (by assumption) ?_; (simp only [List.setIfInBounds_toArray, List.set_cons_zero, List.set_cons_succ]))
                    (refine Held.takeH (i := 32) (k := 179) (v := undef) rfl (by as_aux_lemma => kernel_rfl) (by as_aux_lemma => kernel_rfl) (by as_aux_lemma => kernel_rfl) (by as_aux_lemma => kernel_rfl) (fun _ _ _ h => h) (Or.inr ⟨by rfl, rfl⟩) (by assumption) ?_; (simp only [List.setIfInBounds_toArray, List.set_cons_zero, List.set_cons_succ]))
                    (refine Held.takeH (i := 33) (k := 180) (v := undef) rfl (by as_aux_lemma => kernel_rfl) (by as_aux_lemma => kernel_rfl) (by as_aux_lemma => kernel_rfl) (by as_aux_lemma => kernel_rfl) (fun _ _ _ h => h) (Or.inr ⟨by rfl, rfl⟩) (by assumption) ?_; (simp only [List.setIfInBounds_toArray, List.set_cons_zero, List.set_cons_succ]))
                    (refine Held.takeH (i := 34) (k := 181) (v := .bool false) rfl (by as_aux_lemma => kernel_rfl) (by as_aux_lemma => kernel_rfl) (by as_aux_lemma => kernel_rfl) (by as_aux_lemma => kernel_rfl) (fun _ _ _ h => h) (Or.inl ⟨by rfl, ?_⟩) (by assumption) ?_; (focus (intro w hSw; (try dsimp only at hSw); go_simp; (try rfl))); (simp only [List.setIfInBounds_toArray, List.set_cons_zero, List.set_cons_succ]))
                    refine wpAnyH_done (by as_aux_lemma => kernel_rfl) ?_ _
                    go_wp2_with fail
                    go_meet
                    exact ⟨rfl, Lib.hid hHeld.2.2⟩
                  · obtain ⟨h3, h7, hev, hzl2, h5l⟩ := HLL.out hac
                    rw [hac] at HGA
                    obtain ⟨m1, hm1⟩ : ∃ m1 : Nat, m1 = ml - 1 := ⟨_, rfl⟩
                    obtain ⟨PR, hPR⟩ : ∃ PR : Nat, PR = ml * m1 := ⟨_, rfl⟩
                    obtain ⟨D2, hD2⟩ : ∃ D2 : Nat, D2 = PR / 2 := ⟨_, rfl⟩
                    have hPb : PR ≤ 49 := by rw [hPR]; exact Nat.mul_le_mul h7 (show m1 ≤ 7 by omega)
                    rw [← hm1, ← hPR, ← hD2] at hev
                    obtain ⟨D3, hD3⟩ : ∃ D3 : Int, D3 = (D2 : Int) - (ml : Int) := ⟨_, rfl⟩
                    have v1 : IntKind.i64.wrap ((ml : Int) - 1) = (m1 : Int) := by rw [IntWalk.i64_in _ (by omega)]; omega
                    have v2 : IntKind.i64.wrap ((ml : Int) * (m1 : Int)) = (PR : Int) := by rw [← Int.natCast_mul, ← hPR]; exact IntWalk.i64_in _ (by omega)
                    have v3 : (PR : Int).tdiv 2 = (D2 : Int) := by rw [Int.tdiv_eq_ediv_of_nonneg (by omega), hD2]; rfl
                    have v4 : IntKind.i64.wrap ((D2 : Int) - (ml : Int)) = D3 := by rw [IntWalk.i64_in _ (by omega), hD3]
                    have v5 : IntKind.i64.wrap (D3 + 1) = ev := by rw [IntWalk.i64_in _ (by omega)]; omega
                    have v6 : IntKind.i64.wrap (D2 : Int) = (D2 : Int) := IntWalk.i64_in _ (by omega)
                    have b1 : decide (lc < hz) = false := decide_eq_false (by omega)
                    by_cases h5 : 5 ≤ ml
                    · have b2 : decide ((ml : Int) ≥ 5) = true := decide_eq_true (by omega)
                      have b3 : decide ((5 : Int) ≤ (ml : Int)) = true := decide_eq_true (by omega)
                      have b3n : decide (5 ≤ ml) = true := decide_eq_true h5
                      have b4 : decide (lc < 4) = false := decide_eq_false (by have := h5l h5; omega)
                      clear hm1 hPR hD2 hPb hev hD3 hzl2 h5l hac
                      refine wp_region_held (S := fun W => W.cell? ⟨bl, 0, none⟩ = some (.int .i64 ml) ∧ W.cell? ⟨bl, 1, none⟩ = some (.string Tl) ∧ PK W) rfl ?_
                      have hHeld := (HCl.out _ (HDR.out _ Q10.out))
                      (refine Held.takeH (i := 0) (k := 147) (v := ?_) rfl (by as_aux_lemma => kernel_rfl) (by as_aux_lemma => kernel_rfl) (by as_aux_lemma => kernel_rfl) (by as_aux_lemma => kernel_rfl) (fun _ _ _ h => h) (Or.inl ⟨by rfl, ?_⟩) (by assumption) ?_; rotate_left; (focus (intro w hSw; (try dsimp only at hSw); go_simp; (try with_reducible rfl))); (simp only [List.setIfInBounds_toArray, List.set_cons_zero, List.set_cons_succ]))
                      refine wpAnyH_ready (rs := [1]) (by as_aux_lemma => kernel_rfl) (by simp) ?_
                      refine AllReadyH.cons rfl (fun K hK => ?_) AllReadyH.nil
                      go_simp
                      refine (HGA.out _ hHeld).mono ?_
                      rintro e' w' ⟨rfl, hS'⟩
                      refine hK.out _ _ hS' (fun hHeld => ?_)
                      clear hK K
                      try simp only [Act.put, List.setIfInBounds_toArray, List.set_cons_zero, List.set_cons_succ]
                      (refine Held.takeH (i := 2) (k := 149) (v := .bool true) rfl (by as_aux_lemma => kernel_rfl) (by as_aux_lemma => kernel_rfl) (by as_aux_lemma => kernel_rfl) (by as_aux_lemma => kernel_rfl) (fun _ _ _ h => h) (Or.inl ⟨by rfl, ?_⟩) (by assumption) ?_; (focus (intro w hSw; (try dsimp only at hSw); go_simp; (try rfl))); (simp only [List.setIfInBounds_toArray, List.set_cons_zero, List.set_cons_succ]))
                      (refine Held.takeH (i := 3) (k := 150) (v := ?_) rfl (by as_aux_lemma => kernel_rfl) (by as_aux_lemma => kernel_rfl) (by as_aux_lemma => kernel_rfl) (by as_aux_lemma => kernel_rfl) (fun _ _ _ h => h) (Or.inl ⟨by rfl, ?_⟩) (by assumption) ?_; rotate_left; (focus (intro w hSw; (try dsimp only at hSw); go_simp; (try with_reducible rfl))); (simp only [List.setIfInBounds_toArray, List.set_cons_zero, List.set_cons_succ]))
                      (refine Held.takeH (i := 5) (k := 152) (v := ?_) rfl (by as_aux_lemma => kernel_rfl) (by as_aux_lemma => kernel_rfl) (by as_aux_lemma => kernel_rfl) (by as_aux_lemma => kernel_rfl) (fun _ _ _ h => h) (Or.inl ⟨by rfl, ?_⟩) (by assumption) ?_; rotate_left; (focus (intro w hSw; (try dsimp only at hSw); go_simp; (try with_reducible rfl))); (simp only [List.setIfInBounds_toArray, List.set_cons_zero, List.set_cons_succ]))
                      (refine Held.takeH (i := 6) (k := 153) (v := ?_) rfl (by as_aux_lemma => kernel_rfl) (by as_aux_lemma => kernel_rfl) (by as_aux_lemma => kernel_rfl) (by as_aux_lemma => kernel_rfl) (fun _ _ _ h => h) (Or.inl ⟨by rfl, ?_⟩) (by assumption) ?_; rotate_left; (focus (intro w hSw; (try dsimp only at hSw); go_simp; (try with_reducible rfl))); (simp only [List.setIfInBounds_toArray, List.set_cons_zero, List.set_cons_succ]))
                      (refine Held.takeH (i := 7) (k := 154) (v := ?_) rfl (by as_aux_lemma => kernel_rfl) (by as_aux_lemma => kernel_rfl) (by as_aux_lemma => kernel_rfl) (by as_aux_lemma => kernel_rfl) (fun _ _ _ h => h) (Or.inl ⟨by rfl, ?_⟩) (by assumption) ?_; rotate_left; (focus (intro w hSw; (try dsimp only at hSw); go_simp; (try with_reducible rfl))); (simp only [List.setIfInBounds_toArray, List.set_cons_zero, List.set_cons_succ]))
                      (refine Held.takeH (i := 8) (k := 155) (v := ?_) rfl (by as_aux_lemma => kernel_rfl) (by as_aux_lemma => kernel_rfl) (by as_aux_lemma => kernel_rfl) (by as_aux_lemma => kernel_rfl) (fun _ _ _ h => h) (Or.inl ⟨by rfl, ?_⟩) (by assumption) ?_; rotate_left; (focus (intro w hSw; (try dsimp only at hSw); go_simp; (try with_reducible rfl))); (simp only [List.setIfInBounds_toArray, List.set_cons_zero, List.set_cons_succ]))
                      (refine Held.takeH (i := 9) (k := 156) (v := .int .i64 (m1 : Nat)) rfl (by as_aux_lemma => kernel_rfl) (by as_aux_lemma => kernel_rfl) (by as_aux_lemma => kernel_rfl) (by as_aux_lemma => kernel_rfl) (fun _ _ _ h => h) (Or.inl ⟨by rfl, ?_⟩) (by assumption) ?_; (focus (intro w hSw; (try dsimp only at hSw); go_simp; (try rfl))); (simp only [List.setIfInBounds_toArray, List.set_cons_zero, List.set_cons_succ]))
                      (refine Held.takeH (i := 10) (k := 157) (v := .int .i64 (PR : Nat)) rfl (by as_aux_lemma => kernel_rfl) (by as_aux_lemma => kernel_rfl) (by as_aux_lemma => kernel_rfl) (by as_aux_lemma => kernel_rfl) (fun _ _ _ h => h) (Or.inl ⟨by rfl, ?_⟩) (by assumption) ?_; (focus (intro w hSw; (try dsimp only at hSw); go_simp; (try rfl))); (simp only [List.setIfInBounds_toArray, List.set_cons_zero, List.set_cons_succ]))
                      (refine Held.takeH (i := 11) (k := 158) (v := .int .i64 (D2 : Nat)) rfl (by as_aux_lemma => kernel_rfl) (by as_aux_lemma => kernel_rfl) (by as_aux_lemma => kernel_rfl) (by as_aux_lemma => kernel_rfl) (fun _ _ _ h => h) (Or.inl ⟨by rfl, ?_⟩) (by assumption) ?_; (focus (intro w hSw; (try dsimp only at hSw); go_simp; (try rfl))); (simp only [List.setIfInBounds_toArray, List.set_cons_zero, List.set_cons_succ]))
                      (refine Held.takeH (i := 12) (k := 159) (v := ?_) rfl (by as_aux_lemma => kernel_rfl) (by as_aux_lemma => kernel_rfl) (by as_aux_lemma => kernel_rfl) (by as_aux_lemma => kernel_rfl) (fun _ _ _ h => h) (Or.inl ⟨by rfl, ?_⟩) (by assumption) ?_; rotate_left; (focus (intro w hSw; (try dsimp only at hSw); go_simp; (try with_reducible rfl))); (simp only [List.setIfInBounds_toArray, List.set_cons_zero, List.set_cons_succ]))
                      (refine Held.takeH (i := 13) (k := 160) (v := ?_) rfl (by as_aux_lemma => kernel_rfl) (by as_aux_lemma => kernel_rfl) (by as_aux_lemma => kernel_rfl) (by as_aux_lemma => kernel_rfl) (fun _ _ _ h => h) (Or.inl ⟨by rfl, ?_⟩) (by assumption) ?_; rotate_left; (focus (intro w hSw; (try dsimp only at hSw); go_simp; (try with_reducible rfl))); (simp only [List.setIfInBounds_toArray, List.set_cons_zero, List.set_cons_succ]))
                      (refine Held.takeH (i := 14) (k := 161) (v := .int .i64 D3) rfl (by as_aux_lemma => kernel_rfl) (by as_aux_lemma => kernel_rfl) (by as_aux_lemma => kernel_rfl) (by as_aux_lemma => kernel_rfl) (fun _ _ _ h => h) (Or.inl ⟨by rfl, ?_⟩) (by assumption) ?_; (focus (intro w hSw; (try dsimp only at hSw); go_simp; (try rfl))); (simp only [List.setIfInBounds_toArray, List.set_cons_zero, List.set_cons_succ]))
                      (refine Held.takeH (i := 15) (k := 162) (v := .int .i64 ev) rfl (by as_aux_lemma => kernel_rfl) (by as_aux_lemma => kernel_rfl) (by as_aux_lemma => kernel_rfl) (by as_aux_lemma => kernel_rfl) (fun _ _ _ h => h) (Or.inl ⟨by rfl, ?_⟩) (by assumption) ?_; (focus (intro w hSw; (try dsimp only at hSw); go_simp; (try rfl))); (simp only [List.setIfInBounds_toArray, List.set_cons_zero, List.set_cons_succ]))
                      refine wpAnyH_ready (rs := [4]) (by as_aux_lemma => kernel_rfl) (by simp) ?_
                      refine AllReadyH.cons rfl (fun K hK => ?_) AllReadyH.nil
                      go_simp
                      refine (HGE.out _ hHeld).mono ?_
                      rintro e' w' ⟨rfl, hS'⟩
                      refine hK.out _ _ hS' (fun hHeld => ?_)
                      clear hK K
                      try simp only [Act.put, List.setIfInBounds_toArray, List.set_cons_zero, List.set_cons_succ]
                      (refine Held.takeH (i := 16) (k := 163) (v := .bool false) rfl (by as_aux_lemma => kernel_rfl) (by as_aux_lemma => kernel_rfl) (by as_aux_lemma => kernel_rfl) (by as_aux_lemma => kernel_rfl) (fun _ _ _ h => h) (Or.inl ⟨by rfl, ?_⟩) (by assumption) ?_; (focus (intro w hSw; (try dsimp only at hSw); go_simp; (try rfl))); (simp only [List.setIfInBounds_toArray, List.set_cons_zero, List.set_cons_succ]))
                      (refine Held.takeH (i := 17) (k := 164) (v := .bool false) rfl (by as_aux_lemma => kernel_rfl) (by as_aux_lemma => kernel_rfl) (by as_aux_lemma => kernel_rfl) (by as_aux_lemma => kernel_rfl) (fun _ _ _ h => h) (Or.inl ⟨by rfl, ?_⟩) (by assumption) ?_; (focus (intro w hSw; (try dsimp only at hSw); go_simp; (try rfl))); (simp only [List.setIfInBounds_toArray, List.set_cons_zero, List.set_cons_succ]))
                      (refine Held.takeH (i := 18) (k := 165) (v := ?_) rfl (by as_aux_lemma => kernel_rfl) (by as_aux_lemma => kernel_rfl) (by as_aux_lemma => kernel_rfl) (by as_aux_lemma => kernel_rfl) (fun _ _ _ h => h) (Or.inl ⟨by rfl, ?_⟩) (by assumption) ?_; rotate_left; (focus (intro w hSw; (try dsimp only at hSw); go_simp; (try with_reducible rfl))); (simp only [List.setIfInBounds_toArray, List.set_cons_zero, List.set_cons_succ]))
                      (refine Held.takeH (i := 19) (k := 166) (v := ?_) rfl (by as_aux_lemma => kernel_rfl) (by as_aux_lemma => kernel_rfl) (by as_aux_lemma => kernel_rfl) (by as_aux_lemma => kernel_rfl) (fun _ _ _ h => h) (Or.inl ⟨by rfl, ?_⟩) (by assumption) ?_; rotate_left; (focus (intro w hSw; (try dsimp only at hSw); go_simp; (try with_reducible rfl))); (simp only [List.setIfInBounds_toArray, List.set_cons_zero, List.set_cons_succ]))
                      (refine Held.takeH (i := 20) (k := 167) (v := .bool true) rfl (by as_aux_lemma => kernel_rfl) (by as_aux_lemma => kernel_rfl) (by as_aux_lemma => kernel_rfl) (by as_aux_lemma => kernel_rfl) (fun _ _ _ h => h) (Or.inl ⟨by rfl, ?_⟩) (by assumption) ?_; (focus (intro w hSw; (try dsimp only at hSw); go_simp; (try rfl))); (simp only [List.setIfInBounds_toArray, List.set_cons_zero, List.set_cons_succ]))
                      (refine Held.takeH (i := 21) (k := 168) (v := .bool true) rfl (by as_aux_lemma => kernel_rfl) (by as_aux_lemma => kernel_rfl) (by as_aux_lemma => kernel_rfl) (by as_aux_lemma => kernel_rfl) (fun _ _ _ h => h) (Or.inl ⟨by rfl, ?_⟩) (by assumption) ?_; (focus (intro w hSw; (try dsimp only at hSw); go_simp; (try rfl))); (simp only [List.setIfInBounds_toArray, List.set_cons_zero, List.set_cons_succ]))
                      (refine Held.takeH (i := 22) (k := 169) (v := ?_) rfl (by as_aux_lemma => kernel_rfl) (by as_aux_lemma => kernel_rfl) (by as_aux_lemma => kernel_rfl) (by as_aux_lemma => kernel_rfl) (fun _ _ _ h => h) (Or.inl ⟨by rfl, ?_⟩) (by assumption) ?_; rotate_left; (focus (intro w hSw; (try dsimp only at hSw); go_simp; (try with_reducible rfl))); (simp only [List.setIfInBounds_toArray, List.set_cons_zero, List.set_cons_succ]))
                      refine wpAnyH_ready (rs := [23]) (by as_aux_lemma => kernel_rfl) (by simp) ?_
                      refine AllReadyH.cons rfl (fun K hK => ?_) AllReadyH.nil
                      go_simp
                      refine (HGI.out _ hHeld).mono ?_
                      rintro e' w' ⟨rfl, hS'⟩
                      refine hK.out _ _ hS' (fun hHeld => ?_)
                      clear hK K
                      try simp only [Act.put, List.setIfInBounds_toArray, List.set_cons_zero, List.set_cons_succ]
                      (refine Held.takeH (i := 24) (k := 171) (v := .bool false) rfl (by as_aux_lemma => kernel_rfl) (by as_aux_lemma => kernel_rfl) (by as_aux_lemma => kernel_rfl) (by as_aux_lemma => kernel_rfl) (fun _ _ _ h => h) (Or.inl ⟨by rfl, ?_⟩) (by assumption) ?_; (focus (intro w hSw; (try dsimp only at hSw); go_simp; (try rfl))); (simp only [List.setIfInBounds_toArray, List.set_cons_zero, List.set_cons_succ]))
                      (refine Held.takeH (i := 25) (k := 172) (v := .bool false) rfl (by as_aux_lemma => kernel_rfl) (by as_aux_lemma => kernel_rfl) (by as_aux_lemma => kernel_rfl) (by as_aux_lemma => kernel_rfl) (fun _ _ _ h => h) (Or.inl ⟨by rfl, ?_⟩) (by assumption) ?_; (focus (intro w hSw; (try dsimp only at hSw); go_simp; (try rfl))); (simp only [List.setIfInBounds_toArray, List.set_cons_zero, List.set_cons_succ]))
                      (refine Held.takeH (i := 26) (k := 173) (v := .bool false) rfl (by as_aux_lemma => kernel_rfl) (by as_aux_lemma => kernel_rfl) (by as_aux_lemma => kernel_rfl) (by as_aux_lemma => kernel_rfl) (fun _ _ _ h => h) (Or.inl ⟨by rfl, ?_⟩) (by assumption) ?_; (focus (intro w hSw; (try dsimp only at hSw); go_simp; (try rfl))); (simp only [List.setIfInBounds_toArray, List.set_cons_zero, List.set_cons_succ]))
                      (refine Held.takeH (i := 27) (k := 174) (v := .bool false) rfl (by as_aux_lemma => kernel_rfl) (by as_aux_lemma => kernel_rfl) (by as_aux_lemma => kernel_rfl) (by as_aux_lemma => kernel_rfl) (fun _ _ _ h => h) (Or.inl ⟨by rfl, ?_⟩) (by assumption) ?_; (focus (intro w hSw; (try dsimp only at hSw); go_simp; (try rfl))); (simp only [List.setIfInBounds_toArray, List.set_cons_zero, List.set_cons_succ]))
                      (refine Held.takeH (i := 28) (k := 175) (v := ?_) rfl (by as_aux_lemma => kernel_rfl) (by as_aux_lemma => kernel_rfl) (by as_aux_lemma => kernel_rfl) (by as_aux_lemma => kernel_rfl) (fun _ _ _ h => h) (Or.inl ⟨by rfl, ?_⟩) (by assumption) ?_; rotate_left; (focus (intro w hSw; (try dsimp only at hSw); go_simp; (try with_reducible rfl))); (simp only [List.setIfInBounds_toArray, List.set_cons_zero, List.set_cons_succ]))
                      (refine Held.takeH (i := 30) (k := 177) (v := ?_) rfl (by as_aux_lemma => kernel_rfl) (by as_aux_lemma => kernel_rfl) (by as_aux_lemma => kernel_rfl) (by as_aux_lemma => kernel_rfl) (fun _ _ _ h => h) (Or.inl ⟨by rfl, ?_⟩) (by assumption) ?_; rotate_left; (focus (intro w hSw; (try dsimp only at hSw); go_simp; (try with_reducible rfl))); (simp only [List.setIfInBounds_toArray, List.set_cons_zero, List.set_cons_succ]))
                      refine wpAnyH_ready (rs := [29]) (by as_aux_lemma => kernel_rfl) (by simp) ?_
                      refine AllReadyH.cons rfl (fun K hK => ?_) AllReadyH.nil
                      go_simp
                      refine (HGI.out _ hHeld).mono ?_
                      rintro e' w' ⟨rfl, hS'⟩
                      refine hK.out _ _ hS' (fun hHeld => ?_)
                      clear hK K
                      try simp only [Act.put, List.setIfInBounds_toArray, List.set_cons_zero, List.set_cons_succ]
                      refine wpAnyH_ready (rs := [31]) (by as_aux_lemma => kernel_rfl) (by simp) ?_
                      refine AllReadyH.cons rfl (fun K hK => ?_) AllReadyH.nil
                      go_simp
                      refine (HGH.out _ hHeld).mono ?_
                      rintro e' w' ⟨rfl, hS'⟩
                      refine hK.out _ _ hS' (fun hHeld => ?_)
                      clear hK K
                      try simp only [Act.put, List.setIfInBounds_toArray, List.set_cons_zero, List.set_cons_succ]
                      (refine Held.takeH (i := 32) (k := 179) (v := .bool false) rfl (by as_aux_lemma => kernel_rfl) (by as_aux_lemma => kernel_rfl) (by as_aux_lemma => kernel_rfl) (by as_aux_lemma => kernel_rfl) (fun _ _ _ h => h) (Or.inl ⟨by rfl, ?_⟩) (by assumption) ?_; (focus (intro w hSw; (try dsimp only at hSw); go_simp; (try rfl))); (simp only [List.setIfInBounds_toArray, List.set_cons_zero, List.set_cons_succ]))
                      (refine Held.takeH (i := 33) (k := 180) (v := .bool false) rfl (by as_aux_lemma => kernel_rfl) (by as_aux_lemma => kernel_rfl) (by as_aux_lemma => kernel_rfl) (by as_aux_lemma => kernel_rfl) (fun _ _ _ h => h) (Or.inl ⟨by rfl, ?_⟩) (by assumption) ?_; (focus (intro w hSw; (try dsimp only at hSw); go_simp; (try rfl))); (simp only [List.setIfInBounds_toArray, List.set_cons_zero, List.set_cons_succ]))
                      (refine Held.takeH (i := 34) (k := 181) (v := .bool false) rfl (by as_aux_lemma => kernel_rfl) (by as_aux_lemma => kernel_rfl) (by as_aux_lemma => kernel_rfl) (by as_aux_lemma => kernel_rfl) (fun _ _ _ h => h) (Or.inl ⟨by rfl, ?_⟩) (by assumption) ?_; (focus (intro w hSw; (try dsimp only at hSw); go_simp; (try rfl))); (simp only [List.setIfInBounds_toArray, List.set_cons_zero, List.set_cons_succ]))
                      refine wpAnyH_done (by as_aux_lemma => kernel_rfl) ?_ _
                      go_wp2_with fail
                      go_meet
                      exact ⟨rfl, Lib.hid hHeld.2.2⟩
                    · have b2 : decide ((ml : Int) ≥ 5) = false := decide_eq_false (by omega)
                      have b3 : decide ((5 : Int) ≤ (ml : Int)) = false := decide_eq_false (by omega)
                      have b3n : decide (5 ≤ ml) = false := decide_eq_false h5
                      clear hm1 hPR hD2 hPb hev hD3 hzl2 h5l hac
                      refine wp_region_held (S := fun W => W.cell? ⟨bl, 0, none⟩ = some (.int .i64 ml) ∧ W.cell? ⟨bl, 1, none⟩ = some (.string Tl) ∧ PK W) rfl ?_
                      have hHeld := (HCl.out _ (HDR.out _ Q10.out))
                      (refine Held.takeH (i := 0) (k := 147) (v := ?_) rfl (by as_aux_lemma => kernel_rfl) (by as_aux_lemma => kernel_rfl) (by as_aux_lemma => kernel_rfl) (by as_aux_lemma => kernel_rfl) (fun _ _ _ h => h) (Or.inl ⟨by rfl, ?_⟩) (by assumption) ?_; rotate_left; (focus (intro w hSw; (try dsimp only at hSw); go_simp; (try with_reducible rfl))); (simp only [List.setIfInBounds_toArray, List.set_cons_zero, List.set_cons_succ]))
                      refine wpAnyH_ready (rs := [1]) (by as_aux_lemma => kernel_rfl) (by simp) ?_
                      refine AllReadyH.cons rfl (fun K hK => ?_) AllReadyH.nil
                      go_simp
                      refine (HGA.out _ hHeld).mono ?_
                      rintro e' w' ⟨rfl, hS'⟩
                      refine hK.out _ _ hS' (fun hHeld => ?_)
                      clear hK K
                      try simp only [Act.put, List.setIfInBounds_toArray, List.set_cons_zero, List.set_cons_succ]
                      (refine Held.takeH (i := 2) (k := 149) (v := .bool true) rfl (by as_aux_lemma => kernel_rfl) (by as_aux_lemma => kernel_rfl) (by as_aux_lemma => kernel_rfl) (by as_aux_lemma => kernel_rfl) (fun _ _ _ h => h) (Or.inl ⟨by rfl, ?_⟩) (by assumption) ?_; (focus (intro w hSw; (try dsimp only at hSw); go_simp; (try rfl))); (simp only [List.setIfInBounds_toArray, List.set_cons_zero, List.set_cons_succ]))
                      (refine Held.takeH (i := 3) (k := 150) (v := ?_) rfl (by as_aux_lemma => kernel_rfl) (by as_aux_lemma => kernel_rfl) (by as_aux_lemma => kernel_rfl) (by as_aux_lemma => kernel_rfl) (fun _ _ _ h => h) (Or.inl ⟨by rfl, ?_⟩) (by assumption) ?_; rotate_left; (focus (intro w hSw; (try dsimp only at hSw); go_simp; (try with_reducible rfl))); (simp only [List.setIfInBounds_toArray, List.set_cons_zero, List.set_cons_succ]))
                      (refine Held.takeH (i := 5) (k := 152) (v := ?_) rfl (by as_aux_lemma => kernel_rfl) (by as_aux_lemma => kernel_rfl) (by as_aux_lemma => kernel_rfl) (by as_aux_lemma => kernel_rfl) (fun _ _ _ h => h) (Or.inl ⟨by rfl, ?_⟩) (by assumption) ?_; rotate_left; (focus (intro w hSw; (try dsimp only at hSw); go_simp; (try with_reducible rfl))); (simp only [List.setIfInBounds_toArray, List.set_cons_zero, List.set_cons_succ]))
                      (refine Held.takeH (i := 6) (k := 153) (v := ?_) rfl (by as_aux_lemma => kernel_rfl) (by as_aux_lemma => kernel_rfl) (by as_aux_lemma => kernel_rfl) (by as_aux_lemma => kernel_rfl) (fun _ _ _ h => h) (Or.inl ⟨by rfl, ?_⟩) (by assumption) ?_; rotate_left; (focus (intro w hSw; (try dsimp only at hSw); go_simp; (try with_reducible rfl))); (simp only [List.setIfInBounds_toArray, List.set_cons_zero, List.set_cons_succ]))
                      (refine Held.takeH (i := 7) (k := 154) (v := ?_) rfl (by as_aux_lemma => kernel_rfl) (by as_aux_lemma => kernel_rfl) (by as_aux_lemma => kernel_rfl) (by as_aux_lemma => kernel_rfl) (fun _ _ _ h => h) (Or.inl ⟨by rfl, ?_⟩) (by assumption) ?_; rotate_left; (focus (intro w hSw; (try dsimp only at hSw); go_simp; (try with_reducible rfl))); (simp only [List.setIfInBounds_toArray, List.set_cons_zero, List.set_cons_succ]))
                      (refine Held.takeH (i := 8) (k := 155) (v := ?_) rfl (by as_aux_lemma => kernel_rfl) (by as_aux_lemma => kernel_rfl) (by as_aux_lemma => kernel_rfl) (by as_aux_lemma => kernel_rfl) (fun _ _ _ h => h) (Or.inl ⟨by rfl, ?_⟩) (by assumption) ?_; rotate_left; (focus (intro w hSw; (try dsimp only at hSw); go_simp; (try with_reducible rfl))); (simp only [List.setIfInBounds_toArray, List.set_cons_zero, List.set_cons_succ]))
                      (refine Held.takeH (i := 9) (k := 156) (v := .int .i64 (m1 : Nat)) rfl (by as_aux_lemma => kernel_rfl) (by as_aux_lemma => kernel_rfl) (by as_aux_lemma => kernel_rfl) (by as_aux_lemma => kernel_rfl) (fun _ _ _ h => h) (Or.inl ⟨by rfl, ?_⟩) (by assumption) ?_; (focus (intro w hSw; (try dsimp only at hSw); go_simp; (try rfl))); (simp only [List.setIfInBounds_toArray, List.set_cons_zero, List.set_cons_succ]))
                      (refine Held.takeH (i := 10) (k := 157) (v := .int .i64 (PR : Nat)) rfl (by as_aux_lemma => kernel_rfl) (by as_aux_lemma => kernel_rfl) (by as_aux_lemma => kernel_rfl) (by as_aux_lemma => kernel_rfl) (fun _ _ _ h => h) (Or.inl ⟨by rfl, ?_⟩) (by assumption) ?_; (focus (intro w hSw; (try dsimp only at hSw); go_simp; (try rfl))); (simp only [List.setIfInBounds_toArray, List.set_cons_zero, List.set_cons_succ]))
                      (refine Held.takeH (i := 11) (k := 158) (v := .int .i64 (D2 : Nat)) rfl (by as_aux_lemma => kernel_rfl) (by as_aux_lemma => kernel_rfl) (by as_aux_lemma => kernel_rfl) (by as_aux_lemma => kernel_rfl) (fun _ _ _ h => h) (Or.inl ⟨by rfl, ?_⟩) (by assumption) ?_; (focus (intro w hSw; (try dsimp only at hSw); go_simp; (try rfl))); (simp only [List.setIfInBounds_toArray, List.set_cons_zero, List.set_cons_succ]))
                      (refine Held.takeH (i := 12) (k := 159) (v := ?_) rfl (by as_aux_lemma => kernel_rfl) (by as_aux_lemma => kernel_rfl) (by as_aux_lemma => kernel_rfl) (by as_aux_lemma => kernel_rfl) (fun _ _ _ h => h) (Or.inl ⟨by rfl, ?_⟩) (by assumption) ?_; rotate_left; (focus (intro w hSw; (try dsimp only at hSw); go_simp; (try with_reducible rfl))); (simp only [List.setIfInBounds_toArray, List.set_cons_zero, List.set_cons_succ]))
                      (refine Held.takeH (i := 13) (k := 160) (v := ?_) rfl (by as_aux_lemma => kernel_rfl) (by as_aux_lemma => kernel_rfl) (by as_aux_lemma => kernel_rfl) (by as_aux_lemma => kernel_rfl) (fun _ _ _ h => h) (Or.inl ⟨by rfl, ?_⟩) (by assumption) ?_; rotate_left; (focus (intro w hSw; (try dsimp only at hSw); go_simp; (try with_reducible rfl))); (simp only [List.setIfInBounds_toArray, List.set_cons_zero, List.set_cons_succ]))
                      (refine Held.takeH (i := 14) (k := 161) (v := .int .i64 D3) rfl (by as_aux_lemma => kernel_rfl) (by as_aux_lemma => kernel_rfl) (by as_aux_lemma => kernel_rfl) (by as_aux_lemma => kernel_rfl) (fun _ _ _ h => h) (Or.inl ⟨by rfl, ?_⟩) (by assumption) ?_; (focus (intro w hSw; (try dsimp only at hSw); go_simp; (try rfl))); (simp only [List.setIfInBounds_toArray, List.set_cons_zero, List.set_cons_succ]))
                      (refine Held.takeH (i := 15) (k := 162) (v := .int .i64 ev) rfl (by as_aux_lemma => kernel_rfl) (by as_aux_lemma => kernel_rfl) (by as_aux_lemma => kernel_rfl) (by as_aux_lemma => kernel_rfl) (fun _ _ _ h => h) (Or.inl ⟨by rfl, ?_⟩) (by assumption) ?_; (focus (intro w hSw; (try dsimp only at hSw); go_simp; (try rfl))); (simp only [List.setIfInBounds_toArray, List.set_cons_zero, List.set_cons_succ]))
                      refine wpAnyH_ready (rs := [4]) (by as_aux_lemma => kernel_rfl) (by simp) ?_
                      refine AllReadyH.cons rfl (fun K hK => ?_) AllReadyH.nil
                      go_simp
                      refine (HGE.out _ hHeld).mono ?_
                      rintro e' w' ⟨rfl, hS'⟩
                      refine hK.out _ _ hS' (fun hHeld => ?_)
                      clear hK K
                      try simp only [Act.put, List.setIfInBounds_toArray, List.set_cons_zero, List.set_cons_succ]
                      (refine Held.takeH (i := 16) (k := 163) (v := .bool false) rfl (by as_aux_lemma => kernel_rfl) (by as_aux_lemma => kernel_rfl) (by as_aux_lemma => kernel_rfl) (by as_aux_lemma => kernel_rfl) (fun _ _ _ h => h) (Or.inl ⟨by rfl, ?_⟩) (by assumption) ?_; (focus (intro w hSw; (try dsimp only at hSw); go_simp; (try rfl))); (simp only [List.setIfInBounds_toArray, List.set_cons_zero, List.set_cons_succ]))
                      (refine Held.takeH (i := 17) (k := 164) (v := .bool false) rfl (by as_aux_lemma => kernel_rfl) (by as_aux_lemma => kernel_rfl) (by as_aux_lemma => kernel_rfl) (by as_aux_lemma => kernel_rfl) (fun _ _ _ h => h) (Or.inl ⟨by rfl, ?_⟩) (by assumption) ?_; (focus (intro w hSw; (try dsimp only at hSw); go_simp; (try rfl))); (simp only [List.setIfInBounds_toArray, List.set_cons_zero, List.set_cons_succ]))
                      (refine Held.takeH (i := 18) (k := 165) (v := ?_) rfl (by as_aux_lemma => kernel_rfl) (by as_aux_lemma => kernel_rfl) (by as_aux_lemma => kernel_rfl) (by as_aux_lemma => kernel_rfl) (fun _ _ _ h => h) (Or.inl ⟨by rfl, ?_⟩) (by assumption) ?_; rotate_left; (focus (intro w hSw; (try dsimp only at hSw); go_simp; (try with_reducible rfl))); (simp only [List.setIfInBounds_toArray, List.set_cons_zero, List.set_cons_succ]))
                      (refine Held.takeH (i := 19) (k := 166) (v := ?_) rfl (by as_aux_lemma => kernel_rfl) (by as_aux_lemma => kernel_rfl) (by as_aux_lemma => kernel_rfl) (by as_aux_lemma => kernel_rfl) (fun _ _ _ h => h) (Or.inl ⟨by rfl, ?_⟩) (by assumption) ?_; rotate_left; (focus (intro w hSw; (try dsimp only at hSw); go_simp; (try with_reducible rfl))); (simp only [List.setIfInBounds_toArray, List.set_cons_zero, List.set_cons_succ]))
                      (refine Held.takeH (i := 20) (k := 167) (v := .bool false) rfl (by as_aux_lemma => kernel_rfl) (by as_aux_lemma => kernel_rfl) (by as_aux_lemma => kernel_rfl) (by as_aux_lemma => kernel_rfl) (fun _ _ _ h => h) (Or.inl ⟨by rfl, ?_⟩) (by assumption) ?_; (focus (intro w hSw; (try dsimp only at hSw); go_simp; (try rfl))); (simp only [List.setIfInBounds_toArray, List.set_cons_zero, List.set_cons_succ]))
                      (refine Held.takeH (i := 21) (k := 168) (v := .bool false) rfl (by as_aux_lemma => kernel_rfl) (by as_aux_lemma => kernel_rfl) (by as_aux_lemma => kernel_rfl) (by as_aux_lemma => kernel_rfl) (fun _ _ _ h => h) (Or.inl ⟨by rfl, ?_⟩) (by assumption) ?_; (focus (intro w hSw; (try dsimp only at hSw); go_simp; (try rfl))); (simp only [List.setIfInBounds_toArray, List.set_cons_zero, List.set_cons_succ]))
                      (refine Held.takeH (i := 22) (k := 169) (v := undef) rfl (by as_aux_lemma => kernel_rfl) (by as_aux_lemma => kernel_rfl) (by as_aux_lemma => kernel_rfl) (by as_aux_lemma => kernel_rfl) (fun _ _ _ h => h) (Or.inr ⟨by rfl, rfl⟩) (by assumption) ?_; (simp only [List.setIfInBounds_toArray, List.set_cons_zero, List.set_cons_succ]))
                      (refine Held.takeH (i := 23) (k := 170) (v := undef) rfl (by as_aux_lemma => kernel_rfl) (by as_aux_lemma => kernel_rfl) (by as_aux_lemma => kernel_rfl) (by as_aux_lemma => kernel_rfl) (fun _ _ _ h => h) (Or.inr ⟨by rfl, rfl⟩) (by assumption) ?_; (simp only [List.setIfInBounds_toArray, List.set_cons_zero, List.set_cons_succ]))
                      (refine Held.takeH (i := 24) (k := 171) (v := undef) rfl (by as_aux_lemma => kernel_rfl) (by as_aux_lemma => kernel_rfl) (by as_aux_lemma => kernel_rfl) (by as_aux_lemma => kernel_rfl) (fun _ _ _ h => h) (Or.inr ⟨by rfl, rfl⟩) (by assumption) ?_; (simp only [List.setIfInBounds_toArray, List.set_cons_zero, List.set_cons_succ]))
                      (refine Held.takeH (i := 25) (k := 172) (v := .bool false) rfl (by as_aux_lemma => kernel_rfl) (by as_aux_lemma => kernel_rfl) (by as_aux_lemma => kernel_rfl) (by as_aux_lemma => kernel_rfl) (fun _ _ _ h => h) (Or.inl ⟨by rfl, ?_⟩) (by assumption) ?_; (focus (intro w hSw; (try dsimp only at hSw); go_simp; (try rfl))); (simp only [List.setIfInBounds_toArray, List.set_cons_zero, List.set_cons_succ]))
                      (refine Held.takeH (i := 26) (k := 173) (v := .bool false) rfl (by as_aux_lemma => kernel_rfl) (by as_aux_lemma => kernel_rfl) (by as_aux_lemma => kernel_rfl) (by as_aux_lemma => kernel_rfl) (fun _ _ _ h => h) (Or.inl ⟨by rfl, ?_⟩) (by assumption) ?_; (focus (intro w hSw; (try dsimp only at hSw); go_simp; (try rfl))); (simp only [List.setIfInBounds_toArray, List.set_cons_zero, List.set_cons_succ]))
                      (refine Held.takeH (i := 27) (k := 174) (v := .bool false) rfl (by as_aux_lemma => kernel_rfl) (by as_aux_lemma => kernel_rfl) (by as_aux_lemma => kernel_rfl) (by as_aux_lemma => kernel_rfl) (fun _ _ _ h => h) (Or.inl ⟨by rfl, ?_⟩) (by assumption) ?_; (focus (intro w hSw; (try dsimp only at hSw); go_simp; (try rfl))); (simp only [List.setIfInBounds_toArray, List.set_cons_zero, List.set_cons_succ]))
                      (refine Held.takeH (i := 28) (k := 175) (v := ?_) rfl (by as_aux_lemma => kernel_rfl) (by as_aux_lemma => kernel_rfl) (by as_aux_lemma => kernel_rfl) (by as_aux_lemma => kernel_rfl) (fun _ _ _ h => h) (Or.inl ⟨by rfl, ?_⟩) (by assumption) ?_; rotate_left; (focus (intro w hSw; (try dsimp only at hSw); go_simp; (try with_reducible rfl))); (simp only [List.setIfInBounds_toArray, List.set_cons_zero, List.set_cons_succ]))
                      (refine Held.takeH (i := 30) (k := 177) (v := ?_) rfl (by as_aux_lemma => kernel_rfl) (by as_aux_lemma => kernel_rfl) (by as_aux_lemma => kernel_rfl) (by as_aux_lemma => kernel_rfl) (fun _ _ _ h => h) (Or.inl ⟨by rfl, ?_⟩) (by assumption) ?_; rotate_left; (focus (intro w hSw; (try dsimp only at hSw); go_simp; (try with_reducible rfl))); (simp only [List.setIfInBounds_toArray, List.set_cons_zero, List.set_cons_succ]))
                      refine wpAnyH_ready (rs := [29]) (by as_aux_lemma => kernel_rfl) (by simp) ?_
                      refine AllReadyH.cons rfl (fun K hK => ?_) AllReadyH.nil
                      go_simp
                      refine (HGI.out _ hHeld).mono ?_
                      rintro e' w' ⟨rfl, hS'⟩
                      refine hK.out _ _ hS' (fun hHeld => ?_)
                      clear hK K
                      try simp only [Act.put, List.setIfInBounds_toArray, List.set_cons_zero, List.set_cons_succ]
                      refine wpAnyH_ready (rs := [31]) (by as_aux_lemma => kernel_rfl) (by simp) ?_
                      refine AllReadyH.cons rfl (fun K hK => ?_) AllReadyH.nil
                      go_simp
                      refine (HGH.out _ hHeld).mono ?_
                      rintro e' w' ⟨rfl, hS'⟩
                      refine hK.out _ _ hS' (fun hHeld => ?_)
                      clear hK K
                      try simp only [Act.put, List.setIfInBounds_toArray, List.set_cons_zero, List.set_cons_succ]
                      (refine Held.takeH (i := 32) (k := 179) (v := .bool false) rfl (by as_aux_lemma => kernel_rfl) (by as_aux_lemma => kernel_rfl) (by as_aux_lemma => kernel_rfl) (by as_aux_lemma => kernel_rfl) (fun _ _ _ h => h) (Or.inl ⟨by rfl, ?_⟩) (by assumption) ?_; (focus (intro w hSw; (try dsimp only at hSw); go_simp; (try rfl))); (simp only [List.setIfInBounds_toArray, List.set_cons_zero, List.set_cons_succ]))
                      (refine Held.takeH (i := 33) (k := 180) (v := .bool false) rfl (by as_aux_lemma => kernel_rfl) (by as_aux_lemma => kernel_rfl) (by as_aux_lemma => kernel_rfl) (by as_aux_lemma => kernel_rfl) (fun _ _ _ h => h) (Or.inl ⟨by rfl, ?_⟩) (by assumption) ?_; (focus (intro w hSw; (try dsimp only at hSw); go_simp; (try rfl))); (simp only [List.setIfInBounds_toArray, List.set_cons_zero, List.set_cons_succ]))
                      (refine Held.takeH (i := 34) (k := 181) (v := .bool false) rfl (by as_aux_lemma => kernel_rfl) (by as_aux_lemma => kernel_rfl) (by as_aux_lemma => kernel_rfl) (by as_aux_lemma => kernel_rfl) (fun _ _ _ h => h) (Or.inl ⟨by rfl, ?_⟩) (by assumption) ?_; (focus (intro w hSw; (try dsimp only at hSw); go_simp; (try rfl))); (simp only [List.setIfInBounds_toArray, List.set_cons_zero, List.set_cons_succ]))
                      refine wpAnyH_done (by as_aux_lemma => kernel_rfl) ?_ _
                      go_wp2_with fail
                      go_meet
                      exact ⟨rfl, Lib.hid hHeld.2.2⟩
                case rest =>
                  obtain ⟨rfl, Q11⟩ := hcut
                  clear Q10 HGA HGE HGI HGH HLL x0 x1 hlb
                  -- opposite signs
                  obtain ⟨x0, x1, -⟩ := HCp.out _ Q11.out
                  cases har : arB mp Tp.data.toList
                  · have HO := Lib.hid (oppV_no har)
                    rw [HO.out] at POP
                    clear HW2 PFL PSU har HO
                    go_wp2_with fail
                    refine (POP.out _ Q11.out).mono ?_
                    rintro e w12 ⟨rfl, hk12⟩
                    have K12 := Lib.hid hk12
                    have B12 := Lib.hid ((HBE.out _ hk12).alloc (HBE.out _ hk12).size (.cells #[.int .i64 0, .string ⟨#[]⟩] 25))
                    clear hk12 x0 x1
                    go_wp2
                    go_ret
                    exact ⟨rfl, B12.out⟩
                  · have HO := Lib.hid (oppV_yes har)
                    rw [HO.out] at POP
                    obtain ⟨hw2, hu2⟩ := HW2.out har
                    have PF := Lib.hid (PFL.out har)
                    clear HW2 PFL har HO
                    obtain ⟨To, hTo⟩ : ∃ To : ByteArray, To = ⟨(Tp.data.toList.map flip1).toArray⟩ := ⟨_, rfl⟩
                    rw [← hTo] at POP PF
                    clear hTo
                    go_wp2_with fail
                    refine (POP.out _ Q11.out).mono ?_
                    rintro e w12 ⟨rfl, hk12⟩
                    have hal := (Below.refl w12.heap.size w12).alloc (Nat.le_refl _) (.cells #[.int .i64 mp, .string To] 25)
                    have K12 := Lib.hid (HON.out _ _ hk12 hal)
                    have O12 := Lib.hid (outC_made w12 mp To 25)
                    clear hk12 x0 x1 hal
                    obtain ⟨⟨x0, x1⟩, -⟩ := O12.out
                    have u1 : decide ((ws.length : Int) ≥ 2) = true := decide_eq_true (by omega)
                    have u2 : decide ((us.length : Int) ≥ 2) = true := decide_eq_true (by omega)
                    have u3 : decide ((2 : Int) ≤ (ws.length : Int)) = true := decide_eq_true (by omega)
                    have u4 : decide ((2 : Int) ≤ (us.length : Int)) = true := decide_eq_true (by omega)
                    have u5 : decide (2 ≤ ws.length) = true := decide_eq_true hw2
                    have u6 : decide (2 ≤ us.length) = true := decide_eq_true hu2
                    go_wp2_with fail
                    refine (PF.out _ K12.out).mono ?_
                    rintro e w13 ⟨⟨a', c', rfl, t'⟩, hk13⟩
                    have T13 := Lib.hid t'
                    have K13 := Lib.hid hk13
                    clear t' hk13 x0 x1
                    go_wp2_with fail
                    refine (PSU.out _ _ _ K13.out T13.out).mono ?_
                    rintro e w14 ⟨rfl, hk14⟩
                    have B14 := Lib.hid (HBE.out _ hk14)
                    clear hk14
                    go_wp2
                    go_ret
                    exact ⟨rfl, B14.out⟩
end Go.Proofs.YtflcpgdgoencgaaGreatDoor.Sg
