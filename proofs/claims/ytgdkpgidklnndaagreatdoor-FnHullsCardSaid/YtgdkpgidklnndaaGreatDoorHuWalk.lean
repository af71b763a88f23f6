/- FnHulls: the law's own walk. -/
import Derived.Test.YtgdkpgidklnndaaGreatDoorDrInH
import Derived.Test.YtgdkpgidklnndaaGreatDoorMgW
import Derived.Test.YtgdkpgidklnndaaGreatDoorHuImplIn
import Derived.Test.YtgdkpgidklnndaaGreatDoorHuImplHull
import Derived.Test.YtgdkpgidklnndaaGreatDoorHuImplLay
import Derived.Test.YtgdkpgidklnndaaGreatDoorHuLeft
import Derived.Test.YtgdkpgidklnndaaGreatDoorHuLaws2
import Derived.Test.YtgdkpgidklnndaaGreatDoorMgK
import Derived.Test.YtgdkpgidklnndaaGreatDoorTakeH
import Derived.Deep.DeepCutAuto
namespace Go.Proofs.YtgdkpgidklnndaaGreatDoor.Sg
open Go.RowKit Pt NewI NewII Cur
theorem outC_alloc {Bo : Nat} {n : Int} {x : ByteArray} {W : World} (h : OutC Bo n x W) (o : Obj) : OutC Bo n x (W.alloc o) := h.on ((Below.refl _ _).alloc (Nat.le_refl _) o)
/-- A list in block b with its rows in blocks gs, or none. -/
def LL (lo hi b : Nat) (gs : List (Nat × Nat)) (al : Option Addr) (xss : List (List Int)) (W : World) : Prop := xss = [] ∨ (al = some ⟨b, 0, none⟩ ∧ NewII.Rows W lo hi b gs xss (org xss))
theorem LL.on {lo hi b : Nat} {gs : List (Nat × Nat)} {al : Option Addr} {xss : List (List Int)} {W W' : World} (h : LL lo hi b gs al xss W) (hb : Below W.heap.size W W') : LL lo hi b gs al xss W' := by
  rcases h with h | ⟨h1, h2⟩
  · exact .inl h
  · exact .inr ⟨h1, h2.on hb⟩
theorem LL.lists {lo hi b : Nat} {gs : List (Nat × Nat)} {al : Option Addr} {xss : List (List Int)} {W : World} (h : LL lo hi b gs al xss W) : Lists W lo hi al xss (org xss) := by
  rcases h with h | ⟨h1, h2⟩
  · exact .inl h
  · exact .inr ⟨b, gs, h1, h2⟩
theorem LL.of {lo hi : Nat} {al : Option Addr} {xss : List (List Int)} {W : World} (h : Lists W lo hi al xss (org xss)) : ∃ b gs, LL lo hi b gs al xss W := by
  rcases h with h | ⟨b, gs, h1, h2⟩
  · exact ⟨0, [], .inl h⟩
  · exact ⟨b, gs, .inr ⟨h1, h2⟩⟩
/-- Row k of the lists. -/
theorem LL.row {lo hi b : Nat} {gs : List (Nat × Nat)} {al : Option Addr} {xss : List (List Int)} {W : World} (h : LL lo hi b gs al xss W) {k : Nat} (hk : k < xss.length) : ∃ g, gs[k]? = some g ∧ al = some ⟨b, 0, none⟩ := by
  rcases h with h | ⟨h1, h2⟩
  · rw [h] at hk; exact absurd hk (by simp)
  · exact ⟨_, List.getElem?_eq_getElem (by rw [h2.len]; exact hk), h1⟩
theorem LL.at {lo hi b : Nat} {gs : List (Nat × Nat)} {al : Option Addr} {xss : List (List Int)} {W : World} (h : LL lo hi b gs al xss W) {k : Nat} (hk : k < xss.length) {g : Nat × Nat} (hg : gs[k]? = some g) : W.cell? ⟨b, k, none⟩ = some (.slice (some ⟨g.1, 0, none⟩) (ln xss k) g.2) := by
  rcases h with h | ⟨h1, h2⟩
  · rw [h] at hk; exact absurd hk (by simp)
  · exact h2.outer k g hg
/-- A list just made. -/
def TmpL (xss : List (List Int)) (a : Option Addr) (W : World) : Prop := ∃ lo hi, Lists W lo hi a xss (org xss)
def TmpZ (zs : List Int) (a : Option Addr) (W : World) : Prop := ∃ lo hi, NewI.New W lo hi a zs.length (zc zs)
/-- What the walk of FnHulls keeps: three boxes and two lists. -/
structure Mem3 (w : World) (bs be bt : Nat) (ms me mt : Int) (Ts Te Tt : ByteArray) (lz hz : Nat) (ah : Option Addr) (zs : List Int) (lo hi b : Nat) (gs : List (Nat × Nat)) (al : Option Addr) (xss : List (List Int)) (W : World) : Prop where
  below : Below w.heap.size w W
  s : OutC bs ms Ts W
  e : OutC be me Te W
  t : OutC bt mt Tt W
  z : NewI.New W lz hz ah zs.length (zc zs)
  l : LL lo hi b gs al xss W
theorem Mem3.on {w : World} {bs be bt : Nat} {ms me mt : Int} {Ts Te Tt : ByteArray} {lz hz : Nat} {ah : Option Addr} {zs : List Int} {lo hi b : Nat} {gs : List (Nat × Nat)} {al : Option Addr} {xss : List (List Int)} {W W' : World} (h : Mem3 w bs be bt ms me mt Ts Te Tt lz hz ah zs lo hi b gs al xss W) (hb' : Below W.heap.size W W') : Mem3 w bs be bt ms me mt Ts Te Tt lz hz ah zs lo hi b gs al xss W' :=
  ⟨h.below.trans (hb'.mono h.below.size), h.s.on hb', h.e.on hb', h.t.on hb', h.z.on hb', h.l.on hb'⟩
theorem layZ_mem (n : Int) (s : List UInt8) : ∀ zs ∈ layZ n s, zs.length ≤ 7 := by
  unfold layZ
  split
  · exact layL_mem _ _ _ _
  · exact fun zs hz => by cases hz
theorem ln_le {xss : List (List Int)} (h : ∀ zs ∈ xss, zs.length ≤ 7) (k : Nat) : ln xss k ≤ 7 := by
  unfold ln
  rw [List.getD_eq_getElem?_getD]
  cases hk : xss[k]? with
  | none => simp
  | some zs => exact h zs (List.mem_of_getElem? hk)
theorem psum_le {xss : List (List Int)} (h : ∀ zs ∈ xss, zs.length ≤ 7) : ∀ k, k ≤ xss.length → psum xss k ≤ 7 * k
  | 0, _ => by unfold psum; simp
  | k + 1, hk => by
    have := psum_le h k (by omega)
    have := ln_le h k
    rw [psum_succ xss k (by omega)]
    omega
/-- What FnHulls asks of order signs, by the two lists. -/
theorem hulls_yes {n : Nat} {s : List UInt8} (h : aciB n s = true) : 3 ≤ (hullZ n s).length ∧ (((hullZ n s).length : Nat) : Int) = hszZ n s ∧ cvxB n s = (hszZ n s == n) ∧ (layZ n s).length ≠ 0 ∧ ((ln (layZ n s) 0 : Nat) : Int) = hszZ n s ∧ psum (layZ n s) (layZ n s).length = n ∧
    ∀ k, k < (hullZ n s).length → ∃ a b f : Nat, zc (hullZ n s) k = .int .i64 a ∧ zc (hullZ n s) ((k + 1) % (hullZ n s).length) = .int .i64 b ∧ zc (hullZ n s) 0 = .int .i64 f ∧ extB n s a = true ∧ a < n ∧ b < n ∧ a ≠ b ∧ leftN (sgnF (lookS n s)) n a b = n - 2 ∧ f ≤ a := by
  obtain ⟨R, hz, h3, hl, hk⟩ := hull_facts h
  obtain ⟨l1, l2, l3⟩ := lay_facts h
  rw [hz, zl_length]
  exact ⟨h3, hl, cvx_facts h, l1, l2, l3, fun k hk2 => ⟨_, _, _, zc_at R k, zc_at R _, zc_at R 0, hk k hk2⟩⟩
theorem hulls_no {n : Int} {s : List UInt8} (h : aciB n s = false) : hullZ n s = [] ∧ layZ n s = [] ∧ hszZ n s = -1 := ⟨hullZ_no h, layZ_no h, by unfold hszZ; rw [h]; rfl⟩
set_option maxHeartbeats 12800000 in
set_option maxRecDepth 100000 in
theorem walkFnHulls (v : Value) (n : Nat) (w : World) (hv : Bytes w v n w.heap.size) (ht : Lib.TabIs Tryz.prog w "math/bits.deBruijn64tab" .u8 tab64) :
    Calls Tryz.prog 3 #[v] w fun e w' => e = .returned (.bool true) ∧ Below w.heap.size w w' := by
  have HT := Lib.hid (Tab.of ht)
  have HBIG := Lib.hid (fun W (hW : Below w.heap.size w W) => big_any v n W (bytes_up hv hW))
  have HV := Lib.hid (fun W (hW : Below w.heap.size w W) => bytes_up hv hW)
  have B0 := Lib.hid (Below.refl w.heap.size w)
  clear hv ht
  by_cases hbig : (n : Int) > 1048576
  · go_enter Tryz.func3, Tryz.ntmps3
    go_wp2_with fail
    refine (HBIG.out _ B0.out).mono ?_
    rintro e w1 ⟨rfl, rfl⟩
    go_wp2
    go_ret
    exact ⟨rfl, B0.out⟩
  · have hn : n ≤ 9223372036854700000 := by omega
    go_enter Tryz.func3, Tryz.ntmps3
    go_wp2_with fail
    refine (HBIG.out _ B0.out).mono ?_
    rintro e w1 ⟨rfl, rfl⟩
    go_wp2_with fail
    refine (drawHull_any v n hn _ (HV.out _ B0.out)).mono ?_
    rintro e w2 ⟨ms, Ts, rfl, hms, hTs, hb2⟩
    have B2 := Lib.hid (hb2.alloc hb2.size (.cells #[.int .i64 ms, .string Ts] 25))
    have S2 := Lib.hid (outC_made w2 ms Ts 25)
    clear hb2
    obtain ⟨⟨y0, y1⟩, -⟩ := S2.out
    go_wp2_with fail
    refine (implHull ms Ts (by omega) _ (HT.out.on B2.out)).mono ?_
    rintro e w3 ⟨⟨ah, ch, rfl, hnw⟩, hb3⟩
    have B3 := Lib.hid (B2.out.trans (hb3.mono B2.out.size))
    have S3 := Lib.hid (S2.out.on hb3)
    have N3 := Lib.hid hnw
    clear hb3 y0 y1 B2 S2 hnw
    obtain ⟨⟨y0, y1⟩, -⟩ := S3.out
    go_wp2_with fail
    refine (implLayers ms Ts (by omega) _ (HT.out.on B3.out)).mono ?_
    rintro e w4 ⟨⟨al, cl, rfl, hls⟩, hb4⟩
    obtain ⟨bl, gs, hll⟩ := LL.of hls
    have B4 := Lib.hid (B3.out.trans (hb4.mono B3.out.size))
    have S4 := Lib.hid (S3.out.on hb4)
    have N4 := Lib.hid (N3.out.on hb4)
    have L4 := Lib.hid hll
    clear hb4 y0 y1 B3 S3 N3 hls hll
    go_wp2_with fail
    refine (drawExt_any v n hn _ (HV.out _ B4.out)).mono ?_
    rintro e w5 ⟨me, Te, ei, rfl, hme, hTe, hei, hb5⟩
    have B5 := Lib.hid ((B4.out.trans (hb5.mono B4.out.size)).alloc (Nat.le_trans B4.out.size hb5.size) (.cells #[.int .i64 me, .string Te] 25))
    have hal5 := (Below.refl w5.heap.size w5).alloc (Nat.le_refl _) (.cells #[.int .i64 me, .string Te] 25)
    have S5 := Lib.hid ((S4.out.on hb5).on hal5)
    have N5 := Lib.hid ((N4.out.on hb5).on hal5)
    have L5 := Lib.hid ((L4.out.on hb5).on hal5)
    have E5 := Lib.hid (outC_made w5 me Te 25)
    clear hb5 hal5 B4 S4 N4 L4
    go_wp2_with fail
    refine (drawInH_any v n hn _ (HV.out _ B5.out)).mono ?_
    rintro e w7 ⟨mt, Tt, st, tp, rfl, hmt, hTt, hst, htp, hb7⟩
    have B7 := Lib.hid ((B5.out.trans (hb7.mono B5.out.size)).alloc (Nat.le_trans B5.out.size hb7.size) (.cells #[.int .i64 mt, .string Tt] 25))
    have hal7 := (Below.refl w7.heap.size w7).alloc (Nat.le_refl _) (.cells #[.int .i64 mt, .string Tt] 25)
    have S7 := Lib.hid ((S5.out.on hb7).on hal7)
    have E7 := Lib.hid ((E5.out.on hb7).on hal7)
    have N7 := Lib.hid ((N5.out.on hb7).on hal7)
    have L7 := Lib.hid ((L5.out.on hb7).on hal7)
    have T7 := Lib.hid (outC_made w7 mt Tt 25)
    clear hb7 hal7 B5 S5 E5 N5 L5
    go_upto_region 8 with fail
    generalize hw8 : w7.alloc (.cells #[.int .i64 mt, .string Tt] 25) = w8 at B7 S7 E7 N7 L7 T7 ⊢
    clear hw8
    generalize hbs : w2.heap.size = bs at S7 ⊢
    clear hbs
    generalize hbe : w5.heap.size = be at E7 ⊢
    clear hbe
    generalize hbt : w7.heap.size = bt at T7 ⊢
    clear hbt
    -- the memory, packed
    obtain ⟨lz, hz, Nx⟩ : ∃ lo hi, NewI.New w8 lo hi ah (hullZ ms Ts.data.toList).length (zc (hullZ ms Ts.data.toList)) := ⟨_, _, N7.out⟩
    obtain ⟨lo0, hi0, Lx⟩ : ∃ lo hi, LL lo hi bl gs al (layZ ms Ts.data.toList) w8 := ⟨_, _, L7.out⟩
    obtain ⟨PK, hPK⟩ : ∃ P : World → Prop, P = Mem3 w1 bs be bt ms me mt Ts Te Tt lz hz ah (hullZ ms Ts.data.toList) lo0 hi0 bl gs al (layZ ms Ts.data.toList) := ⟨_, rfl⟩
    have K8 : Hid (PK w8) := Lib.hid (by rw [hPK]; exact ⟨B7.out, S7.out, E7.out, T7.out, Nx, Lx⟩)
    have HDR : Hid (∀ W, PK W → PK W.drew) := Lib.hid (by rw [hPK]; exact fun W h => h.on (Below.refl _ _).drew)
    have HON : Hid (∀ W W', PK W → Below W.heap.size W W' → PK W') := Lib.hid (by rw [hPK]; exact fun W W' h hb => h.on hb)
    have HBE : Hid (∀ W, PK W → Below w1.heap.size w1 W) := Lib.hid (by rw [hPK]; exact fun W h => h.below)
    have HTB : Hid (∀ W, PK W → Tab W) := Lib.hid (fun W h => HT.out.on (HBE.out W h))
    have HNZ : Hid (∀ W, PK W → NewI.New W lz hz ah (hullZ ms Ts.data.toList).length (zc (hullZ ms Ts.data.toList))) := Lib.hid (by rw [hPK]; exact fun W h => h.z)
    have HLL : Hid (∀ W, PK W → LL lo0 hi0 bl gs al (layZ ms Ts.data.toList) W) := Lib.hid (by rw [hPK]; exact fun W h => h.l)
    have HCset : Hid (∀ W, PK W → W.cell? ⟨bs, 0, none⟩ = some (.int .i64 ms) ∧ W.cell? ⟨bs, 1, none⟩ = some (.string Ts) ∧ W.cell? ⟨be, 0, none⟩ = some (.int .i64 me) ∧ W.cell? ⟨be, 1, none⟩ = some (.string Te) ∧ W.cell? ⟨bt, 0, none⟩ = some (.int .i64 mt) ∧ W.cell? ⟨bt, 1, none⟩ = some (.string Tt) ∧ PK W) := Lib.hid (fun W hk => by have h := hk; rw [hPK] at h; exact ⟨h.s.1.1, h.s.1.2, h.e.1.1, h.e.1.2, h.t.1.1, h.t.1.2, hk⟩)
    have HCs : Hid (∀ W, PK W → W.cell? ⟨bs, 0, none⟩ = some (.int .i64 ms) ∧ W.cell? ⟨bs, 1, none⟩ = some (.string Ts) ∧ PK W) := Lib.hid (fun W hk => by have h := hk; rw [hPK] at h; exact ⟨h.s.1.1, h.s.1.2, hk⟩)
    have HCt : Hid (∀ W, PK W → W.cell? ⟨bt, 0, none⟩ = some (.int .i64 mt) ∧ W.cell? ⟨bt, 1, none⟩ = some (.string Tt) ∧ PK W) := Lib.hid (fun W hk => by have h := hk; rw [hPK] at h; exact ⟨h.t.1.1, h.t.1.2, hk⟩)
    clear hPK B7 S7 E7 N7 L7 T7 Nx Lx HV B0 HBIG
    obtain ⟨hxl, hxp⟩ := layZ_len ms Ts.data.toList
    have hzl := hullZ_len ms Ts.data.toList
    have HSH : Hid (∀ W, (W.cell? ⟨bs, 0, none⟩ = some (.int .i64 ms) ∧ W.cell? ⟨bs, 1, none⟩ = some (.string Ts) ∧ W.cell? ⟨be, 0, none⟩ = some (.int .i64 me) ∧ W.cell? ⟨be, 1, none⟩ = some (.string Te) ∧ W.cell? ⟨bt, 0, none⟩ = some (.int .i64 mt) ∧ W.cell? ⟨bt, 1, none⟩ = some (.string Tt) ∧ PK W) → Calls Tryz.prog 11 #[sg ms Ts] W fun e w' => (∃ a' c', e = .returned (.slice a' (hullZ ms Ts.data.toList).length c') ∧ TmpZ (hullZ ms Ts.data.toList) a' w') ∧ w'.cell? ⟨bs, 0, none⟩ = some (.int .i64 ms) ∧ w'.cell? ⟨bs, 1, none⟩ = some (.string Ts) ∧ w'.cell? ⟨be, 0, none⟩ = some (.int .i64 me) ∧ w'.cell? ⟨be, 1, none⟩ = some (.string Te) ∧ w'.cell? ⟨bt, 0, none⟩ = some (.int .i64 mt) ∧ w'.cell? ⟨bt, 1, none⟩ = some (.string Tt) ∧ PK w') := Lib.hid (fun W hW => by
      refine (specHull ms Ts (by omega) W).mono fun e w' ⟨⟨a', c', he, hn'⟩, hb⟩ => ⟨⟨a', c', he, _, _, hn'⟩, HCset.out _ (HON.out _ _ (hW.2.2.2.2.2.2) hb)⟩)
    have HSI : Hid (∀ a' c' W, (W.cell? ⟨bs, 0, none⟩ = some (.int .i64 ms) ∧ W.cell? ⟨bs, 1, none⟩ = some (.string Ts) ∧ W.cell? ⟨be, 0, none⟩ = some (.int .i64 me) ∧ W.cell? ⟨be, 1, none⟩ = some (.string Te) ∧ W.cell? ⟨bt, 0, none⟩ = some (.int .i64 mt) ∧ W.cell? ⟨bt, 1, none⟩ = some (.string Tt) ∧ PK W) → TmpZ (hullZ ms Ts.data.toList) a' W → Calls Tryz.prog 10 #[.slice ah (hullZ ms Ts.data.toList).length ch, .slice a' (hullZ ms Ts.data.toList).length c'] W fun e w' => e = .returned (.bool true) ∧ w'.cell? ⟨bs, 0, none⟩ = some (.int .i64 ms) ∧ w'.cell? ⟨bs, 1, none⟩ = some (.string Ts) ∧ w'.cell? ⟨be, 0, none⟩ = some (.int .i64 me) ∧ w'.cell? ⟨be, 1, none⟩ = some (.string Te) ∧ w'.cell? ⟨bt, 0, none⟩ = some (.int .i64 mt) ∧ w'.cell? ⟨bt, 1, none⟩ = some (.string Tt) ∧ PK w') := Lib.hid (fun a' c' W hW ⟨lo, hi, h2⟩ => by
      refine (sameInts_eq ah a' ch c' lz hz lo hi (hullZ ms Ts.data.toList) (by omega) W (HNZ.out _ (hW.2.2.2.2.2.2)) h2).mono fun e w' ⟨he, hb⟩ => ⟨he, HCset.out _ (HON.out _ _ (hW.2.2.2.2.2.2) hb)⟩)
    have HSY : Hid (∀ W, (W.cell? ⟨bs, 0, none⟩ = some (.int .i64 ms) ∧ W.cell? ⟨bs, 1, none⟩ = some (.string Ts) ∧ W.cell? ⟨be, 0, none⟩ = some (.int .i64 me) ∧ W.cell? ⟨be, 1, none⟩ = some (.string Te) ∧ W.cell? ⟨bt, 0, none⟩ = some (.int .i64 mt) ∧ W.cell? ⟨bt, 1, none⟩ = some (.string Tt) ∧ PK W) → Calls Tryz.prog 13 #[sg ms Ts] W fun e w' => (∃ a' c', e = .returned (.slice a' (layZ ms Ts.data.toList).length c') ∧ TmpL (layZ ms Ts.data.toList) a' w') ∧ w'.cell? ⟨bs, 0, none⟩ = some (.int .i64 ms) ∧ w'.cell? ⟨bs, 1, none⟩ = some (.string Ts) ∧ w'.cell? ⟨be, 0, none⟩ = some (.int .i64 me) ∧ w'.cell? ⟨be, 1, none⟩ = some (.string Te) ∧ w'.cell? ⟨bt, 0, none⟩ = some (.int .i64 mt) ∧ w'.cell? ⟨bt, 1, none⟩ = some (.string Tt) ∧ PK w') := Lib.hid (fun W hW => by
      refine (specLayers ms Ts (by omega) W).mono fun e w' ⟨⟨a', c', he, hn'⟩, hb⟩ => ⟨⟨a', c', he, _, _, hn'⟩, HCset.out _ (HON.out _ _ (hW.2.2.2.2.2.2) hb)⟩)
    have HSL : Hid (∀ a' c' W, (W.cell? ⟨bs, 0, none⟩ = some (.int .i64 ms) ∧ W.cell? ⟨bs, 1, none⟩ = some (.string Ts) ∧ W.cell? ⟨be, 0, none⟩ = some (.int .i64 me) ∧ W.cell? ⟨be, 1, none⟩ = some (.string Te) ∧ W.cell? ⟨bt, 0, none⟩ = some (.int .i64 mt) ∧ W.cell? ⟨bt, 1, none⟩ = some (.string Tt) ∧ PK W) → TmpL (layZ ms Ts.data.toList) a' W → Calls Tryz.prog 12 #[.slice al (layZ ms Ts.data.toList).length cl, .slice a' (layZ ms Ts.data.toList).length c'] W fun e w' => e = .returned (.bool true) ∧ w'.cell? ⟨bs, 0, none⟩ = some (.int .i64 ms) ∧ w'.cell? ⟨bs, 1, none⟩ = some (.string Ts) ∧ w'.cell? ⟨be, 0, none⟩ = some (.int .i64 me) ∧ w'.cell? ⟨be, 1, none⟩ = some (.string Te) ∧ w'.cell? ⟨bt, 0, none⟩ = some (.int .i64 mt) ∧ w'.cell? ⟨bt, 1, none⟩ = some (.string Tt) ∧ PK w') := Lib.hid (fun a' c' W hW ⟨lo, hi, h2⟩ => by
      refine (same_lists lo0 hi0 lo hi al a' cl c' (layZ ms Ts.data.toList) hxp hxl W (HLL.out _ (hW.2.2.2.2.2.2)).lists h2).mono fun e w' ⟨he, hb⟩ => ⟨he, HCset.out _ (HON.out _ _ (hW.2.2.2.2.2.2) hb)⟩)
    have HEI : Hid (∀ W, (W.cell? ⟨bs, 0, none⟩ = some (.int .i64 ms) ∧ W.cell? ⟨bs, 1, none⟩ = some (.string Ts) ∧ W.cell? ⟨be, 0, none⟩ = some (.int .i64 me) ∧ W.cell? ⟨be, 1, none⟩ = some (.string Te) ∧ W.cell? ⟨bt, 0, none⟩ = some (.int .i64 mt) ∧ W.cell? ⟨bt, 1, none⟩ = some (.string Tt) ∧ PK W) → Calls Tryz.prog 14 #[sg me Te, .int .i64 ei] W fun e w' => e = .returned (.bool (extB me Te.data.toList ei)) ∧ w'.cell? ⟨bs, 0, none⟩ = some (.int .i64 ms) ∧ w'.cell? ⟨bs, 1, none⟩ = some (.string Ts) ∧ w'.cell? ⟨be, 0, none⟩ = some (.int .i64 me) ∧ w'.cell? ⟨be, 1, none⟩ = some (.string Te) ∧ w'.cell? ⟨bt, 0, none⟩ = some (.int .i64 mt) ∧ w'.cell? ⟨bt, 1, none⟩ = some (.string Tt) ∧ PK w') := Lib.hid (fun W hW => by
      refine (implIsExtreme me Te ei (by omega) W (HTB.out W (hW.2.2.2.2.2.2))).mono fun e w' ⟨he, hb⟩ => ⟨he, HCset.out _ (HON.out _ _ (hW.2.2.2.2.2.2) hb)⟩)
    have HES : Hid (∀ W, (W.cell? ⟨bs, 0, none⟩ = some (.int .i64 ms) ∧ W.cell? ⟨bs, 1, none⟩ = some (.string Ts) ∧ W.cell? ⟨be, 0, none⟩ = some (.int .i64 me) ∧ W.cell? ⟨be, 1, none⟩ = some (.string Te) ∧ W.cell? ⟨bt, 0, none⟩ = some (.int .i64 mt) ∧ W.cell? ⟨bt, 1, none⟩ = some (.string Tt) ∧ PK W) → Calls Tryz.prog 15 #[sg me Te, .int .i64 ei] W fun e w' => e = .returned (.bool (extB me Te.data.toList ei)) ∧ w'.cell? ⟨bs, 0, none⟩ = some (.int .i64 ms) ∧ w'.cell? ⟨bs, 1, none⟩ = some (.string Ts) ∧ w'.cell? ⟨be, 0, none⟩ = some (.int .i64 me) ∧ w'.cell? ⟨be, 1, none⟩ = some (.string Te) ∧ w'.cell? ⟨bt, 0, none⟩ = some (.int .i64 mt) ∧ w'.cell? ⟨bt, 1, none⟩ = some (.string Tt) ∧ PK w') := Lib.hid (fun W hW => by
      refine (specIsExtreme me Te ei (by omega) W).mono fun e w' ⟨he, hb⟩ => ⟨he, HCset.out _ (HON.out _ _ (hW.2.2.2.2.2.2) hb)⟩)
    have htp64 : I64 tp := by unfold I64; omega
    have HII : Hid (∀ W, (W.cell? ⟨bs, 0, none⟩ = some (.int .i64 ms) ∧ W.cell? ⟨bs, 1, none⟩ = some (.string Ts) ∧ W.cell? ⟨be, 0, none⟩ = some (.int .i64 me) ∧ W.cell? ⟨be, 1, none⟩ = some (.string Te) ∧ W.cell? ⟨bt, 0, none⟩ = some (.int .i64 mt) ∧ W.cell? ⟨bt, 1, none⟩ = some (.string Tt) ∧ PK W) → Calls Tryz.prog 16 #[sg mt Tt, .int .i64 st, .int .i64 tp] W fun e w' => e = .returned (.bool (inHB mt Tt.data.toList st tp)) ∧ w'.cell? ⟨bs, 0, none⟩ = some (.int .i64 ms) ∧ w'.cell? ⟨bs, 1, none⟩ = some (.string Ts) ∧ w'.cell? ⟨be, 0, none⟩ = some (.int .i64 me) ∧ w'.cell? ⟨be, 1, none⟩ = some (.string Te) ∧ w'.cell? ⟨bt, 0, none⟩ = some (.int .i64 mt) ∧ w'.cell? ⟨bt, 1, none⟩ = some (.string Tt) ∧ PK w') := Lib.hid (fun W hW => by
      refine (implInHull mt Tt st tp htp64 (by omega) W (HTB.out W (hW.2.2.2.2.2.2))).mono fun e w' ⟨he, hb⟩ => ⟨he, HCset.out _ (HON.out _ _ (hW.2.2.2.2.2.2) hb)⟩)
    have HIS : Hid (∀ W, (W.cell? ⟨bs, 0, none⟩ = some (.int .i64 ms) ∧ W.cell? ⟨bs, 1, none⟩ = some (.string Ts) ∧ W.cell? ⟨be, 0, none⟩ = some (.int .i64 me) ∧ W.cell? ⟨be, 1, none⟩ = some (.string Te) ∧ W.cell? ⟨bt, 0, none⟩ = some (.int .i64 mt) ∧ W.cell? ⟨bt, 1, none⟩ = some (.string Tt) ∧ PK W) → Calls Tryz.prog 17 #[sg mt Tt, .int .i64 st, .int .i64 tp] W fun e w' => e = .returned (.bool (inHB mt Tt.data.toList st tp)) ∧ w'.cell? ⟨bs, 0, none⟩ = some (.int .i64 ms) ∧ w'.cell? ⟨bs, 1, none⟩ = some (.string Ts) ∧ w'.cell? ⟨be, 0, none⟩ = some (.int .i64 me) ∧ w'.cell? ⟨be, 1, none⟩ = some (.string Te) ∧ w'.cell? ⟨bt, 0, none⟩ = some (.int .i64 mt) ∧ w'.cell? ⟨bt, 1, none⟩ = some (.string Tt) ∧ PK w') := Lib.hid (fun W hW => by
      refine (specInHull mt Tt st tp (by omega) W).mono fun e w' ⟨he, hb⟩ => ⟨he, HCset.out _ (HON.out _ _ (hW.2.2.2.2.2.2) hb)⟩)
    have HHI : Hid (∀ W, (W.cell? ⟨bs, 0, none⟩ = some (.int .i64 ms) ∧ W.cell? ⟨bs, 1, none⟩ = some (.string Ts) ∧ W.cell? ⟨be, 0, none⟩ = some (.int .i64 me) ∧ W.cell? ⟨be, 1, none⟩ = some (.string Te) ∧ W.cell? ⟨bt, 0, none⟩ = some (.int .i64 mt) ∧ W.cell? ⟨bt, 1, none⟩ = some (.string Tt) ∧ PK W) → Calls Tryz.prog 18 #[sg ms Ts] W fun e w' => e = .returned (.int .i64 (hszZ ms Ts.data.toList)) ∧ w'.cell? ⟨bs, 0, none⟩ = some (.int .i64 ms) ∧ w'.cell? ⟨bs, 1, none⟩ = some (.string Ts) ∧ w'.cell? ⟨be, 0, none⟩ = some (.int .i64 me) ∧ w'.cell? ⟨be, 1, none⟩ = some (.string Te) ∧ w'.cell? ⟨bt, 0, none⟩ = some (.int .i64 mt) ∧ w'.cell? ⟨bt, 1, none⟩ = some (.string Tt) ∧ PK w') := Lib.hid (fun W hW => by
      refine (implHullSize ms Ts (by omega) W (HTB.out W (hW.2.2.2.2.2.2))).mono fun e w' ⟨he, hb⟩ => ⟨he, HCset.out _ (HON.out _ _ (hW.2.2.2.2.2.2) hb)⟩)
    have HHS : Hid (∀ W, (W.cell? ⟨bs, 0, none⟩ = some (.int .i64 ms) ∧ W.cell? ⟨bs, 1, none⟩ = some (.string Ts) ∧ W.cell? ⟨be, 0, none⟩ = some (.int .i64 me) ∧ W.cell? ⟨be, 1, none⟩ = some (.string Te) ∧ W.cell? ⟨bt, 0, none⟩ = some (.int .i64 mt) ∧ W.cell? ⟨bt, 1, none⟩ = some (.string Tt) ∧ PK W) → Calls Tryz.prog 19 #[sg ms Ts] W fun e w' => e = .returned (.int .i64 (hszZ ms Ts.data.toList)) ∧ w'.cell? ⟨bs, 0, none⟩ = some (.int .i64 ms) ∧ w'.cell? ⟨bs, 1, none⟩ = some (.string Ts) ∧ w'.cell? ⟨be, 0, none⟩ = some (.int .i64 me) ∧ w'.cell? ⟨be, 1, none⟩ = some (.string Te) ∧ w'.cell? ⟨bt, 0, none⟩ = some (.int .i64 mt) ∧ w'.cell? ⟨bt, 1, none⟩ = some (.string Tt) ∧ PK w') := Lib.hid (fun W hW => by
      refine (specHullSize ms Ts (by omega) W).mono fun e w' ⟨he, hb⟩ => ⟨he, HCset.out _ (HON.out _ _ (hW.2.2.2.2.2.2) hb)⟩)
    have HCI : Hid (∀ W, (W.cell? ⟨bs, 0, none⟩ = some (.int .i64 ms) ∧ W.cell? ⟨bs, 1, none⟩ = some (.string Ts) ∧ W.cell? ⟨be, 0, none⟩ = some (.int .i64 me) ∧ W.cell? ⟨be, 1, none⟩ = some (.string Te) ∧ W.cell? ⟨bt, 0, none⟩ = some (.int .i64 mt) ∧ W.cell? ⟨bt, 1, none⟩ = some (.string Tt) ∧ PK W) → Calls Tryz.prog 20 #[sg ms Ts] W fun e w' => e = .returned (.bool (cvxB ms Ts.data.toList)) ∧ w'.cell? ⟨bs, 0, none⟩ = some (.int .i64 ms) ∧ w'.cell? ⟨bs, 1, none⟩ = some (.string Ts) ∧ w'.cell? ⟨be, 0, none⟩ = some (.int .i64 me) ∧ w'.cell? ⟨be, 1, none⟩ = some (.string Te) ∧ w'.cell? ⟨bt, 0, none⟩ = some (.int .i64 mt) ∧ w'.cell? ⟨bt, 1, none⟩ = some (.string Tt) ∧ PK w') := Lib.hid (fun W hW => by
      refine (implIsConvex ms Ts (by omega) W (HTB.out W (hW.2.2.2.2.2.2))).mono fun e w' ⟨he, hb⟩ => ⟨he, HCset.out _ (HON.out _ _ (hW.2.2.2.2.2.2) hb)⟩)
    have HCS : Hid (∀ W, (W.cell? ⟨bs, 0, none⟩ = some (.int .i64 ms) ∧ W.cell? ⟨bs, 1, none⟩ = some (.string Ts) ∧ W.cell? ⟨be, 0, none⟩ = some (.int .i64 me) ∧ W.cell? ⟨be, 1, none⟩ = some (.string Te) ∧ W.cell? ⟨bt, 0, none⟩ = some (.int .i64 mt) ∧ W.cell? ⟨bt, 1, none⟩ = some (.string Tt) ∧ PK W) → Calls Tryz.prog 21 #[sg ms Ts] W fun e w' => e = .returned (.bool (cvxB ms Ts.data.toList)) ∧ w'.cell? ⟨bs, 0, none⟩ = some (.int .i64 ms) ∧ w'.cell? ⟨bs, 1, none⟩ = some (.string Ts) ∧ w'.cell? ⟨be, 0, none⟩ = some (.int .i64 me) ∧ w'.cell? ⟨be, 1, none⟩ = some (.string Te) ∧ w'.cell? ⟨bt, 0, none⟩ = some (.int .i64 mt) ∧ w'.cell? ⟨bt, 1, none⟩ = some (.string Tt) ∧ PK w') := Lib.hid (fun W hW => by
      refine (specIsConvex ms Ts (by omega) W).mono fun e w' ⟨he, hb⟩ => ⟨he, HCset.out _ (HON.out _ _ (hW.2.2.2.2.2.2) hb)⟩)
    have PAC : Hid (∀ W, PK W → Calls Tryz.prog 22 #[sg ms Ts] W fun e w' => e = .returned (.bool (aciB ms Ts.data.toList)) ∧ PK w') := Lib.hid (fun W hW => (specAci ms Ts (by omega) W).mono fun e w' ⟨he, hb⟩ => ⟨he, HON.out _ _ hW hb⟩)
    have PHS : Hid (∀ W, PK W → Calls Tryz.prog 18 #[sg ms Ts] W fun e w' => e = .returned (.int .i64 (hszZ ms Ts.data.toList)) ∧ PK w') := Lib.hid (fun W hW => (implHullSize ms Ts (by omega) W (HTB.out W hW)).mono fun e w' ⟨he, hb⟩ => ⟨he, HON.out _ _ hW hb⟩)
    have PCV : Hid (∀ W, PK W → Calls Tryz.prog 20 #[sg ms Ts] W fun e w' => e = .returned (.bool (cvxB ms Ts.data.toList)) ∧ PK w') := Lib.hid (fun W hW => (implIsConvex ms Ts (by omega) W (HTB.out W hW)).mono fun e w' ⟨he, hb⟩ => ⟨he, HON.out _ _ hW hb⟩)
    have PIH : Hid (∀ W, PK W → Calls Tryz.prog 16 #[sg mt Tt, .int .i64 st, .int .i64 tp] W fun e w' => e = .returned (.bool (inHB mt Tt.data.toList st tp)) ∧ PK w') := Lib.hid (fun W hW => (implInHull mt Tt st tp htp64 (by omega) W (HTB.out W hW)).mono fun e w' ⟨he, hb⟩ => ⟨he, HON.out _ _ hW hb⟩)
    have PET : Hid ((inHB mt Tt.data.toList st tp) = true → ∀ W, PK W → Calls Tryz.prog 14 #[sg mt Tt, .int .i64 tp] W fun e w' => e = .returned (.bool false) ∧ PK w') := Lib.hid (fun hin W hW => by
      have := implIsExtreme mt Tt tp (by omega) W (HTB.out W hW)
      rw [inH_ext hin] at this
      exact this.mono fun e w' ⟨he, hb⟩ => ⟨he, HON.out _ _ hW hb⟩)
    have PEX : Hid (∀ a : Nat, extB ms Ts.data.toList a = true → ∀ W, PK W → Calls Tryz.prog 14 #[sg ms Ts, .int .i64 (a : Nat)] W fun e w' => e = .returned (.bool true) ∧ PK w') := Lib.hid (fun a ha W hW => by
      have := implIsExtreme ms Ts a (by omega) W (HTB.out W hW)
      rw [ha] at this
      exact this.mono fun e w' ⟨he, hb⟩ => ⟨he, HON.out _ _ hW hb⟩)
    have PLC : Hid (aciB ms Ts.data.toList = true → ∀ a b : Nat, a < ms → b < ms → a ≠ b → leftN (sgnF (lookS ms Ts.data.toList)) ms a b = ms - 2 → ∀ W, PK W → Calls Tryz.prog 23 #[sg ms Ts, .int .i64 (a : Nat), .int .i64 (b : Nat)] W fun e w' => e = .returned (.int .i64 ((ms - 2 : Nat) : Int)) ∧ PK w') := Lib.hid (fun h a b ha hb' hab hl W hW => by
      have := specLeftCount ms Ts h (by omega) a b ha hb' hab W
      rw [hl] at this
      exact this.mono fun e w' ⟨he, hb⟩ => ⟨he, HON.out _ _ hW hb⟩)
    have HYES := Lib.hid (fun h => hulls_yes (n := ms) (s := Ts.data.toList) h)
    have HNO := Lib.hid (fun h => hulls_no (n := ms) (s := Ts.data.toList) h)
    have HXP := Lib.hid hxp
    have HXB := Lib.hid (fun k => ln_le (layZ_mem ms Ts.data.toList) k)
    have HPB := Lib.hid (fun k hk => psum_le (layZ_mem ms Ts.data.toList) k hk)
    clear htp64 hei hst htp HT hxp
    generalize hzg : hullZ ms Ts.data.toList = zs at HNZ HSH HSI HYES HNO hzl ⊢
    generalize hxg : layZ ms Ts.data.toList = xss at HLL HSY HSL HYES HNO HXB HPB hxl ⊢
    clear hzg hxg HXP
    generalize heb : (extB me Te.data.toList ei) = eb at HEI HES
    clear heb
    generalize hib : (inHB mt Tt.data.toList st tp) = ib at HII HIS PIH PET
    clear hib
    generalize hhs : (hszZ ms Ts.data.toList) = hs at HHI HHS PHS HYES HNO
    clear hhs
    generalize hcv : (cvxB ms Ts.data.toList) = cv at HCI HCS PCV HYES
    clear hcv
    have g1 : (eb != eb) = false := by simp
    have g2 : (ib != ib) = false := by simp
    have g3 : (hs != hs) = false := by simp
    have g4 : (cv != cv) = false := by simp
    go_cut [78] (fun cv wx => cv = .bool false ∧ Hid (PK wx))
    case first =>
      as_aux_lemma =>
      refine wp_region_held (S := fun W => W.cell? ⟨bs, 0, none⟩ = some (.int .i64 ms) ∧ W.cell? ⟨bs, 1, none⟩ = some (.string Ts) ∧ W.cell? ⟨be, 0, none⟩ = some (.int .i64 me) ∧ W.cell? ⟨be, 1, none⟩ = some (.string Te) ∧ W.cell? ⟨bt, 0, none⟩ = some (.int .i64 mt) ∧ W.cell? ⟨bt, 1, none⟩ = some (.string Tt) ∧ PK W) rfl ?_
      have hHeld := (HCset.out _ (HDR.out _ K8.out))
      (refine Held.takeH (i := 0) (k := 33) (v := ?_) rfl (by as_aux_lemma => kernel_rfl) (by as_aux_lemma => kernel_rfl) (by as_aux_lemma => kernel_rfl) (by as_aux_lemma => kernel_rfl) (fun _ _ _ h => h) (Or.inl ⟨by rfl, ?_⟩) (by assumption) ?_; rotate_left; (focus (intro w hSw; (try dsimp only at hSw); go_simp; (try with_reducible rfl))); (simp only [List.setIfInBounds_toArray, List.set_cons_zero, List.set_cons_succ]))
      (refine Held.takeH (i := 1) (k := 34) (v := ?_) rfl (by as_aux_lemma => kernel_rfl) (by as_aux_lemma => kernel_rfl) (by as_aux_lemma => kernel_rfl) (by as_aux_lemma => kernel_rfl) (fun _ _ _ h => h) (Or.inl ⟨by rfl, ?_⟩) (by assumption) ?_; rotate_left; (focus (intro w hSw; (try dsimp only at hSw); go_simp; (try with_reducible rfl))); (simp only [List.setIfInBounds_toArray, List.set_cons_zero, List.set_cons_succ]))
      refine wpAnyH_ready (rs := [2]) (by as_aux_lemma => kernel_rfl) (by simp) ?_
      refine AllReadyH.cons rfl (fun K hK => ?_) AllReadyH.nil
      go_simp
      refine (HSH.out _ hHeld).mono ?_
      rintro e' w' ⟨⟨a', c', rfl, t'⟩, hS'⟩
      refine hK.out _ _ hS' (fun hHeld => ?_)
      clear hK K
      try simp only [Act.put, List.setIfInBounds_toArray, List.set_cons_zero, List.set_cons_succ]
      refine wpAnyH_ready (rs := [3]) (by as_aux_lemma => kernel_rfl) (by simp) ?_
      refine AllReadyH.cons rfl (fun K hK => ?_) AllReadyH.nil
      go_simp
      refine (HSI.out _ _ _ hHeld t').mono ?_
      rintro e' w' ⟨rfl, hS'⟩
      refine hK.out _ _ hS' (fun hHeld => ?_)
      clear hK K
      try simp only [Act.put, List.setIfInBounds_toArray, List.set_cons_zero, List.set_cons_succ]
      (refine Held.takeH (i := 4) (k := 37) (v := .bool false) rfl (by as_aux_lemma => kernel_rfl) (by as_aux_lemma => kernel_rfl) (by as_aux_lemma => kernel_rfl) (by as_aux_lemma => kernel_rfl) (fun _ _ _ h => h) (Or.inl ⟨by rfl, ?_⟩) (by assumption) ?_; (focus (intro w hSw; (try dsimp only at hSw); go_simp; (try rfl))); (simp only [List.setIfInBounds_toArray, List.set_cons_zero, List.set_cons_succ]))
      (refine Held.takeH (i := 5) (k := 38) (v := .bool false) rfl (by as_aux_lemma => kernel_rfl) (by as_aux_lemma => kernel_rfl) (by as_aux_lemma => kernel_rfl) (by as_aux_lemma => kernel_rfl) (fun _ _ _ h => h) (Or.inl ⟨by rfl, ?_⟩) (by assumption) ?_; (focus (intro w hSw; (try dsimp only at hSw); go_simp; (try rfl))); (simp only [List.setIfInBounds_toArray, List.set_cons_zero, List.set_cons_succ]))
      (refine Held.takeH (i := 6) (k := 39) (v := ?_) rfl (by as_aux_lemma => kernel_rfl) (by as_aux_lemma => kernel_rfl) (by as_aux_lemma => kernel_rfl) (by as_aux_lemma => kernel_rfl) (fun _ _ _ h => h) (Or.inl ⟨by rfl, ?_⟩) (by assumption) ?_; rotate_left; (focus (intro w hSw; (try dsimp only at hSw); go_simp; (try with_reducible rfl))); (simp only [List.setIfInBounds_toArray, List.set_cons_zero, List.set_cons_succ]))
      (refine Held.takeH (i := 7) (k := 40) (v := ?_) rfl (by as_aux_lemma => kernel_rfl) (by as_aux_lemma => kernel_rfl) (by as_aux_lemma => kernel_rfl) (by as_aux_lemma => kernel_rfl) (fun _ _ _ h => h) (Or.inl ⟨by rfl, ?_⟩) (by assumption) ?_; rotate_left; (focus (intro w hSw; (try dsimp only at hSw); go_simp; (try with_reducible rfl))); (simp only [List.setIfInBounds_toArray, List.set_cons_zero, List.set_cons_succ]))
      refine wpAnyH_ready (rs := [8]) (by as_aux_lemma => kernel_rfl) (by simp) ?_
      refine AllReadyH.cons rfl (fun K hK => ?_) AllReadyH.nil
      go_simp
      refine (HSY.out _ hHeld).mono ?_
      rintro e' w' ⟨⟨a2', c2', rfl, t2'⟩, hS'⟩
      refine hK.out _ _ hS' (fun hHeld => ?_)
      clear hK K
      try simp only [Act.put, List.setIfInBounds_toArray, List.set_cons_zero, List.set_cons_succ]
      refine wpAnyH_ready (rs := [9]) (by as_aux_lemma => kernel_rfl) (by simp) ?_
      refine AllReadyH.cons rfl (fun K hK => ?_) AllReadyH.nil
      go_simp
      refine (HSL.out _ _ _ hHeld t2').mono ?_
      rintro e' w' ⟨rfl, hS'⟩
      refine hK.out _ _ hS' (fun hHeld => ?_)
      clear hK K
      try simp only [Act.put, List.setIfInBounds_toArray, List.set_cons_zero, List.set_cons_succ]
      (refine Held.takeH (i := 10) (k := 43) (v := .bool false) rfl (by as_aux_lemma => kernel_rfl) (by as_aux_lemma => kernel_rfl) (by as_aux_lemma => kernel_rfl) (by as_aux_lemma => kernel_rfl) (fun _ _ _ h => h) (Or.inl ⟨by rfl, ?_⟩) (by assumption) ?_; (focus (intro w hSw; (try dsimp only at hSw); go_simp; (try rfl))); (simp only [List.setIfInBounds_toArray, List.set_cons_zero, List.set_cons_succ]))
      (refine Held.takeH (i := 11) (k := 44) (v := .bool false) rfl (by as_aux_lemma => kernel_rfl) (by as_aux_lemma => kernel_rfl) (by as_aux_lemma => kernel_rfl) (by as_aux_lemma => kernel_rfl) (fun _ _ _ h => h) (Or.inl ⟨by rfl, ?_⟩) (by assumption) ?_; (focus (intro w hSw; (try dsimp only at hSw); go_simp; (try rfl))); (simp only [List.setIfInBounds_toArray, List.set_cons_zero, List.set_cons_succ]))
      (refine Held.takeH (i := 12) (k := 45) (v := .bool false) rfl (by as_aux_lemma => kernel_rfl) (by as_aux_lemma => kernel_rfl) (by as_aux_lemma => kernel_rfl) (by as_aux_lemma => kernel_rfl) (fun _ _ _ h => h) (Or.inl ⟨by rfl, ?_⟩) (by assumption) ?_; (focus (intro w hSw; (try dsimp only at hSw); go_simp; (try rfl))); (simp only [List.setIfInBounds_toArray, List.set_cons_zero, List.set_cons_succ]))
      (refine Held.takeH (i := 13) (k := 46) (v := ?_) rfl (by as_aux_lemma => kernel_rfl) (by as_aux_lemma => kernel_rfl) (by as_aux_lemma => kernel_rfl) (by as_aux_lemma => kernel_rfl) (fun _ _ _ h => h) (Or.inl ⟨by rfl, ?_⟩) (by assumption) ?_; rotate_left; (focus (intro w hSw; (try dsimp only at hSw); go_simp; (try with_reducible rfl))); (simp only [List.setIfInBounds_toArray, List.set_cons_zero, List.set_cons_succ]))
      (refine Held.takeH (i := 14) (k := 47) (v := ?_) rfl (by as_aux_lemma => kernel_rfl) (by as_aux_lemma => kernel_rfl) (by as_aux_lemma => kernel_rfl) (by as_aux_lemma => kernel_rfl) (fun _ _ _ h => h) (Or.inl ⟨by rfl, ?_⟩) (by assumption) ?_; rotate_left; (focus (intro w hSw; (try dsimp only at hSw); go_simp; (try with_reducible rfl))); (simp only [List.setIfInBounds_toArray, List.set_cons_zero, List.set_cons_succ]))
      (refine Held.takeH (i := 16) (k := 49) (v := ?_) rfl (by as_aux_lemma => kernel_rfl) (by as_aux_lemma => kernel_rfl) (by as_aux_lemma => kernel_rfl) (by as_aux_lemma => kernel_rfl) (fun _ _ _ h => h) (Or.inl ⟨by rfl, ?_⟩) (by assumption) ?_; rotate_left; (focus (intro w hSw; (try dsimp only at hSw); go_simp; (try with_reducible rfl))); (simp only [List.setIfInBounds_toArray, List.set_cons_zero, List.set_cons_succ]))
      (refine Held.takeH (i := 17) (k := 50) (v := ?_) rfl (by as_aux_lemma => kernel_rfl) (by as_aux_lemma => kernel_rfl) (by as_aux_lemma => kernel_rfl) (by as_aux_lemma => kernel_rfl) (fun _ _ _ h => h) (Or.inl ⟨by rfl, ?_⟩) (by assumption) ?_; rotate_left; (focus (intro w hSw; (try dsimp only at hSw); go_simp; (try with_reducible rfl))); (simp only [List.setIfInBounds_toArray, List.set_cons_zero, List.set_cons_succ]))
      refine wpAnyH_ready (rs := [15]) (by as_aux_lemma => kernel_rfl) (by simp) ?_
      refine AllReadyH.cons rfl (fun K hK => ?_) AllReadyH.nil
      go_simp
      refine (HEI.out _ hHeld).mono ?_
      rintro e' w' ⟨rfl, hS'⟩
      refine hK.out _ _ hS' (fun hHeld => ?_)
      clear hK K
      try simp only [Act.put, List.setIfInBounds_toArray, List.set_cons_zero, List.set_cons_succ]
      refine wpAnyH_ready (rs := [18]) (by as_aux_lemma => kernel_rfl) (by simp) ?_
      refine AllReadyH.cons rfl (fun K hK => ?_) AllReadyH.nil
      go_simp
      refine (HES.out _ hHeld).mono ?_
      rintro e' w' ⟨rfl, hS'⟩
      refine hK.out _ _ hS' (fun hHeld => ?_)
      clear hK K
      try simp only [Act.put, List.setIfInBounds_toArray, List.set_cons_zero, List.set_cons_succ]
      (refine Held.takeH (i := 19) (k := 52) (v := .bool false) rfl (by as_aux_lemma => kernel_rfl) (by as_aux_lemma => kernel_rfl) (by as_aux_lemma => kernel_rfl) (by as_aux_lemma => kernel_rfl) (fun _ _ _ h => h) (Or.inl ⟨by rfl, ?_⟩) (by assumption) ?_; (focus (intro w hSw; (try dsimp only at hSw); go_simp; (try rfl))); (simp only [List.setIfInBounds_toArray, List.set_cons_zero, List.set_cons_succ]))
      (refine Held.takeH (i := 20) (k := 53) (v := .bool false) rfl (by as_aux_lemma => kernel_rfl) (by as_aux_lemma => kernel_rfl) (by as_aux_lemma => kernel_rfl) (by as_aux_lemma => kernel_rfl) (fun _ _ _ h => h) (Or.inl ⟨by rfl, ?_⟩) (by assumption) ?_; (focus (intro w hSw; (try dsimp only at hSw); go_simp; (try rfl))); (simp only [List.setIfInBounds_toArray, List.set_cons_zero, List.set_cons_succ]))
      (refine Held.takeH (i := 21) (k := 54) (v := .bool false) rfl (by as_aux_lemma => kernel_rfl) (by as_aux_lemma => kernel_rfl) (by as_aux_lemma => kernel_rfl) (by as_aux_lemma => kernel_rfl) (fun _ _ _ h => h) (Or.inl ⟨by rfl, ?_⟩) (by assumption) ?_; (focus (intro w hSw; (try dsimp only at hSw); go_simp; (try rfl))); (simp only [List.setIfInBounds_toArray, List.set_cons_zero, List.set_cons_succ]))
      (refine Held.takeH (i := 22) (k := 55) (v := ?_) rfl (by as_aux_lemma => kernel_rfl) (by as_aux_lemma => kernel_rfl) (by as_aux_lemma => kernel_rfl) (by as_aux_lemma => kernel_rfl) (fun _ _ _ h => h) (Or.inl ⟨by rfl, ?_⟩) (by assumption) ?_; rotate_left; (focus (intro w hSw; (try dsimp only at hSw); go_simp; (try with_reducible rfl))); (simp only [List.setIfInBounds_toArray, List.set_cons_zero, List.set_cons_succ]))
      (refine Held.takeH (i := 23) (k := 56) (v := ?_) rfl (by as_aux_lemma => kernel_rfl) (by as_aux_lemma => kernel_rfl) (by as_aux_lemma => kernel_rfl) (by as_aux_lemma => kernel_rfl) (fun _ _ _ h => h) (Or.inl ⟨by rfl, ?_⟩) (by assumption) ?_; rotate_left; (focus (intro w hSw; (try dsimp only at hSw); go_simp; (try with_reducible rfl))); (simp only [List.setIfInBounds_toArray, List.set_cons_zero, List.set_cons_succ]))
      (refine Held.takeH (i := 24) (k := 57) (v := ?_) rfl (by as_aux_lemma => kernel_rfl) (by as_aux_lemma => kernel_rfl) (by as_aux_lemma => kernel_rfl) (by as_aux_lemma => kernel_rfl) (fun _ _ _ h => h) (Or.inl ⟨by rfl, ?_⟩) (by assumption) ?_; rotate_left; (focus (intro w hSw; (try dsimp only at hSw); go_simp; (try with_reducible rfl))); (simp only [List.setIfInBounds_toArray, List.set_cons_zero, List.set_cons_succ]))
      (refine Held.takeH (i := 26) (k := 59) (v := ?_) rfl (by as_aux_lemma => kernel_rfl) (by as_aux_lemma => kernel_rfl) (by as_aux_lemma => kernel_rfl) (by as_aux_lemma => kernel_rfl) (fun _ _ _ h => h) (Or.inl ⟨by rfl, ?_⟩) (by assumption) ?_; rotate_left; (focus (intro w hSw; (try dsimp only at hSw); go_simp; (try with_reducible rfl))); (simp only [List.setIfInBounds_toArray, List.set_cons_zero, List.set_cons_succ]))
      (refine Held.takeH (i := 27) (k := 60) (v := ?_) rfl (by as_aux_lemma => kernel_rfl) (by as_aux_lemma => kernel_rfl) (by as_aux_lemma => kernel_rfl) (by as_aux_lemma => kernel_rfl) (fun _ _ _ h => h) (Or.inl ⟨by rfl, ?_⟩) (by assumption) ?_; rotate_left; (focus (intro w hSw; (try dsimp only at hSw); go_simp; (try with_reducible rfl))); (simp only [List.setIfInBounds_toArray, List.set_cons_zero, List.set_cons_succ]))
      (refine Held.takeH (i := 28) (k := 61) (v := ?_) rfl (by as_aux_lemma => kernel_rfl) (by as_aux_lemma => kernel_rfl) (by as_aux_lemma => kernel_rfl) (by as_aux_lemma => kernel_rfl) (fun _ _ _ h => h) (Or.inl ⟨by rfl, ?_⟩) (by assumption) ?_; rotate_left; (focus (intro w hSw; (try dsimp only at hSw); go_simp; (try with_reducible rfl))); (simp only [List.setIfInBounds_toArray, List.set_cons_zero, List.set_cons_succ]))
      refine wpAnyH_ready (rs := [25]) (by as_aux_lemma => kernel_rfl) (by simp) ?_
      refine AllReadyH.cons rfl (fun K hK => ?_) AllReadyH.nil
      go_simp
      refine (HII.out _ hHeld).mono ?_
      rintro e' w' ⟨rfl, hS'⟩
      refine hK.out _ _ hS' (fun hHeld => ?_)
      clear hK K
      try simp only [Act.put, List.setIfInBounds_toArray, List.set_cons_zero, List.set_cons_succ]
      refine wpAnyH_ready (rs := [29]) (by as_aux_lemma => kernel_rfl) (by simp) ?_
      refine AllReadyH.cons rfl (fun K hK => ?_) AllReadyH.nil
      go_simp
      refine (HIS.out _ hHeld).mono ?_
      rintro e' w' ⟨rfl, hS'⟩
      refine hK.out _ _ hS' (fun hHeld => ?_)
      clear hK K
      try simp only [Act.put, List.setIfInBounds_toArray, List.set_cons_zero, List.set_cons_succ]
      (refine Held.takeH (i := 30) (k := 63) (v := .bool false) rfl (by as_aux_lemma => kernel_rfl) (by as_aux_lemma => kernel_rfl) (by as_aux_lemma => kernel_rfl) (by as_aux_lemma => kernel_rfl) (fun _ _ _ h => h) (Or.inl ⟨by rfl, ?_⟩) (by assumption) ?_; (focus (intro w hSw; (try dsimp only at hSw); go_simp; (try rfl))); (simp only [List.setIfInBounds_toArray, List.set_cons_zero, List.set_cons_succ]))
      (refine Held.takeH (i := 31) (k := 64) (v := .bool false) rfl (by as_aux_lemma => kernel_rfl) (by as_aux_lemma => kernel_rfl) (by as_aux_lemma => kernel_rfl) (by as_aux_lemma => kernel_rfl) (fun _ _ _ h => h) (Or.inl ⟨by rfl, ?_⟩) (by assumption) ?_; (focus (intro w hSw; (try dsimp only at hSw); go_simp; (try rfl))); (simp only [List.setIfInBounds_toArray, List.set_cons_zero, List.set_cons_succ]))
      (refine Held.takeH (i := 32) (k := 65) (v := .bool false) rfl (by as_aux_lemma => kernel_rfl) (by as_aux_lemma => kernel_rfl) (by as_aux_lemma => kernel_rfl) (by as_aux_lemma => kernel_rfl) (fun _ _ _ h => h) (Or.inl ⟨by rfl, ?_⟩) (by assumption) ?_; (focus (intro w hSw; (try dsimp only at hSw); go_simp; (try rfl))); (simp only [List.setIfInBounds_toArray, List.set_cons_zero, List.set_cons_succ]))
      (refine Held.takeH (i := 33) (k := 66) (v := ?_) rfl (by as_aux_lemma => kernel_rfl) (by as_aux_lemma => kernel_rfl) (by as_aux_lemma => kernel_rfl) (by as_aux_lemma => kernel_rfl) (fun _ _ _ h => h) (Or.inl ⟨by rfl, ?_⟩) (by assumption) ?_; rotate_left; (focus (intro w hSw; (try dsimp only at hSw); go_simp; (try with_reducible rfl))); (simp only [List.setIfInBounds_toArray, List.set_cons_zero, List.set_cons_succ]))
      (refine Held.takeH (i := 35) (k := 68) (v := ?_) rfl (by as_aux_lemma => kernel_rfl) (by as_aux_lemma => kernel_rfl) (by as_aux_lemma => kernel_rfl) (by as_aux_lemma => kernel_rfl) (fun _ _ _ h => h) (Or.inl ⟨by rfl, ?_⟩) (by assumption) ?_; rotate_left; (focus (intro w hSw; (try dsimp only at hSw); go_simp; (try with_reducible rfl))); (simp only [List.setIfInBounds_toArray, List.set_cons_zero, List.set_cons_succ]))
      refine wpAnyH_ready (rs := [34]) (by as_aux_lemma => kernel_rfl) (by simp) ?_
      refine AllReadyH.cons rfl (fun K hK => ?_) AllReadyH.nil
      go_simp
      refine (HHI.out _ hHeld).mono ?_
      rintro e' w' ⟨rfl, hS'⟩
      refine hK.out _ _ hS' (fun hHeld => ?_)
      clear hK K
      try simp only [Act.put, List.setIfInBounds_toArray, List.set_cons_zero, List.set_cons_succ]
      refine wpAnyH_ready (rs := [36]) (by as_aux_lemma => kernel_rfl) (by simp) ?_
      refine AllReadyH.cons rfl (fun K hK => ?_) AllReadyH.nil
      go_simp
      refine (HHS.out _ hHeld).mono ?_
      rintro e' w' ⟨rfl, hS'⟩
      refine hK.out _ _ hS' (fun hHeld => ?_)
      clear hK K
      try simp only [Act.put, List.setIfInBounds_toArray, List.set_cons_zero, List.set_cons_succ]
      (refine Held.takeH (i := 37) (k := 70) (v := .bool false) rfl (by as_aux_lemma => kernel_rfl) (by as_aux_lemma => kernel_rfl) (by as_aux_lemma => kernel_rfl) (by as_aux_lemma => kernel_rfl) (fun _ _ _ h => h) (Or.inl ⟨by rfl, ?_⟩) (by assumption) ?_; (focus (intro w hSw; (try dsimp only at hSw); go_simp; (try rfl))); (simp only [List.setIfInBounds_toArray, List.set_cons_zero, List.set_cons_succ]))
      (refine Held.takeH (i := 38) (k := 71) (v := .bool false) rfl (by as_aux_lemma => kernel_rfl) (by as_aux_lemma => kernel_rfl) (by as_aux_lemma => kernel_rfl) (by as_aux_lemma => kernel_rfl) (fun _ _ _ h => h) (Or.inl ⟨by rfl, ?_⟩) (by assumption) ?_; (focus (intro w hSw; (try dsimp only at hSw); go_simp; (try rfl))); (simp only [List.setIfInBounds_toArray, List.set_cons_zero, List.set_cons_succ]))
      (refine Held.takeH (i := 39) (k := 72) (v := .bool false) rfl (by as_aux_lemma => kernel_rfl) (by as_aux_lemma => kernel_rfl) (by as_aux_lemma => kernel_rfl) (by as_aux_lemma => kernel_rfl) (fun _ _ _ h => h) (Or.inl ⟨by rfl, ?_⟩) (by assumption) ?_; (focus (intro w hSw; (try dsimp only at hSw); go_simp; (try rfl))); (simp only [List.setIfInBounds_toArray, List.set_cons_zero, List.set_cons_succ]))
      (refine Held.takeH (i := 40) (k := 73) (v := ?_) rfl (by as_aux_lemma => kernel_rfl) (by as_aux_lemma => kernel_rfl) (by as_aux_lemma => kernel_rfl) (by as_aux_lemma => kernel_rfl) (fun _ _ _ h => h) (Or.inl ⟨by rfl, ?_⟩) (by assumption) ?_; rotate_left; (focus (intro w hSw; (try dsimp only at hSw); go_simp; (try with_reducible rfl))); (simp only [List.setIfInBounds_toArray, List.set_cons_zero, List.set_cons_succ]))
      (refine Held.takeH (i := 42) (k := 75) (v := ?_) rfl (by as_aux_lemma => kernel_rfl) (by as_aux_lemma => kernel_rfl) (by as_aux_lemma => kernel_rfl) (by as_aux_lemma => kernel_rfl) (fun _ _ _ h => h) (Or.inl ⟨by rfl, ?_⟩) (by assumption) ?_; rotate_left; (focus (intro w hSw; (try dsimp only at hSw); go_simp; (try with_reducible rfl))); (simp only [List.setIfInBounds_toArray, List.set_cons_zero, List.set_cons_succ]))
      refine wpAnyH_ready (rs := [41]) (by as_aux_lemma => kernel_rfl) (by simp) ?_
      refine AllReadyH.cons rfl (fun K hK => ?_) AllReadyH.nil
      go_simp
      refine (HCI.out _ hHeld).mono ?_
      rintro e' w' ⟨rfl, hS'⟩
      refine hK.out _ _ hS' (fun hHeld => ?_)
      clear hK K
      try simp only [Act.put, List.setIfInBounds_toArray, List.set_cons_zero, List.set_cons_succ]
      refine wpAnyH_ready (rs := [43]) (by as_aux_lemma => kernel_rfl) (by simp) ?_
      refine AllReadyH.cons rfl (fun K hK => ?_) AllReadyH.nil
      go_simp
      refine (HCS.out _ hHeld).mono ?_
      rintro e' w' ⟨rfl, hS'⟩
      refine hK.out _ _ hS' (fun hHeld => ?_)
      clear hK K
      try simp only [Act.put, List.setIfInBounds_toArray, List.set_cons_zero, List.set_cons_succ]
      (refine Held.takeH (i := 44) (k := 77) (v := .bool false) rfl (by as_aux_lemma => kernel_rfl) (by as_aux_lemma => kernel_rfl) (by as_aux_lemma => kernel_rfl) (by as_aux_lemma => kernel_rfl) (fun _ _ _ h => h) (Or.inl ⟨by rfl, ?_⟩) (by assumption) ?_; (focus (intro w hSw; (try dsimp only at hSw); go_simp; (try rfl))); (simp only [List.setIfInBounds_toArray, List.set_cons_zero, List.set_cons_succ]))
      (refine Held.takeH (i := 45) (k := 78) (v := .bool false) rfl (by as_aux_lemma => kernel_rfl) (by as_aux_lemma => kernel_rfl) (by as_aux_lemma => kernel_rfl) (by as_aux_lemma => kernel_rfl) (fun _ _ _ h => h) (Or.inl ⟨by rfl, ?_⟩) (by assumption) ?_; (focus (intro w hSw; (try dsimp only at hSw); go_simp; (try rfl))); (simp only [List.setIfInBounds_toArray, List.set_cons_zero, List.set_cons_succ]))
      refine wpAnyH_done (by as_aux_lemma => kernel_rfl) ?_ _
      go_wp2_with fail
      go_meet
      exact ⟨rfl, Lib.hid hHeld.2.2.2.2.2.2⟩
    case rest =>
      obtain ⟨rfl, K9⟩ := hcut
      clear K8 HSH HSI HSY HSL HEI HES HII HIS HHI HHS HCI HCS HCset g1 g2 g3 g4 eb
      obtain ⟨x0, x1, -⟩ := HCs.out _ K9.out
      cases hac : aciB ms Ts.data.toList
      · obtain ⟨rfl, rfl, rfl⟩ := HNO.out hac
        rw [hac] at PAC
        clear HYES HNO PLC hac
        go_wp2_with fail
        refine (PAC.out _ K9.out).mono ?_
        rintro e w10 ⟨rfl, hk10⟩
        have K10 := Lib.hid hk10
        clear hk10 x0 x1
        obtain ⟨x0, x1, -⟩ := HCs.out _ K10.out
        go_wp2_with fail
        refine (PHS.out _ K10.out).mono ?_
        rintro e w11 ⟨rfl, hk11⟩
        have B11 := Lib.hid (HBE.out _ hk11)
        clear hk11 x0 x1
        go_wp2
        go_ret
        exact ⟨rfl, B11.out⟩
      · obtain ⟨hz3, hzh, hcvx, hxne, hl0, hps, hrow⟩ := HYES.out hac
        have PLC2 := Lib.hid (PLC.out hac)
        rw [hac] at PAC
        subst hzh
        have HPS := Lib.hid hps
        have HROW := Lib.hid hrow
        clear HYES HNO PLC hac hps hrow
        go_wp2_with fail
        refine (PAC.out _ K9.out).mono ?_
        rintro e w10 ⟨rfl, hk10⟩
        have K10 := Lib.hid hk10
        clear hk10 x0 x1 PAC
        obtain ⟨g0, hg0, hal⟩ := (HLL.out _ K10.out).row (k := 0) (by omega)
        subst hal
        have HC12 : Hid (∀ W, PK W → W.cell? ⟨bs, 0, none⟩ = some (.int .i64 ms) ∧ W.cell? ⟨bs, 1, none⟩ = some (.string Ts) ∧ W.cell? ⟨bl, 0, none⟩ = some (.slice (some ⟨g0.1, 0, none⟩) (ln xss 0) g0.2) ∧ PK W) := Lib.hid (fun W hW => ⟨(HCs.out W hW).1, (HCs.out W hW).2.1, (HLL.out W hW).at (by omega) hg0, hW⟩)
        have HS12 : Hid (∀ W, (W.cell? ⟨bs, 0, none⟩ = some (.int .i64 ms) ∧ W.cell? ⟨bs, 1, none⟩ = some (.string Ts) ∧ W.cell? ⟨bl, 0, none⟩ = some (.slice (some ⟨g0.1, 0, none⟩) (ln xss 0) g0.2) ∧ PK W) → Calls Tryz.prog 18 #[sg ms Ts] W fun e w' => e = .returned (.int .i64 (zs.length : Nat)) ∧ w'.cell? ⟨bs, 0, none⟩ = some (.int .i64 ms) ∧ w'.cell? ⟨bs, 1, none⟩ = some (.string Ts) ∧ w'.cell? ⟨bl, 0, none⟩ = some (.slice (some ⟨g0.1, 0, none⟩) (ln xss 0) g0.2) ∧ PK w') := Lib.hid (fun W hW => (PHS.out W hW.2.2.2).mono fun e w' ⟨he, hk⟩ => ⟨he, HC12.out _ hk⟩)
        have HV12 : Hid (∀ W, (W.cell? ⟨bs, 0, none⟩ = some (.int .i64 ms) ∧ W.cell? ⟨bs, 1, none⟩ = some (.string Ts) ∧ W.cell? ⟨bl, 0, none⟩ = some (.slice (some ⟨g0.1, 0, none⟩) (ln xss 0) g0.2) ∧ PK W) → Calls Tryz.prog 20 #[sg ms Ts] W fun e w' => e = .returned (.bool cv) ∧ w'.cell? ⟨bs, 0, none⟩ = some (.int .i64 ms) ∧ w'.cell? ⟨bs, 1, none⟩ = some (.string Ts) ∧ w'.cell? ⟨bl, 0, none⟩ = some (.slice (some ⟨g0.1, 0, none⟩) (ln xss 0) g0.2) ∧ PK w') := Lib.hid (fun W hW => (PCV.out W hW.2.2.2).mono fun e w' ⟨he, hk⟩ => ⟨he, HC12.out _ hk⟩)
        have hl0n : ln xss 0 = zs.length := by omega
        rw [hl0n] at HC12 HS12 HV12
        have i0 : (0 : Int) < (xss.length : Int) := by omega
        have i0n : 0 < xss.length := by omega
        have b1 : decide ((zs.length : Int) < 3) = false := decide_eq_false (by omega)
        have b2 : ((zs.length : Int) != (zs.length : Int)) = false := by simp
        have b3 : ((xss.length : Int) == 0) = false := beq_eq_false_iff_ne.2 (by omega)
        have b4 : ((zs.length : Int) == (ms : Int)) = cv := hcvx.symm
        have b5 : (cv != cv) = false := by simp
        obtain ⟨x0, x1, x2, -⟩ := HC12.out _ K10.out
        clear hcvx hl0 hl0n
        go_upto_region 12 with fail
        go_cut [128] (fun cv wx => cv = .bool false ∧ Hid (PK wx))
        case first =>
          as_aux_lemma =>
          refine wp_region_held (S := fun W => W.cell? ⟨bs, 0, none⟩ = some (.int .i64 ms) ∧ W.cell? ⟨bs, 1, none⟩ = some (.string Ts) ∧ W.cell? ⟨bl, 0, none⟩ = some (.slice (some ⟨g0.1, 0, none⟩) zs.length g0.2) ∧ PK W) rfl ?_
          have hHeld := (HC12.out _ (HDR.out _ K10.out))
          (refine Held.takeH (i := 0) (k := 95) (v := ?_) rfl (by as_aux_lemma => kernel_rfl) (by as_aux_lemma => kernel_rfl) (by as_aux_lemma => kernel_rfl) (by as_aux_lemma => kernel_rfl) (fun _ _ _ h => h) (Or.inl ⟨by rfl, ?_⟩) (by assumption) ?_; rotate_left; (focus (intro w hSw; (try dsimp only at hSw); go_simp; (try with_reducible rfl))); (simp only [List.setIfInBounds_toArray, List.set_cons_zero, List.set_cons_succ]))
          (refine Held.takeH (i := 1) (k := 96) (v := ?_) rfl (by as_aux_lemma => kernel_rfl) (by as_aux_lemma => kernel_rfl) (by as_aux_lemma => kernel_rfl) (by as_aux_lemma => kernel_rfl) (fun _ _ _ h => h) (Or.inl ⟨by rfl, ?_⟩) (by assumption) ?_; rotate_left; (focus (intro w hSw; (try dsimp only at hSw); go_simp; (try with_reducible rfl))); (simp only [List.setIfInBounds_toArray, List.set_cons_zero, List.set_cons_succ]))
          (refine Held.takeH (i := 2) (k := 97) (v := .bool false) rfl (by as_aux_lemma => kernel_rfl) (by as_aux_lemma => kernel_rfl) (by as_aux_lemma => kernel_rfl) (by as_aux_lemma => kernel_rfl) (fun _ _ _ h => h) (Or.inl ⟨by rfl, ?_⟩) (by assumption) ?_; (focus (intro w hSw; (try dsimp only at hSw); go_simp; (try rfl))); (simp only [List.setIfInBounds_toArray, List.set_cons_zero, List.set_cons_succ]))
          (refine Held.takeH (i := 3) (k := 98) (v := .bool false) rfl (by as_aux_lemma => kernel_rfl) (by as_aux_lemma => kernel_rfl) (by as_aux_lemma => kernel_rfl) (by as_aux_lemma => kernel_rfl) (fun _ _ _ h => h) (Or.inl ⟨by rfl, ?_⟩) (by assumption) ?_; (focus (intro w hSw; (try dsimp only at hSw); go_simp; (try rfl))); (simp only [List.setIfInBounds_toArray, List.set_cons_zero, List.set_cons_succ]))
          (refine Held.takeH (i := 4) (k := 99) (v := ?_) rfl (by as_aux_lemma => kernel_rfl) (by as_aux_lemma => kernel_rfl) (by as_aux_lemma => kernel_rfl) (by as_aux_lemma => kernel_rfl) (fun _ _ _ h => h) (Or.inl ⟨by rfl, ?_⟩) (by assumption) ?_; rotate_left; (focus (intro w hSw; (try dsimp only at hSw); go_simp; (try with_reducible rfl))); (simp only [List.setIfInBounds_toArray, List.set_cons_zero, List.set_cons_succ]))
          (refine Held.takeH (i := 5) (k := 100) (v := ?_) rfl (by as_aux_lemma => kernel_rfl) (by as_aux_lemma => kernel_rfl) (by as_aux_lemma => kernel_rfl) (by as_aux_lemma => kernel_rfl) (fun _ _ _ h => h) (Or.inl ⟨by rfl, ?_⟩) (by assumption) ?_; rotate_left; (focus (intro w hSw; (try dsimp only at hSw); go_simp; (try with_reducible rfl))); (simp only [List.setIfInBounds_toArray, List.set_cons_zero, List.set_cons_succ]))
          (refine Held.takeH (i := 6) (k := 101) (v := ?_) rfl (by as_aux_lemma => kernel_rfl) (by as_aux_lemma => kernel_rfl) (by as_aux_lemma => kernel_rfl) (by as_aux_lemma => kernel_rfl) (fun _ _ _ h => h) (Or.inl ⟨by rfl, ?_⟩) (by assumption) ?_; rotate_left; (focus (intro w hSw; (try dsimp only at hSw); go_simp; (try with_reducible rfl))); (simp only [List.setIfInBounds_toArray, List.set_cons_zero, List.set_cons_succ]))
          refine wpAnyH_ready (rs := [7]) (by as_aux_lemma => kernel_rfl) (by simp) ?_
          refine AllReadyH.cons rfl (fun K hK => ?_) AllReadyH.nil
          go_simp
          refine (HS12.out _ hHeld).mono ?_
          rintro e' w' ⟨rfl, hS'⟩
          refine hK.out _ _ hS' (fun hHeld => ?_)
          clear hK K
          try simp only [Act.put, List.setIfInBounds_toArray, List.set_cons_zero, List.set_cons_succ]
          (refine Held.takeH (i := 8) (k := 103) (v := .bool false) rfl (by as_aux_lemma => kernel_rfl) (by as_aux_lemma => kernel_rfl) (by as_aux_lemma => kernel_rfl) (by as_aux_lemma => kernel_rfl) (fun _ _ _ h => h) (Or.inl ⟨by rfl, ?_⟩) (by assumption) ?_; (focus (intro w hSw; (try dsimp only at hSw); go_simp; (try rfl))); (simp only [List.setIfInBounds_toArray, List.set_cons_zero, List.set_cons_succ]))
          (refine Held.takeH (i := 9) (k := 104) (v := .bool false) rfl (by as_aux_lemma => kernel_rfl) (by as_aux_lemma => kernel_rfl) (by as_aux_lemma => kernel_rfl) (by as_aux_lemma => kernel_rfl) (fun _ _ _ h => h) (Or.inl ⟨by rfl, ?_⟩) (by assumption) ?_; (focus (intro w hSw; (try dsimp only at hSw); go_simp; (try rfl))); (simp only [List.setIfInBounds_toArray, List.set_cons_zero, List.set_cons_succ]))
          (refine Held.takeH (i := 10) (k := 105) (v := .bool false) rfl (by as_aux_lemma => kernel_rfl) (by as_aux_lemma => kernel_rfl) (by as_aux_lemma => kernel_rfl) (by as_aux_lemma => kernel_rfl) (fun _ _ _ h => h) (Or.inl ⟨by rfl, ?_⟩) (by assumption) ?_; (focus (intro w hSw; (try dsimp only at hSw); go_simp; (try rfl))); (simp only [List.setIfInBounds_toArray, List.set_cons_zero, List.set_cons_succ]))
          (refine Held.takeH (i := 11) (k := 106) (v := ?_) rfl (by as_aux_lemma => kernel_rfl) (by as_aux_lemma => kernel_rfl) (by as_aux_lemma => kernel_rfl) (by as_aux_lemma => kernel_rfl) (fun _ _ _ h => h) (Or.inl ⟨by rfl, ?_⟩) (by assumption) ?_; rotate_left; (focus (intro w hSw; (try dsimp only at hSw); go_simp; (try with_reducible rfl))); (simp only [List.setIfInBounds_toArray, List.set_cons_zero, List.set_cons_succ]))
          (refine Held.takeH (i := 12) (k := 107) (v := ?_) rfl (by as_aux_lemma => kernel_rfl) (by as_aux_lemma => kernel_rfl) (by as_aux_lemma => kernel_rfl) (by as_aux_lemma => kernel_rfl) (fun _ _ _ h => h) (Or.inl ⟨by rfl, ?_⟩) (by assumption) ?_; rotate_left; (focus (intro w hSw; (try dsimp only at hSw); go_simp; (try with_reducible rfl))); (simp only [List.setIfInBounds_toArray, List.set_cons_zero, List.set_cons_succ]))
          (refine Held.takeH (i := 13) (k := 108) (v := .bool false) rfl (by as_aux_lemma => kernel_rfl) (by as_aux_lemma => kernel_rfl) (by as_aux_lemma => kernel_rfl) (by as_aux_lemma => kernel_rfl) (fun _ _ _ h => h) (Or.inl ⟨by rfl, ?_⟩) (by assumption) ?_; (focus (intro w hSw; (try dsimp only at hSw); go_simp; (try rfl))); (simp only [List.setIfInBounds_toArray, List.set_cons_zero, List.set_cons_succ]))
          (refine Held.takeH (i := 14) (k := 109) (v := .bool false) rfl (by as_aux_lemma => kernel_rfl) (by as_aux_lemma => kernel_rfl) (by as_aux_lemma => kernel_rfl) (by as_aux_lemma => kernel_rfl) (fun _ _ _ h => h) (Or.inl ⟨by rfl, ?_⟩) (by assumption) ?_; (focus (intro w hSw; (try dsimp only at hSw); go_simp; (try rfl))); (simp only [List.setIfInBounds_toArray, List.set_cons_zero, List.set_cons_succ]))
          (refine Held.takeH (i := 15) (k := 110) (v := .bool false) rfl (by as_aux_lemma => kernel_rfl) (by as_aux_lemma => kernel_rfl) (by as_aux_lemma => kernel_rfl) (by as_aux_lemma => kernel_rfl) (fun _ _ _ h => h) (Or.inl ⟨by rfl, ?_⟩) (by assumption) ?_; (focus (intro w hSw; (try dsimp only at hSw); go_simp; (try rfl))); (simp only [List.setIfInBounds_toArray, List.set_cons_zero, List.set_cons_succ]))
          (refine Held.takeH (i := 16) (k := 111) (v := ?_) rfl (by as_aux_lemma => kernel_rfl) (by as_aux_lemma => kernel_rfl) (by as_aux_lemma => kernel_rfl) (by as_aux_lemma => kernel_rfl) (fun _ _ _ h => h) (Or.inl ⟨by rfl, ?_⟩) (by assumption) ?_; rotate_left; (focus (intro w hSw; (try dsimp only at hSw); go_simp; (try with_reducible rfl))); (simp only [List.setIfInBounds_toArray, List.set_cons_zero, List.set_cons_succ]))
          (refine Held.takeH (i := 17) (k := 112) (v := ?_) rfl (by as_aux_lemma => kernel_rfl) (by as_aux_lemma => kernel_rfl) (by as_aux_lemma => kernel_rfl) (by as_aux_lemma => kernel_rfl) (fun _ _ _ h => h) (Or.inl ⟨by rfl, ?_⟩) (by assumption) ?_; rotate_left; (focus (intro w hSw; (try dsimp only at hSw); go_simp; (try with_reducible rfl))); (simp only [List.setIfInBounds_toArray, List.set_cons_zero, List.set_cons_succ]))
          (refine Held.takeH (i := 18) (k := 113) (v := ?_) rfl (by as_aux_lemma => kernel_rfl) (by as_aux_lemma => kernel_rfl) (by as_aux_lemma => kernel_rfl) (by as_aux_lemma => kernel_rfl) (fun _ _ _ h => h) (Or.inl ⟨by rfl, ?_⟩) (by assumption) ?_; rotate_left; (focus (intro w hSw; (try dsimp only at hSw); go_simp; (try with_reducible rfl))); (simp only [List.setIfInBounds_toArray, List.set_cons_zero, List.set_cons_succ]))
          (refine Held.takeH (i := 19) (k := 114) (v := ?_) rfl (by as_aux_lemma => kernel_rfl) (by as_aux_lemma => kernel_rfl) (by as_aux_lemma => kernel_rfl) (by as_aux_lemma => kernel_rfl) (fun _ _ _ h => h) (Or.inl ⟨by rfl, ?_⟩) (by assumption) ?_; rotate_left; (focus (intro w hSw; (try dsimp only at hSw); go_simp; (try with_reducible rfl))); (simp only [List.setIfInBounds_toArray, List.set_cons_zero, List.set_cons_succ]))
          (refine Held.takeH (i := 20) (k := 115) (v := ?_) rfl (by as_aux_lemma => kernel_rfl) (by as_aux_lemma => kernel_rfl) (by as_aux_lemma => kernel_rfl) (by as_aux_lemma => kernel_rfl) (fun _ _ _ h => h) (Or.inl ⟨by rfl, ?_⟩) (by assumption) ?_; rotate_left; (focus (intro w hSw; (try dsimp only at hSw); go_simp; (try with_reducible rfl))); (simp only [List.setIfInBounds_toArray, List.set_cons_zero, List.set_cons_succ]))
          (refine Held.takeH (i := 21) (k := 116) (v := ?_) rfl (by as_aux_lemma => kernel_rfl) (by as_aux_lemma => kernel_rfl) (by as_aux_lemma => kernel_rfl) (by as_aux_lemma => kernel_rfl) (fun _ _ _ h => h) (Or.inl ⟨by rfl, ?_⟩) (by assumption) ?_; rotate_left; (focus (intro w hSw; (try dsimp only at hSw); go_simp; (try with_reducible rfl))); (simp only [List.setIfInBounds_toArray, List.set_cons_zero, List.set_cons_succ]))
          (refine Held.takeH (i := 22) (k := 117) (v := .bool false) rfl (by as_aux_lemma => kernel_rfl) (by as_aux_lemma => kernel_rfl) (by as_aux_lemma => kernel_rfl) (by as_aux_lemma => kernel_rfl) (fun _ _ _ h => h) (Or.inl ⟨by rfl, ?_⟩) (by assumption) ?_; (focus (intro w hSw; (try dsimp only at hSw); go_simp; (try rfl))); (simp only [List.setIfInBounds_toArray, List.set_cons_zero, List.set_cons_succ]))
          (refine Held.takeH (i := 23) (k := 118) (v := .bool false) rfl (by as_aux_lemma => kernel_rfl) (by as_aux_lemma => kernel_rfl) (by as_aux_lemma => kernel_rfl) (by as_aux_lemma => kernel_rfl) (fun _ _ _ h => h) (Or.inl ⟨by rfl, ?_⟩) (by assumption) ?_; (focus (intro w hSw; (try dsimp only at hSw); go_simp; (try rfl))); (simp only [List.setIfInBounds_toArray, List.set_cons_zero, List.set_cons_succ]))
          (refine Held.takeH (i := 24) (k := 119) (v := .bool false) rfl (by as_aux_lemma => kernel_rfl) (by as_aux_lemma => kernel_rfl) (by as_aux_lemma => kernel_rfl) (by as_aux_lemma => kernel_rfl) (fun _ _ _ h => h) (Or.inl ⟨by rfl, ?_⟩) (by assumption) ?_; (focus (intro w hSw; (try dsimp only at hSw); go_simp; (try rfl))); (simp only [List.setIfInBounds_toArray, List.set_cons_zero, List.set_cons_succ]))
          (refine Held.takeH (i := 25) (k := 120) (v := ?_) rfl (by as_aux_lemma => kernel_rfl) (by as_aux_lemma => kernel_rfl) (by as_aux_lemma => kernel_rfl) (by as_aux_lemma => kernel_rfl) (fun _ _ _ h => h) (Or.inl ⟨by rfl, ?_⟩) (by assumption) ?_; rotate_left; (focus (intro w hSw; (try dsimp only at hSw); go_simp; (try with_reducible rfl))); (simp only [List.setIfInBounds_toArray, List.set_cons_zero, List.set_cons_succ]))
          (refine Held.takeH (i := 27) (k := 122) (v := ?_) rfl (by as_aux_lemma => kernel_rfl) (by as_aux_lemma => kernel_rfl) (by as_aux_lemma => kernel_rfl) (by as_aux_lemma => kernel_rfl) (fun _ _ _ h => h) (Or.inl ⟨by rfl, ?_⟩) (by assumption) ?_; rotate_left; (focus (intro w hSw; (try dsimp only at hSw); go_simp; (try with_reducible rfl))); (simp only [List.setIfInBounds_toArray, List.set_cons_zero, List.set_cons_succ]))
          (refine Held.takeH (i := 28) (k := 123) (v := ?_) rfl (by as_aux_lemma => kernel_rfl) (by as_aux_lemma => kernel_rfl) (by as_aux_lemma => kernel_rfl) (by as_aux_lemma => kernel_rfl) (fun _ _ _ h => h) (Or.inl ⟨by rfl, ?_⟩) (by assumption) ?_; rotate_left; (focus (intro w hSw; (try dsimp only at hSw); go_simp; (try with_reducible rfl))); (simp only [List.setIfInBounds_toArray, List.set_cons_zero, List.set_cons_succ]))
          (refine Held.takeH (i := 29) (k := 124) (v := ?_) rfl (by as_aux_lemma => kernel_rfl) (by as_aux_lemma => kernel_rfl) (by as_aux_lemma => kernel_rfl) (by as_aux_lemma => kernel_rfl) (fun _ _ _ h => h) (Or.inl ⟨by rfl, ?_⟩) (by assumption) ?_; rotate_left; (focus (intro w hSw; (try dsimp only at hSw); go_simp; (try with_reducible rfl))); (simp only [List.setIfInBounds_toArray, List.set_cons_zero, List.set_cons_succ]))
          (refine Held.takeH (i := 30) (k := 125) (v := ?_) rfl (by as_aux_lemma => kernel_rfl) (by as_aux_lemma => kernel_rfl) (by as_aux_lemma => kernel_rfl) (by as_aux_lemma => kernel_rfl) (fun _ _ _ h => h) (Or.inl ⟨by rfl, ?_⟩) (by assumption) ?_; rotate_left; (focus (intro w hSw; (try dsimp only at hSw); go_simp; (try with_reducible rfl))); (simp only [List.setIfInBounds_toArray, List.set_cons_zero, List.set_cons_succ]))
          (refine Held.takeH (i := 31) (k := 126) (v := .bool cv) rfl (by as_aux_lemma => kernel_rfl) (by as_aux_lemma => kernel_rfl) (by as_aux_lemma => kernel_rfl) (by as_aux_lemma => kernel_rfl) (fun _ _ _ h => h) (Or.inl ⟨by rfl, ?_⟩) (by assumption) ?_; (focus (intro w hSw; (try dsimp only at hSw); go_simp; (try rfl))); (simp only [List.setIfInBounds_toArray, List.set_cons_zero, List.set_cons_succ]))
          refine wpAnyH_ready (rs := [26]) (by as_aux_lemma => kernel_rfl) (by simp) ?_
          refine AllReadyH.cons rfl (fun K hK => ?_) AllReadyH.nil
          go_simp
          refine (HV12.out _ hHeld).mono ?_
          rintro e' w' ⟨rfl, hS'⟩
          refine hK.out _ _ hS' (fun hHeld => ?_)
          clear hK K
          try simp only [Act.put, List.setIfInBounds_toArray, List.set_cons_zero, List.set_cons_succ]
          (refine Held.takeH (i := 32) (k := 127) (v := .bool false) rfl (by as_aux_lemma => kernel_rfl) (by as_aux_lemma => kernel_rfl) (by as_aux_lemma => kernel_rfl) (by as_aux_lemma => kernel_rfl) (fun _ _ _ h => h) (Or.inl ⟨by rfl, ?_⟩) (by assumption) ?_; (focus (intro w hSw; (try dsimp only at hSw); go_simp; (try rfl))); (simp only [List.setIfInBounds_toArray, List.set_cons_zero, List.set_cons_succ]))
          (refine Held.takeH (i := 33) (k := 128) (v := .bool false) rfl (by as_aux_lemma => kernel_rfl) (by as_aux_lemma => kernel_rfl) (by as_aux_lemma => kernel_rfl) (by as_aux_lemma => kernel_rfl) (fun _ _ _ h => h) (Or.inl ⟨by rfl, ?_⟩) (by assumption) ?_; (focus (intro w hSw; (try dsimp only at hSw); go_simp; (try rfl))); (simp only [List.setIfInBounds_toArray, List.set_cons_zero, List.set_cons_succ]))
          refine wpAnyH_done (by as_aux_lemma => kernel_rfl) ?_ _
          go_wp2_with fail
          go_meet
          exact ⟨rfl, Lib.hid hHeld.2.2.2⟩
        case rest =>
          obtain ⟨rfl, K12⟩ := hcut
          clear K10 HC12 HS12 HV12 b1 b2 b3 b4 b5 i0 i0n x0 x1 x2 PHS PCV hg0
          -- every element of the hull
          obtain ⟨bh, rfl, -, -⟩ := (HNZ.out _ K12.out).get 0 (by omega)
          have HZC : Hid (∀ k, k < zs.length → ∀ W, PK W → W.cell? ⟨bh, k, none⟩ = some (zc zs k)) := Lib.hid (fun k hk W hW => by
            obtain ⟨b2, e2, -, h3⟩ := (HNZ.out W hW).get k hk
            injection e2 with e2
            injection e2 with e2
            subst e2
            rw [h3, zc_lt hk])
          go_wp2_with fail
          go_loopw [11] (fun c wr => ∃ k : Nat, k ≤ zs.length ∧ c = .int .i64 k ∧ Hid (PK wr)) (fun c _ => zs.length - (intOf c).toNat)
          case atStart => exact ⟨0, Nat.zero_le _, rfl, K12⟩
          case round =>
            obtain ⟨kk, hk, rfl, K20⟩ := hrel
            by_cases hlt : kk < zs.length
            · obtain ⟨a, b, f, ea, eb', ef, hext, ha, hb, hab, hlc, hfa⟩ := HROW.out kk hlt
              have hnl : (kk + 1) % zs.length < zs.length := Nat.mod_lt _ (by omega)
              obtain ⟨nx, hnx⟩ : ∃ nx, nx = (kk + 1) % zs.length := ⟨_, rfl⟩
              rw [← hnx] at eb' hnl
              have HC17 : Hid (∀ W, PK W → W.cell? ⟨bs, 0, none⟩ = some (.int .i64 ms) ∧ W.cell? ⟨bs, 1, none⟩ = some (.string Ts) ∧ W.cell? ⟨bh, kk, none⟩ = some (.int .i64 a) ∧ W.cell? ⟨bh, nx, none⟩ = some (.int .i64 b) ∧ W.cell? ⟨bh, 0, none⟩ = some (.int .i64 f) ∧ PK W) := Lib.hid (fun W hW => ⟨(HCs.out W hW).1, (HCs.out W hW).2.1, by rw [HZC.out kk hlt W hW, ea], by rw [HZC.out nx hnl W hW, eb'], by rw [HZC.out 0 (by omega) W hW, ef], hW⟩)
              have HE17 : Hid (∀ W, (W.cell? ⟨bs, 0, none⟩ = some (.int .i64 ms) ∧ W.cell? ⟨bs, 1, none⟩ = some (.string Ts) ∧ W.cell? ⟨bh, kk, none⟩ = some (.int .i64 a) ∧ W.cell? ⟨bh, nx, none⟩ = some (.int .i64 b) ∧ W.cell? ⟨bh, 0, none⟩ = some (.int .i64 f) ∧ PK W) → Calls Tryz.prog 14 #[sg ms Ts, .int .i64 a] W fun e w' => e = .returned (.bool true) ∧ w'.cell? ⟨bs, 0, none⟩ = some (.int .i64 ms) ∧ w'.cell? ⟨bs, 1, none⟩ = some (.string Ts) ∧ w'.cell? ⟨bh, kk, none⟩ = some (.int .i64 a) ∧ w'.cell? ⟨bh, nx, none⟩ = some (.int .i64 b) ∧ w'.cell? ⟨bh, 0, none⟩ = some (.int .i64 f) ∧ PK w') := Lib.hid (fun W hW => (PEX.out a hext W hW.2.2.2.2.2).mono fun e w' ⟨he, hk⟩ => ⟨he, HC17.out _ hk⟩)
              have HL17 : Hid (∀ W, (W.cell? ⟨bs, 0, none⟩ = some (.int .i64 ms) ∧ W.cell? ⟨bs, 1, none⟩ = some (.string Ts) ∧ W.cell? ⟨bh, kk, none⟩ = some (.int .i64 a) ∧ W.cell? ⟨bh, nx, none⟩ = some (.int .i64 b) ∧ W.cell? ⟨bh, 0, none⟩ = some (.int .i64 f) ∧ PK W) → Calls Tryz.prog 23 #[sg ms Ts, .int .i64 a, .int .i64 b] W fun e w' => e = .returned (.int .i64 ((ms - 2 : Nat) : Int)) ∧ w'.cell? ⟨bs, 0, none⟩ = some (.int .i64 ms) ∧ w'.cell? ⟨bs, 1, none⟩ = some (.string Ts) ∧ w'.cell? ⟨bh, kk, none⟩ = some (.int .i64 a) ∧ w'.cell? ⟨bh, nx, none⟩ = some (.int .i64 b) ∧ w'.cell? ⟨bh, 0, none⟩ = some (.int .i64 f) ∧ PK w') := Lib.hid (fun W hW => (PLC2.out a b ha hb hab hlc W hW.2.2.2.2.2).mono fun e w' ⟨he, hk⟩ => ⟨he, HC17.out _ hk⟩)
              have i1 : (0 : Int) ≤ (kk : Int) ∧ (kk : Int) < (zs.length : Int) := by omega
              have i2 : (0 : Int) ≤ (nx : Int) ∧ (nx : Int) < (zs.length : Int) := by omega
              have i3 : (0 : Int) < (zs.length : Int) := by omega
              have i3n : 0 < zs.length := by omega
              have r1 : IntKind.i64.wrap ((kk : Int) + 1) = ((kk + 1 : Nat) : Int) := by rw [IntWalk.i64_in _ (by omega)]; omega
              have r2 : ((kk + 1 : Nat) : Int).tmod (zs.length : Int) = (nx : Int) := by rw [hnx]; rfl
              have r2' : ((kk : Int) + 1).tmod (zs.length : Int) = (nx : Int) := by rw [hnx]; rfl
              have hzne : zs ≠ [] := fun e => by rw [e] at i3n; exact absurd i3n (by simp)
              have r3 : ((zs.length : Int) == 0) = false := beq_eq_false_iff_ne.2 (by omega)
              have r4 : IntKind.i64.wrap ((ms : Int) - 2) = ((ms - 2 : Nat) : Int) := by rw [IntWalk.i64_in _ (by omega)]; omega
              have r5 : (((ms - 2 : Nat) : Int) != ((ms - 2 : Nat) : Int)) = false := by simp
              have r6 : decide ((a : Int) < (f : Int)) = false := decide_eq_false (by omega)
              have r7 : decide (a < f) = false := decide_eq_false (by omega)
              generalize hm2 : ms - 2 = m2 at HL17 r4 r5
              obtain ⟨x0, x1, x2, x3, x4, -⟩ := HC17.out _ K20.out
              clear ea eb' ef hext ha hb hab hlc hfa hnx hm2 hnl
              go_upto_region 17 with fail
              go_cut [171] (fun cv wx => cv = .bool false ∧ Hid (PK wx))
              case first =>
                as_aux_lemma =>
                refine wp_region_held (S := fun W => W.cell? ⟨bs, 0, none⟩ = some (.int .i64 ms) ∧ W.cell? ⟨bs, 1, none⟩ = some (.string Ts) ∧ W.cell? ⟨bh, kk, none⟩ = some (.int .i64 a) ∧ W.cell? ⟨bh, nx, none⟩ = some (.int .i64 b) ∧ W.cell? ⟨bh, 0, none⟩ = some (.int .i64 f) ∧ PK W) rfl ?_
                have hHeld := (HC17.out _ (HDR.out _ K20.out))
                (refine Held.takeH (i := 0) (k := 135) (v := ?_) rfl (by as_aux_lemma => kernel_rfl) (by as_aux_lemma => kernel_rfl) (by as_aux_lemma => kernel_rfl) (by as_aux_lemma => kernel_rfl) (fun _ _ _ h => h) (Or.inl ⟨by rfl, ?_⟩) (by assumption) ?_; rotate_left; (focus (intro w hSw; (try dsimp only at hSw); go_simp; (try with_reducible rfl))); (simp only [List.setIfInBounds_toArray, List.set_cons_zero, List.set_cons_succ]))
                (refine Held.takeH (i := 1) (k := 136) (v := ?_) rfl (by as_aux_lemma => kernel_rfl) (by as_aux_lemma => kernel_rfl) (by as_aux_lemma => kernel_rfl) (by as_aux_lemma => kernel_rfl) (fun _ _ _ h => h) (Or.inl ⟨by rfl, ?_⟩) (by assumption) ?_; rotate_left; (focus (intro w hSw; (try dsimp only at hSw); go_simp; (try with_reducible rfl))); (simp only [List.setIfInBounds_toArray, List.set_cons_zero, List.set_cons_succ]))
                (refine Held.takeH (i := 2) (k := 137) (v := ?_) rfl (by as_aux_lemma => kernel_rfl) (by as_aux_lemma => kernel_rfl) (by as_aux_lemma => kernel_rfl) (by as_aux_lemma => kernel_rfl) (fun _ _ _ h => h) (Or.inl ⟨by rfl, ?_⟩) (by assumption) ?_; rotate_left; (focus (intro w hSw; (try dsimp only at hSw); go_simp; (try with_reducible rfl))); (simp only [List.setIfInBounds_toArray, List.set_cons_zero, List.set_cons_succ]))
                (refine Held.takeH (i := 3) (k := 138) (v := ?_) rfl (by as_aux_lemma => kernel_rfl) (by as_aux_lemma => kernel_rfl) (by as_aux_lemma => kernel_rfl) (by as_aux_lemma => kernel_rfl) (fun _ _ _ h => h) (Or.inl ⟨by rfl, ?_⟩) (by assumption) ?_; rotate_left; (focus (intro w hSw; (try dsimp only at hSw); go_simp; (try with_reducible rfl))); (simp only [List.setIfInBounds_toArray, List.set_cons_zero, List.set_cons_succ]))
                (refine Held.takeH (i := 4) (k := 139) (v := ?_) rfl (by as_aux_lemma => kernel_rfl) (by as_aux_lemma => kernel_rfl) (by as_aux_lemma => kernel_rfl) (by as_aux_lemma => kernel_rfl) (fun _ _ _ h => h) (Or.inl ⟨by rfl, ?_⟩) (by assumption) ?_; rotate_left; (focus (intro w hSw; (try dsimp only at hSw); go_simp; (try with_reducible rfl))); (simp only [List.setIfInBounds_toArray, List.set_cons_zero, List.set_cons_succ]))
                refine wpAnyH_ready (rs := [5]) (by as_aux_lemma => kernel_rfl) (by simp) ?_
                refine AllReadyH.cons rfl (fun K hK => ?_) AllReadyH.nil
                go_simp
                refine (HE17.out _ hHeld).mono ?_
                rintro e' w' ⟨rfl, hS'⟩
                refine hK.out _ _ hS' (fun hHeld => ?_)
                clear hK K
                try simp only [Act.put, List.setIfInBounds_toArray, List.set_cons_zero, List.set_cons_succ]
                (refine Held.takeH (i := 6) (k := 141) (v := .bool false) rfl (by as_aux_lemma => kernel_rfl) (by as_aux_lemma => kernel_rfl) (by as_aux_lemma => kernel_rfl) (by as_aux_lemma => kernel_rfl) (fun _ _ _ h => h) (Or.inl ⟨by rfl, ?_⟩) (by assumption) ?_; (focus (intro w hSw; (try dsimp only at hSw); go_simp; (try rfl))); (simp only [List.setIfInBounds_toArray, List.set_cons_zero, List.set_cons_succ]))
                (refine Held.takeH (i := 7) (k := 142) (v := .bool false) rfl (by as_aux_lemma => kernel_rfl) (by as_aux_lemma => kernel_rfl) (by as_aux_lemma => kernel_rfl) (by as_aux_lemma => kernel_rfl) (fun _ _ _ h => h) (Or.inl ⟨by rfl, ?_⟩) (by assumption) ?_; (focus (intro w hSw; (try dsimp only at hSw); go_simp; (try rfl))); (simp only [List.setIfInBounds_toArray, List.set_cons_zero, List.set_cons_succ]))
                (refine Held.takeH (i := 8) (k := 143) (v := ?_) rfl (by as_aux_lemma => kernel_rfl) (by as_aux_lemma => kernel_rfl) (by as_aux_lemma => kernel_rfl) (by as_aux_lemma => kernel_rfl) (fun _ _ _ h => h) (Or.inl ⟨by rfl, ?_⟩) (by assumption) ?_; rotate_left; (focus (intro w hSw; (try dsimp only at hSw); go_simp; (try with_reducible rfl))); (simp only [List.setIfInBounds_toArray, List.set_cons_zero, List.set_cons_succ]))
                (refine Held.takeH (i := 9) (k := 144) (v := ?_) rfl (by as_aux_lemma => kernel_rfl) (by as_aux_lemma => kernel_rfl) (by as_aux_lemma => kernel_rfl) (by as_aux_lemma => kernel_rfl) (fun _ _ _ h => h) (Or.inl ⟨by rfl, ?_⟩) (by assumption) ?_; rotate_left; (focus (intro w hSw; (try dsimp only at hSw); go_simp; (try with_reducible rfl))); (simp only [List.setIfInBounds_toArray, List.set_cons_zero, List.set_cons_succ]))
                (refine Held.takeH (i := 10) (k := 145) (v := ?_) rfl (by as_aux_lemma => kernel_rfl) (by as_aux_lemma => kernel_rfl) (by as_aux_lemma => kernel_rfl) (by as_aux_lemma => kernel_rfl) (fun _ _ _ h => h) (Or.inl ⟨by rfl, ?_⟩) (by assumption) ?_; rotate_left; (focus (intro w hSw; (try dsimp only at hSw); go_simp; (try with_reducible rfl))); (simp only [List.setIfInBounds_toArray, List.set_cons_zero, List.set_cons_succ]))
                (refine Held.takeH (i := 11) (k := 146) (v := ?_) rfl (by as_aux_lemma => kernel_rfl) (by as_aux_lemma => kernel_rfl) (by as_aux_lemma => kernel_rfl) (by as_aux_lemma => kernel_rfl) (fun _ _ _ h => h) (Or.inl ⟨by rfl, ?_⟩) (by assumption) ?_; rotate_left; (focus (intro w hSw; (try dsimp only at hSw); go_simp; (try with_reducible rfl))); (simp only [List.setIfInBounds_toArray, List.set_cons_zero, List.set_cons_succ]))
                (refine Held.takeH (i := 12) (k := 147) (v := ?_) rfl (by as_aux_lemma => kernel_rfl) (by as_aux_lemma => kernel_rfl) (by as_aux_lemma => kernel_rfl) (by as_aux_lemma => kernel_rfl) (fun _ _ _ h => h) (Or.inl ⟨by rfl, ?_⟩) (by assumption) ?_; rotate_left; (focus (intro w hSw; (try dsimp only at hSw); go_simp; (try with_reducible rfl))); (simp only [List.setIfInBounds_toArray, List.set_cons_zero, List.set_cons_succ]))
                (refine Held.takeH (i := 13) (k := 148) (v := ?_) rfl (by as_aux_lemma => kernel_rfl) (by as_aux_lemma => kernel_rfl) (by as_aux_lemma => kernel_rfl) (by as_aux_lemma => kernel_rfl) (fun _ _ _ h => h) (Or.inl ⟨by rfl, ?_⟩) (by assumption) ?_; rotate_left; (focus (intro w hSw; (try dsimp only at hSw); go_simp; (try with_reducible rfl))); (simp only [List.setIfInBounds_toArray, List.set_cons_zero, List.set_cons_succ]))
                (refine Held.takeH (i := 14) (k := 149) (v := ?_) rfl (by as_aux_lemma => kernel_rfl) (by as_aux_lemma => kernel_rfl) (by as_aux_lemma => kernel_rfl) (by as_aux_lemma => kernel_rfl) (fun _ _ _ h => h) (Or.inl ⟨by rfl, ?_⟩) (by assumption) ?_; rotate_left; (focus (intro w hSw; (try dsimp only at hSw); go_simp; (try with_reducible rfl))); (simp only [List.setIfInBounds_toArray, List.set_cons_zero, List.set_cons_succ]))
                (refine Held.takeH (i := 15) (k := 150) (v := .int .i64 ((kk + 1 : Nat) : Int)) rfl (by as_aux_lemma => kernel_rfl) (by as_aux_lemma => kernel_rfl) (by as_aux_lemma => kernel_rfl) (by as_aux_lemma => kernel_rfl) (fun _ _ _ h => h) (Or.inl ⟨by rfl, ?_⟩) (by assumption) ?_; (focus (intro w hSw; (try dsimp only at hSw); go_simp; (try rfl))); (simp only [List.setIfInBounds_toArray, List.set_cons_zero, List.set_cons_succ]))
                (refine Held.takeH (i := 16) (k := 151) (v := ?_) rfl (by as_aux_lemma => kernel_rfl) (by as_aux_lemma => kernel_rfl) (by as_aux_lemma => kernel_rfl) (by as_aux_lemma => kernel_rfl) (fun _ _ _ h => h) (Or.inl ⟨by rfl, ?_⟩) (by assumption) ?_; rotate_left; (focus (intro w hSw; (try dsimp only at hSw); go_simp; (try with_reducible rfl))); (simp only [List.setIfInBounds_toArray, List.set_cons_zero, List.set_cons_succ]))
                (refine Held.takeH (i := 17) (k := 152) (v := ?_) rfl (by as_aux_lemma => kernel_rfl) (by as_aux_lemma => kernel_rfl) (by as_aux_lemma => kernel_rfl) (by as_aux_lemma => kernel_rfl) (fun _ _ _ h => h) (Or.inl ⟨by rfl, ?_⟩) (by assumption) ?_; rotate_left; (focus (intro w hSw; (try dsimp only at hSw); go_simp; (try with_reducible rfl))); (simp only [List.setIfInBounds_toArray, List.set_cons_zero, List.set_cons_succ]))
                (refine Held.takeH (i := 18) (k := 153) (v := .int .i64 (nx : Nat)) rfl (by as_aux_lemma => kernel_rfl) (by as_aux_lemma => kernel_rfl) (by as_aux_lemma => kernel_rfl) (by as_aux_lemma => kernel_rfl) (fun _ _ _ h => h) (Or.inl ⟨by rfl, ?_⟩) (by assumption) ?_; (focus (intro w hSw; (try dsimp only at hSw); go_simp; (try rfl))); (simp only [List.setIfInBounds_toArray, List.set_cons_zero, List.set_cons_succ]))
                (refine Held.takeH (i := 19) (k := 154) (v := ?_) rfl (by as_aux_lemma => kernel_rfl) (by as_aux_lemma => kernel_rfl) (by as_aux_lemma => kernel_rfl) (by as_aux_lemma => kernel_rfl) (fun _ _ _ h => h) (Or.inl ⟨by rfl, ?_⟩) (by assumption) ?_; rotate_left; (focus (intro w hSw; (try dsimp only at hSw); go_simp; (try with_reducible rfl))); (simp only [List.setIfInBounds_toArray, List.set_cons_zero, List.set_cons_succ]))
                (refine Held.takeH (i := 20) (k := 155) (v := ?_) rfl (by as_aux_lemma => kernel_rfl) (by as_aux_lemma => kernel_rfl) (by as_aux_lemma => kernel_rfl) (by as_aux_lemma => kernel_rfl) (fun _ _ _ h => h) (Or.inl ⟨by rfl, ?_⟩) (by assumption) ?_; rotate_left; (focus (intro w hSw; (try dsimp only at hSw); go_simp; (try with_reducible rfl))); (simp only [List.setIfInBounds_toArray, List.set_cons_zero, List.set_cons_succ]))
                (refine Held.takeH (i := 22) (k := 157) (v := ?_) rfl (by as_aux_lemma => kernel_rfl) (by as_aux_lemma => kernel_rfl) (by as_aux_lemma => kernel_rfl) (by as_aux_lemma => kernel_rfl) (fun _ _ _ h => h) (Or.inl ⟨by rfl, ?_⟩) (by assumption) ?_; rotate_left; (focus (intro w hSw; (try dsimp only at hSw); go_simp; (try with_reducible rfl))); (simp only [List.setIfInBounds_toArray, List.set_cons_zero, List.set_cons_succ]))
                (refine Held.takeH (i := 23) (k := 158) (v := ?_) rfl (by as_aux_lemma => kernel_rfl) (by as_aux_lemma => kernel_rfl) (by as_aux_lemma => kernel_rfl) (by as_aux_lemma => kernel_rfl) (fun _ _ _ h => h) (Or.inl ⟨by rfl, ?_⟩) (by assumption) ?_; rotate_left; (focus (intro w hSw; (try dsimp only at hSw); go_simp; (try with_reducible rfl))); (simp only [List.setIfInBounds_toArray, List.set_cons_zero, List.set_cons_succ]))
                (refine Held.takeH (i := 24) (k := 159) (v := .int .i64 (m2 : Nat)) rfl (by as_aux_lemma => kernel_rfl) (by as_aux_lemma => kernel_rfl) (by as_aux_lemma => kernel_rfl) (by as_aux_lemma => kernel_rfl) (fun _ _ _ h => h) (Or.inl ⟨by rfl, ?_⟩) (by assumption) ?_; (focus (intro w hSw; (try dsimp only at hSw); go_simp; (try rfl))); (simp only [List.setIfInBounds_toArray, List.set_cons_zero, List.set_cons_succ]))
                refine wpAnyH_ready (rs := [21]) (by as_aux_lemma => kernel_rfl) (by simp) ?_
                refine AllReadyH.cons rfl (fun K hK => ?_) AllReadyH.nil
                go_simp
                refine (HL17.out _ hHeld).mono ?_
                rintro e' w' ⟨rfl, hS'⟩
                refine hK.out _ _ hS' (fun hHeld => ?_)
                clear hK K
                try simp only [Act.put, List.setIfInBounds_toArray, List.set_cons_zero, List.set_cons_succ]
                (refine Held.takeH (i := 25) (k := 160) (v := .bool false) rfl (by as_aux_lemma => kernel_rfl) (by as_aux_lemma => kernel_rfl) (by as_aux_lemma => kernel_rfl) (by as_aux_lemma => kernel_rfl) (fun _ _ _ h => h) (Or.inl ⟨by rfl, ?_⟩) (by assumption) ?_; (focus (intro w hSw; (try dsimp only at hSw); go_simp; (try rfl))); (simp only [List.setIfInBounds_toArray, List.set_cons_zero, List.set_cons_succ]))
                (refine Held.takeH (i := 26) (k := 161) (v := .bool false) rfl (by as_aux_lemma => kernel_rfl) (by as_aux_lemma => kernel_rfl) (by as_aux_lemma => kernel_rfl) (by as_aux_lemma => kernel_rfl) (fun _ _ _ h => h) (Or.inl ⟨by rfl, ?_⟩) (by assumption) ?_; (focus (intro w hSw; (try dsimp only at hSw); go_simp; (try rfl))); (simp only [List.setIfInBounds_toArray, List.set_cons_zero, List.set_cons_succ]))
                (refine Held.takeH (i := 27) (k := 162) (v := .bool false) rfl (by as_aux_lemma => kernel_rfl) (by as_aux_lemma => kernel_rfl) (by as_aux_lemma => kernel_rfl) (by as_aux_lemma => kernel_rfl) (fun _ _ _ h => h) (Or.inl ⟨by rfl, ?_⟩) (by assumption) ?_; (focus (intro w hSw; (try dsimp only at hSw); go_simp; (try rfl))); (simp only [List.setIfInBounds_toArray, List.set_cons_zero, List.set_cons_succ]))
                (refine Held.takeH (i := 28) (k := 163) (v := ?_) rfl (by as_aux_lemma => kernel_rfl) (by as_aux_lemma => kernel_rfl) (by as_aux_lemma => kernel_rfl) (by as_aux_lemma => kernel_rfl) (fun _ _ _ h => h) (Or.inl ⟨by rfl, ?_⟩) (by assumption) ?_; rotate_left; (focus (intro w hSw; (try dsimp only at hSw); go_simp; (try with_reducible rfl))); (simp only [List.setIfInBounds_toArray, List.set_cons_zero, List.set_cons_succ]))
                (refine Held.takeH (i := 29) (k := 164) (v := ?_) rfl (by as_aux_lemma => kernel_rfl) (by as_aux_lemma => kernel_rfl) (by as_aux_lemma => kernel_rfl) (by as_aux_lemma => kernel_rfl) (fun _ _ _ h => h) (Or.inl ⟨by rfl, ?_⟩) (by assumption) ?_; rotate_left; (focus (intro w hSw; (try dsimp only at hSw); go_simp; (try with_reducible rfl))); (simp only [List.setIfInBounds_toArray, List.set_cons_zero, List.set_cons_succ]))
                (refine Held.takeH (i := 30) (k := 165) (v := ?_) rfl (by as_aux_lemma => kernel_rfl) (by as_aux_lemma => kernel_rfl) (by as_aux_lemma => kernel_rfl) (by as_aux_lemma => kernel_rfl) (fun _ _ _ h => h) (Or.inl ⟨by rfl, ?_⟩) (by assumption) ?_; rotate_left; (focus (intro w hSw; (try dsimp only at hSw); go_simp; (try with_reducible rfl))); (simp only [List.setIfInBounds_toArray, List.set_cons_zero, List.set_cons_succ]))
                (refine Held.takeH (i := 31) (k := 166) (v := ?_) rfl (by as_aux_lemma => kernel_rfl) (by as_aux_lemma => kernel_rfl) (by as_aux_lemma => kernel_rfl) (by as_aux_lemma => kernel_rfl) (fun _ _ _ h => h) (Or.inl ⟨by rfl, ?_⟩) (by assumption) ?_; rotate_left; (focus (intro w hSw; (try dsimp only at hSw); go_simp; (try with_reducible rfl))); (simp only [List.setIfInBounds_toArray, List.set_cons_zero, List.set_cons_succ]))
                (refine Held.takeH (i := 32) (k := 167) (v := ?_) rfl (by as_aux_lemma => kernel_rfl) (by as_aux_lemma => kernel_rfl) (by as_aux_lemma => kernel_rfl) (by as_aux_lemma => kernel_rfl) (fun _ _ _ h => h) (Or.inl ⟨by rfl, ?_⟩) (by assumption) ?_; rotate_left; (focus (intro w hSw; (try dsimp only at hSw); go_simp; (try with_reducible rfl))); (simp only [List.setIfInBounds_toArray, List.set_cons_zero, List.set_cons_succ]))
                (refine Held.takeH (i := 33) (k := 168) (v := ?_) rfl (by as_aux_lemma => kernel_rfl) (by as_aux_lemma => kernel_rfl) (by as_aux_lemma => kernel_rfl) (by as_aux_lemma => kernel_rfl) (fun _ _ _ h => h) (Or.inl ⟨by rfl, ?_⟩) (by assumption) ?_; rotate_left; (focus (intro w hSw; (try dsimp only at hSw); go_simp; (try with_reducible rfl))); (simp only [List.setIfInBounds_toArray, List.set_cons_zero, List.set_cons_succ]))
                (refine Held.takeH (i := 34) (k := 169) (v := ?_) rfl (by as_aux_lemma => kernel_rfl) (by as_aux_lemma => kernel_rfl) (by as_aux_lemma => kernel_rfl) (by as_aux_lemma => kernel_rfl) (fun _ _ _ h => h) (Or.inl ⟨by rfl, ?_⟩) (by assumption) ?_; rotate_left; (focus (intro w hSw; (try dsimp only at hSw); go_simp; (try with_reducible rfl))); (simp only [List.setIfInBounds_toArray, List.set_cons_zero, List.set_cons_succ]))
                (refine Held.takeH (i := 35) (k := 170) (v := .bool false) rfl (by as_aux_lemma => kernel_rfl) (by as_aux_lemma => kernel_rfl) (by as_aux_lemma => kernel_rfl) (by as_aux_lemma => kernel_rfl) (fun _ _ _ h => h) (Or.inl ⟨by rfl, ?_⟩) (by assumption) ?_; (focus (intro w hSw; (try dsimp only at hSw); go_simp; (try rfl))); (simp only [List.setIfInBounds_toArray, List.set_cons_zero, List.set_cons_succ]))
                (refine Held.takeH (i := 36) (k := 171) (v := .bool false) rfl (by as_aux_lemma => kernel_rfl) (by as_aux_lemma => kernel_rfl) (by as_aux_lemma => kernel_rfl) (by as_aux_lemma => kernel_rfl) (fun _ _ _ h => h) (Or.inl ⟨by rfl, ?_⟩) (by assumption) ?_; (focus (intro w hSw; (try dsimp only at hSw); go_simp; (try rfl))); (simp only [List.setIfInBounds_toArray, List.set_cons_zero, List.set_cons_succ]))
                refine wpAnyH_done (by as_aux_lemma => kernel_rfl) ?_ _
                go_wp2_with fail
                go_meet
                exact ⟨rfl, Lib.hid hHeld.2.2.2.2.2⟩
              case rest =>
                obtain ⟨rfl, K22⟩ := hcut
                clear HC17 HE17 HL17 x0 x1 x2 x3 x4 K20 i1 i2 i3 i3n r1 r2 r2' r3 hzne r4 r5 r6 r7
                go_wp2
                exact ⟨⟨kk + 1, by omega, by go_num, K22⟩, by simp only [intOf]; omega⟩
            · obtain rfl : kk = zs.length := by omega
              clear HROW HZC PEX PLC2 hlt hk
              -- the layers' lengths
              have HLN : Hid (∀ k, k < xss.length → ln xss k ≤ 7 ∧ psum xss (k + 1) = psum xss k + ln xss k) := Lib.hid (fun k hk => ⟨HXB.out k, psum_succ xss k hk⟩)
              go_wp2_with fail
              go_loopw [12, 13] (fun sv c wr => ∃ k : Nat, k ≤ xss.length ∧ c = .int .i64 k ∧ sv = .int .i64 (psum xss k : Nat) ∧ Hid (PK wr)) (fun _ c _ => xss.length - (intOf c).toNat)
              case atStart => exact ⟨0, Nat.zero_le _, rfl, rfl, K20⟩
              case round =>
                obtain ⟨j, hj, rfl, rfl, K30⟩ := hrel
                by_cases hlt : j < xss.length
                · obtain ⟨g, hg, -⟩ := (HLL.out _ K30.out).row hlt
                  have x0 := (HLL.out _ K30.out).at hlt hg
                  obtain ⟨q1, q2⟩ := HLN.out j hlt
                  have HQ := Lib.hid q2
                  have hq3 := HPB.out j hj
                  clear hg q2
                  go_wp2
                  exact ⟨⟨j + 1, by omega, by go_num, by rw [HQ.out]; go_num, K30⟩, by simp only [intOf]; omega⟩
                · obtain rfl : j = xss.length := by omega
                  have hps := HPS.out
                  obtain ⟨x0, x1, -⟩ := HCs.out _ K30.out
                  obtain ⟨x2, x3, -⟩ := HCt.out _ K30.out
                  have e1 : ((psum xss xss.length : Nat) : Int) = (ms : Int) := by rw [hps]
                  have e2 : ((psum xss xss.length : Int) == (ms : Int)) = true := by rw [e1]; simp
                  generalize psum xss xss.length = q at e2
                  clear hps e1 HPS HLN HPB
                  cases hib : ib
                  · subst hib
                    clear PET
                    go_wp2_with fail
                    refine (PIH.out _ K30.out).mono ?_
                    rintro e w31 ⟨rfl, hk31⟩
                    have B31 := Lib.hid (HBE.out _ hk31)
                    clear hk31 x0 x1 x2 x3
                    go_wp2
                    go_ret
                    exact ⟨rfl, B31.out⟩
                  · have PE := Lib.hid (PET.out hib)
                    subst hib
                    clear PET
                    go_wp2_with fail
                    refine (PIH.out _ K30.out).mono ?_
                    rintro e w31 ⟨rfl, hk31⟩
                    have K31 := Lib.hid hk31
                    clear hk31 x0 x1 x2 x3
                    obtain ⟨x2, x3, -⟩ := HCt.out _ K31.out
                    go_wp2_with fail
                    refine (PE.out _ K31.out).mono ?_
                    rintro e w32 ⟨rfl, hk32⟩
                    have B32 := Lib.hid (HBE.out _ hk32)
                    clear hk32 x2 x3
                    go_wp2
                    go_ret
                    exact ⟨rfl, B32.out⟩
end Go.Proofs.YtgdkpgidklnndaaGreatDoor.Sg
