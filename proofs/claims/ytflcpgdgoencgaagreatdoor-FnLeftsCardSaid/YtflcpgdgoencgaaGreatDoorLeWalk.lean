/- FnLefts: the law's own walk. -/
import Derived.Test.YtflcpgdgoencgaaGreatDoorMgV
import Derived.Test.YtflcpgdgoencgaaGreatDoorMgW
import Derived.Test.YtflcpgdgoencgaaGreatDoorLeLaws
import Derived.Test.YtflcpgdgoencgaaGreatDoorQuLists
import Derived.Test.YtflcpgdgoencgaaGreatDoorTakeH
import Derived.Deep.DeepCutAuto
import Derived.BigQuiet
namespace Go.Proofs.YtflcpgdgoencgaaGreatDoor.Sg
open Go.RowKit Pt NewI NewII Cur
theorem outC_alloc {Bo : Nat} {n : Int} {x : ByteArray} {W : World} (h : OutC Bo n x W) (o : Obj) : OutC Bo n x (W.alloc o) := h.on ((Below.refl _ _).alloc (Nat.le_refl _) o)
/-- A list just made. -/
def TmpL (xss : List (List Int)) (a : Option Addr) (W : World) : Prop := ∃ lo hi, Lists W lo hi a xss (org xss)
def TmpZ (zs : List Int) (a : Option Addr) (W : World) : Prop := ∃ lo hi, NewI.New W lo hi a zs.length (zc zs)
/-- What the walk of FnLefts keeps: three boxes and four lists. -/
structure MemL (w : World) (bs ba bc : Nat) (ms ma mc : Int) (Ts Ta Tc : ByteArray) (ah ak al ay : Option Addr) (zs ks : List Int) (xss yss : List (List Int)) (W : World) : Prop where
  below : Below w.heap.size w W
  s : OutC bs ms Ts W
  a : OutC ba ma Ta W
  c : OutC bc mc Tc W
  z : TmpZ zs ah W
  k : TmpZ ks ak W
  l : TmpL xss al W
  y : TmpL yss ay W
theorem TmpZ.on {zs : List Int} {a : Option Addr} {W W' : World} (h : TmpZ zs a W) (hb : Below W.heap.size W W') : TmpZ zs a W' := by
  obtain ⟨lo, hi, h⟩ := h
  exact ⟨lo, hi, h.on hb⟩
theorem TmpL.on {xss : List (List Int)} {a : Option Addr} {W W' : World} (h : TmpL xss a W) (hb : Below W.heap.size W W') : TmpL xss a W' := by
  obtain ⟨lo, hi, h⟩ := h
  exact ⟨lo, hi, h.on hb⟩
theorem MemL.on {w : World} {bs ba bc : Nat} {ms ma mc : Int} {Ts Ta Tc : ByteArray} {ah ak al ay : Option Addr} {zs ks : List Int} {xss yss : List (List Int)} {W W' : World} (h : MemL w bs ba bc ms ma mc Ts Ta Tc ah ak al ay zs ks xss yss W) (hb' : Below W.heap.size W W') : MemL w bs ba bc ms ma mc Ts Ta Tc ah ak al ay zs ks xss yss W' :=
  ⟨h.below.trans (hb'.mono h.below.size), h.s.on hb', h.a.on hb', h.c.on hb', h.z.on hb', h.k.on hb', h.l.on hb', h.y.on hb'⟩
theorem lefts_no {n : Int} {s : List UInt8} (h : aciB n s = false) : rowZ n s = [] ∧ tabZ n s = [] := ⟨by unfold rowZ; rw [h]; rfl, tabZ_no h⟩
/-- What FnLefts asks of order signs. -/
theorem lefts_yes {n : Nat} {s : List UInt8} (h : aciB n s = true) : 3 ≤ n ∧ n ≤ 7 ∧ (rowZ n s).length = n - 1 ∧ (rowZ n s).sum = ((n * (n - 1) : Nat) : Int) ∧ (rowZ n s).getD 0 0 = hszZ n s ∧ (halvZ n s).length ≠ 0 ∧ (∀ z ∈ rowZ n s, 0 ≤ z ∧ z ≤ 1000) ∧
    (∀ k, k < n - 1 → (rowZ n s).getD k 0 = (rowZ n s).getD (n - 2 - k) 0) ∧ 3 * ((n * (n - 1) * (n - 2) * (n - 3) / 24 : Nat) : Int) - crossZ n s = quadsN n s ∧ 0 ≤ crossZ n s ∧ crossZ n s ≤ 100000 := by
  obtain ⟨h3, h7⟩ := aciB_n h
  have h3 : 3 ≤ n := by omega
  have h7 : n ≤ 7 := by omega
  refine ⟨h3, h7, rowZ_len h, rowZ_sum h, rowZ_head h, fun e => halvZ_some h (List.eq_nil_of_length_eq_zero e), fun z hz => ?_, fun k hk => rowZ_sym h hk, crossZ_quads h, ?_⟩
  · rw [rowZ_yes h] at hz
    obtain ⟨x, hx, rfl⟩ := List.mem_map.1 hz
    unfold rowL at hx
    obtain ⟨k, -, rfl⟩ := List.mem_map.1 hx
    have hle : rowK n s k ≤ (pairsN n).length := List.countP_le_length
    have hpl : (pairsN n).length ≤ 42 := by
      rcases (by omega : n = 3 ∨ n = 4 ∨ n = 5 ∨ n = 6 ∨ n = 7) with rfl | rfl | rfl | rfl | rfl <;> decide
    omega
  · have hq := crossZ_quads h
    have hcr : crossZ n s = (crossN (sgnF (lookS n s)) n : Nat) := by unfold crossZ; rw [if_pos h, Int.toNat_natCast]
    rw [hcr]
    have hle : crossN (sgnF (lookS n s)) n ≤ 49 * 28 := by
      rw [← cr2_all _ h7]
      refine Nat.le_trans (cr2_le (b := 49) fun p _ => Nat.mul_le_mul (Nat.le_trans (leftN_le _ _ _ _) h7) (Nat.le_trans (leftN_le _ _ _ _) h7)) (Nat.mul_le_mul_left _ ?_)
      rw [(pG_perm h7).length_eq]
      exact pairsU_len28 n h7
    omega
theorem leftZ_bd (n : Nat) (s : List UInt8) (h8 : n ≤ 8) (i j : Int) : -1 ≤ leftZ n s i j ∧ leftZ n s i j ≤ 8 := by
  unfold leftZ
  split
  · have := leftN_le (sgnF (lookS n s)) (n : Int).toNat i.toNat j.toNat
    omega
  · omega
theorem leftZ_pair {n : Nat} {s : List UInt8} {i j : Int} (h : 0 ≤ leftZ n s i j) : leftZ n s i j + leftZ n s j i = (n : Int) - 2 := by
  by_cases hc : aciB n s = true ∧ difB n [i, j] = true
  · exact leftZ_sum hc.1 hc.2
  · rw [leftZ_neg hc] at h; omega
set_option maxHeartbeats 12800000 in
set_option maxRecDepth 100000 in
theorem walkFnLefts (v : Value) (n : Nat) (w : World) (hv : Bytes w v n w.heap.size) (ht : Lib.TabIs Tryz.prog w "math/bits.deBruijn64tab" .u8 tab64) :
    Calls Tryz.prog 4 #[v] w fun e w' => e = .returned (.bool true) ∧ Below w.heap.size w w' := by
  have HT := Lib.hid (Tab.of ht)
  have HBIG := Lib.hid (fun W (hW : Below w.heap.size w W) => big_any v n W (bytes_up hv hW))
  have HV := Lib.hid (fun W (hW : Below w.heap.size w W) => bytes_up hv hW)
  have B0 := Lib.hid (Below.refl w.heap.size w)
  clear hv ht
  by_cases hbig : (n : Int) > 1048576
  · go_enter Tryz.func4, Tryz.ntmps4
    go_wp2_with fail
    refine (HBIG.out _ B0.out).mono ?_
    rintro e w1 ⟨rfl, rfl⟩
    go_wp2
    go_ret
    exact ⟨rfl, B0.out⟩
  · have hn : n ≤ 9223372036854700000 := by omega
    go_enter Tryz.func4, Tryz.ntmps4
    go_wp2_with fail
    refine (HBIG.out _ B0.out).mono ?_
    rintro e w1 ⟨rfl, rfl⟩
    go_wp2_with fail
    refine (drawRow_any v n hn _ (HV.out _ B0.out)).mono ?_
    rintro e w2 ⟨ms, Ts, rfl, hms, hTs, hb2⟩
    have B2 := Lib.hid (hb2.alloc hb2.size (.cells #[.int .i64 ms, .string Ts] 25))
    have S2 := Lib.hid (outC_made w2 ms Ts 25)
    clear hb2
    obtain ⟨⟨y0, y1⟩, -⟩ := S2.out
    go_wp2_with fail
    refine (implLeftRow ms Ts (by omega) _ (HT.out.on B2.out)).mono ?_
    rintro e w3 ⟨⟨ah, ch, rfl, hnw⟩, hb3⟩
    have B3 := Lib.hid (B2.out.trans (hb3.mono B2.out.size))
    have S3 := Lib.hid (S2.out.on hb3)
    have N3 : Hid (TmpZ (rowZ ms Ts.data.toList) ah w3) := Lib.hid ⟨_, _, hnw⟩
    clear hb3 y0 y1 B2 S2 hnw
    go_wp2_with fail
    refine (drawLeft_any v n hn _ (HV.out _ B3.out)).mono ?_
    rintro e w4 ⟨ma, Ta, ia, ja, rfl, hma, hTa, hel, hb4⟩
    have B4 := Lib.hid ((B3.out.trans (hb4.mono B3.out.size)).alloc (Nat.le_trans B3.out.size hb4.size) (.cells #[.int .i64 ma, .string Ta] 25))
    have hal4 := (Below.refl w4.heap.size w4).alloc (Nat.le_refl _) (.cells #[.int .i64 ma, .string Ta] 25)
    have S4 := Lib.hid ((S3.out.on hb4).on hal4)
    have N4 := Lib.hid ((N3.out.on hb4).on hal4)
    have A4 := Lib.hid (outC_made w4 ma Ta 25)
    clear hb4 hal4 B3 S3 N3
    obtain ⟨⟨y0, y1⟩, -⟩ := S4.out
    go_wp2_with fail
    refine (implLeftTable ms Ts (by omega) _ (HT.out.on B4.out)).mono ?_
    rintro e w5 ⟨⟨al, cl, rfl, hls⟩, hb5⟩
    have B5 := Lib.hid (B4.out.trans (hb5.mono B4.out.size))
    have S5 := Lib.hid (S4.out.on hb5)
    have A5 := Lib.hid (A4.out.on hb5)
    have N5 := Lib.hid (N4.out.on hb5)
    have L5 : Hid (TmpL (tabZ ms Ts.data.toList) al w5) := Lib.hid ⟨_, _, hls⟩
    clear hb5 y0 y1 B4 S4 A4 N4 hls
    go_wp2_with fail
    refine (drawCut_any v n hn _ (HV.out _ B5.out)).mono ?_
    rintro e w6 ⟨mc, Tc, kc, rfl, hmc, hTc, hkc, hb6⟩
    have B6 := Lib.hid ((B5.out.trans (hb6.mono B5.out.size)).alloc (Nat.le_trans B5.out.size hb6.size) (.cells #[.int .i64 mc, .string Tc] 25))
    have hal6 := (Below.refl w6.heap.size w6).alloc (Nat.le_refl _) (.cells #[.int .i64 mc, .string Tc] 25)
    have S6 := Lib.hid ((S5.out.on hb6).on hal6)
    have A6 := Lib.hid ((A5.out.on hb6).on hal6)
    have N6 := Lib.hid ((N5.out.on hb6).on hal6)
    have L6 := Lib.hid ((L5.out.on hb6).on hal6)
    have C6 := Lib.hid (outC_made w6 mc Tc 25)
    clear hb6 hal6 B5 S5 A5 N5 L5
    obtain ⟨⟨y0, y1⟩, -⟩ := C6.out
    go_wp2_with fail
    refine (implCutSets mc Tc kc (by omega) _ (HT.out.on B6.out)).mono ?_
    rintro e w7 ⟨⟨ak, ck, rfl, hnw⟩, hb7⟩
    have B7 := Lib.hid (B6.out.trans (hb7.mono B6.out.size))
    have S7 := Lib.hid (S6.out.on hb7)
    have A7 := Lib.hid (A6.out.on hb7)
    have N7 := Lib.hid (N6.out.on hb7)
    have L7 := Lib.hid (L6.out.on hb7)
    have C7 := Lib.hid (C6.out.on hb7)
    have K7 : Hid (TmpZ (cutZ mc Tc.data.toList kc) ak w7) := Lib.hid ⟨_, _, hnw⟩
    clear hb7 y0 y1 B6 S6 A6 N6 L6 C6 hnw
    obtain ⟨⟨y0, y1⟩, -⟩ := S7.out
    go_wp2_with fail
    refine (implHalving ms Ts (by omega) _ (HT.out.on B7.out)).mono ?_
    rintro e w8 ⟨⟨ay, cy, rfl, hls⟩, hb8⟩
    have B8 := Lib.hid (B7.out.trans (hb8.mono B7.out.size))
    have S8 := Lib.hid (S7.out.on hb8)
    have A8 := Lib.hid (A7.out.on hb8)
    have N8 := Lib.hid (N7.out.on hb8)
    have L8 := Lib.hid (L7.out.on hb8)
    have C8 := Lib.hid (C7.out.on hb8)
    have K8 := Lib.hid (K7.out.on hb8)
    have Y8 : Hid (TmpL (halvZ ms Ts.data.toList) ay w8) := Lib.hid ⟨_, _, hls⟩
    clear hb8 y0 y1 B7 S7 A7 N7 L7 C7 K7 hls
    go_upto_region 10 with fail
    generalize hbs : w2.heap.size = bs at S8 ⊢
    clear hbs
    generalize hba : w4.heap.size = ba at A8 ⊢
    clear hba
    generalize hbc : w6.heap.size = bc at C8 ⊢
    clear hbc
    -- the memory, packed
    obtain ⟨PK, hPK⟩ : ∃ P : World → Prop, P = MemL w1 bs ba bc ms ma mc Ts Ta Tc ah ak al ay (rowZ ms Ts.data.toList) (cutZ mc Tc.data.toList kc) (tabZ ms Ts.data.toList) (halvZ ms Ts.data.toList) := ⟨_, rfl⟩
    have Q8 : Hid (PK w8) := Lib.hid (by rw [hPK]; exact ⟨B8.out, S8.out, A8.out, C8.out, N8.out, K8.out, L8.out, Y8.out⟩)
    have HDR : Hid (∀ W, PK W → PK W.drew) := Lib.hid (by rw [hPK]; exact fun W h => h.on (Below.refl _ _).drew)
    have HDN : Hid (∀ W k, PK W → PK (W.drewN k)) := Lib.hid (by rw [hPK]; exact fun W k h => h.on (drewN_below (Below.refl _ _) k))
    have HON : Hid (∀ W W', PK W → Below W.heap.size W W' → PK W') := Lib.hid (by rw [hPK]; exact fun W W' h hb => h.on hb)
    have HBE : Hid (∀ W, PK W → Below w1.heap.size w1 W) := Lib.hid (by rw [hPK]; exact fun W h => h.below)
    have HTB : Hid (∀ W, PK W → Tab W) := Lib.hid (fun W h => HT.out.on (HBE.out W h))
    have HNZ : Hid (∀ W, PK W → TmpZ (rowZ ms Ts.data.toList) ah W) := Lib.hid (by rw [hPK]; exact fun W h => h.z)
    have HKZ : Hid (∀ W, PK W → TmpZ (cutZ mc Tc.data.toList kc) ak W) := Lib.hid (by rw [hPK]; exact fun W h => h.k)
    have HLL : Hid (∀ W, PK W → TmpL (tabZ ms Ts.data.toList) al W) := Lib.hid (by rw [hPK]; exact fun W h => h.l)
    have HYL : Hid (∀ W, PK W → TmpL (halvZ ms Ts.data.toList) ay W) := Lib.hid (by rw [hPK]; exact fun W h => h.y)
    have HCsac : Hid (∀ W, PK W → W.cell? ⟨bs, 0, none⟩ = some (.int .i64 ms) ∧ W.cell? ⟨bs, 1, none⟩ = some (.string Ts) ∧ W.cell? ⟨ba, 0, none⟩ = some (.int .i64 ma) ∧ W.cell? ⟨ba, 1, none⟩ = some (.string Ta) ∧ W.cell? ⟨bc, 0, none⟩ = some (.int .i64 mc) ∧ W.cell? ⟨bc, 1, none⟩ = some (.string Tc) ∧ PK W) := Lib.hid (fun W hk => by have h := hk; rw [hPK] at h; exact ⟨h.s.1.1, h.s.1.2, h.a.1.1, h.a.1.2, h.c.1.1, h.c.1.2, hk⟩)
    have HCs : Hid (∀ W, PK W → W.cell? ⟨bs, 0, none⟩ = some (.int .i64 ms) ∧ W.cell? ⟨bs, 1, none⟩ = some (.string Ts) ∧ PK W) := Lib.hid (fun W hk => by have h := hk; rw [hPK] at h; exact ⟨h.s.1.1, h.s.1.2, hk⟩)
    have HCa : Hid (∀ W, PK W → W.cell? ⟨ba, 0, none⟩ = some (.int .i64 ma) ∧ W.cell? ⟨ba, 1, none⟩ = some (.string Ta) ∧ PK W) := Lib.hid (fun W hk => by have h := hk; rw [hPK] at h; exact ⟨h.a.1.1, h.a.1.2, hk⟩)
    have HCc : Hid (∀ W, PK W → W.cell? ⟨bc, 0, none⟩ = some (.int .i64 mc) ∧ W.cell? ⟨bc, 1, none⟩ = some (.string Tc) ∧ PK W) := Lib.hid (fun W hk => by have h := hk; rw [hPK] at h; exact ⟨h.c.1.1, h.c.1.2, hk⟩)
    clear hPK B8 S8 A8 C8 N8 K8 L8 Y8 HV B0 HBIG
    obtain ⟨hxl, hxp⟩ := tabZ_len ms Ts.data.toList
    obtain ⟨hyl, hyp⟩ := halvZ_len ms Ts.data.toList
    have hzl := rowZ_len7 ms Ts.data.toList
    have hkl := cutZ_len128 mc Tc.data.toList kc
    have HRS : Hid (∀ W, (W.cell? ⟨bs, 0, none⟩ = some (.int .i64 ms) ∧ W.cell? ⟨bs, 1, none⟩ = some (.string Ts) ∧ W.cell? ⟨ba, 0, none⟩ = some (.int .i64 ma) ∧ W.cell? ⟨ba, 1, none⟩ = some (.string Ta) ∧ W.cell? ⟨bc, 0, none⟩ = some (.int .i64 mc) ∧ W.cell? ⟨bc, 1, none⟩ = some (.string Tc) ∧ PK W) → Calls Tryz.prog 38 #[sg ms Ts] W fun e w' => (∃ a' c', e = .returned (.slice a' (rowZ ms Ts.data.toList).length c') ∧ TmpZ (rowZ ms Ts.data.toList) a' w') ∧ w'.cell? ⟨bs, 0, none⟩ = some (.int .i64 ms) ∧ w'.cell? ⟨bs, 1, none⟩ = some (.string Ts) ∧ w'.cell? ⟨ba, 0, none⟩ = some (.int .i64 ma) ∧ w'.cell? ⟨ba, 1, none⟩ = some (.string Ta) ∧ w'.cell? ⟨bc, 0, none⟩ = some (.int .i64 mc) ∧ w'.cell? ⟨bc, 1, none⟩ = some (.string Tc) ∧ PK w') := Lib.hid (fun W hW => by
      refine (specLeftRow ms Ts (by omega) W).mono fun e w' ⟨⟨a', c', he, hn'⟩, hb⟩ => ⟨⟨a', c', he, _, _, hn'⟩, HCsac.out _ (HON.out _ _ (hW.2.2.2.2.2.2) hb)⟩)
    have HRE : Hid (∀ a' c' W, (W.cell? ⟨bs, 0, none⟩ = some (.int .i64 ms) ∧ W.cell? ⟨bs, 1, none⟩ = some (.string Ts) ∧ W.cell? ⟨ba, 0, none⟩ = some (.int .i64 ma) ∧ W.cell? ⟨ba, 1, none⟩ = some (.string Ta) ∧ W.cell? ⟨bc, 0, none⟩ = some (.int .i64 mc) ∧ W.cell? ⟨bc, 1, none⟩ = some (.string Tc) ∧ PK W) → TmpZ (rowZ ms Ts.data.toList) a' W → Calls Tryz.prog 14 #[.slice ah (rowZ ms Ts.data.toList).length ch, .slice a' (rowZ ms Ts.data.toList).length c'] W fun e w' => e = .returned (.bool true) ∧ w'.cell? ⟨bs, 0, none⟩ = some (.int .i64 ms) ∧ w'.cell? ⟨bs, 1, none⟩ = some (.string Ts) ∧ w'.cell? ⟨ba, 0, none⟩ = some (.int .i64 ma) ∧ w'.cell? ⟨ba, 1, none⟩ = some (.string Ta) ∧ w'.cell? ⟨bc, 0, none⟩ = some (.int .i64 mc) ∧ w'.cell? ⟨bc, 1, none⟩ = some (.string Tc) ∧ PK w') := Lib.hid (fun a' c' W hW ⟨lo, hi, h2⟩ => by
      obtain ⟨lo0, hi0, h1⟩ := HNZ.out _ (hW.2.2.2.2.2.2)
      refine (sameInts_eq ah a' ch c' lo0 hi0 lo hi (rowZ ms Ts.data.toList) (by omega) W h1 h2).mono fun e w' ⟨he, hb⟩ => ⟨he, HCsac.out _ (HON.out _ _ (hW.2.2.2.2.2.2) hb)⟩)
    have HTS : Hid (∀ W, (W.cell? ⟨bs, 0, none⟩ = some (.int .i64 ms) ∧ W.cell? ⟨bs, 1, none⟩ = some (.string Ts) ∧ W.cell? ⟨ba, 0, none⟩ = some (.int .i64 ma) ∧ W.cell? ⟨ba, 1, none⟩ = some (.string Ta) ∧ W.cell? ⟨bc, 0, none⟩ = some (.int .i64 mc) ∧ W.cell? ⟨bc, 1, none⟩ = some (.string Tc) ∧ PK W) → Calls Tryz.prog 42 #[sg ms Ts] W fun e w' => (∃ a' c', e = .returned (.slice a' (tabZ ms Ts.data.toList).length c') ∧ TmpL (tabZ ms Ts.data.toList) a' w') ∧ w'.cell? ⟨bs, 0, none⟩ = some (.int .i64 ms) ∧ w'.cell? ⟨bs, 1, none⟩ = some (.string Ts) ∧ w'.cell? ⟨ba, 0, none⟩ = some (.int .i64 ma) ∧ w'.cell? ⟨ba, 1, none⟩ = some (.string Ta) ∧ w'.cell? ⟨bc, 0, none⟩ = some (.int .i64 mc) ∧ w'.cell? ⟨bc, 1, none⟩ = some (.string Tc) ∧ PK w') := Lib.hid (fun W hW => by
      refine (specLeftTable ms Ts (by omega) W).mono fun e w' ⟨⟨a', c', he, hn'⟩, hb⟩ => ⟨⟨a', c', he, _, _, hn'⟩, HCsac.out _ (HON.out _ _ (hW.2.2.2.2.2.2) hb)⟩)
    have HTE : Hid (∀ a' c' W, (W.cell? ⟨bs, 0, none⟩ = some (.int .i64 ms) ∧ W.cell? ⟨bs, 1, none⟩ = some (.string Ts) ∧ W.cell? ⟨ba, 0, none⟩ = some (.int .i64 ma) ∧ W.cell? ⟨ba, 1, none⟩ = some (.string Ta) ∧ W.cell? ⟨bc, 0, none⟩ = some (.int .i64 mc) ∧ W.cell? ⟨bc, 1, none⟩ = some (.string Tc) ∧ PK W) → TmpL (tabZ ms Ts.data.toList) a' W → Calls Tryz.prog 41 #[.slice al (tabZ ms Ts.data.toList).length cl, .slice a' (tabZ ms Ts.data.toList).length c'] W fun e w' => e = .returned (.bool true) ∧ w'.cell? ⟨bs, 0, none⟩ = some (.int .i64 ms) ∧ w'.cell? ⟨bs, 1, none⟩ = some (.string Ts) ∧ w'.cell? ⟨ba, 0, none⟩ = some (.int .i64 ma) ∧ w'.cell? ⟨ba, 1, none⟩ = some (.string Ta) ∧ w'.cell? ⟨bc, 0, none⟩ = some (.int .i64 mc) ∧ w'.cell? ⟨bc, 1, none⟩ = some (.string Tc) ∧ PK w') := Lib.hid (fun a' c' W hW ⟨lo, hi, h2⟩ => by
      obtain ⟨lo0, hi0, h1⟩ := HLL.out _ (hW.2.2.2.2.2.2)
      refine (same_lists lo0 hi0 lo hi al a' cl c' (tabZ ms Ts.data.toList) hxp hxl W h1 h2).mono fun e w' ⟨he, hb⟩ => ⟨he, HCsac.out _ (HON.out _ _ (hW.2.2.2.2.2.2) hb)⟩)
    have HKS : Hid (∀ W, (W.cell? ⟨bs, 0, none⟩ = some (.int .i64 ms) ∧ W.cell? ⟨bs, 1, none⟩ = some (.string Ts) ∧ W.cell? ⟨ba, 0, none⟩ = some (.int .i64 ma) ∧ W.cell? ⟨ba, 1, none⟩ = some (.string Ta) ∧ W.cell? ⟨bc, 0, none⟩ = some (.int .i64 mc) ∧ W.cell? ⟨bc, 1, none⟩ = some (.string Tc) ∧ PK W) → Calls Tryz.prog 43 #[sg mc Tc, .int .i64 kc] W fun e w' => (∃ a' c', e = .returned (.slice a' (cutZ mc Tc.data.toList kc).length c') ∧ TmpZ (cutZ mc Tc.data.toList kc) a' w') ∧ w'.cell? ⟨bs, 0, none⟩ = some (.int .i64 ms) ∧ w'.cell? ⟨bs, 1, none⟩ = some (.string Ts) ∧ w'.cell? ⟨ba, 0, none⟩ = some (.int .i64 ma) ∧ w'.cell? ⟨ba, 1, none⟩ = some (.string Ta) ∧ w'.cell? ⟨bc, 0, none⟩ = some (.int .i64 mc) ∧ w'.cell? ⟨bc, 1, none⟩ = some (.string Tc) ∧ PK w') := Lib.hid (fun W hW => by
      refine (specCutSets mc Tc kc (by omega) W).mono fun e w' ⟨⟨a', c', he, hn'⟩, hb⟩ => ⟨⟨a', c', he, _, _, hn'⟩, HCsac.out _ (HON.out _ _ (hW.2.2.2.2.2.2) hb)⟩)
    have HKE : Hid (∀ a' c' W, (W.cell? ⟨bs, 0, none⟩ = some (.int .i64 ms) ∧ W.cell? ⟨bs, 1, none⟩ = some (.string Ts) ∧ W.cell? ⟨ba, 0, none⟩ = some (.int .i64 ma) ∧ W.cell? ⟨ba, 1, none⟩ = some (.string Ta) ∧ W.cell? ⟨bc, 0, none⟩ = some (.int .i64 mc) ∧ W.cell? ⟨bc, 1, none⟩ = some (.string Tc) ∧ PK W) → TmpZ (cutZ mc Tc.data.toList kc) a' W → Calls Tryz.prog 14 #[.slice ak (cutZ mc Tc.data.toList kc).length ck, .slice a' (cutZ mc Tc.data.toList kc).length c'] W fun e w' => e = .returned (.bool true) ∧ w'.cell? ⟨bs, 0, none⟩ = some (.int .i64 ms) ∧ w'.cell? ⟨bs, 1, none⟩ = some (.string Ts) ∧ w'.cell? ⟨ba, 0, none⟩ = some (.int .i64 ma) ∧ w'.cell? ⟨ba, 1, none⟩ = some (.string Ta) ∧ w'.cell? ⟨bc, 0, none⟩ = some (.int .i64 mc) ∧ w'.cell? ⟨bc, 1, none⟩ = some (.string Tc) ∧ PK w') := Lib.hid (fun a' c' W hW ⟨lo, hi, h2⟩ => by
      obtain ⟨lo0, hi0, h1⟩ := HKZ.out _ (hW.2.2.2.2.2.2)
      refine (sameInts_eq ak a' ck c' lo0 hi0 lo hi (cutZ mc Tc.data.toList kc) (by omega) W h1 h2).mono fun e w' ⟨he, hb⟩ => ⟨he, HCsac.out _ (HON.out _ _ (hW.2.2.2.2.2.2) hb)⟩)
    have HYS : Hid (∀ W, (W.cell? ⟨bs, 0, none⟩ = some (.int .i64 ms) ∧ W.cell? ⟨bs, 1, none⟩ = some (.string Ts) ∧ W.cell? ⟨ba, 0, none⟩ = some (.int .i64 ma) ∧ W.cell? ⟨ba, 1, none⟩ = some (.string Ta) ∧ W.cell? ⟨bc, 0, none⟩ = some (.int .i64 mc) ∧ W.cell? ⟨bc, 1, none⟩ = some (.string Tc) ∧ PK W) → Calls Tryz.prog 44 #[sg ms Ts] W fun e w' => (∃ a' c', e = .returned (.slice a' (halvZ ms Ts.data.toList).length c') ∧ TmpL (halvZ ms Ts.data.toList) a' w') ∧ w'.cell? ⟨bs, 0, none⟩ = some (.int .i64 ms) ∧ w'.cell? ⟨bs, 1, none⟩ = some (.string Ts) ∧ w'.cell? ⟨ba, 0, none⟩ = some (.int .i64 ma) ∧ w'.cell? ⟨ba, 1, none⟩ = some (.string Ta) ∧ w'.cell? ⟨bc, 0, none⟩ = some (.int .i64 mc) ∧ w'.cell? ⟨bc, 1, none⟩ = some (.string Tc) ∧ PK w') := Lib.hid (fun W hW => by
      refine (specHalving ms Ts (by omega) W).mono fun e w' ⟨⟨a', c', he, hn'⟩, hb⟩ => ⟨⟨a', c', he, _, _, hn'⟩, HCsac.out _ (HON.out _ _ (hW.2.2.2.2.2.2) hb)⟩)
    have HYE : Hid (∀ a' c' W, (W.cell? ⟨bs, 0, none⟩ = some (.int .i64 ms) ∧ W.cell? ⟨bs, 1, none⟩ = some (.string Ts) ∧ W.cell? ⟨ba, 0, none⟩ = some (.int .i64 ma) ∧ W.cell? ⟨ba, 1, none⟩ = some (.string Ta) ∧ W.cell? ⟨bc, 0, none⟩ = some (.int .i64 mc) ∧ W.cell? ⟨bc, 1, none⟩ = some (.string Tc) ∧ PK W) → TmpL (halvZ ms Ts.data.toList) a' W → Calls Tryz.prog 41 #[.slice ay (halvZ ms Ts.data.toList).length cy, .slice a' (halvZ ms Ts.data.toList).length c'] W fun e w' => e = .returned (.bool true) ∧ w'.cell? ⟨bs, 0, none⟩ = some (.int .i64 ms) ∧ w'.cell? ⟨bs, 1, none⟩ = some (.string Ts) ∧ w'.cell? ⟨ba, 0, none⟩ = some (.int .i64 ma) ∧ w'.cell? ⟨ba, 1, none⟩ = some (.string Ta) ∧ w'.cell? ⟨bc, 0, none⟩ = some (.int .i64 mc) ∧ w'.cell? ⟨bc, 1, none⟩ = some (.string Tc) ∧ PK w') := Lib.hid (fun a' c' W hW ⟨lo, hi, h2⟩ => by
      obtain ⟨lo0, hi0, h1⟩ := HYL.out _ (hW.2.2.2.2.2.2)
      refine (same_lists lo0 hi0 lo hi ay a' cy c' (halvZ ms Ts.data.toList) hyp hyl W h1 h2).mono fun e w' ⟨he, hb⟩ => ⟨he, HCsac.out _ (HON.out _ _ (hW.2.2.2.2.2.2) hb)⟩)
    have HLI : Hid (∀ W, (W.cell? ⟨bs, 0, none⟩ = some (.int .i64 ms) ∧ W.cell? ⟨bs, 1, none⟩ = some (.string Ts) ∧ W.cell? ⟨ba, 0, none⟩ = some (.int .i64 ma) ∧ W.cell? ⟨ba, 1, none⟩ = some (.string Ta) ∧ W.cell? ⟨bc, 0, none⟩ = some (.int .i64 mc) ∧ W.cell? ⟨bc, 1, none⟩ = some (.string Tc) ∧ PK W) → Calls Tryz.prog 39 #[sg ma Ta, .int .i64 ia, .int .i64 ja] W fun e w' => e = .returned (.int .i64 (leftZ ma Ta.data.toList ia ja)) ∧ w'.cell? ⟨bs, 0, none⟩ = some (.int .i64 ms) ∧ w'.cell? ⟨bs, 1, none⟩ = some (.string Ts) ∧ w'.cell? ⟨ba, 0, none⟩ = some (.int .i64 ma) ∧ w'.cell? ⟨ba, 1, none⟩ = some (.string Ta) ∧ w'.cell? ⟨bc, 0, none⟩ = some (.int .i64 mc) ∧ w'.cell? ⟨bc, 1, none⟩ = some (.string Tc) ∧ PK w') := Lib.hid (fun W hW => by
      refine (implLeftCount ma Ta ia ja (by omega) W (HTB.out W (hW.2.2.2.2.2.2))).mono fun e w' ⟨he, hb⟩ => ⟨he, HCsac.out _ (HON.out _ _ (hW.2.2.2.2.2.2) hb)⟩)
    have HLS : Hid (∀ W, (W.cell? ⟨bs, 0, none⟩ = some (.int .i64 ms) ∧ W.cell? ⟨bs, 1, none⟩ = some (.string Ts) ∧ W.cell? ⟨ba, 0, none⟩ = some (.int .i64 ma) ∧ W.cell? ⟨ba, 1, none⟩ = some (.string Ta) ∧ W.cell? ⟨bc, 0, none⟩ = some (.int .i64 mc) ∧ W.cell? ⟨bc, 1, none⟩ = some (.string Tc) ∧ PK W) → Calls Tryz.prog 40 #[sg ma Ta, .int .i64 ia, .int .i64 ja] W fun e w' => e = .returned (.int .i64 (leftZ ma Ta.data.toList ia ja)) ∧ w'.cell? ⟨bs, 0, none⟩ = some (.int .i64 ms) ∧ w'.cell? ⟨bs, 1, none⟩ = some (.string Ts) ∧ w'.cell? ⟨ba, 0, none⟩ = some (.int .i64 ma) ∧ w'.cell? ⟨ba, 1, none⟩ = some (.string Ta) ∧ w'.cell? ⟨bc, 0, none⟩ = some (.int .i64 mc) ∧ w'.cell? ⟨bc, 1, none⟩ = some (.string Tc) ∧ PK w') := Lib.hid (fun W hW => by
      refine (specLeftCountZ ma Ta (by omega) ia ja W).mono fun e w' ⟨he, hb⟩ => ⟨he, HCsac.out _ (HON.out _ _ (hW.2.2.2.2.2.2) hb)⟩)
    have HCI : Hid (∀ W, (W.cell? ⟨bs, 0, none⟩ = some (.int .i64 ms) ∧ W.cell? ⟨bs, 1, none⟩ = some (.string Ts) ∧ W.cell? ⟨ba, 0, none⟩ = some (.int .i64 ma) ∧ W.cell? ⟨ba, 1, none⟩ = some (.string Ta) ∧ W.cell? ⟨bc, 0, none⟩ = some (.int .i64 mc) ∧ W.cell? ⟨bc, 1, none⟩ = some (.string Tc) ∧ PK W) → Calls Tryz.prog 45 #[sg ms Ts] W fun e w' => e = .returned (.int .i64 (crossZ ms Ts.data.toList)) ∧ w'.cell? ⟨bs, 0, none⟩ = some (.int .i64 ms) ∧ w'.cell? ⟨bs, 1, none⟩ = some (.string Ts) ∧ w'.cell? ⟨ba, 0, none⟩ = some (.int .i64 ma) ∧ w'.cell? ⟨ba, 1, none⟩ = some (.string Ta) ∧ w'.cell? ⟨bc, 0, none⟩ = some (.int .i64 mc) ∧ w'.cell? ⟨bc, 1, none⟩ = some (.string Tc) ∧ PK w') := Lib.hid (fun W hW => by
      refine (implCrossing ms Ts (by omega) W (HTB.out W (hW.2.2.2.2.2.2))).mono fun e w' ⟨he, hb⟩ => ⟨he, HCsac.out _ (HON.out _ _ (hW.2.2.2.2.2.2) hb)⟩)
    have HCS : Hid (∀ W, (W.cell? ⟨bs, 0, none⟩ = some (.int .i64 ms) ∧ W.cell? ⟨bs, 1, none⟩ = some (.string Ts) ∧ W.cell? ⟨ba, 0, none⟩ = some (.int .i64 ma) ∧ W.cell? ⟨ba, 1, none⟩ = some (.string Ta) ∧ W.cell? ⟨bc, 0, none⟩ = some (.int .i64 mc) ∧ W.cell? ⟨bc, 1, none⟩ = some (.string Tc) ∧ PK W) → Calls Tryz.prog 46 #[sg ms Ts] W fun e w' => e = .returned (.int .i64 (crossZ ms Ts.data.toList)) ∧ w'.cell? ⟨bs, 0, none⟩ = some (.int .i64 ms) ∧ w'.cell? ⟨bs, 1, none⟩ = some (.string Ts) ∧ w'.cell? ⟨ba, 0, none⟩ = some (.int .i64 ma) ∧ w'.cell? ⟨ba, 1, none⟩ = some (.string Ta) ∧ w'.cell? ⟨bc, 0, none⟩ = some (.int .i64 mc) ∧ w'.cell? ⟨bc, 1, none⟩ = some (.string Tc) ∧ PK w') := Lib.hid (fun W hW => by
      refine (specCrossing ms Ts (by omega) W).mono fun e w' ⟨he, hb⟩ => ⟨he, HCsac.out _ (HON.out _ _ (hW.2.2.2.2.2.2) hb)⟩)
    have HAI : Hid (∀ W, (W.cell? ⟨ba, 0, none⟩ = some (.int .i64 ma) ∧ W.cell? ⟨ba, 1, none⟩ = some (.string Ta) ∧ PK W) → Calls Tryz.prog 39 #[sg ma Ta, .int .i64 ia, .int .i64 ja] W fun e w' => e = .returned (.int .i64 (leftZ ma Ta.data.toList ia ja)) ∧ w'.cell? ⟨ba, 0, none⟩ = some (.int .i64 ma) ∧ w'.cell? ⟨ba, 1, none⟩ = some (.string Ta) ∧ PK w') := Lib.hid (fun W hW => by
      refine (implLeftCount ma Ta ia ja (by omega) W (HTB.out W (hW.2.2))).mono fun e w' ⟨he, hb⟩ => ⟨he, HCa.out _ (HON.out _ _ (hW.2.2) hb)⟩)
    have HAJ : Hid (∀ W, (W.cell? ⟨ba, 0, none⟩ = some (.int .i64 ma) ∧ W.cell? ⟨ba, 1, none⟩ = some (.string Ta) ∧ PK W) → Calls Tryz.prog 39 #[sg ma Ta, .int .i64 ja, .int .i64 ia] W fun e w' => e = .returned (.int .i64 (leftZ ma Ta.data.toList ja ia)) ∧ w'.cell? ⟨ba, 0, none⟩ = some (.int .i64 ma) ∧ w'.cell? ⟨ba, 1, none⟩ = some (.string Ta) ∧ PK w') := Lib.hid (fun W hW => by
      refine (implLeftCount ma Ta ja ia (by omega) W (HTB.out W (hW.2.2))).mono fun e w' ⟨he, hb⟩ => ⟨he, HCa.out _ (HON.out _ _ (hW.2.2) hb)⟩)
    have PAS : Hid (∀ W, PK W → Calls Tryz.prog 27 #[sg ms Ts] W fun e w' => e = .returned (.bool (aciB ms Ts.data.toList)) ∧ PK w') := Lib.hid (fun W hW => (specAci ms Ts (by omega) W).mono fun e w' ⟨he, hb⟩ => ⟨he, HON.out _ _ hW hb⟩)
    have PAC : Hid (∀ W, PK W → Calls Tryz.prog 27 #[sg mc Tc] W fun e w' => e = .returned (.bool (aciB mc Tc.data.toList)) ∧ PK w') := Lib.hid (fun W hW => (specAci mc Tc (by omega) W).mono fun e w' ⟨he, hb⟩ => ⟨he, HON.out _ _ hW hb⟩)
    have PRC : Hid (∀ W, PK W → Calls Tryz.prog 38 #[sg mc Tc] W fun e w' => (∃ a' c', e = .returned (.slice a' (rowZ mc Tc.data.toList).length c') ∧ TmpZ (rowZ mc Tc.data.toList) a' w') ∧ PK w') := Lib.hid (fun W hW => (specLeftRow mc Tc (by omega) W).mono fun e w' ⟨⟨a', c', he, hn'⟩, hb⟩ => ⟨⟨a', c', he, _, _, hn'⟩, HON.out _ _ hW hb⟩)
    have PCR : Hid (∀ W, PK W → Calls Tryz.prog 45 #[sg ms Ts] W fun e w' => e = .returned (.int .i64 (crossZ ms Ts.data.toList)) ∧ PK w') := Lib.hid (fun W hW => (implCrossing ms Ts (by omega) W (HTB.out W hW)).mono fun e w' ⟨he, hb⟩ => ⟨he, HON.out _ _ hW hb⟩)
    have PCQ : Hid (∀ W, PK W → Calls Tryz.prog 28 #[sg ms Ts] W fun e w' => e = .returned (.int .i64 (quadsN ms Ts.data.toList)) ∧ PK w') := Lib.hid (fun W hW => (specCountQuads ms Ts (by omega) W).mono fun e w' ⟨he, hb⟩ => ⟨he, HON.out _ _ hW hb⟩)
    have PHZ : Hid (∀ W, PK W → Calls Tryz.prog 29 #[sg ms Ts] W fun e w' => e = .returned (.int .i64 (hszZ ms Ts.data.toList)) ∧ PK w') := Lib.hid (fun W hW => (specHullSize ms Ts (by omega) W).mono fun e w' ⟨he, hb⟩ => ⟨he, HON.out _ _ hW hb⟩)
    have HYES := Lib.hid (fun h => lefts_yes (n := ms) (s := Ts.data.toList) h)
    have HNO := Lib.hid (fun h => lefts_no (n := ms) (s := Ts.data.toList) h)
    have HCUT : Hid (aciB mc Tc.data.toList = true → 1 ≤ kc → kc < mc → ∃ k : Nat, kc = k ∧ 1 ≤ k ∧ k - 1 < (rowZ mc Tc.data.toList).length ∧ (rowZ mc Tc.data.toList).getD (k - 1) 0 = ((cutZ mc Tc.data.toList kc).length : Nat)) := Lib.hid (fun h h1 h2 => by
      obtain ⟨k, rfl⟩ : ∃ k : Nat, kc = k := ⟨kc.toNat, by omega⟩
      have h7 := (aciB_n h).2
      refine ⟨k, rfl, by omega, by rw [rowZ_len h]; omega, (cutZ_len h (by omega) (by omega) (by omega)).symm⟩)
    have hlb := leftZ_bd ma Ta.data.toList (by omega) ia ja
    have hlb2 := leftZ_bd ma Ta.data.toList (by omega) ja ia
    have HPA := Lib.hid (fun h => leftZ_pair (n := ma) (s := Ta.data.toList) (i := ia) (j := ja) h)
    have HXL := Lib.hid hxl
    clear HT hel hxp hyp hTa hTc hTs
    generalize hz1 : (leftZ ma Ta.data.toList ia ja) = z1 at HLI HLS HAI HPA hlb
    generalize hz2 : (leftZ ma Ta.data.toList ja ia) = z2 at HAJ HPA hlb2
    clear hz1 hz2
    generalize hcr : (crossZ ms Ts.data.toList) = cr at HCI HCS PCR HYES
    clear hcr
    generalize hgzs : (rowZ ms Ts.data.toList) = zs at HNZ HRS HRE HYES HNO hzl ⊢
    clear hgzs
    generalize hgxss : (tabZ ms Ts.data.toList) = xss at HLL HTS HTE HNO HXL hxl ⊢
    clear hgxss
    generalize hgyss : (halvZ ms Ts.data.toList) = yss at HYL HYS HYE HYES hyl ⊢
    clear hgyss
    generalize hgks : (cutZ mc Tc.data.toList kc) = ks at HKZ HKS HKE HCUT hkl ⊢
    clear hgks
    have g1 : (z1 != z1) = false := by simp
    have g3 : (cr != cr) = false := by simp
    go_cut [82] (fun cv wx => cv = .bool false ∧ Hid (PK wx))
    case first =>
      as_aux_lemma =>
      refine wp_region_held (S := fun W => W.cell? ⟨bs, 0, none⟩ = some (.int .i64 ms) ∧ W.cell? ⟨bs, 1, none⟩ = some (.string Ts) ∧ W.cell? ⟨ba, 0, none⟩ = some (.int .i64 ma) ∧ W.cell? ⟨ba, 1, none⟩ = some (.string Ta) ∧ W.cell? ⟨bc, 0, none⟩ = some (.int .i64 mc) ∧ W.cell? ⟨bc, 1, none⟩ = some (.string Tc) ∧ PK W) rfl ?_
      have hHeld := (HCsac.out _ (HDR.out _ Q8.out))
      (refine Held.takeH (i := 0) (k := 38) (v := ?_) rfl (by as_aux_lemma => kernel_rfl) (by as_aux_lemma => kernel_rfl) (by as_aux_lemma => kernel_rfl) (by as_aux_lemma => kernel_rfl) (fun _ _ _ h => h) (Or.inl ⟨by rfl, ?_⟩) (by assumption) ?_; rotate_left; (focus (intro w hSw; (try dsimp only at hSw); go_simp; (try with_reducible rfl))); (simp only [List.setIfInBounds_toArray, List.set_cons_zero, List.set_cons_succ]))
      (refine Held.takeH (i := 1) (k := 39) (v := ?_) rfl (by as_aux_lemma => kernel_rfl) (by as_aux_lemma => kernel_rfl) (by as_aux_lemma => kernel_rfl) (by as_aux_lemma => kernel_rfl) (fun _ _ _ h => h) (Or.inl ⟨by rfl, ?_⟩) (by assumption) ?_; rotate_left; (focus (intro w hSw; (try dsimp only at hSw); go_simp; (try with_reducible rfl))); (simp only [List.setIfInBounds_toArray, List.set_cons_zero, List.set_cons_succ]))
      refine wpAnyH_ready (rs := [2]) (by as_aux_lemma => kernel_rfl) (by simp) ?_
      refine AllReadyH.cons rfl (fun K hK => ?_) AllReadyH.nil
      go_simp
      refine (HRS.out _ hHeld).mono ?_
      rintro e' w' ⟨⟨a1', c1', rfl, t1'⟩, hS'⟩
      refine hK.out _ _ hS' (fun hHeld => ?_)
      clear hK K
      try simp only [Act.put, List.setIfInBounds_toArray, List.set_cons_zero, List.set_cons_succ]
      refine wpAnyH_ready (rs := [3]) (by as_aux_lemma => kernel_rfl) (by simp) ?_
      refine AllReadyH.cons rfl (fun K hK => ?_) AllReadyH.nil
      go_simp
      refine (HRE.out _ _ _ hHeld t1').mono ?_
      rintro e' w' ⟨rfl, hS'⟩
      refine hK.out _ _ hS' (fun hHeld => ?_)
      clear hK K
      try simp only [Act.put, List.setIfInBounds_toArray, List.set_cons_zero, List.set_cons_succ]
      (refine Held.takeH (i := 4) (k := 42) (v := .bool false) rfl (by as_aux_lemma => kernel_rfl) (by as_aux_lemma => kernel_rfl) (by as_aux_lemma => kernel_rfl) (by as_aux_lemma => kernel_rfl) (fun _ _ _ h => h) (Or.inl ⟨by rfl, ?_⟩) (by assumption) ?_; (focus (intro w hSw; (try dsimp only at hSw); go_simp; (try rfl))); (simp only [List.setIfInBounds_toArray, List.set_cons_zero, List.set_cons_succ]))
      (refine Held.takeH (i := 5) (k := 43) (v := .bool false) rfl (by as_aux_lemma => kernel_rfl) (by as_aux_lemma => kernel_rfl) (by as_aux_lemma => kernel_rfl) (by as_aux_lemma => kernel_rfl) (fun _ _ _ h => h) (Or.inl ⟨by rfl, ?_⟩) (by assumption) ?_; (focus (intro w hSw; (try dsimp only at hSw); go_simp; (try rfl))); (simp only [List.setIfInBounds_toArray, List.set_cons_zero, List.set_cons_succ]))
      (refine Held.takeH (i := 6) (k := 44) (v := ?_) rfl (by as_aux_lemma => kernel_rfl) (by as_aux_lemma => kernel_rfl) (by as_aux_lemma => kernel_rfl) (by as_aux_lemma => kernel_rfl) (fun _ _ _ h => h) (Or.inl ⟨by rfl, ?_⟩) (by assumption) ?_; rotate_left; (focus (intro w hSw; (try dsimp only at hSw); go_simp; (try with_reducible rfl))); (simp only [List.setIfInBounds_toArray, List.set_cons_zero, List.set_cons_succ]))
      (refine Held.takeH (i := 7) (k := 45) (v := ?_) rfl (by as_aux_lemma => kernel_rfl) (by as_aux_lemma => kernel_rfl) (by as_aux_lemma => kernel_rfl) (by as_aux_lemma => kernel_rfl) (fun _ _ _ h => h) (Or.inl ⟨by rfl, ?_⟩) (by assumption) ?_; rotate_left; (focus (intro w hSw; (try dsimp only at hSw); go_simp; (try with_reducible rfl))); (simp only [List.setIfInBounds_toArray, List.set_cons_zero, List.set_cons_succ]))
      (refine Held.takeH (i := 8) (k := 46) (v := ?_) rfl (by as_aux_lemma => kernel_rfl) (by as_aux_lemma => kernel_rfl) (by as_aux_lemma => kernel_rfl) (by as_aux_lemma => kernel_rfl) (fun _ _ _ h => h) (Or.inl ⟨by rfl, ?_⟩) (by assumption) ?_; rotate_left; (focus (intro w hSw; (try dsimp only at hSw); go_simp; (try with_reducible rfl))); (simp only [List.setIfInBounds_toArray, List.set_cons_zero, List.set_cons_succ]))
      (refine Held.takeH (i := 10) (k := 48) (v := ?_) rfl (by as_aux_lemma => kernel_rfl) (by as_aux_lemma => kernel_rfl) (by as_aux_lemma => kernel_rfl) (by as_aux_lemma => kernel_rfl) (fun _ _ _ h => h) (Or.inl ⟨by rfl, ?_⟩) (by assumption) ?_; rotate_left; (focus (intro w hSw; (try dsimp only at hSw); go_simp; (try with_reducible rfl))); (simp only [List.setIfInBounds_toArray, List.set_cons_zero, List.set_cons_succ]))
      (refine Held.takeH (i := 11) (k := 49) (v := ?_) rfl (by as_aux_lemma => kernel_rfl) (by as_aux_lemma => kernel_rfl) (by as_aux_lemma => kernel_rfl) (by as_aux_lemma => kernel_rfl) (fun _ _ _ h => h) (Or.inl ⟨by rfl, ?_⟩) (by assumption) ?_; rotate_left; (focus (intro w hSw; (try dsimp only at hSw); go_simp; (try with_reducible rfl))); (simp only [List.setIfInBounds_toArray, List.set_cons_zero, List.set_cons_succ]))
      (refine Held.takeH (i := 12) (k := 50) (v := ?_) rfl (by as_aux_lemma => kernel_rfl) (by as_aux_lemma => kernel_rfl) (by as_aux_lemma => kernel_rfl) (by as_aux_lemma => kernel_rfl) (fun _ _ _ h => h) (Or.inl ⟨by rfl, ?_⟩) (by assumption) ?_; rotate_left; (focus (intro w hSw; (try dsimp only at hSw); go_simp; (try with_reducible rfl))); (simp only [List.setIfInBounds_toArray, List.set_cons_zero, List.set_cons_succ]))
      refine wpAnyH_ready (rs := [9]) (by as_aux_lemma => kernel_rfl) (by simp) ?_
      refine AllReadyH.cons rfl (fun K hK => ?_) AllReadyH.nil
      go_simp
      refine (HLI.out _ hHeld).mono ?_
      rintro e' w' ⟨rfl, hS'⟩
      refine hK.out _ _ hS' (fun hHeld => ?_)
      clear hK K
      try simp only [Act.put, List.setIfInBounds_toArray, List.set_cons_zero, List.set_cons_succ]
      refine wpAnyH_ready (rs := [13]) (by as_aux_lemma => kernel_rfl) (by simp) ?_
      refine AllReadyH.cons rfl (fun K hK => ?_) AllReadyH.nil
      go_simp
      refine (HLS.out _ hHeld).mono ?_
      rintro e' w' ⟨rfl, hS'⟩
      refine hK.out _ _ hS' (fun hHeld => ?_)
      clear hK K
      try simp only [Act.put, List.setIfInBounds_toArray, List.set_cons_zero, List.set_cons_succ]
      (refine Held.takeH (i := 14) (k := 52) (v := .bool false) rfl (by as_aux_lemma => kernel_rfl) (by as_aux_lemma => kernel_rfl) (by as_aux_lemma => kernel_rfl) (by as_aux_lemma => kernel_rfl) (fun _ _ _ h => h) (Or.inl ⟨by rfl, ?_⟩) (by assumption) ?_; (focus (intro w hSw; (try dsimp only at hSw); go_simp; (try rfl))); (simp only [List.setIfInBounds_toArray, List.set_cons_zero, List.set_cons_succ]))
      (refine Held.takeH (i := 15) (k := 53) (v := .bool false) rfl (by as_aux_lemma => kernel_rfl) (by as_aux_lemma => kernel_rfl) (by as_aux_lemma => kernel_rfl) (by as_aux_lemma => kernel_rfl) (fun _ _ _ h => h) (Or.inl ⟨by rfl, ?_⟩) (by assumption) ?_; (focus (intro w hSw; (try dsimp only at hSw); go_simp; (try rfl))); (simp only [List.setIfInBounds_toArray, List.set_cons_zero, List.set_cons_succ]))
      (refine Held.takeH (i := 16) (k := 54) (v := .bool false) rfl (by as_aux_lemma => kernel_rfl) (by as_aux_lemma => kernel_rfl) (by as_aux_lemma => kernel_rfl) (by as_aux_lemma => kernel_rfl) (fun _ _ _ h => h) (Or.inl ⟨by rfl, ?_⟩) (by assumption) ?_; (focus (intro w hSw; (try dsimp only at hSw); go_simp; (try rfl))); (simp only [List.setIfInBounds_toArray, List.set_cons_zero, List.set_cons_succ]))
      (refine Held.takeH (i := 17) (k := 55) (v := ?_) rfl (by as_aux_lemma => kernel_rfl) (by as_aux_lemma => kernel_rfl) (by as_aux_lemma => kernel_rfl) (by as_aux_lemma => kernel_rfl) (fun _ _ _ h => h) (Or.inl ⟨by rfl, ?_⟩) (by assumption) ?_; rotate_left; (focus (intro w hSw; (try dsimp only at hSw); go_simp; (try with_reducible rfl))); (simp only [List.setIfInBounds_toArray, List.set_cons_zero, List.set_cons_succ]))
      (refine Held.takeH (i := 18) (k := 56) (v := ?_) rfl (by as_aux_lemma => kernel_rfl) (by as_aux_lemma => kernel_rfl) (by as_aux_lemma => kernel_rfl) (by as_aux_lemma => kernel_rfl) (fun _ _ _ h => h) (Or.inl ⟨by rfl, ?_⟩) (by assumption) ?_; rotate_left; (focus (intro w hSw; (try dsimp only at hSw); go_simp; (try with_reducible rfl))); (simp only [List.setIfInBounds_toArray, List.set_cons_zero, List.set_cons_succ]))
      refine wpAnyH_ready (rs := [19]) (by as_aux_lemma => kernel_rfl) (by simp) ?_
      refine AllReadyH.cons rfl (fun K hK => ?_) AllReadyH.nil
      go_simp
      refine (HTS.out _ hHeld).mono ?_
      rintro e' w' ⟨⟨a2', c2', rfl, t2'⟩, hS'⟩
      refine hK.out _ _ hS' (fun hHeld => ?_)
      clear hK K
      try simp only [Act.put, List.setIfInBounds_toArray, List.set_cons_zero, List.set_cons_succ]
      refine wpAnyH_ready (rs := [20]) (by as_aux_lemma => kernel_rfl) (by simp) ?_
      refine AllReadyH.cons rfl (fun K hK => ?_) AllReadyH.nil
      go_simp
      refine (HTE.out _ _ _ hHeld t2').mono ?_
      rintro e' w' ⟨rfl, hS'⟩
      refine hK.out _ _ hS' (fun hHeld => ?_)
      clear hK K
      try simp only [Act.put, List.setIfInBounds_toArray, List.set_cons_zero, List.set_cons_succ]
      (refine Held.takeH (i := 21) (k := 59) (v := .bool false) rfl (by as_aux_lemma => kernel_rfl) (by as_aux_lemma => kernel_rfl) (by as_aux_lemma => kernel_rfl) (by as_aux_lemma => kernel_rfl) (fun _ _ _ h => h) (Or.inl ⟨by rfl, ?_⟩) (by assumption) ?_; (focus (intro w hSw; (try dsimp only at hSw); go_simp; (try rfl))); (simp only [List.setIfInBounds_toArray, List.set_cons_zero, List.set_cons_succ]))
      (refine Held.takeH (i := 22) (k := 60) (v := .bool false) rfl (by as_aux_lemma => kernel_rfl) (by as_aux_lemma => kernel_rfl) (by as_aux_lemma => kernel_rfl) (by as_aux_lemma => kernel_rfl) (fun _ _ _ h => h) (Or.inl ⟨by rfl, ?_⟩) (by assumption) ?_; (focus (intro w hSw; (try dsimp only at hSw); go_simp; (try rfl))); (simp only [List.setIfInBounds_toArray, List.set_cons_zero, List.set_cons_succ]))
      (refine Held.takeH (i := 23) (k := 61) (v := .bool false) rfl (by as_aux_lemma => kernel_rfl) (by as_aux_lemma => kernel_rfl) (by as_aux_lemma => kernel_rfl) (by as_aux_lemma => kernel_rfl) (fun _ _ _ h => h) (Or.inl ⟨by rfl, ?_⟩) (by assumption) ?_; (focus (intro w hSw; (try dsimp only at hSw); go_simp; (try rfl))); (simp only [List.setIfInBounds_toArray, List.set_cons_zero, List.set_cons_succ]))
      (refine Held.takeH (i := 24) (k := 62) (v := ?_) rfl (by as_aux_lemma => kernel_rfl) (by as_aux_lemma => kernel_rfl) (by as_aux_lemma => kernel_rfl) (by as_aux_lemma => kernel_rfl) (fun _ _ _ h => h) (Or.inl ⟨by rfl, ?_⟩) (by assumption) ?_; rotate_left; (focus (intro w hSw; (try dsimp only at hSw); go_simp; (try with_reducible rfl))); (simp only [List.setIfInBounds_toArray, List.set_cons_zero, List.set_cons_succ]))
      (refine Held.takeH (i := 25) (k := 63) (v := ?_) rfl (by as_aux_lemma => kernel_rfl) (by as_aux_lemma => kernel_rfl) (by as_aux_lemma => kernel_rfl) (by as_aux_lemma => kernel_rfl) (fun _ _ _ h => h) (Or.inl ⟨by rfl, ?_⟩) (by assumption) ?_; rotate_left; (focus (intro w hSw; (try dsimp only at hSw); go_simp; (try with_reducible rfl))); (simp only [List.setIfInBounds_toArray, List.set_cons_zero, List.set_cons_succ]))
      (refine Held.takeH (i := 26) (k := 64) (v := ?_) rfl (by as_aux_lemma => kernel_rfl) (by as_aux_lemma => kernel_rfl) (by as_aux_lemma => kernel_rfl) (by as_aux_lemma => kernel_rfl) (fun _ _ _ h => h) (Or.inl ⟨by rfl, ?_⟩) (by assumption) ?_; rotate_left; (focus (intro w hSw; (try dsimp only at hSw); go_simp; (try with_reducible rfl))); (simp only [List.setIfInBounds_toArray, List.set_cons_zero, List.set_cons_succ]))
      refine wpAnyH_ready (rs := [27]) (by as_aux_lemma => kernel_rfl) (by simp) ?_
      refine AllReadyH.cons rfl (fun K hK => ?_) AllReadyH.nil
      go_simp
      refine (HKS.out _ hHeld).mono ?_
      rintro e' w' ⟨⟨a3', c3', rfl, t3'⟩, hS'⟩
      refine hK.out _ _ hS' (fun hHeld => ?_)
      clear hK K
      try simp only [Act.put, List.setIfInBounds_toArray, List.set_cons_zero, List.set_cons_succ]
      refine wpAnyH_ready (rs := [28]) (by as_aux_lemma => kernel_rfl) (by simp) ?_
      refine AllReadyH.cons rfl (fun K hK => ?_) AllReadyH.nil
      go_simp
      refine (HKE.out _ _ _ hHeld t3').mono ?_
      rintro e' w' ⟨rfl, hS'⟩
      refine hK.out _ _ hS' (fun hHeld => ?_)
      clear hK K
      try simp only [Act.put, List.setIfInBounds_toArray, List.set_cons_zero, List.set_cons_succ]
      (refine Held.takeH (i := 29) (k := 67) (v := .bool false) rfl (by as_aux_lemma => kernel_rfl) (by as_aux_lemma => kernel_rfl) (by as_aux_lemma => kernel_rfl) (by as_aux_lemma => kernel_rfl) (fun _ _ _ h => h) (Or.inl ⟨by rfl, ?_⟩) (by assumption) ?_; (focus (intro w hSw; (try dsimp only at hSw); go_simp; (try rfl))); (simp only [List.setIfInBounds_toArray, List.set_cons_zero, List.set_cons_succ]))
      (refine Held.takeH (i := 30) (k := 68) (v := .bool false) rfl (by as_aux_lemma => kernel_rfl) (by as_aux_lemma => kernel_rfl) (by as_aux_lemma => kernel_rfl) (by as_aux_lemma => kernel_rfl) (fun _ _ _ h => h) (Or.inl ⟨by rfl, ?_⟩) (by assumption) ?_; (focus (intro w hSw; (try dsimp only at hSw); go_simp; (try rfl))); (simp only [List.setIfInBounds_toArray, List.set_cons_zero, List.set_cons_succ]))
      (refine Held.takeH (i := 31) (k := 69) (v := .bool false) rfl (by as_aux_lemma => kernel_rfl) (by as_aux_lemma => kernel_rfl) (by as_aux_lemma => kernel_rfl) (by as_aux_lemma => kernel_rfl) (fun _ _ _ h => h) (Or.inl ⟨by rfl, ?_⟩) (by assumption) ?_; (focus (intro w hSw; (try dsimp only at hSw); go_simp; (try rfl))); (simp only [List.setIfInBounds_toArray, List.set_cons_zero, List.set_cons_succ]))
      (refine Held.takeH (i := 32) (k := 70) (v := ?_) rfl (by as_aux_lemma => kernel_rfl) (by as_aux_lemma => kernel_rfl) (by as_aux_lemma => kernel_rfl) (by as_aux_lemma => kernel_rfl) (fun _ _ _ h => h) (Or.inl ⟨by rfl, ?_⟩) (by assumption) ?_; rotate_left; (focus (intro w hSw; (try dsimp only at hSw); go_simp; (try with_reducible rfl))); (simp only [List.setIfInBounds_toArray, List.set_cons_zero, List.set_cons_succ]))
      (refine Held.takeH (i := 33) (k := 71) (v := ?_) rfl (by as_aux_lemma => kernel_rfl) (by as_aux_lemma => kernel_rfl) (by as_aux_lemma => kernel_rfl) (by as_aux_lemma => kernel_rfl) (fun _ _ _ h => h) (Or.inl ⟨by rfl, ?_⟩) (by assumption) ?_; rotate_left; (focus (intro w hSw; (try dsimp only at hSw); go_simp; (try with_reducible rfl))); (simp only [List.setIfInBounds_toArray, List.set_cons_zero, List.set_cons_succ]))
      refine wpAnyH_ready (rs := [34]) (by as_aux_lemma => kernel_rfl) (by simp) ?_
      refine AllReadyH.cons rfl (fun K hK => ?_) AllReadyH.nil
      go_simp
      refine (HYS.out _ hHeld).mono ?_
      rintro e' w' ⟨⟨a4', c4', rfl, t4'⟩, hS'⟩
      refine hK.out _ _ hS' (fun hHeld => ?_)
      clear hK K
      try simp only [Act.put, List.setIfInBounds_toArray, List.set_cons_zero, List.set_cons_succ]
      refine wpAnyH_ready (rs := [35]) (by as_aux_lemma => kernel_rfl) (by simp) ?_
      refine AllReadyH.cons rfl (fun K hK => ?_) AllReadyH.nil
      go_simp
      refine (HYE.out _ _ _ hHeld t4').mono ?_
      rintro e' w' ⟨rfl, hS'⟩
      refine hK.out _ _ hS' (fun hHeld => ?_)
      clear hK K
      try simp only [Act.put, List.setIfInBounds_toArray, List.set_cons_zero, List.set_cons_succ]
      (refine Held.takeH (i := 36) (k := 74) (v := .bool false) rfl (by as_aux_lemma => kernel_rfl) (by as_aux_lemma => kernel_rfl) (by as_aux_lemma => kernel_rfl) (by as_aux_lemma => kernel_rfl) (fun _ _ _ h => h) (Or.inl ⟨by rfl, ?_⟩) (by assumption) ?_; (focus (intro w hSw; (try dsimp only at hSw); go_simp; (try rfl))); (simp only [List.setIfInBounds_toArray, List.set_cons_zero, List.set_cons_succ]))
      (refine Held.takeH (i := 37) (k := 75) (v := .bool false) rfl (by as_aux_lemma => kernel_rfl) (by as_aux_lemma => kernel_rfl) (by as_aux_lemma => kernel_rfl) (by as_aux_lemma => kernel_rfl) (fun _ _ _ h => h) (Or.inl ⟨by rfl, ?_⟩) (by assumption) ?_; (focus (intro w hSw; (try dsimp only at hSw); go_simp; (try rfl))); (simp only [List.setIfInBounds_toArray, List.set_cons_zero, List.set_cons_succ]))
      (refine Held.takeH (i := 38) (k := 76) (v := .bool false) rfl (by as_aux_lemma => kernel_rfl) (by as_aux_lemma => kernel_rfl) (by as_aux_lemma => kernel_rfl) (by as_aux_lemma => kernel_rfl) (fun _ _ _ h => h) (Or.inl ⟨by rfl, ?_⟩) (by assumption) ?_; (focus (intro w hSw; (try dsimp only at hSw); go_simp; (try rfl))); (simp only [List.setIfInBounds_toArray, List.set_cons_zero, List.set_cons_succ]))
      (refine Held.takeH (i := 39) (k := 77) (v := ?_) rfl (by as_aux_lemma => kernel_rfl) (by as_aux_lemma => kernel_rfl) (by as_aux_lemma => kernel_rfl) (by as_aux_lemma => kernel_rfl) (fun _ _ _ h => h) (Or.inl ⟨by rfl, ?_⟩) (by assumption) ?_; rotate_left; (focus (intro w hSw; (try dsimp only at hSw); go_simp; (try with_reducible rfl))); (simp only [List.setIfInBounds_toArray, List.set_cons_zero, List.set_cons_succ]))
      (refine Held.takeH (i := 41) (k := 79) (v := ?_) rfl (by as_aux_lemma => kernel_rfl) (by as_aux_lemma => kernel_rfl) (by as_aux_lemma => kernel_rfl) (by as_aux_lemma => kernel_rfl) (fun _ _ _ h => h) (Or.inl ⟨by rfl, ?_⟩) (by assumption) ?_; rotate_left; (focus (intro w hSw; (try dsimp only at hSw); go_simp; (try with_reducible rfl))); (simp only [List.setIfInBounds_toArray, List.set_cons_zero, List.set_cons_succ]))
      refine wpAnyH_ready (rs := [40]) (by as_aux_lemma => kernel_rfl) (by simp) ?_
      refine AllReadyH.cons rfl (fun K hK => ?_) AllReadyH.nil
      go_simp
      refine (HCI.out _ hHeld).mono ?_
      rintro e' w' ⟨rfl, hS'⟩
      refine hK.out _ _ hS' (fun hHeld => ?_)
      clear hK K
      try simp only [Act.put, List.setIfInBounds_toArray, List.set_cons_zero, List.set_cons_succ]
      refine wpAnyH_ready (rs := [42]) (by as_aux_lemma => kernel_rfl) (by simp) ?_
      refine AllReadyH.cons rfl (fun K hK => ?_) AllReadyH.nil
      go_simp
      refine (HCS.out _ hHeld).mono ?_
      rintro e' w' ⟨rfl, hS'⟩
      refine hK.out _ _ hS' (fun hHeld => ?_)
      clear hK K
      try simp only [Act.put, List.setIfInBounds_toArray, List.set_cons_zero, List.set_cons_succ]
      (refine Held.takeH (i := 43) (k := 81) (v := .bool false) rfl (by as_aux_lemma => kernel_rfl) (by as_aux_lemma => kernel_rfl) (by as_aux_lemma => kernel_rfl) (by as_aux_lemma => kernel_rfl) (fun _ _ _ h => h) (Or.inl ⟨by rfl, ?_⟩) (by assumption) ?_; (focus (intro w hSw; (try dsimp only at hSw); go_simp; (try rfl))); (simp only [List.setIfInBounds_toArray, List.set_cons_zero, List.set_cons_succ]))
      (refine Held.takeH (i := 44) (k := 82) (v := .bool false) rfl (by as_aux_lemma => kernel_rfl) (by as_aux_lemma => kernel_rfl) (by as_aux_lemma => kernel_rfl) (by as_aux_lemma => kernel_rfl) (fun _ _ _ h => h) (Or.inl ⟨by rfl, ?_⟩) (by assumption) ?_; (focus (intro w hSw; (try dsimp only at hSw); go_simp; (try rfl))); (simp only [List.setIfInBounds_toArray, List.set_cons_zero, List.set_cons_succ]))
      refine wpAnyH_done (by as_aux_lemma => kernel_rfl) ?_ _
      go_wp2_with fail
      go_meet
      exact ⟨rfl, Lib.hid hHeld.2.2.2.2.2.2⟩
    case rest =>
      obtain ⟨rfl, Q9⟩ := hcut
      clear Q8 HRS HRE HTS HTE HKS HKE HYS HYE HLI HLS HCI HCS HCsac g1 g3
      -- both counts of two elements
      obtain ⟨x0, x1, -⟩ := HCa.out _ Q9.out
      go_upto_region 12 with fail
      go_cut [102] (fun cv wx => cv = .bool false ∧ Hid (PK wx))
      case first =>
        as_aux_lemma =>
        by_cases hz : 0 ≤ z1
        · have hp := HPA.out hz
          have b0 : decide (0 ≤ z1) = true := decide_eq_true hz
          have b0' : decide (z1 ≥ 0) = true := decide_eq_true hz
          obtain ⟨D, hD⟩ : ∃ D : Int, D = (ma : Int) - 2 := ⟨_, rfl⟩
          have v1 : IntKind.i64.wrap (z1 + z2) = D := by rw [IntWalk.i64_in _ (by omega)]; omega
          have v2 : IntKind.i64.wrap ((ma : Int) - 2) = D := by rw [IntWalk.i64_in _ (by omega)]; omega
          have v3 : (D != D) = false := by simp
          clear hp hD
          refine wp_region_held (S := fun W => W.cell? ⟨ba, 0, none⟩ = some (.int .i64 ma) ∧ W.cell? ⟨ba, 1, none⟩ = some (.string Ta) ∧ PK W) rfl ?_
          have hHeld := (HCa.out _ (HDR.out _ Q9.out))
          (refine Held.takeH (i := 0) (k := 83) (v := ?_) rfl (by as_aux_lemma => kernel_rfl) (by as_aux_lemma => kernel_rfl) (by as_aux_lemma => kernel_rfl) (by as_aux_lemma => kernel_rfl) (fun _ _ _ h => h) (Or.inl ⟨by rfl, ?_⟩) (by assumption) ?_; rotate_left; (focus (intro w hSw; (try dsimp only at hSw); go_simp; (try with_reducible rfl))); (simp only [List.setIfInBounds_toArray, List.set_cons_zero, List.set_cons_succ]))
          (refine Held.takeH (i := 1) (k := 84) (v := ?_) rfl (by as_aux_lemma => kernel_rfl) (by as_aux_lemma => kernel_rfl) (by as_aux_lemma => kernel_rfl) (by as_aux_lemma => kernel_rfl) (fun _ _ _ h => h) (Or.inl ⟨by rfl, ?_⟩) (by assumption) ?_; rotate_left; (focus (intro w hSw; (try dsimp only at hSw); go_simp; (try with_reducible rfl))); (simp only [List.setIfInBounds_toArray, List.set_cons_zero, List.set_cons_succ]))
          (refine Held.takeH (i := 2) (k := 85) (v := ?_) rfl (by as_aux_lemma => kernel_rfl) (by as_aux_lemma => kernel_rfl) (by as_aux_lemma => kernel_rfl) (by as_aux_lemma => kernel_rfl) (fun _ _ _ h => h) (Or.inl ⟨by rfl, ?_⟩) (by assumption) ?_; rotate_left; (focus (intro w hSw; (try dsimp only at hSw); go_simp; (try with_reducible rfl))); (simp only [List.setIfInBounds_toArray, List.set_cons_zero, List.set_cons_succ]))
          refine wpAnyH_ready (rs := [3]) (by as_aux_lemma => kernel_rfl) (by simp) ?_
          refine AllReadyH.cons rfl (fun K hK => ?_) AllReadyH.nil
          go_simp
          refine (HAI.out _ hHeld).mono ?_
          rintro e' w' ⟨rfl, hS'⟩
          refine hK.out _ _ hS' (fun hHeld => ?_)
          clear hK K
          try simp only [Act.put, List.setIfInBounds_toArray, List.set_cons_zero, List.set_cons_succ]
          (refine Held.takeH (i := 4) (k := 87) (v := .bool true) rfl (by as_aux_lemma => kernel_rfl) (by as_aux_lemma => kernel_rfl) (by as_aux_lemma => kernel_rfl) (by as_aux_lemma => kernel_rfl) (fun _ _ _ h => h) (Or.inl ⟨by rfl, ?_⟩) (by assumption) ?_; (focus (intro w hSw; (try dsimp only at hSw); go_simp; (try rfl))); (simp only [List.setIfInBounds_toArray, List.set_cons_zero, List.set_cons_succ]))
          (refine Held.takeH (i := 5) (k := 88) (v := .bool true) rfl (by as_aux_lemma => kernel_rfl) (by as_aux_lemma => kernel_rfl) (by as_aux_lemma => kernel_rfl) (by as_aux_lemma => kernel_rfl) (fun _ _ _ h => h) (Or.inl ⟨by rfl, ?_⟩) (by assumption) ?_; (focus (intro w hSw; (try dsimp only at hSw); go_simp; (try rfl))); (simp only [List.setIfInBounds_toArray, List.set_cons_zero, List.set_cons_succ]))
          (refine Held.takeH (i := 6) (k := 89) (v := ?_) rfl (by as_aux_lemma => kernel_rfl) (by as_aux_lemma => kernel_rfl) (by as_aux_lemma => kernel_rfl) (by as_aux_lemma => kernel_rfl) (fun _ _ _ h => h) (Or.inl ⟨by rfl, ?_⟩) (by assumption) ?_; rotate_left; (focus (intro w hSw; (try dsimp only at hSw); go_simp; (try with_reducible rfl))); (simp only [List.setIfInBounds_toArray, List.set_cons_zero, List.set_cons_succ]))
          (refine Held.takeH (i := 7) (k := 90) (v := ?_) rfl (by as_aux_lemma => kernel_rfl) (by as_aux_lemma => kernel_rfl) (by as_aux_lemma => kernel_rfl) (by as_aux_lemma => kernel_rfl) (fun _ _ _ h => h) (Or.inl ⟨by rfl, ?_⟩) (by assumption) ?_; rotate_left; (focus (intro w hSw; (try dsimp only at hSw); go_simp; (try with_reducible rfl))); (simp only [List.setIfInBounds_toArray, List.set_cons_zero, List.set_cons_succ]))
          (refine Held.takeH (i := 8) (k := 91) (v := ?_) rfl (by as_aux_lemma => kernel_rfl) (by as_aux_lemma => kernel_rfl) (by as_aux_lemma => kernel_rfl) (by as_aux_lemma => kernel_rfl) (fun _ _ _ h => h) (Or.inl ⟨by rfl, ?_⟩) (by assumption) ?_; rotate_left; (focus (intro w hSw; (try dsimp only at hSw); go_simp; (try with_reducible rfl))); (simp only [List.setIfInBounds_toArray, List.set_cons_zero, List.set_cons_succ]))
          (refine Held.takeH (i := 10) (k := 93) (v := ?_) rfl (by as_aux_lemma => kernel_rfl) (by as_aux_lemma => kernel_rfl) (by as_aux_lemma => kernel_rfl) (by as_aux_lemma => kernel_rfl) (fun _ _ _ h => h) (Or.inl ⟨by rfl, ?_⟩) (by assumption) ?_; rotate_left; (focus (intro w hSw; (try dsimp only at hSw); go_simp; (try with_reducible rfl))); (simp only [List.setIfInBounds_toArray, List.set_cons_zero, List.set_cons_succ]))
          (refine Held.takeH (i := 11) (k := 94) (v := ?_) rfl (by as_aux_lemma => kernel_rfl) (by as_aux_lemma => kernel_rfl) (by as_aux_lemma => kernel_rfl) (by as_aux_lemma => kernel_rfl) (fun _ _ _ h => h) (Or.inl ⟨by rfl, ?_⟩) (by assumption) ?_; rotate_left; (focus (intro w hSw; (try dsimp only at hSw); go_simp; (try with_reducible rfl))); (simp only [List.setIfInBounds_toArray, List.set_cons_zero, List.set_cons_succ]))
          (refine Held.takeH (i := 12) (k := 95) (v := ?_) rfl (by as_aux_lemma => kernel_rfl) (by as_aux_lemma => kernel_rfl) (by as_aux_lemma => kernel_rfl) (by as_aux_lemma => kernel_rfl) (fun _ _ _ h => h) (Or.inl ⟨by rfl, ?_⟩) (by assumption) ?_; rotate_left; (focus (intro w hSw; (try dsimp only at hSw); go_simp; (try with_reducible rfl))); (simp only [List.setIfInBounds_toArray, List.set_cons_zero, List.set_cons_succ]))
          (refine Held.takeH (i := 15) (k := 98) (v := ?_) rfl (by as_aux_lemma => kernel_rfl) (by as_aux_lemma => kernel_rfl) (by as_aux_lemma => kernel_rfl) (by as_aux_lemma => kernel_rfl) (fun _ _ _ h => h) (Or.inl ⟨by rfl, ?_⟩) (by assumption) ?_; rotate_left; (focus (intro w hSw; (try dsimp only at hSw); go_simp; (try with_reducible rfl))); (simp only [List.setIfInBounds_toArray, List.set_cons_zero, List.set_cons_succ]))
          (refine Held.takeH (i := 16) (k := 99) (v := ?_) rfl (by as_aux_lemma => kernel_rfl) (by as_aux_lemma => kernel_rfl) (by as_aux_lemma => kernel_rfl) (by as_aux_lemma => kernel_rfl) (fun _ _ _ h => h) (Or.inl ⟨by rfl, ?_⟩) (by assumption) ?_; rotate_left; (focus (intro w hSw; (try dsimp only at hSw); go_simp; (try with_reducible rfl))); (simp only [List.setIfInBounds_toArray, List.set_cons_zero, List.set_cons_succ]))
          (refine Held.takeH (i := 17) (k := 100) (v := .int .i64 D) rfl (by as_aux_lemma => kernel_rfl) (by as_aux_lemma => kernel_rfl) (by as_aux_lemma => kernel_rfl) (by as_aux_lemma => kernel_rfl) (fun _ _ _ h => h) (Or.inl ⟨by rfl, ?_⟩) (by assumption) ?_; (focus (intro w hSw; (try dsimp only at hSw); go_simp; (try rfl))); (simp only [List.setIfInBounds_toArray, List.set_cons_zero, List.set_cons_succ]))
          refine wpAnyH_ready (rs := [9]) (by as_aux_lemma => kernel_rfl) (by simp) ?_
          refine AllReadyH.cons rfl (fun K hK => ?_) AllReadyH.nil
          go_simp
          refine (HAI.out _ hHeld).mono ?_
          rintro e' w' ⟨rfl, hS'⟩
          refine hK.out _ _ hS' (fun hHeld => ?_)
          clear hK K
          try simp only [Act.put, List.setIfInBounds_toArray, List.set_cons_zero, List.set_cons_succ]
          refine wpAnyH_ready (rs := [13]) (by as_aux_lemma => kernel_rfl) (by simp) ?_
          refine AllReadyH.cons rfl (fun K hK => ?_) AllReadyH.nil
          go_simp
          refine (HAJ.out _ hHeld).mono ?_
          rintro e' w' ⟨rfl, hS'⟩
          refine hK.out _ _ hS' (fun hHeld => ?_)
          clear hK K
          try simp only [Act.put, List.setIfInBounds_toArray, List.set_cons_zero, List.set_cons_succ]
          (refine Held.takeH (i := 14) (k := 97) (v := .int .i64 D) rfl (by as_aux_lemma => kernel_rfl) (by as_aux_lemma => kernel_rfl) (by as_aux_lemma => kernel_rfl) (by as_aux_lemma => kernel_rfl) (fun _ _ _ h => h) (Or.inl ⟨by rfl, ?_⟩) (by assumption) ?_; (focus (intro w hSw; (try dsimp only at hSw); go_simp; (try rfl))); (simp only [List.setIfInBounds_toArray, List.set_cons_zero, List.set_cons_succ]))
          (refine Held.takeH (i := 18) (k := 101) (v := .bool false) rfl (by as_aux_lemma => kernel_rfl) (by as_aux_lemma => kernel_rfl) (by as_aux_lemma => kernel_rfl) (by as_aux_lemma => kernel_rfl) (fun _ _ _ h => h) (Or.inl ⟨by rfl, ?_⟩) (by assumption) ?_; (focus (intro w hSw; (try dsimp only at hSw); go_simp; (try rfl))); (simp only [List.setIfInBounds_toArray, List.set_cons_zero, List.set_cons_succ]))
          (refine Held.takeH (i := 19) (k := 102) (v := .bool false) rfl (by as_aux_lemma => kernel_rfl) (by as_aux_lemma => kernel_rfl) (by as_aux_lemma => kernel_rfl) (by as_aux_lemma => kernel_rfl) (fun _ _ _ h => h) (Or.inl ⟨by rfl, ?_⟩) (by assumption) ?_; (focus (intro w hSw; (try dsimp only at hSw); go_simp; (try rfl))); (simp only [List.setIfInBounds_toArray, List.set_cons_zero, List.set_cons_succ]))
          refine wpAnyH_done (by as_aux_lemma => kernel_rfl) ?_ _
          go_wp2_with fail
          go_meet
          exact ⟨rfl, Lib.hid hHeld.2.2⟩
        · have b0 : decide (0 ≤ z1) = false := decide_eq_false hz
          have b0' : decide (z1 ≥ 0) = false := decide_eq_false hz
          refine wp_region_held (S := fun W => W.cell? ⟨ba, 0, none⟩ = some (.int .i64 ma) ∧ W.cell? ⟨ba, 1, none⟩ = some (.string Ta) ∧ PK W) rfl ?_
          have hHeld := (HCa.out _ (HDR.out _ Q9.out))
          (refine Held.takeH (i := 0) (k := 83) (v := ?_) rfl (by as_aux_lemma => kernel_rfl) (by as_aux_lemma => kernel_rfl) (by as_aux_lemma => kernel_rfl) (by as_aux_lemma => kernel_rfl) (fun _ _ _ h => h) (Or.inl ⟨by rfl, ?_⟩) (by assumption) ?_; rotate_left; (focus (intro w hSw; (try dsimp only at hSw); go_simp; (try with_reducible rfl))); (simp only [List.setIfInBounds_toArray, List.set_cons_zero, List.set_cons_succ]))
          (refine Held.takeH (i := 1) (k := 84) (v := ?_) rfl (by as_aux_lemma => kernel_rfl) (by as_aux_lemma => kernel_rfl) (by as_aux_lemma => kernel_rfl) (by as_aux_lemma => kernel_rfl) (fun _ _ _ h => h) (Or.inl ⟨by rfl, ?_⟩) (by assumption) ?_; rotate_left; (focus (intro w hSw; (try dsimp only at hSw); go_simp; (try with_reducible rfl))); (simp only [List.setIfInBounds_toArray, List.set_cons_zero, List.set_cons_succ]))
          (refine Held.takeH (i := 2) (k := 85) (v := ?_) rfl (by as_aux_lemma => kernel_rfl) (by as_aux_lemma => kernel_rfl) (by as_aux_lemma => kernel_rfl) (by as_aux_lemma => kernel_rfl) (fun _ _ _ h => h) (Or.inl ⟨by rfl, ?_⟩) (by assumption) ?_; rotate_left; (focus (intro w hSw; (try dsimp only at hSw); go_simp; (try with_reducible rfl))); (simp only [List.setIfInBounds_toArray, List.set_cons_zero, List.set_cons_succ]))
          refine wpAnyH_ready (rs := [3]) (by as_aux_lemma => kernel_rfl) (by simp) ?_
          refine AllReadyH.cons rfl (fun K hK => ?_) AllReadyH.nil
          go_simp
          refine (HAI.out _ hHeld).mono ?_
          rintro e' w' ⟨rfl, hS'⟩
          refine hK.out _ _ hS' (fun hHeld => ?_)
          clear hK K
          try simp only [Act.put, List.setIfInBounds_toArray, List.set_cons_zero, List.set_cons_succ]
          (refine Held.takeH (i := 4) (k := 87) (v := .bool false) rfl (by as_aux_lemma => kernel_rfl) (by as_aux_lemma => kernel_rfl) (by as_aux_lemma => kernel_rfl) (by as_aux_lemma => kernel_rfl) (fun _ _ _ h => h) (Or.inl ⟨by rfl, ?_⟩) (by assumption) ?_; (focus (intro w hSw; (try dsimp only at hSw); go_simp; (try rfl))); (simp only [List.setIfInBounds_toArray, List.set_cons_zero, List.set_cons_succ]))
          (refine Held.takeH (i := 5) (k := 88) (v := .bool false) rfl (by as_aux_lemma => kernel_rfl) (by as_aux_lemma => kernel_rfl) (by as_aux_lemma => kernel_rfl) (by as_aux_lemma => kernel_rfl) (fun _ _ _ h => h) (Or.inl ⟨by rfl, ?_⟩) (by assumption) ?_; (focus (intro w hSw; (try dsimp only at hSw); go_simp; (try rfl))); (simp only [List.setIfInBounds_toArray, List.set_cons_zero, List.set_cons_succ]))
          (refine Held.takeH (i := 6) (k := 89) (v := undef) rfl (by as_aux_lemma => kernel_rfl) (by as_aux_lemma => kernel_rfl) (by as_aux_lemma => kernel_rfl) (by as_aux_lemma => kernel_rfl) (fun _ _ _ h => h) (Or.inr ⟨by rfl, rfl⟩) (by assumption) ?_; (simp only [List.setIfInBounds_toArray, List.set_cons_zero, List.set_cons_succ]))
          (refine Held.takeH (i := 7) (k := 90) (v := undef) rfl (by as_aux_lemma => kernel_rfl) (by as_aux_lemma => kernel_rfl) (by as_aux_lemma => kernel_rfl) (by as_aux_lemma => kernel_rfl) (fun _ _ _ h => h) (Or.inr ⟨by rfl, rfl⟩) (by assumption) ?_; (simp only [List.setIfInBounds_toArray, List.set_cons_zero, List.set_cons_succ]))
          (refine Held.takeH (i := 8) (k := 91) (v := undef) rfl (by as_aux_lemma => kernel_rfl) (by as_aux_lemma => kernel_rfl) (by as_aux_lemma => kernel_rfl) (by as_aux_lemma => kernel_rfl) (fun _ _ _ h => h) (Or.inr ⟨by rfl, rfl⟩) (by assumption) ?_; (simp only [List.setIfInBounds_toArray, List.set_cons_zero, List.set_cons_succ]))
          (refine Held.takeH (i := 9) (k := 92) (v := undef) rfl (by as_aux_lemma => kernel_rfl) (by as_aux_lemma => kernel_rfl) (by as_aux_lemma => kernel_rfl) (by as_aux_lemma => kernel_rfl) (fun _ _ _ h => h) (Or.inr ⟨by rfl, rfl⟩) (by assumption) ?_; (simp only [List.setIfInBounds_toArray, List.set_cons_zero, List.set_cons_succ]))
          (refine Held.takeH (i := 10) (k := 93) (v := undef) rfl (by as_aux_lemma => kernel_rfl) (by as_aux_lemma => kernel_rfl) (by as_aux_lemma => kernel_rfl) (by as_aux_lemma => kernel_rfl) (fun _ _ _ h => h) (Or.inr ⟨by rfl, rfl⟩) (by assumption) ?_; (simp only [List.setIfInBounds_toArray, List.set_cons_zero, List.set_cons_succ]))
          (refine Held.takeH (i := 11) (k := 94) (v := undef) rfl (by as_aux_lemma => kernel_rfl) (by as_aux_lemma => kernel_rfl) (by as_aux_lemma => kernel_rfl) (by as_aux_lemma => kernel_rfl) (fun _ _ _ h => h) (Or.inr ⟨by rfl, rfl⟩) (by assumption) ?_; (simp only [List.setIfInBounds_toArray, List.set_cons_zero, List.set_cons_succ]))
          (refine Held.takeH (i := 12) (k := 95) (v := undef) rfl (by as_aux_lemma => kernel_rfl) (by as_aux_lemma => kernel_rfl) (by as_aux_lemma => kernel_rfl) (by as_aux_lemma => kernel_rfl) (fun _ _ _ h => h) (Or.inr ⟨by rfl, rfl⟩) (by assumption) ?_; (simp only [List.setIfInBounds_toArray, List.set_cons_zero, List.set_cons_succ]))
          (refine Held.takeH (i := 13) (k := 96) (v := undef) rfl (by as_aux_lemma => kernel_rfl) (by as_aux_lemma => kernel_rfl) (by as_aux_lemma => kernel_rfl) (by as_aux_lemma => kernel_rfl) (fun _ _ _ h => h) (Or.inr ⟨by rfl, rfl⟩) (by assumption) ?_; (simp only [List.setIfInBounds_toArray, List.set_cons_zero, List.set_cons_succ]))
          (refine Held.takeH (i := 14) (k := 97) (v := undef) rfl (by as_aux_lemma => kernel_rfl) (by as_aux_lemma => kernel_rfl) (by as_aux_lemma => kernel_rfl) (by as_aux_lemma => kernel_rfl) (fun _ _ _ h => h) (Or.inr ⟨by rfl, rfl⟩) (by assumption) ?_; (simp only [List.setIfInBounds_toArray, List.set_cons_zero, List.set_cons_succ]))
          (refine Held.takeH (i := 15) (k := 98) (v := undef) rfl (by as_aux_lemma => kernel_rfl) (by as_aux_lemma => kernel_rfl) (by as_aux_lemma => kernel_rfl) (by as_aux_lemma => kernel_rfl) (fun _ _ _ h => h) (Or.inr ⟨by rfl, rfl⟩) (by assumption) ?_; (simp only [List.setIfInBounds_toArray, List.set_cons_zero, List.set_cons_succ]))
          (refine Held.takeH (i := 16) (k := 99) (v := undef) rfl (by as_aux_lemma => kernel_rfl) (by as_aux_lemma => kernel_rfl) (by as_aux_lemma => kernel_rfl) (by as_aux_lemma => kernel_rfl) (fun _ _ _ h => h) (Or.inr ⟨by rfl, rfl⟩) (by assumption) ?_; (simp only [List.setIfInBounds_toArray, List.set_cons_zero, List.set_cons_succ]))
          (refine Held.takeH (i := 17) (k := 100) (v := undef) rfl (by as_aux_lemma => kernel_rfl) (by as_aux_lemma => kernel_rfl) (by as_aux_lemma => kernel_rfl) (by as_aux_lemma => kernel_rfl) (fun _ _ _ h => h) (Or.inr ⟨by rfl, rfl⟩) (by assumption) ?_; (simp only [List.setIfInBounds_toArray, List.set_cons_zero, List.set_cons_succ]))
          (refine Held.takeH (i := 18) (k := 101) (v := undef) rfl (by as_aux_lemma => kernel_rfl) (by as_aux_lemma => kernel_rfl) (by as_aux_lemma => kernel_rfl) (by as_aux_lemma => kernel_rfl) (fun _ _ _ h => h) (Or.inr ⟨by rfl, rfl⟩) (by assumption) ?_; (simp only [List.setIfInBounds_toArray, List.set_cons_zero, List.set_cons_succ]))
          (refine Held.takeH (i := 19) (k := 102) (v := .bool false) rfl (by as_aux_lemma => kernel_rfl) (by as_aux_lemma => kernel_rfl) (by as_aux_lemma => kernel_rfl) (by as_aux_lemma => kernel_rfl) (fun _ _ _ h => h) (Or.inl ⟨by rfl, ?_⟩) (by assumption) ?_; (focus (intro w hSw; (try dsimp only at hSw); go_simp; (try rfl))); (simp only [List.setIfInBounds_toArray, List.set_cons_zero, List.set_cons_succ]))
          refine wpAnyH_done (by as_aux_lemma => kernel_rfl) ?_ _
          go_wp2_with fail
          go_meet
          exact ⟨rfl, Lib.hid hHeld.2.2⟩
      case rest =>
        obtain ⟨rfl, Q12⟩ := hcut
        clear Q9 HAI HAJ HPA x0 x1 hlb hlb2
        -- sets that can be cut off
        obtain ⟨x0, x1, -⟩ := HCc.out _ Q12.out
        go_upto_region 14 with fail
        go_cut [125] (fun cv wx => cv = .bool false ∧ Hid (PK wx))
        case first =>
          as_aux_lemma =>
          cases hac : aciB mc Tc.data.toList
          · rw [hac] at PAC
            go_wp2_with fail
            refine (PAC.out _ Q12.out).mono ?_
            rintro e w13 ⟨rfl, hk13⟩
            have K13 := Lib.hid hk13
            clear hk13 x0 x1
            go_wp2_with fail
            go_meet
            exact ⟨rfl, K13⟩
          · rw [hac] at PAC
            by_cases h1 : 1 ≤ kc
            · by_cases h2 : kc < mc
              · obtain ⟨k, rfl, k1, k2, k3⟩ := HCUT.out hac h1 h2
                obtain ⟨q, hq⟩ : ∃ q, q = k - 1 := ⟨_, rfl⟩
                rw [← hq] at k2 k3
                have v1 : IntKind.i64.wrap ((k : Int) - 1) = (q : Int) := by rw [IntWalk.i64_in _ (by omega)]; omega
                have b1 : decide ((k : Int) ≥ 1) = true := decide_eq_true (by omega)
                have b1' : decide ((1 : Int) ≤ (k : Int)) = true := decide_eq_true (by omega)
                have b1n : decide (1 ≤ k) = true := decide_eq_true (by omega)
                have b2 : decide ((k : Int) < (mc : Int)) = true := decide_eq_true (by omega)
                have b2n : decide (k < mc) = true := decide_eq_true (by omega)
                have HCC : Hid (∀ a' W, TmpZ (rowZ mc Tc.data.toList) a' W → ∃ g, a' = some ⟨g, 0, none⟩ ∧ W.cell? ⟨g, q, none⟩ = some (.int .i64 (ks.length : Nat))) := Lib.hid (fun a' W ⟨lo, hi, h⟩ => by
                  rcases h with h | ⟨g, h1, -, -, h4⟩
                  · omega
                  · refine ⟨g, h1, ?_⟩
                    rw [h4.cell q k2, ← k3]; rfl)
                have hq1 : (0 : Int) ≤ (q : Int) ∧ (q : Int) < ((rowZ mc Tc.data.toList).length : Int) := by omega
                have v3 : ((ks.length : Int) != (ks.length : Int)) = false := by simp
                generalize rowZ mc Tc.data.toList = rz at PRC HCC k2 hq1
                clear hq k3 HCUT h1 h2 hac
                go_wp2_with fail
                refine (PAC.out _ Q12.out).mono ?_
                rintro e w13 ⟨rfl, hk13⟩
                have K13 := Lib.hid hk13
                clear hk13 x0 x1
                obtain ⟨x0, x1, -⟩ := HCc.out _ K13.out
                go_wp2_with fail
                refine (PRC.out _ K13.out).mono ?_
                rintro e w14 ⟨⟨a', c', rfl, t'⟩, hk14⟩
                obtain ⟨g, rfl, hd⟩ := HCC.out _ _ t'
                have K14 := Lib.hid hk14
                clear hk14 x0 x1 t'
                go_wp2_with fail
                go_meet
                exact ⟨rfl, K14⟩
              · have b1 : decide (kc ≥ 1) = true := decide_eq_true h1
                have b1' : decide (1 ≤ kc) = true := decide_eq_true h1
                have b2 : decide (kc < (mc : Int)) = false := decide_eq_false h2
                go_wp2_with fail
                refine (PAC.out _ Q12.out).mono ?_
                rintro e w13 ⟨rfl, hk13⟩
                have K13 := Lib.hid hk13
                clear hk13 x0 x1
                obtain ⟨x0, x1, -⟩ := HCc.out _ K13.out
                go_wp2_with fail
                go_meet
                exact ⟨rfl, K13⟩
            · have b1 : decide (kc ≥ 1) = false := decide_eq_false h1
              have b1' : decide (1 ≤ kc) = false := decide_eq_false h1
              go_wp2_with fail
              refine (PAC.out _ Q12.out).mono ?_
              rintro e w13 ⟨rfl, hk13⟩
              have K13 := Lib.hid hk13
              clear hk13 x0 x1
              obtain ⟨x0, x1, -⟩ := HCc.out _ K13.out
              go_wp2_with fail
              go_meet
              exact ⟨rfl, K13⟩
        case rest =>
          obtain ⟨rfl, Q14⟩ := hcut
          clear Q12 PAC PRC HCUT HKZ x0 x1
          obtain ⟨x0, x1, -⟩ := HCs.out _ Q14.out
          cases hac : aciB ms Ts.data.toList
          · obtain ⟨rfl, rfl⟩ := HNO.out hac
            rw [hac] at PAS
            clear HYES hac
            go_wp2_with fail
            refine (PAS.out _ Q14.out).mono ?_
            rintro e w15 ⟨rfl, hk15⟩
            have B15 := Lib.hid (HBE.out _ hk15)
            clear hk15 x0 x1
            go_wp2
            go_ret
            exact ⟨rfl, B15.out⟩
          · obtain ⟨h3, h7, hzn, hzs, hz0, hyn, hzb, hsy, hqd, hc0, hc1⟩ := HYES.out hac
            rw [hac] at PAS
            have HSY := Lib.hid hsy
            have HQD := Lib.hid hqd
            have HZB := Lib.hid hzb
            clear HYES HNO hac hsy hqd hzb HXL hxl hyl hkl
            go_wp2_with fail
            refine (PAS.out _ Q14.out).mono ?_
            rintro e w16 ⟨rfl, hk16⟩
            have Q16 := Lib.hid hk16
            clear hk16 x0 x1 PAS Q14
            obtain ⟨bz, rfl⟩ : ∃ b, ah = some ⟨b, 0, none⟩ := by
              obtain ⟨lo, hi, h⟩ := HNZ.out _ Q16.out
              rcases h with h | ⟨g, h1, -⟩
              · omega
              · exact ⟨g, h1⟩
            have HZC : Hid (∀ k, k < zs.length → ∀ W, PK W → W.cell? ⟨bz, k, none⟩ = some (.int .i64 (zs.getD k 0))) := Lib.hid (fun k hk W hW => by
              obtain ⟨lo, hi, h⟩ := HNZ.out _ hW
              rcases h with h | ⟨g, h1, -, -, h4⟩
              · omega
              · injection h1 with h1
                injection h1 with h1
                subst h1
                rw [h4.cell k hk]; rfl)
            generalize hhz : hszZ ms Ts.data.toList = hz at PHZ hz0
            clear hhz
            have HC18 : Hid (∀ W, PK W → W.cell? ⟨bs, 0, none⟩ = some (.int .i64 ms) ∧ W.cell? ⟨bs, 1, none⟩ = some (.string Ts) ∧ W.cell? ⟨bz, 0, none⟩ = some (.int .i64 hz) ∧ PK W) := Lib.hid (fun W hW => ⟨(HCs.out W hW).1, (HCs.out W hW).2.1, by rw [HZC.out 0 (by omega) W hW, hz0], hW⟩)
            obtain ⟨SU, hSU⟩ : ∃ s : Int, s = zs.sum := ⟨_, rfl⟩
            have HT18 : Hid (∀ W, (W.cell? ⟨bs, 0, none⟩ = some (.int .i64 ms) ∧ W.cell? ⟨bs, 1, none⟩ = some (.string Ts) ∧ W.cell? ⟨bz, 0, none⟩ = some (.int .i64 hz) ∧ PK W) → Calls Tryz.prog 47 #[.slice (some ⟨bz, 0, none⟩) zs.length ch] W fun e w' => e = .returned (.int .i64 SU) ∧ w'.cell? ⟨bs, 0, none⟩ = some (.int .i64 ms) ∧ w'.cell? ⟨bs, 1, none⟩ = some (.string Ts) ∧ w'.cell? ⟨bz, 0, none⟩ = some (.int .i64 hz) ∧ PK w') := Lib.hid (fun W hW => by
              obtain ⟨lo, hi, h⟩ := HNZ.out _ hW.2.2.2
              rw [hSU]
              exact (total_any lo hi _ ch zs (by omega) HZB.out W h).mono fun e w' ⟨he, hb⟩ => ⟨he, by rw [← hb]; exact hW⟩)
            have HH18 : Hid (∀ W, (W.cell? ⟨bs, 0, none⟩ = some (.int .i64 ms) ∧ W.cell? ⟨bs, 1, none⟩ = some (.string Ts) ∧ W.cell? ⟨bz, 0, none⟩ = some (.int .i64 hz) ∧ PK W) → Calls Tryz.prog 29 #[sg ms Ts] W fun e w' => e = .returned (.int .i64 hz) ∧ w'.cell? ⟨bs, 0, none⟩ = some (.int .i64 ms) ∧ w'.cell? ⟨bs, 1, none⟩ = some (.string Ts) ∧ w'.cell? ⟨bz, 0, none⟩ = some (.int .i64 hz) ∧ PK w') := Lib.hid (fun W hW => (PHZ.out W hW.2.2.2).mono fun e w' ⟨he, hk⟩ => ⟨he, HC18.out _ hk⟩)
            obtain ⟨m1, hm1⟩ : ∃ m1 : Nat, m1 = ms - 1 := ⟨_, rfl⟩
            have v1 : IntKind.i64.wrap ((ms : Int) - 1) = (m1 : Int) := by rw [IntWalk.i64_in _ (by omega)]; omega
            have hmm : ms * m1 ≤ 49 := Nat.mul_le_mul h7 (show m1 ≤ 7 by omega)
            have v2 : IntKind.i64.wrap ((ms : Int) * (m1 : Int)) = SU := by
              rw [hSU, hzs, ← hm1, ← Int.natCast_mul]
              exact IntWalk.i64_in _ (by omega)
            have b1 : ((zs.length : Int) != (m1 : Int)) = false := by rw [hzn, hm1]; simp
            have b2 : (SU != SU) = false := by simp
            have b3 : (hz != hz) = false := by simp
            have b4 : ((yss.length : Int) == 0) = false := beq_eq_false_iff_ne.2 (by omega)
            have i0 : (0 : Int) < (zs.length : Int) := by omega
            have i0n : 0 < zs.length := by omega
            obtain ⟨x0, x1, x2, -⟩ := HC18.out _ Q16.out
            have HZN := Lib.hid hzn
            clear hzn hzs hz0 hyn hSU hmm
            go_upto_region 18 with fail
            go_cut [166] (fun cv wx => cv = .bool false ∧ Hid (PK wx))
            case first =>
              as_aux_lemma =>
              refine wp_region_held (S := fun W => W.cell? ⟨bs, 0, none⟩ = some (.int .i64 ms) ∧ W.cell? ⟨bs, 1, none⟩ = some (.string Ts) ∧ W.cell? ⟨bz, 0, none⟩ = some (.int .i64 hz) ∧ PK W) rfl ?_
              have hHeld := (HC18.out _ (HDR.out _ Q16.out))
              (refine Held.takeH (i := 0) (k := 137) (v := ?_) rfl (by as_aux_lemma => kernel_rfl) (by as_aux_lemma => kernel_rfl) (by as_aux_lemma => kernel_rfl) (by as_aux_lemma => kernel_rfl) (fun _ _ _ h => h) (Or.inl ⟨by rfl, ?_⟩) (by assumption) ?_; rotate_left; (focus (intro w hSw; (try dsimp only at hSw); go_simp; (try with_reducible rfl))); (simp only [List.setIfInBounds_toArray, List.set_cons_zero, List.set_cons_succ]))
              (refine Held.takeH (i := 1) (k := 138) (v := ?_) rfl (by as_aux_lemma => kernel_rfl) (by as_aux_lemma => kernel_rfl) (by as_aux_lemma => kernel_rfl) (by as_aux_lemma => kernel_rfl) (fun _ _ _ h => h) (Or.inl ⟨by rfl, ?_⟩) (by assumption) ?_; rotate_left; (focus (intro w hSw; (try dsimp only at hSw); go_simp; (try with_reducible rfl))); (simp only [List.setIfInBounds_toArray, List.set_cons_zero, List.set_cons_succ]))
              (refine Held.takeH (i := 2) (k := 139) (v := ?_) rfl (by as_aux_lemma => kernel_rfl) (by as_aux_lemma => kernel_rfl) (by as_aux_lemma => kernel_rfl) (by as_aux_lemma => kernel_rfl) (fun _ _ _ h => h) (Or.inl ⟨by rfl, ?_⟩) (by assumption) ?_; rotate_left; (focus (intro w hSw; (try dsimp only at hSw); go_simp; (try with_reducible rfl))); (simp only [List.setIfInBounds_toArray, List.set_cons_zero, List.set_cons_succ]))
              (refine Held.takeH (i := 3) (k := 140) (v := ?_) rfl (by as_aux_lemma => kernel_rfl) (by as_aux_lemma => kernel_rfl) (by as_aux_lemma => kernel_rfl) (by as_aux_lemma => kernel_rfl) (fun _ _ _ h => h) (Or.inl ⟨by rfl, ?_⟩) (by assumption) ?_; rotate_left; (focus (intro w hSw; (try dsimp only at hSw); go_simp; (try with_reducible rfl))); (simp only [List.setIfInBounds_toArray, List.set_cons_zero, List.set_cons_succ]))
              (refine Held.takeH (i := 4) (k := 141) (v := .int .i64 (m1 : Nat)) rfl (by as_aux_lemma => kernel_rfl) (by as_aux_lemma => kernel_rfl) (by as_aux_lemma => kernel_rfl) (by as_aux_lemma => kernel_rfl) (fun _ _ _ h => h) (Or.inl ⟨by rfl, ?_⟩) (by assumption) ?_; (focus (intro w hSw; (try dsimp only at hSw); go_simp; (try rfl))); (simp only [List.setIfInBounds_toArray, List.set_cons_zero, List.set_cons_succ]))
              (refine Held.takeH (i := 5) (k := 142) (v := .bool false) rfl (by as_aux_lemma => kernel_rfl) (by as_aux_lemma => kernel_rfl) (by as_aux_lemma => kernel_rfl) (by as_aux_lemma => kernel_rfl) (fun _ _ _ h => h) (Or.inl ⟨by rfl, ?_⟩) (by assumption) ?_; (focus (intro w hSw; (try dsimp only at hSw); simp [go_sem, execOp]; have hzz := HZN.out; omega)); (simp only [List.setIfInBounds_toArray, List.set_cons_zero, List.set_cons_succ]))
              (refine Held.takeH (i := 6) (k := 143) (v := .bool false) rfl (by as_aux_lemma => kernel_rfl) (by as_aux_lemma => kernel_rfl) (by as_aux_lemma => kernel_rfl) (by as_aux_lemma => kernel_rfl) (fun _ _ _ h => h) (Or.inl ⟨by rfl, ?_⟩) (by assumption) ?_; (focus (intro w hSw; (try dsimp only at hSw); go_simp; (try rfl))); (simp only [List.setIfInBounds_toArray, List.set_cons_zero, List.set_cons_succ]))
              (refine Held.takeH (i := 7) (k := 144) (v := ?_) rfl (by as_aux_lemma => kernel_rfl) (by as_aux_lemma => kernel_rfl) (by as_aux_lemma => kernel_rfl) (by as_aux_lemma => kernel_rfl) (fun _ _ _ h => h) (Or.inl ⟨by rfl, ?_⟩) (by assumption) ?_; rotate_left; (focus (intro w hSw; (try dsimp only at hSw); go_simp; (try with_reducible rfl))); (simp only [List.setIfInBounds_toArray, List.set_cons_zero, List.set_cons_succ]))
              (refine Held.takeH (i := 9) (k := 146) (v := ?_) rfl (by as_aux_lemma => kernel_rfl) (by as_aux_lemma => kernel_rfl) (by as_aux_lemma => kernel_rfl) (by as_aux_lemma => kernel_rfl) (fun _ _ _ h => h) (Or.inl ⟨by rfl, ?_⟩) (by assumption) ?_; rotate_left; (focus (intro w hSw; (try dsimp only at hSw); go_simp; (try with_reducible rfl))); (simp only [List.setIfInBounds_toArray, List.set_cons_zero, List.set_cons_succ]))
              (refine Held.takeH (i := 10) (k := 147) (v := ?_) rfl (by as_aux_lemma => kernel_rfl) (by as_aux_lemma => kernel_rfl) (by as_aux_lemma => kernel_rfl) (by as_aux_lemma => kernel_rfl) (fun _ _ _ h => h) (Or.inl ⟨by rfl, ?_⟩) (by assumption) ?_; rotate_left; (focus (intro w hSw; (try dsimp only at hSw); go_simp; (try with_reducible rfl))); (simp only [List.setIfInBounds_toArray, List.set_cons_zero, List.set_cons_succ]))
              (refine Held.takeH (i := 11) (k := 148) (v := ?_) rfl (by as_aux_lemma => kernel_rfl) (by as_aux_lemma => kernel_rfl) (by as_aux_lemma => kernel_rfl) (by as_aux_lemma => kernel_rfl) (fun _ _ _ h => h) (Or.inl ⟨by rfl, ?_⟩) (by assumption) ?_; rotate_left; (focus (intro w hSw; (try dsimp only at hSw); go_simp; (try with_reducible rfl))); (simp only [List.setIfInBounds_toArray, List.set_cons_zero, List.set_cons_succ]))
              (refine Held.takeH (i := 12) (k := 149) (v := ?_) rfl (by as_aux_lemma => kernel_rfl) (by as_aux_lemma => kernel_rfl) (by as_aux_lemma => kernel_rfl) (by as_aux_lemma => kernel_rfl) (fun _ _ _ h => h) (Or.inl ⟨by rfl, ?_⟩) (by assumption) ?_; rotate_left; (focus (intro w hSw; (try dsimp only at hSw); go_simp; (try with_reducible rfl))); (simp only [List.setIfInBounds_toArray, List.set_cons_zero, List.set_cons_succ]))
              (refine Held.takeH (i := 13) (k := 150) (v := .int .i64 (m1 : Nat)) rfl (by as_aux_lemma => kernel_rfl) (by as_aux_lemma => kernel_rfl) (by as_aux_lemma => kernel_rfl) (by as_aux_lemma => kernel_rfl) (fun _ _ _ h => h) (Or.inl ⟨by rfl, ?_⟩) (by assumption) ?_; (focus (intro w hSw; (try dsimp only at hSw); go_simp; (try rfl))); (simp only [List.setIfInBounds_toArray, List.set_cons_zero, List.set_cons_succ]))
              (refine Held.takeH (i := 14) (k := 151) (v := .int .i64 SU) rfl (by as_aux_lemma => kernel_rfl) (by as_aux_lemma => kernel_rfl) (by as_aux_lemma => kernel_rfl) (by as_aux_lemma => kernel_rfl) (fun _ _ _ h => h) (Or.inl ⟨by rfl, ?_⟩) (by assumption) ?_; (focus (intro w hSw; (try dsimp only at hSw); simp [go_sem, execOp]; exact v2)); (simp only [List.setIfInBounds_toArray, List.set_cons_zero, List.set_cons_succ]))
              refine wpAnyH_ready (rs := [8]) (by as_aux_lemma => kernel_rfl) (by simp) ?_
              refine AllReadyH.cons rfl (fun K hK => ?_) AllReadyH.nil
              go_simp
              refine (HT18.out _ hHeld).mono ?_
              rintro e' w' ⟨rfl, hS'⟩
              refine hK.out _ _ hS' (fun hHeld => ?_)
              clear hK K
              try simp only [Act.put, List.setIfInBounds_toArray, List.set_cons_zero, List.set_cons_succ]
              (refine Held.takeH (i := 15) (k := 152) (v := .bool false) rfl (by as_aux_lemma => kernel_rfl) (by as_aux_lemma => kernel_rfl) (by as_aux_lemma => kernel_rfl) (by as_aux_lemma => kernel_rfl) (fun _ _ _ h => h) (Or.inl ⟨by rfl, ?_⟩) (by assumption) ?_; (focus (intro w hSw; (try dsimp only at hSw); go_simp; (try rfl))); (simp only [List.setIfInBounds_toArray, List.set_cons_zero, List.set_cons_succ]))
              (refine Held.takeH (i := 16) (k := 153) (v := .bool false) rfl (by as_aux_lemma => kernel_rfl) (by as_aux_lemma => kernel_rfl) (by as_aux_lemma => kernel_rfl) (by as_aux_lemma => kernel_rfl) (fun _ _ _ h => h) (Or.inl ⟨by rfl, ?_⟩) (by assumption) ?_; (focus (intro w hSw; (try dsimp only at hSw); go_simp; (try rfl))); (simp only [List.setIfInBounds_toArray, List.set_cons_zero, List.set_cons_succ]))
              (refine Held.takeH (i := 17) (k := 154) (v := .bool false) rfl (by as_aux_lemma => kernel_rfl) (by as_aux_lemma => kernel_rfl) (by as_aux_lemma => kernel_rfl) (by as_aux_lemma => kernel_rfl) (fun _ _ _ h => h) (Or.inl ⟨by rfl, ?_⟩) (by assumption) ?_; (focus (intro w hSw; (try dsimp only at hSw); go_simp; (try rfl))); (simp only [List.setIfInBounds_toArray, List.set_cons_zero, List.set_cons_succ]))
              (refine Held.takeH (i := 18) (k := 155) (v := ?_) rfl (by as_aux_lemma => kernel_rfl) (by as_aux_lemma => kernel_rfl) (by as_aux_lemma => kernel_rfl) (by as_aux_lemma => kernel_rfl) (fun _ _ _ h => h) (Or.inl ⟨by rfl, ?_⟩) (by assumption) ?_; rotate_left; (focus (intro w hSw; (try dsimp only at hSw); go_simp; (try with_reducible rfl))); (simp only [List.setIfInBounds_toArray, List.set_cons_zero, List.set_cons_succ]))
              (refine Held.takeH (i := 19) (k := 156) (v := ?_) rfl (by as_aux_lemma => kernel_rfl) (by as_aux_lemma => kernel_rfl) (by as_aux_lemma => kernel_rfl) (by as_aux_lemma => kernel_rfl) (fun _ _ _ h => h) (Or.inl ⟨by rfl, ?_⟩) (by assumption) ?_; rotate_left; (focus (intro w hSw; (try dsimp only at hSw); go_simp; (try with_reducible rfl))); (simp only [List.setIfInBounds_toArray, List.set_cons_zero, List.set_cons_succ]))
              (refine Held.takeH (i := 20) (k := 157) (v := ?_) rfl (by as_aux_lemma => kernel_rfl) (by as_aux_lemma => kernel_rfl) (by as_aux_lemma => kernel_rfl) (by as_aux_lemma => kernel_rfl) (fun _ _ _ h => h) (Or.inl ⟨by rfl, ?_⟩) (by assumption) ?_; rotate_left; (focus (intro w hSw; (try dsimp only at hSw); go_simp; (try with_reducible rfl))); (simp only [List.setIfInBounds_toArray, List.set_cons_zero, List.set_cons_succ]))
              (refine Held.takeH (i := 21) (k := 158) (v := ?_) rfl (by as_aux_lemma => kernel_rfl) (by as_aux_lemma => kernel_rfl) (by as_aux_lemma => kernel_rfl) (by as_aux_lemma => kernel_rfl) (fun _ _ _ h => h) (Or.inl ⟨by rfl, ?_⟩) (by assumption) ?_; rotate_left; (focus (intro w hSw; (try dsimp only at hSw); go_simp; (try with_reducible rfl))); (simp only [List.setIfInBounds_toArray, List.set_cons_zero, List.set_cons_succ]))
              refine wpAnyH_ready (rs := [22]) (by as_aux_lemma => kernel_rfl) (by simp) ?_
              refine AllReadyH.cons rfl (fun K hK => ?_) AllReadyH.nil
              go_simp
              refine (HH18.out _ hHeld).mono ?_
              rintro e' w' ⟨rfl, hS'⟩
              refine hK.out _ _ hS' (fun hHeld => ?_)
              clear hK K
              try simp only [Act.put, List.setIfInBounds_toArray, List.set_cons_zero, List.set_cons_succ]
              (refine Held.takeH (i := 23) (k := 160) (v := .bool false) rfl (by as_aux_lemma => kernel_rfl) (by as_aux_lemma => kernel_rfl) (by as_aux_lemma => kernel_rfl) (by as_aux_lemma => kernel_rfl) (fun _ _ _ h => h) (Or.inl ⟨by rfl, ?_⟩) (by assumption) ?_; (focus (intro w hSw; (try dsimp only at hSw); go_simp; (try rfl))); (simp only [List.setIfInBounds_toArray, List.set_cons_zero, List.set_cons_succ]))
              (refine Held.takeH (i := 24) (k := 161) (v := .bool false) rfl (by as_aux_lemma => kernel_rfl) (by as_aux_lemma => kernel_rfl) (by as_aux_lemma => kernel_rfl) (by as_aux_lemma => kernel_rfl) (fun _ _ _ h => h) (Or.inl ⟨by rfl, ?_⟩) (by assumption) ?_; (focus (intro w hSw; (try dsimp only at hSw); go_simp; (try rfl))); (simp only [List.setIfInBounds_toArray, List.set_cons_zero, List.set_cons_succ]))
              (refine Held.takeH (i := 25) (k := 162) (v := .bool false) rfl (by as_aux_lemma => kernel_rfl) (by as_aux_lemma => kernel_rfl) (by as_aux_lemma => kernel_rfl) (by as_aux_lemma => kernel_rfl) (fun _ _ _ h => h) (Or.inl ⟨by rfl, ?_⟩) (by assumption) ?_; (focus (intro w hSw; (try dsimp only at hSw); go_simp; (try rfl))); (simp only [List.setIfInBounds_toArray, List.set_cons_zero, List.set_cons_succ]))
              (refine Held.takeH (i := 26) (k := 163) (v := ?_) rfl (by as_aux_lemma => kernel_rfl) (by as_aux_lemma => kernel_rfl) (by as_aux_lemma => kernel_rfl) (by as_aux_lemma => kernel_rfl) (fun _ _ _ h => h) (Or.inl ⟨by rfl, ?_⟩) (by assumption) ?_; rotate_left; (focus (intro w hSw; (try dsimp only at hSw); go_simp; (try with_reducible rfl))); (simp only [List.setIfInBounds_toArray, List.set_cons_zero, List.set_cons_succ]))
              (refine Held.takeH (i := 27) (k := 164) (v := ?_) rfl (by as_aux_lemma => kernel_rfl) (by as_aux_lemma => kernel_rfl) (by as_aux_lemma => kernel_rfl) (by as_aux_lemma => kernel_rfl) (fun _ _ _ h => h) (Or.inl ⟨by rfl, ?_⟩) (by assumption) ?_; rotate_left; (focus (intro w hSw; (try dsimp only at hSw); go_simp; (try with_reducible rfl))); (simp only [List.setIfInBounds_toArray, List.set_cons_zero, List.set_cons_succ]))
              (refine Held.takeH (i := 28) (k := 165) (v := .bool false) rfl (by as_aux_lemma => kernel_rfl) (by as_aux_lemma => kernel_rfl) (by as_aux_lemma => kernel_rfl) (by as_aux_lemma => kernel_rfl) (fun _ _ _ h => h) (Or.inl ⟨by rfl, ?_⟩) (by assumption) ?_; (focus (intro w hSw; (try dsimp only at hSw); go_simp; (try rfl))); (simp only [List.setIfInBounds_toArray, List.set_cons_zero, List.set_cons_succ]))
              (refine Held.takeH (i := 29) (k := 166) (v := .bool false) rfl (by as_aux_lemma => kernel_rfl) (by as_aux_lemma => kernel_rfl) (by as_aux_lemma => kernel_rfl) (by as_aux_lemma => kernel_rfl) (fun _ _ _ h => h) (Or.inl ⟨by rfl, ?_⟩) (by assumption) ?_; (focus (intro w hSw; (try dsimp only at hSw); go_simp; (try rfl))); (simp only [List.setIfInBounds_toArray, List.set_cons_zero, List.set_cons_succ]))
              refine wpAnyH_done (by as_aux_lemma => kernel_rfl) ?_ _
              go_wp2_with fail
              go_meet
              exact ⟨rfl, Lib.hid hHeld.2.2.2⟩
            case rest =>
              obtain ⟨rfl, Q18⟩ := hcut
              clear Q16 HC18 HT18 HH18 b1 b2 b3 b4 x0 x1 x2 PHZ v2 HYL HLL
              -- the row is the same from both ends
              have hzn := HZN.out
              go_wp2_with fail
              go_loopw [13] (fun c wr => ∃ k : Nat, k ≤ zs.length ∧ c = .int .i64 k ∧ Hid (PK wr)) (fun c _ => zs.length - (intOf c).toNat)
              case atStart => exact ⟨0, Nat.zero_le _, rfl, Q18⟩
              case round =>
                obtain ⟨kk, hk, rfl, Q20⟩ := hrel
                by_cases hlt : kk < zs.length
                · have y0 := HZC.out kk hlt _ Q20.out
                  obtain ⟨q, hq⟩ : ∃ q, q = ms - 2 - kk := ⟨_, rfl⟩
                  have y1 := HZC.out q (by omega) _ Q20.out
                  have he := HSY.out kk (by omega)
                  rw [← hq] at he
                  rw [← he] at y1
                  generalize zs.getD kk 0 = zv at y0 y1
                  obtain ⟨l1, hl1⟩ : ∃ l1 : Nat, l1 = zs.length - 1 := ⟨_, rfl⟩
                  have u1 : IntKind.i64.wrap ((zs.length : Int) - 1) = (l1 : Int) := by rw [IntWalk.i64_in _ (by omega)]; omega
                  have u2 : IntKind.i64.wrap ((l1 : Int) - (kk : Int)) = (q : Int) := by rw [IntWalk.i64_in _ (by omega)]; omega
                  have i1 : (0 : Int) ≤ (kk : Int) := by omega
                  have i2 : (kk : Int) < (zs.length : Int) := by omega
                  have i3 : (0 : Int) ≤ (q : Int) := by omega
                  have i4 : (q : Int) < (zs.length : Int) := by omega
                  have i5 : q < zs.length := by omega
                  have u3 : (zv != zv) = false := by simp
                  clear hq he hl1 hzn
                  go_wp2
                  go_quiet (fail)
                  go_wp2
                  exact ⟨⟨kk + 1, by omega, by go_num, Lib.hid (HDN.out _ _ Q20.out)⟩, by simp only [intOf]; omega⟩
                · obtain rfl : kk = zs.length := by omega
                  clear HSY HZC hlt hk Q18
                  obtain ⟨FO, hFO⟩ : ∃ f : Nat, f = ms * (ms - 1) * (ms - 2) * (ms - 3) / 24 := ⟨_, rfl⟩
                  have HF25 : Hid (∀ W, (W.cell? ⟨bs, 0, none⟩ = some (.int .i64 ms) ∧ W.cell? ⟨bs, 1, none⟩ = some (.string Ts) ∧ PK W) → Calls Tryz.prog 48 #[.int .i64 ms] W fun e w' => e = .returned (.int .i64 (FO : Nat)) ∧ w'.cell? ⟨bs, 0, none⟩ = some (.int .i64 ms) ∧ w'.cell? ⟨bs, 1, none⟩ = some (.string Ts) ∧ PK w') := Lib.hid (fun W hW => by
                    rw [hFO]
                    exact (fours_any' ms h3 h7 W).mono fun e w' ⟨he, hb⟩ => ⟨he, by rw [← hb]; exact hW⟩)
                  have HR25 : Hid (∀ W, (W.cell? ⟨bs, 0, none⟩ = some (.int .i64 ms) ∧ W.cell? ⟨bs, 1, none⟩ = some (.string Ts) ∧ PK W) → Calls Tryz.prog 45 #[sg ms Ts] W fun e w' => e = .returned (.int .i64 cr) ∧ w'.cell? ⟨bs, 0, none⟩ = some (.int .i64 ms) ∧ w'.cell? ⟨bs, 1, none⟩ = some (.string Ts) ∧ PK w') := Lib.hid (fun W hW => (PCR.out W hW.2.2).mono fun e w' ⟨he, hk⟩ => ⟨he, HCs.out _ hk⟩)
                  have HQ25 : Hid (∀ W, (W.cell? ⟨bs, 0, none⟩ = some (.int .i64 ms) ∧ W.cell? ⟨bs, 1, none⟩ = some (.string Ts) ∧ PK W) → Calls Tryz.prog 28 #[sg ms Ts] W fun e w' => e = .returned (.int .i64 (quadsN ms Ts.data.toList)) ∧ w'.cell? ⟨bs, 0, none⟩ = some (.int .i64 ms) ∧ w'.cell? ⟨bs, 1, none⟩ = some (.string Ts) ∧ PK w') := Lib.hid (fun W hW => (PCQ.out W hW.2.2).mono fun e w' ⟨he, hk⟩ => ⟨he, HCs.out _ hk⟩)
                  have hqd := HQD.out
                  rw [← hFO] at hqd
                  have hFb : FO ≤ 35 := by
                    rw [hFO]
                    rcases (by omega : ms = 3 ∨ ms = 4 ∨ ms = 5 ∨ ms = 6 ∨ ms = 7) with rfl | rfl | rfl | rfl | rfl <;> decide
                  generalize quadsN ms Ts.data.toList = qn at HQ25 hqd
                  obtain ⟨F3, hF3⟩ : ∃ f : Int, f = 3 * (FO : Int) := ⟨_, rfl⟩
                  have v5 : IntKind.i64.wrap (3 * (FO : Int)) = F3 := by rw [IntWalk.i64_in _ (by omega)]; omega
                  have v6 : IntKind.i64.wrap (F3 - cr) = qn := by rw [IntWalk.i64_in _ (by omega)]; omega
                  have v7 : (qn == qn) = true := by simp
                  obtain ⟨x0, x1, -⟩ := HCs.out _ Q20.out
                  clear hFO hqd hF3 HQD PCR PCQ hFb
                  go_upto_region 25 with fail
                  refine wp_region_held (S := fun W => W.cell? ⟨bs, 0, none⟩ = some (.int .i64 ms) ∧ W.cell? ⟨bs, 1, none⟩ = some (.string Ts) ∧ PK W) rfl ?_
                  have hHeld := (HCs.out _ (HDR.out _ Q20.out))
                  (refine Held.takeH (i := 0) (k := 186) (v := ?_) rfl (by as_aux_lemma => kernel_rfl) (by as_aux_lemma => kernel_rfl) (by as_aux_lemma => kernel_rfl) (by as_aux_lemma => kernel_rfl) (fun _ _ _ h => h) (Or.inl ⟨by rfl, ?_⟩) (by assumption) ?_; rotate_left; (focus (intro w hSw; (try dsimp only at hSw); go_simp; (try with_reducible rfl))); (simp only [List.setIfInBounds_toArray, List.set_cons_zero, List.set_cons_succ]))
                  (refine Held.takeH (i := 1) (k := 187) (v := ?_) rfl (by as_aux_lemma => kernel_rfl) (by as_aux_lemma => kernel_rfl) (by as_aux_lemma => kernel_rfl) (by as_aux_lemma => kernel_rfl) (fun _ _ _ h => h) (Or.inl ⟨by rfl, ?_⟩) (by assumption) ?_; rotate_left; (focus (intro w hSw; (try dsimp only at hSw); go_simp; (try with_reducible rfl))); (simp only [List.setIfInBounds_toArray, List.set_cons_zero, List.set_cons_succ]))
                  (refine Held.takeH (i := 4) (k := 190) (v := ?_) rfl (by as_aux_lemma => kernel_rfl) (by as_aux_lemma => kernel_rfl) (by as_aux_lemma => kernel_rfl) (by as_aux_lemma => kernel_rfl) (fun _ _ _ h => h) (Or.inl ⟨by rfl, ?_⟩) (by assumption) ?_; rotate_left; (focus (intro w hSw; (try dsimp only at hSw); go_simp; (try with_reducible rfl))); (simp only [List.setIfInBounds_toArray, List.set_cons_zero, List.set_cons_succ]))
                  (refine Held.takeH (i := 7) (k := 193) (v := ?_) rfl (by as_aux_lemma => kernel_rfl) (by as_aux_lemma => kernel_rfl) (by as_aux_lemma => kernel_rfl) (by as_aux_lemma => kernel_rfl) (fun _ _ _ h => h) (Or.inl ⟨by rfl, ?_⟩) (by assumption) ?_; rotate_left; (focus (intro w hSw; (try dsimp only at hSw); go_simp; (try with_reducible rfl))); (simp only [List.setIfInBounds_toArray, List.set_cons_zero, List.set_cons_succ]))
                  refine wpAnyH_ready (rs := [2]) (by as_aux_lemma => kernel_rfl) (by simp) ?_
                  refine AllReadyH.cons rfl (fun K hK => ?_) AllReadyH.nil
                  go_simp
                  refine (HF25.out _ hHeld).mono ?_
                  rintro e' w' ⟨rfl, hS'⟩
                  refine hK.out _ _ hS' (fun hHeld => ?_)
                  clear hK K
                  try simp only [Act.put, List.setIfInBounds_toArray, List.set_cons_zero, List.set_cons_succ]
                  (refine Held.takeH (i := 3) (k := 189) (v := .int .i64 F3) rfl (by as_aux_lemma => kernel_rfl) (by as_aux_lemma => kernel_rfl) (by as_aux_lemma => kernel_rfl) (by as_aux_lemma => kernel_rfl) (fun _ _ _ h => h) (Or.inl ⟨by rfl, ?_⟩) (by assumption) ?_; (focus (intro w hSw; (try dsimp only at hSw); go_simp; (try rfl))); (simp only [List.setIfInBounds_toArray, List.set_cons_zero, List.set_cons_succ]))
                  refine wpAnyH_ready (rs := [5]) (by as_aux_lemma => kernel_rfl) (by simp) ?_
                  refine AllReadyH.cons rfl (fun K hK => ?_) AllReadyH.nil
                  go_simp
                  refine (HR25.out _ hHeld).mono ?_
                  rintro e' w' ⟨rfl, hS'⟩
                  refine hK.out _ _ hS' (fun hHeld => ?_)
                  clear hK K
                  try simp only [Act.put, List.setIfInBounds_toArray, List.set_cons_zero, List.set_cons_succ]
                  (refine Held.takeH (i := 6) (k := 192) (v := .int .i64 qn) rfl (by as_aux_lemma => kernel_rfl) (by as_aux_lemma => kernel_rfl) (by as_aux_lemma => kernel_rfl) (by as_aux_lemma => kernel_rfl) (fun _ _ _ h => h) (Or.inl ⟨by rfl, ?_⟩) (by assumption) ?_; (focus (intro w hSw; (try dsimp only at hSw); go_simp; (try rfl))); (simp only [List.setIfInBounds_toArray, List.set_cons_zero, List.set_cons_succ]))
                  refine wpAnyH_ready (rs := [8]) (by as_aux_lemma => kernel_rfl) (by simp) ?_
                  refine AllReadyH.cons rfl (fun K hK => ?_) AllReadyH.nil
                  go_simp
                  refine (HQ25.out _ hHeld).mono ?_
                  rintro e' w' ⟨rfl, hS'⟩
                  refine hK.out _ _ hS' (fun hHeld => ?_)
                  clear hK K
                  try simp only [Act.put, List.setIfInBounds_toArray, List.set_cons_zero, List.set_cons_succ]
                  (refine Held.takeH (i := 9) (k := 195) (v := .bool true) rfl (by as_aux_lemma => kernel_rfl) (by as_aux_lemma => kernel_rfl) (by as_aux_lemma => kernel_rfl) (by as_aux_lemma => kernel_rfl) (fun _ _ _ h => h) (Or.inl ⟨by rfl, ?_⟩) (by assumption) ?_; (focus (intro w hSw; (try dsimp only at hSw); go_simp; (try rfl))); (simp only [List.setIfInBounds_toArray, List.set_cons_zero, List.set_cons_succ]))
                  (refine Held.takeH (i := 10) (k := 2) (v := .bool true) rfl (by as_aux_lemma => kernel_rfl) (by as_aux_lemma => kernel_rfl) (by as_aux_lemma => kernel_rfl) (by as_aux_lemma => kernel_rfl) (fun _ _ _ h => h) (Or.inl ⟨by rfl, ?_⟩) (by assumption) ?_; (focus (intro w hSw; (try dsimp only at hSw); go_simp; (try rfl))); (simp only [List.setIfInBounds_toArray, List.set_cons_zero, List.set_cons_succ]))
                  refine wpAnyH_done (by as_aux_lemma => kernel_rfl) ?_ _
                  go_wp2_with fail
                  have B30 := Lib.hid (HBE.out _ hHeld.2.2)
                  go_ret
                  exact ⟨rfl, B30.out⟩
end Go.Proofs.YtflcpgdgoencgaaGreatDoor.Sg
