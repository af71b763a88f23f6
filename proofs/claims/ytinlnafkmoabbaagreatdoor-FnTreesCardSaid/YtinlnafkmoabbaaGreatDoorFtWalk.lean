/- FnTrees: the law's own walk. -/
import Derived.Test.YtinlnafkmoabbaaGreatDoorMgFd
import Derived.Test.YtinlnafkmoabbaaGreatDoorDrFt
import Derived.Test.YtinlnafkmoabbaaGreatDoorLawInts
import Derived.Test.YtinlnafkmoabbaaGreatDoorLeTot
import Derived.Test.YtinlnafkmoabbaaGreatDoorTakeH
import Derived.Test.YtinlnafkmoabbaaGreatDoorMgFc
import Derived.Deep.DeepCutAuto
import Derived.BigQuiet
namespace Go.Proofs.YtinlnafkmoabbaaGreatDoor.Sg
open Go.RowKit Pt NewI Cur
/-- A list just made. -/
def TmpF (zs : List Int) (a : Option Addr) (W : World) : Prop := ∃ lo hi, NewI.New W lo hi a zs.length (zc zs)
theorem TmpF.on {zs : List Int} {a : Option Addr} {W W' : World} (h : TmpF zs a W) (hb : Below W.heap.size W W') : TmpF zs a W' := by
  obtain ⟨lo, hi, h⟩ := h
  exact ⟨lo, hi, h.on hb⟩
theorem TmpF.get {zs : List Int} {a : Option Addr} {W : World} (h : TmpF zs a W) {i : Nat} (hi : i < zs.length) : ∃ b, a = some ⟨b, 0, none⟩ ∧ W.cell? ⟨b, i, none⟩ = some (.int .i64 (zs.getD i 0)) := by
  obtain ⟨lo, hi', h⟩ := h
  rcases h with h | ⟨g, h1, -, -, h4⟩
  · omega
  · exact ⟨g, h1, by rw [h4.cell i hi]; rfl⟩
/-- What the walk of FnTrees keeps: a box and four lists. -/
structure MemF (w : World) (bs : Nat) (ms : Int) (Ts : ByteArray) (a1 a2 a3 a4 : Option Addr) (z1 z2 z3 z4 : List Int) (W : World) : Prop where
  below : Below w.heap.size w W
  s : OutC bs ms Ts W
  l1 : TmpF z1 a1 W
  l2 : TmpF z2 a2 W
  l3 : TmpF z3 a3 W
  l4 : TmpF z4 a4 W
theorem MemF.on {w : World} {bs : Nat} {ms : Int} {Ts : ByteArray} {a1 a2 a3 a4 : Option Addr} {z1 z2 z3 z4 : List Int} {W W' : World} (h : MemF w bs ms Ts a1 a2 a3 a4 z1 z2 z3 z4 W) (hb' : Below W.heap.size W W') : MemF w bs ms Ts a1 a2 a3 a4 z1 z2 z3 z4 W' :=
  ⟨h.below.trans (hb'.mono h.below.size), h.s.on hb', h.l1.on hb', h.l2.on hb', h.l3.on hb', h.l4.on hb'⟩
theorem getD_memF {zs : List Int} {i : Nat} (h : i < zs.length) : zs.getD i 0 ∈ zs := by
  rw [List.getD_eq_getElem?_getD, List.getElem?_eq_getElem h]
  exact List.getElem_mem h
theorem mem_zlF {L : List Nat} {z : Int} (h : z ∈ zl L) : ∃ u : Nat, u ∈ L ∧ z = (u : Int) := by
  unfold zl at h
  obtain ⟨u, h1, h2⟩ := List.mem_map.1 h
  exact ⟨u, h1, h2.symm⟩
theorem zl_memF {L : List Nat} {u : Nat} (h : u ∈ L) : (u : Int) ∈ zl L := List.mem_map.2 ⟨u, h, rfl⟩
theorem degZ_bd (n T : Int) : (zl (degZ n T)).length ≤ 100 ∧ ∀ z ∈ zl (degZ n T), 0 ≤ z ∧ z ≤ 1000 := by
  unfold degZ
  split
  · rename_i h
    obtain ⟨h1, h2⟩ := inB_mem h.1
    refine ⟨by rw [zl_length, degL_len]; omega, fun z hz => ?_⟩
    obtain ⟨u, hu, rfl⟩ := mem_zlF hz
    unfold degL at hu
    obtain ⟨i, -, rfl⟩ := List.mem_map.1 hu
    have a := sizE_le (T.toNat &&& incM n.toNat i) (eN n.toNat)
    have b := eN_bd n.toNat (by omega)
    unfold dgN
    omega
  · exact ⟨by simp [zl], fun z hz => by simp [zl] at hz⟩
theorem pairZ_len (n : Int) (s : List UInt8) : (pairZ n s).length ≤ 32768 := by
  unfold pairZ
  split
  · exact set_len _ _ _ _ _ _
  · simp
set_option maxHeartbeats 12800000 in
set_option maxRecDepth 100000 in
theorem walkFnTrees (v : Value) (n : Nat) (w : World) (hv : Bytes w v n w.heap.size) (ht : Lib.TabIs Tryz.prog w "math/bits.deBruijn64tab" .u8 tab64) :
    Calls Tryz.prog 3 #[v] w fun e w' => e = .returned (.bool true) ∧ Below w.heap.size w w' := by
  have HT := Lib.hid (Tab.of ht)
  have HBIG := Lib.hid (fun W (hW : Below w.heap.size w W) => big_any v n W (bytes_up hv hW))
  have HV := Lib.hid (fun W (hW : Below w.heap.size w W) => bytes_up hv hW)
  have B0 := Lib.hid (Below.refl w.heap.size w)
  clear hv ht
  by_cases hbig : (n : Int) > 1048576
  · go_enter Tryz.func3, Tryz.ntmps3
    go_wp2_with fail
    refine (HBIG.out _ B0.out).mono ?_
    rintro e w1 ⟨rfl, rfl⟩
    go_wp2
    go_ret
    exact ⟨rfl, B0.out⟩
  · have hn : n ≤ 9223372036854700000 := by omega
    go_enter Tryz.func3, Tryz.ntmps3
    go_wp2_with fail
    refine (HBIG.out _ B0.out).mono ?_
    rintro e w1 ⟨rfl, rfl⟩
    go_wp2_with fail
    refine (drawTrees_any v n hn _ (HV.out _ B0.out)).mono ?_
    rintro e w2 ⟨ms, Ts, rfl, hms, hTs, hb2⟩
    have B2 := Lib.hid ((B0.out.trans (hb2.mono B0.out.size)).alloc (Nat.le_trans B0.out.size hb2.size) (.cells #[.int .i64 ms, .string Ts] 25))
    have hal2 := (Below.refl w2.heap.size w2).alloc (Nat.le_refl _) (.cells #[.int .i64 ms, .string Ts] 25)
    have S2 := Lib.hid (outC_made w2 ms Ts 25)
    clear hb2 hal2
    obtain ⟨⟨y0, y1⟩, -⟩ := S2.out
    go_wp2_with fail
    refine (implTrees ms (by unfold I64; omega) Ts (by omega) _ (HT.out.on B2.out)).mono ?_
    rintro e w3 ⟨⟨a1, ca1, rfl, hnw⟩, hb3⟩
    have B3 := Lib.hid (B2.out.trans (hb3.mono B2.out.size))
    have S3 := Lib.hid (S2.out.on hb3)
    have LT3 : Hid (TmpF (zl (treeZ ms Ts.data.toList)) a1 w3) := Lib.hid ⟨_, _, hnw⟩
    clear hb3 hnw B2 S2
    clear y0 y1
    obtain ⟨⟨y0, y1⟩, -⟩ := S3.out
    go_wp2_with fail
    refine (implPaths ms (by unfold I64; omega) Ts (by omega) _ (HT.out.on B3.out)).mono ?_
    rintro e w4 ⟨⟨a2, ca2, rfl, hnw⟩, hb4⟩
    have B4 := Lib.hid (B3.out.trans (hb4.mono B3.out.size))
    have S4 := Lib.hid (S3.out.on hb4)
    have LT4 := Lib.hid (LT3.out.on hb4)
    have LP4 : Hid (TmpF (zl (pathZ ms Ts.data.toList)) a2 w4) := Lib.hid ⟨_, _, hnw⟩
    clear hb4 hnw B3 S3 LT3
    clear y0 y1
    obtain ⟨⟨y0, y1⟩, -⟩ := S4.out
    go_wp2_with fail
    refine (implRings ms (by unfold I64; omega) Ts (by omega) _ (HT.out.on B4.out)).mono ?_
    rintro e w5 ⟨⟨a3, ca3, rfl, hnw⟩, hb5⟩
    have B5 := Lib.hid (B4.out.trans (hb5.mono B4.out.size))
    have S5 := Lib.hid (S4.out.on hb5)
    have LT5 := Lib.hid (LT4.out.on hb5)
    have LP5 := Lib.hid (LP4.out.on hb5)
    have LR5 : Hid (TmpF (zl (ringZ ms Ts.data.toList)) a3 w5) := Lib.hid ⟨_, _, hnw⟩
    clear hb5 hnw B4 S4 LT4 LP4
    clear y0 y1
    obtain ⟨⟨y0, y1⟩, -⟩ := S5.out
    go_wp2_with fail
    refine (implPairs ms (by unfold I64; omega) Ts (by omega) _ (HT.out.on B5.out)).mono ?_
    rintro e w6 ⟨⟨a4, ca4, rfl, hnw⟩, hb6⟩
    have B6 := Lib.hid (B5.out.trans (hb6.mono B5.out.size))
    have S6 := Lib.hid (S5.out.on hb6)
    have LT6 := Lib.hid (LT5.out.on hb6)
    have LP6 := Lib.hid (LP5.out.on hb6)
    have LR6 := Lib.hid (LR5.out.on hb6)
    have LQ6 : Hid (TmpF (zl (pairZ ms Ts.data.toList)) a4 w6) := Lib.hid ⟨_, _, hnw⟩
    clear hb6 hnw B5 S5 LT5 LP5 LR5
    clear y0 y1
    go_wp2_with fail
    refine (drawTree_any v n hn _ (HV.out _ B6.out)).mono ?_
    rintro e w7 ⟨n0, e0, rfl, hn0, he0, hb7⟩
    have B7 := Lib.hid (B6.out.trans (hb7.mono B6.out.size))
    have S7 := Lib.hid (S6.out.on hb7)
    have LT7 := Lib.hid (LT6.out.on hb7)
    have LP7 := Lib.hid (LP6.out.on hb7)
    have LR7 := Lib.hid (LR6.out.on hb7)
    have LQ7 := Lib.hid (LQ6.out.on hb7)
    clear hb7 B6 S6 LT6 LP6 LR6 LQ6
    go_wp2_with fail
    refine (drawDeg_any v n hn _ (HV.out _ B7.out)).mono ?_
    rintro e w8 ⟨m0, f0, rfl, hm0, hf0, hb8⟩
    have B8 := Lib.hid (B7.out.trans (hb8.mono B7.out.size))
    have S8 := Lib.hid (S7.out.on hb8)
    have LT8 := Lib.hid (LT7.out.on hb8)
    have LP8 := Lib.hid (LP7.out.on hb8)
    have LR8 := Lib.hid (LR7.out.on hb8)
    have LQ8 := Lib.hid (LQ7.out.on hb8)
    clear hb8 B7 S7 LT7 LP7 LR7 LQ7
    go_upto_region 10 with fail
    generalize hbs : w2.heap.size = bs at S8 ⊢
    clear hbs
    -- the memory, packed
    obtain ⟨PK, hPK⟩ : ∃ P : World → Prop, P = MemF w1 bs ms Ts a1 a2 a3 a4 (zl (treeZ ms Ts.data.toList)) (zl (pathZ ms Ts.data.toList)) (zl (ringZ ms Ts.data.toList)) (zl (pairZ ms Ts.data.toList)) := ⟨_, rfl⟩
    have Q0 : Hid (PK w8) := Lib.hid (by rw [hPK]; exact ⟨B8.out, S8.out, LT8.out, LP8.out, LR8.out, LQ8.out⟩)
    have HDR : Hid (∀ W, PK W → PK W.drew) := Lib.hid (by rw [hPK]; exact fun W h => h.on (Below.refl _ _).drew)
    have HON : Hid (∀ W W', PK W → Below W.heap.size W W' → PK W') := Lib.hid (by rw [hPK]; exact fun W W' h hb => h.on hb)
    have HBE : Hid (∀ W, PK W → Below w1.heap.size w1 W) := Lib.hid (by rw [hPK]; exact fun W h => h.below)
    have HTB : Hid (∀ W, PK W → Tab W) := Lib.hid (fun W h => HT.out.on (HBE.out W h))
    have HZT : Hid (∀ W, PK W → TmpF (zl (treeZ ms Ts.data.toList)) a1 W) := Lib.hid (by rw [hPK]; exact fun W h => h.l1)
    have HZP : Hid (∀ W, PK W → TmpF (zl (pathZ ms Ts.data.toList)) a2 W) := Lib.hid (by rw [hPK]; exact fun W h => h.l2)
    have HZR : Hid (∀ W, PK W → TmpF (zl (ringZ ms Ts.data.toList)) a3 W) := Lib.hid (by rw [hPK]; exact fun W h => h.l3)
    have HZQ : Hid (∀ W, PK W → TmpF (zl (pairZ ms Ts.data.toList)) a4 W) := Lib.hid (by rw [hPK]; exact fun W h => h.l4)
    have HCs : Hid (∀ W, PK W → W.cell? ⟨bs, 0, none⟩ = some (.int .i64 ms) ∧ W.cell? ⟨bs, 1, none⟩ = some (.string Ts)) := Lib.hid (fun W hk => by rw [hPK] at hk; exact ⟨hk.s.1.1, hk.s.1.2⟩)
    clear hPK HV B0 HBIG B8 S8 LT8 LP8 LR8 LQ8
    have hlT : (zl (treeZ ms Ts.data.toList)).length ≤ 32768 := by rw [zl_length]; exact set_len _ _ _ _ _ _
    have hlP : (zl (pathZ ms Ts.data.toList)).length ≤ 32768 := by rw [zl_length]; exact set_len _ _ _ _ _ _
    have hlR : (zl (ringZ ms Ts.data.toList)).length ≤ 32768 := by rw [zl_length]; exact set_len _ _ _ _ _ _
    have hlQ : (zl (pairZ ms Ts.data.toList)).length ≤ 32768 := by rw [zl_length]; exact pairZ_len ms Ts.data.toList
    obtain ⟨hlD, -⟩ := degZ_bd m0 f0
    have HST : Hid (∀ W, PK W → Calls Tryz.prog 15 #[sg ms Ts] W fun e w' => (∃ a' c', e = .returned (.slice a' (zl (treeZ ms Ts.data.toList)).length c') ∧ TmpF (zl (treeZ ms Ts.data.toList)) a' w') ∧ PK w') := Lib.hid (fun W hW => (specPlaneTrees ms (by unfold I64; omega) Ts (by omega) W).mono fun e w' ⟨⟨a', c', he, hn'⟩, hb⟩ => ⟨⟨a', c', he, _, _, hn'⟩, HON.out _ _ hW hb⟩)
    have HET : Hid (∀ a' c' W, PK W → TmpF (zl (treeZ ms Ts.data.toList)) a' W → Calls Tryz.prog 14 #[.slice a1 (zl (treeZ ms Ts.data.toList)).length ca1, .slice a' (zl (treeZ ms Ts.data.toList)).length c'] W fun e w' => e = .returned (.bool true) ∧ PK w') := Lib.hid (fun a' c' W hW ⟨lo, hi, h2⟩ => by
      obtain ⟨lo0, hi0, h1⟩ := HZT.out _ hW
      refine (sameInts_eq a1 a' ca1 c' lo0 hi0 lo hi (zl (treeZ ms Ts.data.toList)) (by omega) W h1 h2).mono fun e w' ⟨he, hb⟩ => ⟨he, HON.out _ _ hW hb⟩)
    have HSP : Hid (∀ W, PK W → Calls Tryz.prog 16 #[sg ms Ts] W fun e w' => (∃ a' c', e = .returned (.slice a' (zl (pathZ ms Ts.data.toList)).length c') ∧ TmpF (zl (pathZ ms Ts.data.toList)) a' w') ∧ PK w') := Lib.hid (fun W hW => (specPlanePaths ms (by unfold I64; omega) Ts (by omega) W).mono fun e w' ⟨⟨a', c', he, hn'⟩, hb⟩ => ⟨⟨a', c', he, _, _, hn'⟩, HON.out _ _ hW hb⟩)
    have HEP : Hid (∀ a' c' W, PK W → TmpF (zl (pathZ ms Ts.data.toList)) a' W → Calls Tryz.prog 14 #[.slice a2 (zl (pathZ ms Ts.data.toList)).length ca2, .slice a' (zl (pathZ ms Ts.data.toList)).length c'] W fun e w' => e = .returned (.bool true) ∧ PK w') := Lib.hid (fun a' c' W hW ⟨lo, hi, h2⟩ => by
      obtain ⟨lo0, hi0, h1⟩ := HZP.out _ hW
      refine (sameInts_eq a2 a' ca2 c' lo0 hi0 lo hi (zl (pathZ ms Ts.data.toList)) (by omega) W h1 h2).mono fun e w' ⟨he, hb⟩ => ⟨he, HON.out _ _ hW hb⟩)
    have HSR : Hid (∀ W, PK W → Calls Tryz.prog 17 #[sg ms Ts] W fun e w' => (∃ a' c', e = .returned (.slice a' (zl (ringZ ms Ts.data.toList)).length c') ∧ TmpF (zl (ringZ ms Ts.data.toList)) a' w') ∧ PK w') := Lib.hid (fun W hW => (specPolygonsOf ms (by unfold I64; omega) Ts (by omega) W).mono fun e w' ⟨⟨a', c', he, hn'⟩, hb⟩ => ⟨⟨a', c', he, _, _, hn'⟩, HON.out _ _ hW hb⟩)
    have HER : Hid (∀ a' c' W, PK W → TmpF (zl (ringZ ms Ts.data.toList)) a' W → Calls Tryz.prog 14 #[.slice a3 (zl (ringZ ms Ts.data.toList)).length ca3, .slice a' (zl (ringZ ms Ts.data.toList)).length c'] W fun e w' => e = .returned (.bool true) ∧ PK w') := Lib.hid (fun a' c' W hW ⟨lo, hi, h2⟩ => by
      obtain ⟨lo0, hi0, h1⟩ := HZR.out _ hW
      refine (sameInts_eq a3 a' ca3 c' lo0 hi0 lo hi (zl (ringZ ms Ts.data.toList)) (by omega) W h1 h2).mono fun e w' ⟨he, hb⟩ => ⟨he, HON.out _ _ hW hb⟩)
    have HSQ : Hid (∀ W, PK W → Calls Tryz.prog 18 #[sg ms Ts] W fun e w' => (∃ a' c', e = .returned (.slice a' (zl (pairZ ms Ts.data.toList)).length c') ∧ TmpF (zl (pairZ ms Ts.data.toList)) a' w') ∧ PK w') := Lib.hid (fun W hW => (specPlaneMatchings ms (by unfold I64; omega) Ts (by omega) W).mono fun e w' ⟨⟨a', c', he, hn'⟩, hb⟩ => ⟨⟨a', c', he, _, _, hn'⟩, HON.out _ _ hW hb⟩)
    have HEQ : Hid (∀ a' c' W, PK W → TmpF (zl (pairZ ms Ts.data.toList)) a' W → Calls Tryz.prog 14 #[.slice a4 (zl (pairZ ms Ts.data.toList)).length ca4, .slice a' (zl (pairZ ms Ts.data.toList)).length c'] W fun e w' => e = .returned (.bool true) ∧ PK w') := Lib.hid (fun a' c' W hW ⟨lo, hi, h2⟩ => by
      obtain ⟨lo0, hi0, h1⟩ := HZQ.out _ hW
      refine (sameInts_eq a4 a' ca4 c' lo0 hi0 lo hi (zl (pairZ ms Ts.data.toList)) (by omega) W h1 h2).mono fun e w' ⟨he, hb⟩ => ⟨he, HON.out _ _ hW hb⟩)
    have HTI : Hid (∀ W, PK W → Calls Tryz.prog 19 #[.int .i64 n0, .int .i64 e0] W fun e w' => e = .returned (.bool (trB n0 e0)) ∧ PK w') := Lib.hid (fun W hW => (implIsTree n0 e0 (by unfold I64; omega) (by unfold I64; omega) W (HTB.out W hW)).mono fun e w' ⟨he, hb⟩ => ⟨he, HON.out _ _ hW hb⟩)
    have HTS : Hid (∀ W, PK W → Calls Tryz.prog 20 #[.int .i64 n0, .int .i64 e0] W fun e w' => e = .returned (.bool (trB n0 e0)) ∧ PK w') := Lib.hid (fun W hW => (specIsTree n0 e0 W).mono fun e w' ⟨he, hw⟩ => ⟨he, hw ▸ hW⟩)
    have HDI : Hid (∀ W, PK W → Calls Tryz.prog 21 #[.int .i64 m0, .int .i64 f0] W fun e w' => (∃ a' c', e = .returned (.slice a' (zl (degZ m0 f0)).length c') ∧ TmpF (zl (degZ m0 f0)) a' w') ∧ PK w') := Lib.hid (fun W hW => (implDegrees m0 f0 (by unfold I64; omega) (by unfold I64; omega) W (HTB.out W hW)).mono fun e w' ⟨⟨a', c', he, hn'⟩, hb⟩ => ⟨⟨a', c', he, _, _, hn'⟩, HON.out _ _ hW hb⟩)
    have HDS : Hid (∀ W, PK W → Calls Tryz.prog 22 #[.int .i64 m0, .int .i64 f0] W fun e w' => (∃ a' c', e = .returned (.slice a' (zl (degZ m0 f0)).length c') ∧ TmpF (zl (degZ m0 f0)) a' w') ∧ PK w') := Lib.hid (fun W hW => (specDegrees m0 f0 W).mono fun e w' ⟨⟨a', c', he, hn'⟩, hb⟩ => ⟨⟨a', c', he, _, _, hn'⟩, HON.out _ _ hW hb⟩)
    have HDE : Hid (∀ a c a' c' W, PK W → TmpF (zl (degZ m0 f0)) a W → TmpF (zl (degZ m0 f0)) a' W → Calls Tryz.prog 14 #[.slice a (zl (degZ m0 f0)).length c, .slice a' (zl (degZ m0 f0)).length c'] W fun e w' => e = .returned (.bool true) ∧ PK w') := Lib.hid (fun a c a' c' W hW ⟨lo0, hi0, h1⟩ ⟨lo, hi, h2⟩ => by
      refine (sameInts_eq a a' c c' lo0 hi0 lo hi (zl (degZ m0 f0)) (by omega) W h1 h2).mono fun e w' ⟨he, hb⟩ => ⟨he, HON.out _ _ hW hb⟩)
    have HDON : Hid (∀ a W w', TmpF (zl (degZ m0 f0)) a W → Below W.heap.size W w' → TmpF (zl (degZ m0 f0)) a w') := Lib.hid (fun a W w' h hb => h.on hb)
    have HDS2 : Hid (∀ a W, PK W → TmpF (zl (degZ m0 f0)) a W → Calls Tryz.prog 22 #[.int .i64 m0, .int .i64 f0] W fun e w' => (∃ a' c', e = .returned (.slice a' (zl (degZ m0 f0)).length c') ∧ TmpF (zl (degZ m0 f0)) a' w') ∧ TmpF (zl (degZ m0 f0)) a w' ∧ PK w') := Lib.hid (fun a W hW ha => (specDegrees m0 f0 W).mono fun e w' ⟨⟨a', c', he, hn'⟩, hb⟩ => ⟨⟨a', c', he, _, _, hn'⟩, ha.on hb, HON.out _ _ hW hb⟩)
    have PAC : Hid (∀ W, PK W → Calls Tryz.prog 27 #[sg ms Ts] W fun e w' => e = .returned (.bool (aciB ms Ts.data.toList)) ∧ PK w') := Lib.hid (fun W hW => (specAci ms Ts (by omega) W).mono fun e w' ⟨he, hb⟩ => ⟨he, HON.out _ _ hW hb⟩)
    have PCV : Hid (∀ W, PK W → Calls Tryz.prog 28 #[sg ms Ts] W fun e w' => e = .returned (.bool (cvxB ms Ts.data.toList)) ∧ PK w') := Lib.hid (fun W hW => (specIsConvex ms Ts (by omega) W).mono fun e w' ⟨he, hb⟩ => ⟨he, HON.out _ _ hW hb⟩)
    have HTF : Hid (∀ z ∈ (zl (treeZ ms Ts.data.toList)), (∀ W, PK W → Calls Tryz.prog 19 #[.int .i64 ms, .int .i64 z] W fun e w' => e = .returned (.bool true) ∧ PK w') ∧ (∀ W, PK W → Calls Tryz.prog 23 #[sg ms Ts, .int .i64 z] W fun e w' => e = .returned (.bool true) ∧ PK w') ∧ (∀ W, PK W → Calls Tryz.prog 21 #[.int .i64 ms, .int .i64 z] W fun e w' => (∃ a' c', e = .returned (.slice a' (zl (degZ ms z)).length c') ∧ TmpF (zl (degZ ms z)) a' w') ∧ PK w') ∧ (∀ a' c' W, TmpF (zl (degZ ms z)) a' W → Calls Tryz.prog 24 #[.slice a' (zl (degZ ms z)).length c'] W fun e w' => e = .returned (.int .i64 (2 * (ms : Int) - 2)) ∧ W = w')) := Lib.hid (fun z hz => by
      obtain ⟨u, hu, rfl⟩ := mem_zlF hz
      obtain ⟨h1, h2, h3, h4⟩ := tree_fact hu
      obtain ⟨d1, d2⟩ := degZ_bd ms u
      refine ⟨fun W hW => ?_, fun W hW => ?_, fun W hW => ?_, fun a' c' W ⟨lo, hi, ha⟩ => ?_⟩
      · refine (implIsTree ms u (by unfold I64; omega) (by unfold I64; omega) W (HTB.out W hW)).mono fun e w' ⟨he, hb⟩ => ⟨by rw [he, h2], HON.out _ _ hW hb⟩
      · refine (specPlane ms Ts (by omega) u W).mono fun e w' ⟨he, hb⟩ => ⟨by rw [he, h3]; rfl, HON.out _ _ hW hb⟩
      · refine (implDegrees ms u (by unfold I64; omega) (by unfold I64; omega) W (HTB.out W hW)).mono fun e w' ⟨⟨a', c', he, hn'⟩, hb⟩ => ⟨⟨a', c', he, _, _, hn'⟩, HON.out _ _ hW hb⟩
      · refine (total_any lo hi a' c' _ d1 d2 W ha).mono fun e w' ⟨he, hw⟩ => ⟨by rw [he, h4], hw⟩)
    have HPF : Hid (∀ z ∈ (zl (pathZ ms Ts.data.toList)), ∀ W, PK W → Calls Tryz.prog 25 #[.slice a1 (zl (treeZ ms Ts.data.toList)).length ca1, .int .i64 z] W fun e w' => e = .returned (.bool true) ∧ PK w') := Lib.hid (fun z hz W hW => by
      obtain ⟨u, hu, rfl⟩ := mem_zlF hz
      obtain ⟨lo, hi, h1⟩ := HZT.out _ hW
      refine (hasInt_any a1 ca1 lo hi (zl (treeZ ms Ts.data.toList)) (by omega) u W h1).mono fun e w' ⟨he, hb⟩ => ⟨by rw [he, decide_eq_true (zl_memF (path_tree hu))], HON.out _ _ hW hb⟩)
    have HRF : Hid (∀ z ∈ (zl (ringZ ms Ts.data.toList)), (∃ q : Int, q = (ms : Int) ∧ 0 ≤ q ∧ q ≤ 21 ∧ ∀ W, Calls Tryz.prog 26 #[.int .i64 z] W fun e w' => e = .returned (.int .i64 q) ∧ W = w') ∧ (∀ W, PK W → Calls Tryz.prog 23 #[sg ms Ts, .int .i64 z] W fun e w' => e = .returned (.bool true) ∧ PK w')) := Lib.hid (fun z hz => by
      obtain ⟨u, hu, rfl⟩ := mem_zlF hz
      obtain ⟨h1, h2, h3⟩ := ring_fact hu
      have hle := szF_le 21 u
      refine ⟨⟨((szF 21 u : Nat) : Int), by omega, by omega, by omega, fun W => sizeE_any u h1 W⟩, fun W hW => ?_⟩
      refine (specPlane ms Ts (by omega) u W).mono fun e w' ⟨he, hb⟩ => ⟨by rw [he, h3]; rfl, HON.out _ _ hW hb⟩)
    have HQF : Hid (∀ z ∈ (zl (pairZ ms Ts.data.toList)), (∃ q : Int, 2 * q = (ms : Int) ∧ 0 ≤ q ∧ q ≤ 21 ∧ ∀ W, Calls Tryz.prog 26 #[.int .i64 z] W fun e w' => e = .returned (.int .i64 q) ∧ W = w') ∧ (∀ W, PK W → Calls Tryz.prog 23 #[sg ms Ts, .int .i64 z] W fun e w' => e = .returned (.bool true) ∧ PK w')) := Lib.hid (fun z hz => by
      obtain ⟨u, hu, rfl⟩ := mem_zlF hz
      obtain ⟨h1, h2, h3⟩ := pair_fact hu
      have hle := szF_le 21 u
      refine ⟨⟨((szF 21 u : Nat) : Int), by omega, by omega, by omega, fun W => sizeE_any u h1 W⟩, fun W hW => ?_⟩
      refine (specPlane ms Ts (by omega) u W).mono fun e w' ⟨he, hb⟩ => ⟨by rw [he, h3]; rfl, HON.out _ _ hW hb⟩)
    have HNO : Hid (((aciB ms Ts.data.toList) && decide ((ms : Int) ≤ 6)) = false → (zl (treeZ ms Ts.data.toList)).length = 0) := Lib.hid (fun h => by rw [tree_no h]; rfl)
    have HMA : Hid ((aciB ms Ts.data.toList) = true → (ms : Int) ≤ 6 → 3 ≤ ms ∧ 0 < (zl (ringZ ms Ts.data.toList)).length ∧ ms ≤ (zl (pathZ ms Ts.data.toList)).length ∧ (decide (0 < (zl (pairZ ms Ts.data.toList)).length) = decide (ms % 2 = 0)) ∧ ((cvxB ms Ts.data.toList) = true → (zl (ringZ ms Ts.data.toList)).length = 1 ∧ (zl (treeZ ms Ts.data.toList)).length = trN ms ∧ (zl (pathZ ms Ts.data.toList)).length = paN ms)) := Lib.hid (fun h h6 => by
      have h3 := (aciB_n h).1
      rw [zl_length, zl_length, zl_length, zl_length]
      exact ⟨by omega, many_fact h (by omega)⟩)
    clear hTs
    generalize hz1 : (trB n0 e0) = tr at HTI HTS
    generalize hz2 : (aciB ms Ts.data.toList) = ac at PAC HNO HMA
    generalize hz3 : (cvxB ms Ts.data.toList) = cv at PCV HMA
    generalize hz4 : (zl (treeZ ms Ts.data.toList)) = zt at HZT HST HET HTF HPF HNO HMA hlT ⊢
    generalize hz5 : (zl (pathZ ms Ts.data.toList)) = zp at HZP HSP HEP HPF HMA hlP ⊢
    generalize hz6 : (zl (ringZ ms Ts.data.toList)) = zr at HZR HSR HER HRF HMA hlR ⊢
    generalize hz7 : (zl (pairZ ms Ts.data.toList)) = zq at HZQ HSQ HEQ HQF HMA hlQ ⊢
    generalize hz8 : (zl (degZ m0 f0)) = dg at HDI HDS HDE HDON HDS2 hlD
    clear hz1 hz2 hz3 hz4 hz5 hz6 hz7 hz8 HDS HDON hlD
    have g1 : (tr != tr) = false := by cases tr <;> rfl
    obtain ⟨x0, x1⟩ := HCs.out _ Q0.out
    go_wp2_with fail
    refine (HST.out _ Q0.out).mono ?_
    rintro e v1 ⟨⟨b', d', rfl, t'⟩, hk1⟩
    have Q1 := Lib.hid hk1
    have TT := Lib.hid t'
    clear hk1 Q0 x0 x1 t'
    go_wp2_with fail
    refine (HET.out _ _ _ Q1.out TT.out).mono ?_
    rintro e v2 ⟨rfl, hk2⟩
    have Q2 := Lib.hid hk2
    clear hk2 Q1
    clear TT
    obtain ⟨x0, x1⟩ := HCs.out _ Q2.out
    go_wp2_with fail
    refine (HSP.out _ Q2.out).mono ?_
    rintro e v3 ⟨⟨b', d', rfl, t'⟩, hk3⟩
    have Q3 := Lib.hid hk3
    have TT := Lib.hid t'
    clear hk3 Q2 x0 x1 t'
    go_wp2_with fail
    refine (HEP.out _ _ _ Q3.out TT.out).mono ?_
    rintro e v4 ⟨rfl, hk4⟩
    have Q4 := Lib.hid hk4
    clear hk4 Q3
    clear TT
    obtain ⟨x0, x1⟩ := HCs.out _ Q4.out
    go_wp2_with fail
    refine (HSR.out _ Q4.out).mono ?_
    rintro e v5 ⟨⟨b', d', rfl, t'⟩, hk5⟩
    have Q5 := Lib.hid hk5
    have TT := Lib.hid t'
    clear hk5 Q4 x0 x1 t'
    go_wp2_with fail
    refine (HER.out _ _ _ Q5.out TT.out).mono ?_
    rintro e v6 ⟨rfl, hk6⟩
    have Q6 := Lib.hid hk6
    clear hk6 Q5
    clear TT
    obtain ⟨x0, x1⟩ := HCs.out _ Q6.out
    go_wp2_with fail
    refine (HSQ.out _ Q6.out).mono ?_
    rintro e v7 ⟨⟨b', d', rfl, t'⟩, hk7⟩
    have Q7 := Lib.hid hk7
    have TT := Lib.hid t'
    clear hk7 Q6 x0 x1 t'
    go_wp2_with fail
    refine (HEQ.out _ _ _ Q7.out TT.out).mono ?_
    rintro e v8 ⟨rfl, hk8⟩
    have Q8 := Lib.hid hk8
    clear hk8 Q7
    clear TT
    go_wp2_with fail
    refine (HTI.out _ Q8.out).mono ?_
    rintro e v9 ⟨rfl, hk9⟩
    have Q9 := Lib.hid hk9
    clear hk9 Q8
    go_wp2_with fail
    refine (HTS.out _ Q9.out).mono ?_
    rintro e v10 ⟨rfl, hk10⟩
    have Q10 := Lib.hid hk10
    clear hk10 Q9
    go_wp2_with fail
    refine (HDI.out _ Q10.out).mono ?_
    rintro e v11 ⟨⟨b', d', rfl, t'⟩, hk11⟩
    have Q11 := Lib.hid hk11
    have TT := Lib.hid t'
    clear hk11 Q10 t'
    go_wp2_with fail
    refine (HDS2.out _ _ Q11.out TT.out).mono ?_
    rintro e v12 ⟨⟨b2', d2', rfl, t2'⟩, t1', hk12⟩
    have Q12 := Lib.hid hk12
    have T1 := Lib.hid t1'
    have T2 := Lib.hid t2'
    clear hk12 Q11 t1' t2' TT
    go_wp2_with fail
    refine (HDE.out _ _ _ _ _ Q12.out T1.out T2.out).mono ?_
    rintro e v13 ⟨rfl, hk13⟩
    have Q13 := Lib.hid hk13
    clear hk13 Q12
    clear T1 T2 HST HET HSP HEP HSR HER HSQ HEQ HTI HTS HDI HDS2 HDE
    go_wp2_with fail
    go_loopw [12] (fun x wr => ∃ i : Nat, i ≤ zt.length ∧ x = .int .i64 i ∧ Hid (PK wr)) (fun x _ => zt.length - (intOf x).toNat)
    case atStart => exact ⟨0, Nat.zero_le _, rfl, Q13⟩
    case round =>
      clear Q13
      obtain ⟨i, hi, rfl, Q14⟩ := hrel
      by_cases hlt : i < zt.length
      · as_aux_lemma =>
        obtain ⟨bz, rfl, y0⟩ := (HZT.out _ Q14.out).get hlt
        have HZC : Hid (∀ W, PK W → W.cell? ⟨bz, i, none⟩ = some (.int .i64 (zt.getD i 0))) := Lib.hid (fun W hW => by obtain ⟨b, e1, e2⟩ := (HZT.out _ hW).get hlt; injection e1 with e1; injection e1 with e1; subst e1; exact e2)
        have HCZ := Lib.hid (HTF.out (zt.getD i 0) (getD_memF hlt))
        generalize zt.getD i 0 = zv at y0 HZC HCZ
        have i1 : (0 : Int) ≤ (i : Int) := by omega
        have i2 : (i : Int) < (zt.length : Int) := by omega
        have HCS : Hid (∀ W, PK W → W.cell? ⟨bs, 0, none⟩ = some (.int .i64 ms) ∧ W.cell? ⟨bs, 1, none⟩ = some (.string Ts) ∧ W.cell? ⟨bz, i, none⟩ = some (.int .i64 zv) ∧ PK W) := Lib.hid (fun W hW => ⟨(HCs.out W hW).1, (HCs.out W hW).2, HZC.out W hW, hW⟩)
        generalize hdz : (zl (degZ ms zv)) = dz at HCZ
        clear hdz
        have KA : Hid (∀ W, (W.cell? ⟨bs, 0, none⟩ = some (.int .i64 ms) ∧ W.cell? ⟨bs, 1, none⟩ = some (.string Ts) ∧ W.cell? ⟨bz, i, none⟩ = some (.int .i64 zv) ∧ PK W) → Calls Tryz.prog 19 #[.int .i64 ms, .int .i64 zv] W fun e w' => e = .returned (.bool true) ∧ w'.cell? ⟨bs, 0, none⟩ = some (.int .i64 ms) ∧ w'.cell? ⟨bs, 1, none⟩ = some (.string Ts) ∧ w'.cell? ⟨bz, i, none⟩ = some (.int .i64 zv) ∧ PK w') := Lib.hid (fun W hW => (HCZ.out.1 W hW.2.2.2).mono fun e w' ⟨he, hk⟩ => ⟨he, HCS.out _ hk⟩)
        have KB : Hid (∀ W, (W.cell? ⟨bs, 0, none⟩ = some (.int .i64 ms) ∧ W.cell? ⟨bs, 1, none⟩ = some (.string Ts) ∧ W.cell? ⟨bz, i, none⟩ = some (.int .i64 zv) ∧ PK W) → Calls Tryz.prog 23 #[sg ms Ts, .int .i64 zv] W fun e w' => e = .returned (.bool true) ∧ w'.cell? ⟨bs, 0, none⟩ = some (.int .i64 ms) ∧ w'.cell? ⟨bs, 1, none⟩ = some (.string Ts) ∧ w'.cell? ⟨bz, i, none⟩ = some (.int .i64 zv) ∧ PK w') := Lib.hid (fun W hW => (HCZ.out.2.1 W hW.2.2.2).mono fun e w' ⟨he, hk⟩ => ⟨he, HCS.out _ hk⟩)
        obtain ⟨p1, hp1⟩ : ∃ p : Int, p = 2 * (ms : Int) := ⟨_, rfl⟩
        obtain ⟨q1, hq1⟩ : ∃ p : Int, p = p1 - 2 := ⟨_, rfl⟩
        have v1 : IntKind.i64.wrap (2 * (ms : Int)) = p1 := by rw [IntWalk.i64_in _ (by omega), hp1]
        have v2 : IntKind.i64.wrap (p1 - 2) = q1 := by rw [IntWalk.i64_in _ (by omega), hq1]
        have KC : Hid (∀ W, (W.cell? ⟨bs, 0, none⟩ = some (.int .i64 ms) ∧ W.cell? ⟨bs, 1, none⟩ = some (.string Ts) ∧ W.cell? ⟨bz, i, none⟩ = some (.int .i64 zv) ∧ PK W) → Calls Tryz.prog 21 #[.int .i64 ms, .int .i64 zv] W fun e w' => (∃ a' c', e = .returned (.slice a' dz.length c') ∧ TmpF dz a' w') ∧ w'.cell? ⟨bs, 0, none⟩ = some (.int .i64 ms) ∧ w'.cell? ⟨bs, 1, none⟩ = some (.string Ts) ∧ w'.cell? ⟨bz, i, none⟩ = some (.int .i64 zv) ∧ PK w') := Lib.hid (fun W hW => (HCZ.out.2.2.1 W hW.2.2.2).mono fun e w' ⟨he, hk⟩ => ⟨he, HCS.out _ hk⟩)
        have KD : Hid (∀ a' c' W, (W.cell? ⟨bs, 0, none⟩ = some (.int .i64 ms) ∧ W.cell? ⟨bs, 1, none⟩ = some (.string Ts) ∧ W.cell? ⟨bz, i, none⟩ = some (.int .i64 zv) ∧ PK W) → TmpF dz a' W → Calls Tryz.prog 24 #[.slice a' dz.length c'] W fun e w' => e = .returned (.int .i64 q1) ∧ w'.cell? ⟨bs, 0, none⟩ = some (.int .i64 ms) ∧ w'.cell? ⟨bs, 1, none⟩ = some (.string Ts) ∧ w'.cell? ⟨bz, i, none⟩ = some (.int .i64 zv) ∧ PK w') := Lib.hid (fun a' c' W hW ha => (HCZ.out.2.2.2 a' c' W ha).mono fun e w' ⟨he, hw⟩ => ⟨by rw [he, hq1, hp1], hw ▸ hW⟩)
        have b1 : (q1 != q1) = false := by simp
        clear hp1 hq1
        obtain ⟨x0, x1, -⟩ := HCS.out _ Q14.out
        go_upto_region 15 with fail
        refine wp_region_held (S := fun W => W.cell? ⟨bs, 0, none⟩ = some (.int .i64 ms) ∧ W.cell? ⟨bs, 1, none⟩ = some (.string Ts) ∧ W.cell? ⟨bz, i, none⟩ = some (.int .i64 zv) ∧ PK W) rfl ?_
        have hHeld := (HCS.out _ (HDR.out _ Q14.out))
        (refine Held.takeH (i := 0) (k := 89) (v := ?_) rfl (by as_aux_lemma => kernel_rfl) (by as_aux_lemma => kernel_rfl) (by as_aux_lemma => kernel_rfl) (by as_aux_lemma => kernel_rfl) (fun _ _ _ h => h) (Or.inl ⟨by rfl, ?_⟩) (by assumption) ?_; rotate_left; (focus (intro w hSw; (try dsimp only at hSw); go_simp; (try with_reducible rfl))); (simp only [List.setIfInBounds_toArray, List.set_cons_zero, List.set_cons_succ]))
        (refine Held.takeH (i := 1) (k := 90) (v := ?_) rfl (by as_aux_lemma => kernel_rfl) (by as_aux_lemma => kernel_rfl) (by as_aux_lemma => kernel_rfl) (by as_aux_lemma => kernel_rfl) (fun _ _ _ h => h) (Or.inl ⟨by rfl, ?_⟩) (by assumption) ?_; rotate_left; (focus (intro w hSw; (try dsimp only at hSw); go_simp; (try with_reducible rfl))); (simp only [List.setIfInBounds_toArray, List.set_cons_zero, List.set_cons_succ]))
        (refine Held.takeH (i := 2) (k := 91) (v := ?_) rfl (by as_aux_lemma => kernel_rfl) (by as_aux_lemma => kernel_rfl) (by as_aux_lemma => kernel_rfl) (by as_aux_lemma => kernel_rfl) (fun _ _ _ h => h) (Or.inl ⟨by rfl, ?_⟩) (by assumption) ?_; rotate_left; (focus (intro w hSw; (try dsimp only at hSw); go_simp; (try with_reducible rfl))); (simp only [List.setIfInBounds_toArray, List.set_cons_zero, List.set_cons_succ]))
        (refine Held.takeH (i := 3) (k := 92) (v := ?_) rfl (by as_aux_lemma => kernel_rfl) (by as_aux_lemma => kernel_rfl) (by as_aux_lemma => kernel_rfl) (by as_aux_lemma => kernel_rfl) (fun _ _ _ h => h) (Or.inl ⟨by rfl, ?_⟩) (by assumption) ?_; rotate_left; (focus (intro w hSw; (try dsimp only at hSw); go_simp; (try with_reducible rfl))); (simp only [List.setIfInBounds_toArray, List.set_cons_zero, List.set_cons_succ]))
        (refine Held.takeH (i := 4) (k := 93) (v := ?_) rfl (by as_aux_lemma => kernel_rfl) (by as_aux_lemma => kernel_rfl) (by as_aux_lemma => kernel_rfl) (by as_aux_lemma => kernel_rfl) (fun _ _ _ h => h) (Or.inl ⟨by rfl, ?_⟩) (by assumption) ?_; rotate_left; (focus (intro w hSw; (try dsimp only at hSw); go_simp; (try with_reducible rfl))); (simp only [List.setIfInBounds_toArray, List.set_cons_zero, List.set_cons_succ]))
        (refine Held.takeH (i := 5) (k := 94) (v := ?_) rfl (by as_aux_lemma => kernel_rfl) (by as_aux_lemma => kernel_rfl) (by as_aux_lemma => kernel_rfl) (by as_aux_lemma => kernel_rfl) (fun _ _ _ h => h) (Or.inl ⟨by rfl, ?_⟩) (by assumption) ?_; rotate_left; (focus (intro w hSw; (try dsimp only at hSw); go_simp; (try with_reducible rfl))); (simp only [List.setIfInBounds_toArray, List.set_cons_zero, List.set_cons_succ]))
        refine wpAnyH_ready (rs := [6]) (by as_aux_lemma => kernel_rfl) (by simp) ?_
        refine AllReadyH.cons rfl (fun K hK => ?_) AllReadyH.nil
        go_simp
        refine (KA.out _ hHeld).mono ?_
        rintro e' w' ⟨rfl, hS'⟩
        refine hK.out _ _ hS' (fun hHeld => ?_)
        clear hK K
        try simp only [Act.put, List.setIfInBounds_toArray, List.set_cons_zero, List.set_cons_succ]
        (refine Held.takeH (i := 7) (k := 96) (v := .bool false) rfl (by as_aux_lemma => kernel_rfl) (by as_aux_lemma => kernel_rfl) (by as_aux_lemma => kernel_rfl) (by as_aux_lemma => kernel_rfl) (fun _ _ _ h => h) (Or.inl ⟨by rfl, ?_⟩) (by assumption) ?_; (focus (intro w hSw; (try dsimp only at hSw); go_simp; (try rfl))); (simp only [List.setIfInBounds_toArray, List.set_cons_zero, List.set_cons_succ]))
        (refine Held.takeH (i := 8) (k := 97) (v := .bool false) rfl (by as_aux_lemma => kernel_rfl) (by as_aux_lemma => kernel_rfl) (by as_aux_lemma => kernel_rfl) (by as_aux_lemma => kernel_rfl) (fun _ _ _ h => h) (Or.inl ⟨by rfl, ?_⟩) (by assumption) ?_; (focus (intro w hSw; (try dsimp only at hSw); go_simp; (try rfl))); (simp only [List.setIfInBounds_toArray, List.set_cons_zero, List.set_cons_succ]))
        (refine Held.takeH (i := 9) (k := 98) (v := ?_) rfl (by as_aux_lemma => kernel_rfl) (by as_aux_lemma => kernel_rfl) (by as_aux_lemma => kernel_rfl) (by as_aux_lemma => kernel_rfl) (fun _ _ _ h => h) (Or.inl ⟨by rfl, ?_⟩) (by assumption) ?_; rotate_left; (focus (intro w hSw; (try dsimp only at hSw); go_simp; (try with_reducible rfl))); (simp only [List.setIfInBounds_toArray, List.set_cons_zero, List.set_cons_succ]))
        (refine Held.takeH (i := 10) (k := 99) (v := ?_) rfl (by as_aux_lemma => kernel_rfl) (by as_aux_lemma => kernel_rfl) (by as_aux_lemma => kernel_rfl) (by as_aux_lemma => kernel_rfl) (fun _ _ _ h => h) (Or.inl ⟨by rfl, ?_⟩) (by assumption) ?_; rotate_left; (focus (intro w hSw; (try dsimp only at hSw); go_simp; (try with_reducible rfl))); (simp only [List.setIfInBounds_toArray, List.set_cons_zero, List.set_cons_succ]))
        (refine Held.takeH (i := 11) (k := 100) (v := ?_) rfl (by as_aux_lemma => kernel_rfl) (by as_aux_lemma => kernel_rfl) (by as_aux_lemma => kernel_rfl) (by as_aux_lemma => kernel_rfl) (fun _ _ _ h => h) (Or.inl ⟨by rfl, ?_⟩) (by assumption) ?_; rotate_left; (focus (intro w hSw; (try dsimp only at hSw); go_simp; (try with_reducible rfl))); (simp only [List.setIfInBounds_toArray, List.set_cons_zero, List.set_cons_succ]))
        (refine Held.takeH (i := 12) (k := 101) (v := ?_) rfl (by as_aux_lemma => kernel_rfl) (by as_aux_lemma => kernel_rfl) (by as_aux_lemma => kernel_rfl) (by as_aux_lemma => kernel_rfl) (fun _ _ _ h => h) (Or.inl ⟨by rfl, ?_⟩) (by assumption) ?_; rotate_left; (focus (intro w hSw; (try dsimp only at hSw); go_simp; (try with_reducible rfl))); (simp only [List.setIfInBounds_toArray, List.set_cons_zero, List.set_cons_succ]))
        (refine Held.takeH (i := 13) (k := 102) (v := ?_) rfl (by as_aux_lemma => kernel_rfl) (by as_aux_lemma => kernel_rfl) (by as_aux_lemma => kernel_rfl) (by as_aux_lemma => kernel_rfl) (fun _ _ _ h => h) (Or.inl ⟨by rfl, ?_⟩) (by assumption) ?_; rotate_left; (focus (intro w hSw; (try dsimp only at hSw); go_simp; (try with_reducible rfl))); (simp only [List.setIfInBounds_toArray, List.set_cons_zero, List.set_cons_succ]))
        refine wpAnyH_ready (rs := [14]) (by as_aux_lemma => kernel_rfl) (by simp) ?_
        refine AllReadyH.cons rfl (fun K hK => ?_) AllReadyH.nil
        go_simp
        refine (KB.out _ hHeld).mono ?_
        rintro e' w' ⟨rfl, hS'⟩
        refine hK.out _ _ hS' (fun hHeld => ?_)
        clear hK K
        try simp only [Act.put, List.setIfInBounds_toArray, List.set_cons_zero, List.set_cons_succ]
        (refine Held.takeH (i := 15) (k := 104) (v := .bool false) rfl (by as_aux_lemma => kernel_rfl) (by as_aux_lemma => kernel_rfl) (by as_aux_lemma => kernel_rfl) (by as_aux_lemma => kernel_rfl) (fun _ _ _ h => h) (Or.inl ⟨by rfl, ?_⟩) (by assumption) ?_; (focus (intro w hSw; (try dsimp only at hSw); go_simp; (try rfl))); (simp only [List.setIfInBounds_toArray, List.set_cons_zero, List.set_cons_succ]))
        (refine Held.takeH (i := 16) (k := 105) (v := .bool false) rfl (by as_aux_lemma => kernel_rfl) (by as_aux_lemma => kernel_rfl) (by as_aux_lemma => kernel_rfl) (by as_aux_lemma => kernel_rfl) (fun _ _ _ h => h) (Or.inl ⟨by rfl, ?_⟩) (by assumption) ?_; (focus (intro w hSw; (try dsimp only at hSw); go_simp; (try rfl))); (simp only [List.setIfInBounds_toArray, List.set_cons_zero, List.set_cons_succ]))
        (refine Held.takeH (i := 17) (k := 106) (v := .bool false) rfl (by as_aux_lemma => kernel_rfl) (by as_aux_lemma => kernel_rfl) (by as_aux_lemma => kernel_rfl) (by as_aux_lemma => kernel_rfl) (fun _ _ _ h => h) (Or.inl ⟨by rfl, ?_⟩) (by assumption) ?_; (focus (intro w hSw; (try dsimp only at hSw); go_simp; (try rfl))); (simp only [List.setIfInBounds_toArray, List.set_cons_zero, List.set_cons_succ]))
        (refine Held.takeH (i := 18) (k := 107) (v := ?_) rfl (by as_aux_lemma => kernel_rfl) (by as_aux_lemma => kernel_rfl) (by as_aux_lemma => kernel_rfl) (by as_aux_lemma => kernel_rfl) (fun _ _ _ h => h) (Or.inl ⟨by rfl, ?_⟩) (by assumption) ?_; rotate_left; (focus (intro w hSw; (try dsimp only at hSw); go_simp; (try with_reducible rfl))); (simp only [List.setIfInBounds_toArray, List.set_cons_zero, List.set_cons_succ]))
        (refine Held.takeH (i := 19) (k := 108) (v := ?_) rfl (by as_aux_lemma => kernel_rfl) (by as_aux_lemma => kernel_rfl) (by as_aux_lemma => kernel_rfl) (by as_aux_lemma => kernel_rfl) (fun _ _ _ h => h) (Or.inl ⟨by rfl, ?_⟩) (by assumption) ?_; rotate_left; (focus (intro w hSw; (try dsimp only at hSw); go_simp; (try with_reducible rfl))); (simp only [List.setIfInBounds_toArray, List.set_cons_zero, List.set_cons_succ]))
        (refine Held.takeH (i := 20) (k := 109) (v := ?_) rfl (by as_aux_lemma => kernel_rfl) (by as_aux_lemma => kernel_rfl) (by as_aux_lemma => kernel_rfl) (by as_aux_lemma => kernel_rfl) (fun _ _ _ h => h) (Or.inl ⟨by rfl, ?_⟩) (by assumption) ?_; rotate_left; (focus (intro w hSw; (try dsimp only at hSw); go_simp; (try with_reducible rfl))); (simp only [List.setIfInBounds_toArray, List.set_cons_zero, List.set_cons_succ]))
        (refine Held.takeH (i := 21) (k := 110) (v := ?_) rfl (by as_aux_lemma => kernel_rfl) (by as_aux_lemma => kernel_rfl) (by as_aux_lemma => kernel_rfl) (by as_aux_lemma => kernel_rfl) (fun _ _ _ h => h) (Or.inl ⟨by rfl, ?_⟩) (by assumption) ?_; rotate_left; (focus (intro w hSw; (try dsimp only at hSw); go_simp; (try with_reducible rfl))); (simp only [List.setIfInBounds_toArray, List.set_cons_zero, List.set_cons_succ]))
        (refine Held.takeH (i := 22) (k := 111) (v := ?_) rfl (by as_aux_lemma => kernel_rfl) (by as_aux_lemma => kernel_rfl) (by as_aux_lemma => kernel_rfl) (by as_aux_lemma => kernel_rfl) (fun _ _ _ h => h) (Or.inl ⟨by rfl, ?_⟩) (by assumption) ?_; rotate_left; (focus (intro w hSw; (try dsimp only at hSw); go_simp; (try with_reducible rfl))); (simp only [List.setIfInBounds_toArray, List.set_cons_zero, List.set_cons_succ]))
        (refine Held.takeH (i := 23) (k := 112) (v := ?_) rfl (by as_aux_lemma => kernel_rfl) (by as_aux_lemma => kernel_rfl) (by as_aux_lemma => kernel_rfl) (by as_aux_lemma => kernel_rfl) (fun _ _ _ h => h) (Or.inl ⟨by rfl, ?_⟩) (by assumption) ?_; rotate_left; (focus (intro w hSw; (try dsimp only at hSw); go_simp; (try with_reducible rfl))); (simp only [List.setIfInBounds_toArray, List.set_cons_zero, List.set_cons_succ]))
        (refine Held.takeH (i := 26) (k := 115) (v := ?_) rfl (by as_aux_lemma => kernel_rfl) (by as_aux_lemma => kernel_rfl) (by as_aux_lemma => kernel_rfl) (by as_aux_lemma => kernel_rfl) (fun _ _ _ h => h) (Or.inl ⟨by rfl, ?_⟩) (by assumption) ?_; rotate_left; (focus (intro w hSw; (try dsimp only at hSw); go_simp; (try with_reducible rfl))); (simp only [List.setIfInBounds_toArray, List.set_cons_zero, List.set_cons_succ]))
        (refine Held.takeH (i := 27) (k := 116) (v := ?_) rfl (by as_aux_lemma => kernel_rfl) (by as_aux_lemma => kernel_rfl) (by as_aux_lemma => kernel_rfl) (by as_aux_lemma => kernel_rfl) (fun _ _ _ h => h) (Or.inl ⟨by rfl, ?_⟩) (by assumption) ?_; rotate_left; (focus (intro w hSw; (try dsimp only at hSw); go_simp; (try with_reducible rfl))); (simp only [List.setIfInBounds_toArray, List.set_cons_zero, List.set_cons_succ]))
        (refine Held.takeH (i := 28) (k := 117) (v := .int .i64 p1) rfl (by as_aux_lemma => kernel_rfl) (by as_aux_lemma => kernel_rfl) (by as_aux_lemma => kernel_rfl) (by as_aux_lemma => kernel_rfl) (fun _ _ _ h => h) (Or.inl ⟨by rfl, ?_⟩) (by assumption) ?_; (focus (intro w hSw; (try dsimp only at hSw); go_simp; (try rfl))); (simp only [List.setIfInBounds_toArray, List.set_cons_zero, List.set_cons_succ]))
        (refine Held.takeH (i := 29) (k := 118) (v := .int .i64 q1) rfl (by as_aux_lemma => kernel_rfl) (by as_aux_lemma => kernel_rfl) (by as_aux_lemma => kernel_rfl) (by as_aux_lemma => kernel_rfl) (fun _ _ _ h => h) (Or.inl ⟨by rfl, ?_⟩) (by assumption) ?_; (focus (intro w hSw; (try dsimp only at hSw); go_simp; (try rfl))); (simp only [List.setIfInBounds_toArray, List.set_cons_zero, List.set_cons_succ]))
        refine wpAnyH_ready (rs := [24]) (by as_aux_lemma => kernel_rfl) (by simp) ?_
        refine AllReadyH.cons rfl (fun K hK => ?_) AllReadyH.nil
        go_simp
        refine (KC.out _ hHeld).mono ?_
        rintro e' w' ⟨⟨a1', c1', rfl, t1'⟩, hS'⟩
        refine hK.out _ _ hS' (fun hHeld => ?_)
        clear hK K
        try simp only [Act.put, List.setIfInBounds_toArray, List.set_cons_zero, List.set_cons_succ]
        refine wpAnyH_ready (rs := [25]) (by as_aux_lemma => kernel_rfl) (by simp) ?_
        refine AllReadyH.cons rfl (fun K hK => ?_) AllReadyH.nil
        go_simp
        refine (KD.out _ _ _ hHeld t1').mono ?_
        rintro e' w' ⟨rfl, hS'⟩
        refine hK.out _ _ hS' (fun hHeld => ?_)
        clear hK K
        try simp only [Act.put, List.setIfInBounds_toArray, List.set_cons_zero, List.set_cons_succ]
        (refine Held.takeH (i := 30) (k := 119) (v := .bool false) rfl (by as_aux_lemma => kernel_rfl) (by as_aux_lemma => kernel_rfl) (by as_aux_lemma => kernel_rfl) (by as_aux_lemma => kernel_rfl) (fun _ _ _ h => h) (Or.inl ⟨by rfl, ?_⟩) (by assumption) ?_; (focus (intro w hSw; (try dsimp only at hSw); go_simp; (try rfl))); (simp only [List.setIfInBounds_toArray, List.set_cons_zero, List.set_cons_succ]))
        (refine Held.takeH (i := 31) (k := 120) (v := .bool false) rfl (by as_aux_lemma => kernel_rfl) (by as_aux_lemma => kernel_rfl) (by as_aux_lemma => kernel_rfl) (by as_aux_lemma => kernel_rfl) (fun _ _ _ h => h) (Or.inl ⟨by rfl, ?_⟩) (by assumption) ?_; (focus (intro w hSw; (try dsimp only at hSw); go_simp; (try rfl))); (simp only [List.setIfInBounds_toArray, List.set_cons_zero, List.set_cons_succ]))
        refine wpAnyH_done (by as_aux_lemma => kernel_rfl) ?_ _
        go_wp2_with fail
        exact ⟨⟨i + 1, by omega, by go_num, Lib.hid hHeld.2.2.2⟩, by simp only [intOf]; omega⟩
      · obtain rfl : i = zt.length := by omega
        clear hlt hi HTF
        go_wp2_with fail
        go_loopw [13] (fun x wr => ∃ i : Nat, i ≤ zp.length ∧ x = .int .i64 i ∧ Hid (PK wr)) (fun x _ => zp.length - (intOf x).toNat)
        case atStart => exact ⟨0, Nat.zero_le _, rfl, Q14⟩
        case round =>
          clear Q14
          obtain ⟨i, hi, rfl, Q15⟩ := hrel
          by_cases hlt : i < zp.length
          · as_aux_lemma =>
            obtain ⟨bz, rfl, y0⟩ := (HZP.out _ Q15.out).get hlt
            have HZC : Hid (∀ W, PK W → W.cell? ⟨bz, i, none⟩ = some (.int .i64 (zp.getD i 0))) := Lib.hid (fun W hW => by obtain ⟨b, e1, e2⟩ := (HZP.out _ hW).get hlt; injection e1 with e1; injection e1 with e1; subst e1; exact e2)
            have HCZ := Lib.hid (HPF.out (zp.getD i 0) (getD_memF hlt))
            generalize zp.getD i 0 = zv at y0 HZC HCZ
            have i1 : (0 : Int) ≤ (i : Int) := by omega
            have i2 : (i : Int) < (zp.length : Int) := by omega
            go_wp2_with fail
            refine (HCZ.out _ Q15.out).mono ?_
            rintro e v16 ⟨rfl, hk16⟩
            have Q16 := Lib.hid hk16
            clear hk16 Q15
            clear y0
            go_wp2_with fail
            exact ⟨⟨i + 1, by omega, by go_num, Q16⟩, by simp only [intOf]; omega⟩
          · obtain rfl : i = zp.length := by omega
            clear hlt hi HPF
            go_wp2_with fail
            go_loopw [14] (fun x wr => ∃ i : Nat, i ≤ zr.length ∧ x = .int .i64 i ∧ Hid (PK wr)) (fun x _ => zr.length - (intOf x).toNat)
            case atStart => exact ⟨0, Nat.zero_le _, rfl, Q15⟩
            case round =>
              clear Q15
              obtain ⟨i, hi, rfl, Q16⟩ := hrel
              by_cases hlt : i < zr.length
              · as_aux_lemma =>
                obtain ⟨bz, rfl, y0⟩ := (HZR.out _ Q16.out).get hlt
                have HZC : Hid (∀ W, PK W → W.cell? ⟨bz, i, none⟩ = some (.int .i64 (zr.getD i 0))) := Lib.hid (fun W hW => by obtain ⟨b, e1, e2⟩ := (HZR.out _ hW).get hlt; injection e1 with e1; injection e1 with e1; subst e1; exact e2)
                have HCZ := Lib.hid (HRF.out (zr.getD i 0) (getD_memF hlt))
                generalize zr.getD i 0 = zv at y0 HZC HCZ
                have i1 : (0 : Int) ≤ (i : Int) := by omega
                have i2 : (i : Int) < (zr.length : Int) := by omega
                have HCS : Hid (∀ W, PK W → W.cell? ⟨bs, 0, none⟩ = some (.int .i64 ms) ∧ W.cell? ⟨bs, 1, none⟩ = some (.string Ts) ∧ W.cell? ⟨bz, i, none⟩ = some (.int .i64 zv) ∧ PK W) := Lib.hid (fun W hW => ⟨(HCs.out W hW).1, (HCs.out W hW).2, HZC.out W hW, hW⟩)
                obtain ⟨⟨q, hq, hq0, hq21, HSQ⟩, HPL⟩ := HCZ.out
                have KA : Hid (∀ W, (W.cell? ⟨bs, 0, none⟩ = some (.int .i64 ms) ∧ W.cell? ⟨bs, 1, none⟩ = some (.string Ts) ∧ W.cell? ⟨bz, i, none⟩ = some (.int .i64 zv) ∧ PK W) → Calls Tryz.prog 26 #[.int .i64 zv] W fun e w' => e = .returned (.int .i64 q) ∧ w'.cell? ⟨bs, 0, none⟩ = some (.int .i64 ms) ∧ w'.cell? ⟨bs, 1, none⟩ = some (.string Ts) ∧ w'.cell? ⟨bz, i, none⟩ = some (.int .i64 zv) ∧ PK w') := Lib.hid (fun W hW => (HSQ W).mono fun e w' ⟨he, hw⟩ => ⟨he, hw ▸ hW⟩)
                have KB : Hid (∀ W, (W.cell? ⟨bs, 0, none⟩ = some (.int .i64 ms) ∧ W.cell? ⟨bs, 1, none⟩ = some (.string Ts) ∧ W.cell? ⟨bz, i, none⟩ = some (.int .i64 zv) ∧ PK W) → Calls Tryz.prog 23 #[sg ms Ts, .int .i64 zv] W fun e w' => e = .returned (.bool true) ∧ w'.cell? ⟨bs, 0, none⟩ = some (.int .i64 ms) ∧ w'.cell? ⟨bs, 1, none⟩ = some (.string Ts) ∧ w'.cell? ⟨bz, i, none⟩ = some (.int .i64 zv) ∧ PK w') := Lib.hid (fun W hW => (HPL W hW.2.2.2).mono fun e w' ⟨he, hk⟩ => ⟨he, HCS.out _ hk⟩)
                have b1 : (q != (ms : Int)) = false := by rw [hq]; simp
                clear HSQ HPL HCZ hq hq0 hq21
                obtain ⟨x0, x1, -⟩ := HCS.out _ Q16.out
                go_upto_region 25 with fail
                refine wp_region_held (S := fun W => W.cell? ⟨bs, 0, none⟩ = some (.int .i64 ms) ∧ W.cell? ⟨bs, 1, none⟩ = some (.string Ts) ∧ W.cell? ⟨bz, i, none⟩ = some (.int .i64 zv) ∧ PK W) rfl ?_
                have hHeld := (HCS.out _ (HDR.out _ Q16.out))
                (refine Held.takeH (i := 0) (k := 140) (v := ?_) rfl (by as_aux_lemma => kernel_rfl) (by as_aux_lemma => kernel_rfl) (by as_aux_lemma => kernel_rfl) (by as_aux_lemma => kernel_rfl) (fun _ _ _ h => h) (Or.inl ⟨by rfl, ?_⟩) (by assumption) ?_; rotate_left; (focus (intro w hSw; (try dsimp only at hSw); go_simp; (try with_reducible rfl))); (simp only [List.setIfInBounds_toArray, List.set_cons_zero, List.set_cons_succ]))
                (refine Held.takeH (i := 1) (k := 141) (v := ?_) rfl (by as_aux_lemma => kernel_rfl) (by as_aux_lemma => kernel_rfl) (by as_aux_lemma => kernel_rfl) (by as_aux_lemma => kernel_rfl) (fun _ _ _ h => h) (Or.inl ⟨by rfl, ?_⟩) (by assumption) ?_; rotate_left; (focus (intro w hSw; (try dsimp only at hSw); go_simp; (try with_reducible rfl))); (simp only [List.setIfInBounds_toArray, List.set_cons_zero, List.set_cons_succ]))
                (refine Held.takeH (i := 2) (k := 142) (v := ?_) rfl (by as_aux_lemma => kernel_rfl) (by as_aux_lemma => kernel_rfl) (by as_aux_lemma => kernel_rfl) (by as_aux_lemma => kernel_rfl) (fun _ _ _ h => h) (Or.inl ⟨by rfl, ?_⟩) (by assumption) ?_; rotate_left; (focus (intro w hSw; (try dsimp only at hSw); go_simp; (try with_reducible rfl))); (simp only [List.setIfInBounds_toArray, List.set_cons_zero, List.set_cons_succ]))
                (refine Held.takeH (i := 3) (k := 143) (v := ?_) rfl (by as_aux_lemma => kernel_rfl) (by as_aux_lemma => kernel_rfl) (by as_aux_lemma => kernel_rfl) (by as_aux_lemma => kernel_rfl) (fun _ _ _ h => h) (Or.inl ⟨by rfl, ?_⟩) (by assumption) ?_; rotate_left; (focus (intro w hSw; (try dsimp only at hSw); go_simp; (try with_reducible rfl))); (simp only [List.setIfInBounds_toArray, List.set_cons_zero, List.set_cons_succ]))
                (refine Held.takeH (i := 5) (k := 145) (v := ?_) rfl (by as_aux_lemma => kernel_rfl) (by as_aux_lemma => kernel_rfl) (by as_aux_lemma => kernel_rfl) (by as_aux_lemma => kernel_rfl) (fun _ _ _ h => h) (Or.inl ⟨by rfl, ?_⟩) (by assumption) ?_; rotate_left; (focus (intro w hSw; (try dsimp only at hSw); go_simp; (try with_reducible rfl))); (simp only [List.setIfInBounds_toArray, List.set_cons_zero, List.set_cons_succ]))
                (refine Held.takeH (i := 6) (k := 146) (v := ?_) rfl (by as_aux_lemma => kernel_rfl) (by as_aux_lemma => kernel_rfl) (by as_aux_lemma => kernel_rfl) (by as_aux_lemma => kernel_rfl) (fun _ _ _ h => h) (Or.inl ⟨by rfl, ?_⟩) (by assumption) ?_; rotate_left; (focus (intro w hSw; (try dsimp only at hSw); go_simp; (try with_reducible rfl))); (simp only [List.setIfInBounds_toArray, List.set_cons_zero, List.set_cons_succ]))
                refine wpAnyH_ready (rs := [4]) (by as_aux_lemma => kernel_rfl) (by simp) ?_
                refine AllReadyH.cons rfl (fun K hK => ?_) AllReadyH.nil
                go_simp
                refine (KA.out _ hHeld).mono ?_
                rintro e' w' ⟨rfl, hS'⟩
                refine hK.out _ _ hS' (fun hHeld => ?_)
                clear hK K
                try simp only [Act.put, List.setIfInBounds_toArray, List.set_cons_zero, List.set_cons_succ]
                (refine Held.takeH (i := 7) (k := 147) (v := .bool false) rfl (by as_aux_lemma => kernel_rfl) (by as_aux_lemma => kernel_rfl) (by as_aux_lemma => kernel_rfl) (by as_aux_lemma => kernel_rfl) (fun _ _ _ h => h) (Or.inl ⟨by rfl, ?_⟩) (by assumption) ?_; (focus (intro w hSw; (try dsimp only at hSw); go_simp; (try rfl))); (simp only [List.setIfInBounds_toArray, List.set_cons_zero, List.set_cons_succ]))
                (refine Held.takeH (i := 8) (k := 148) (v := .bool false) rfl (by as_aux_lemma => kernel_rfl) (by as_aux_lemma => kernel_rfl) (by as_aux_lemma => kernel_rfl) (by as_aux_lemma => kernel_rfl) (fun _ _ _ h => h) (Or.inl ⟨by rfl, ?_⟩) (by assumption) ?_; (focus (intro w hSw; (try dsimp only at hSw); go_simp; (try rfl))); (simp only [List.setIfInBounds_toArray, List.set_cons_zero, List.set_cons_succ]))
                (refine Held.takeH (i := 9) (k := 149) (v := ?_) rfl (by as_aux_lemma => kernel_rfl) (by as_aux_lemma => kernel_rfl) (by as_aux_lemma => kernel_rfl) (by as_aux_lemma => kernel_rfl) (fun _ _ _ h => h) (Or.inl ⟨by rfl, ?_⟩) (by assumption) ?_; rotate_left; (focus (intro w hSw; (try dsimp only at hSw); go_simp; (try with_reducible rfl))); (simp only [List.setIfInBounds_toArray, List.set_cons_zero, List.set_cons_succ]))
                (refine Held.takeH (i := 10) (k := 150) (v := ?_) rfl (by as_aux_lemma => kernel_rfl) (by as_aux_lemma => kernel_rfl) (by as_aux_lemma => kernel_rfl) (by as_aux_lemma => kernel_rfl) (fun _ _ _ h => h) (Or.inl ⟨by rfl, ?_⟩) (by assumption) ?_; rotate_left; (focus (intro w hSw; (try dsimp only at hSw); go_simp; (try with_reducible rfl))); (simp only [List.setIfInBounds_toArray, List.set_cons_zero, List.set_cons_succ]))
                (refine Held.takeH (i := 11) (k := 151) (v := ?_) rfl (by as_aux_lemma => kernel_rfl) (by as_aux_lemma => kernel_rfl) (by as_aux_lemma => kernel_rfl) (by as_aux_lemma => kernel_rfl) (fun _ _ _ h => h) (Or.inl ⟨by rfl, ?_⟩) (by assumption) ?_; rotate_left; (focus (intro w hSw; (try dsimp only at hSw); go_simp; (try with_reducible rfl))); (simp only [List.setIfInBounds_toArray, List.set_cons_zero, List.set_cons_succ]))
                (refine Held.takeH (i := 12) (k := 152) (v := ?_) rfl (by as_aux_lemma => kernel_rfl) (by as_aux_lemma => kernel_rfl) (by as_aux_lemma => kernel_rfl) (by as_aux_lemma => kernel_rfl) (fun _ _ _ h => h) (Or.inl ⟨by rfl, ?_⟩) (by assumption) ?_; rotate_left; (focus (intro w hSw; (try dsimp only at hSw); go_simp; (try with_reducible rfl))); (simp only [List.setIfInBounds_toArray, List.set_cons_zero, List.set_cons_succ]))
                (refine Held.takeH (i := 13) (k := 153) (v := ?_) rfl (by as_aux_lemma => kernel_rfl) (by as_aux_lemma => kernel_rfl) (by as_aux_lemma => kernel_rfl) (by as_aux_lemma => kernel_rfl) (fun _ _ _ h => h) (Or.inl ⟨by rfl, ?_⟩) (by assumption) ?_; rotate_left; (focus (intro w hSw; (try dsimp only at hSw); go_simp; (try with_reducible rfl))); (simp only [List.setIfInBounds_toArray, List.set_cons_zero, List.set_cons_succ]))
                refine wpAnyH_ready (rs := [14]) (by as_aux_lemma => kernel_rfl) (by simp) ?_
                refine AllReadyH.cons rfl (fun K hK => ?_) AllReadyH.nil
                go_simp
                refine (KB.out _ hHeld).mono ?_
                rintro e' w' ⟨rfl, hS'⟩
                refine hK.out _ _ hS' (fun hHeld => ?_)
                clear hK K
                try simp only [Act.put, List.setIfInBounds_toArray, List.set_cons_zero, List.set_cons_succ]
                (refine Held.takeH (i := 15) (k := 155) (v := .bool false) rfl (by as_aux_lemma => kernel_rfl) (by as_aux_lemma => kernel_rfl) (by as_aux_lemma => kernel_rfl) (by as_aux_lemma => kernel_rfl) (fun _ _ _ h => h) (Or.inl ⟨by rfl, ?_⟩) (by assumption) ?_; (focus (intro w hSw; (try dsimp only at hSw); go_simp; (try rfl))); (simp only [List.setIfInBounds_toArray, List.set_cons_zero, List.set_cons_succ]))
                (refine Held.takeH (i := 16) (k := 156) (v := .bool false) rfl (by as_aux_lemma => kernel_rfl) (by as_aux_lemma => kernel_rfl) (by as_aux_lemma => kernel_rfl) (by as_aux_lemma => kernel_rfl) (fun _ _ _ h => h) (Or.inl ⟨by rfl, ?_⟩) (by assumption) ?_; (focus (intro w hSw; (try dsimp only at hSw); go_simp; (try rfl))); (simp only [List.setIfInBounds_toArray, List.set_cons_zero, List.set_cons_succ]))
                refine wpAnyH_done (by as_aux_lemma => kernel_rfl) ?_ _
                go_wp2_with fail
                exact ⟨⟨i + 1, by omega, by go_num, Lib.hid hHeld.2.2.2⟩, by simp only [intOf]; omega⟩
              · obtain rfl : i = zr.length := by omega
                clear hlt hi HRF
                go_wp2_with fail
                go_loopw [15] (fun x wr => ∃ i : Nat, i ≤ zq.length ∧ x = .int .i64 i ∧ Hid (PK wr)) (fun x _ => zq.length - (intOf x).toNat)
                case atStart => exact ⟨0, Nat.zero_le _, rfl, Q16⟩
                case round =>
                  clear Q16
                  obtain ⟨i, hi, rfl, Q17⟩ := hrel
                  by_cases hlt : i < zq.length
                  · as_aux_lemma =>
                    obtain ⟨bz, rfl, y0⟩ := (HZQ.out _ Q17.out).get hlt
                    have HZC : Hid (∀ W, PK W → W.cell? ⟨bz, i, none⟩ = some (.int .i64 (zq.getD i 0))) := Lib.hid (fun W hW => by obtain ⟨b, e1, e2⟩ := (HZQ.out _ hW).get hlt; injection e1 with e1; injection e1 with e1; subst e1; exact e2)
                    have HCZ := Lib.hid (HQF.out (zq.getD i 0) (getD_memF hlt))
                    generalize zq.getD i 0 = zv at y0 HZC HCZ
                    have i1 : (0 : Int) ≤ (i : Int) := by omega
                    have i2 : (i : Int) < (zq.length : Int) := by omega
                    have HCS : Hid (∀ W, PK W → W.cell? ⟨bs, 0, none⟩ = some (.int .i64 ms) ∧ W.cell? ⟨bs, 1, none⟩ = some (.string Ts) ∧ W.cell? ⟨bz, i, none⟩ = some (.int .i64 zv) ∧ PK W) := Lib.hid (fun W hW => ⟨(HCs.out W hW).1, (HCs.out W hW).2, HZC.out W hW, hW⟩)
                    obtain ⟨⟨q, hq, hq0, hq21, HSQ⟩, HPL⟩ := HCZ.out
                    have KA : Hid (∀ W, (W.cell? ⟨bs, 0, none⟩ = some (.int .i64 ms) ∧ W.cell? ⟨bs, 1, none⟩ = some (.string Ts) ∧ W.cell? ⟨bz, i, none⟩ = some (.int .i64 zv) ∧ PK W) → Calls Tryz.prog 26 #[.int .i64 zv] W fun e w' => e = .returned (.int .i64 q) ∧ w'.cell? ⟨bs, 0, none⟩ = some (.int .i64 ms) ∧ w'.cell? ⟨bs, 1, none⟩ = some (.string Ts) ∧ w'.cell? ⟨bz, i, none⟩ = some (.int .i64 zv) ∧ PK w') := Lib.hid (fun W hW => (HSQ W).mono fun e w' ⟨he, hw⟩ => ⟨he, hw ▸ hW⟩)
                    have KB : Hid (∀ W, (W.cell? ⟨bs, 0, none⟩ = some (.int .i64 ms) ∧ W.cell? ⟨bs, 1, none⟩ = some (.string Ts) ∧ W.cell? ⟨bz, i, none⟩ = some (.int .i64 zv) ∧ PK W) → Calls Tryz.prog 23 #[sg ms Ts, .int .i64 zv] W fun e w' => e = .returned (.bool true) ∧ w'.cell? ⟨bs, 0, none⟩ = some (.int .i64 ms) ∧ w'.cell? ⟨bs, 1, none⟩ = some (.string Ts) ∧ w'.cell? ⟨bz, i, none⟩ = some (.int .i64 zv) ∧ PK w') := Lib.hid (fun W hW => (HPL W hW.2.2.2).mono fun e w' ⟨he, hk⟩ => ⟨he, HCS.out _ hk⟩)
                    have v1 : IntKind.i64.wrap (2 * q) = (ms : Int) := by rw [IntWalk.i64_in _ (by omega), hq]
                    have b1 : ((ms : Int) != (ms : Int)) = false := by simp
                    clear HSQ HPL HCZ hq hq0 hq21
                    obtain ⟨x0, x1, -⟩ := HCS.out _ Q17.out
                    go_upto_region 30 with fail
                    refine wp_region_held (S := fun W => W.cell? ⟨bs, 0, none⟩ = some (.int .i64 ms) ∧ W.cell? ⟨bs, 1, none⟩ = some (.string Ts) ∧ W.cell? ⟨bz, i, none⟩ = some (.int .i64 zv) ∧ PK W) rfl ?_
                    have hHeld := (HCS.out _ (HDR.out _ Q17.out))
                    (refine Held.takeH (i := 0) (k := 163) (v := ?_) rfl (by as_aux_lemma => kernel_rfl) (by as_aux_lemma => kernel_rfl) (by as_aux_lemma => kernel_rfl) (by as_aux_lemma => kernel_rfl) (fun _ _ _ h => h) (Or.inl ⟨by rfl, ?_⟩) (by assumption) ?_; rotate_left; (focus (intro w hSw; (try dsimp only at hSw); go_simp; (try with_reducible rfl))); (simp only [List.setIfInBounds_toArray, List.set_cons_zero, List.set_cons_succ]))
                    (refine Held.takeH (i := 1) (k := 164) (v := ?_) rfl (by as_aux_lemma => kernel_rfl) (by as_aux_lemma => kernel_rfl) (by as_aux_lemma => kernel_rfl) (by as_aux_lemma => kernel_rfl) (fun _ _ _ h => h) (Or.inl ⟨by rfl, ?_⟩) (by assumption) ?_; rotate_left; (focus (intro w hSw; (try dsimp only at hSw); go_simp; (try with_reducible rfl))); (simp only [List.setIfInBounds_toArray, List.set_cons_zero, List.set_cons_succ]))
                    (refine Held.takeH (i := 2) (k := 165) (v := ?_) rfl (by as_aux_lemma => kernel_rfl) (by as_aux_lemma => kernel_rfl) (by as_aux_lemma => kernel_rfl) (by as_aux_lemma => kernel_rfl) (fun _ _ _ h => h) (Or.inl ⟨by rfl, ?_⟩) (by assumption) ?_; rotate_left; (focus (intro w hSw; (try dsimp only at hSw); go_simp; (try with_reducible rfl))); (simp only [List.setIfInBounds_toArray, List.set_cons_zero, List.set_cons_succ]))
                    (refine Held.takeH (i := 3) (k := 166) (v := ?_) rfl (by as_aux_lemma => kernel_rfl) (by as_aux_lemma => kernel_rfl) (by as_aux_lemma => kernel_rfl) (by as_aux_lemma => kernel_rfl) (fun _ _ _ h => h) (Or.inl ⟨by rfl, ?_⟩) (by assumption) ?_; rotate_left; (focus (intro w hSw; (try dsimp only at hSw); go_simp; (try with_reducible rfl))); (simp only [List.setIfInBounds_toArray, List.set_cons_zero, List.set_cons_succ]))
                    (refine Held.takeH (i := 6) (k := 169) (v := ?_) rfl (by as_aux_lemma => kernel_rfl) (by as_aux_lemma => kernel_rfl) (by as_aux_lemma => kernel_rfl) (by as_aux_lemma => kernel_rfl) (fun _ _ _ h => h) (Or.inl ⟨by rfl, ?_⟩) (by assumption) ?_; rotate_left; (focus (intro w hSw; (try dsimp only at hSw); go_simp; (try with_reducible rfl))); (simp only [List.setIfInBounds_toArray, List.set_cons_zero, List.set_cons_succ]))
                    (refine Held.takeH (i := 7) (k := 170) (v := ?_) rfl (by as_aux_lemma => kernel_rfl) (by as_aux_lemma => kernel_rfl) (by as_aux_lemma => kernel_rfl) (by as_aux_lemma => kernel_rfl) (fun _ _ _ h => h) (Or.inl ⟨by rfl, ?_⟩) (by assumption) ?_; rotate_left; (focus (intro w hSw; (try dsimp only at hSw); go_simp; (try with_reducible rfl))); (simp only [List.setIfInBounds_toArray, List.set_cons_zero, List.set_cons_succ]))
                    refine wpAnyH_ready (rs := [4]) (by as_aux_lemma => kernel_rfl) (by simp) ?_
                    refine AllReadyH.cons rfl (fun K hK => ?_) AllReadyH.nil
                    go_simp
                    refine (KA.out _ hHeld).mono ?_
                    rintro e' w' ⟨rfl, hS'⟩
                    refine hK.out _ _ hS' (fun hHeld => ?_)
                    clear hK K
                    try simp only [Act.put, List.setIfInBounds_toArray, List.set_cons_zero, List.set_cons_succ]
                    (refine Held.takeH (i := 5) (k := 168) (v := .int .i64 ms) rfl (by as_aux_lemma => kernel_rfl) (by as_aux_lemma => kernel_rfl) (by as_aux_lemma => kernel_rfl) (by as_aux_lemma => kernel_rfl) (fun _ _ _ h => h) (Or.inl ⟨by rfl, ?_⟩) (by assumption) ?_; (focus (intro w hSw; (try dsimp only at hSw); go_simp; (try rfl))); (simp only [List.setIfInBounds_toArray, List.set_cons_zero, List.set_cons_succ]))
                    (refine Held.takeH (i := 8) (k := 171) (v := .bool false) rfl (by as_aux_lemma => kernel_rfl) (by as_aux_lemma => kernel_rfl) (by as_aux_lemma => kernel_rfl) (by as_aux_lemma => kernel_rfl) (fun _ _ _ h => h) (Or.inl ⟨by rfl, ?_⟩) (by assumption) ?_; (focus (intro w hSw; (try dsimp only at hSw); go_simp; (try rfl))); (simp only [List.setIfInBounds_toArray, List.set_cons_zero, List.set_cons_succ]))
                    (refine Held.takeH (i := 9) (k := 172) (v := .bool false) rfl (by as_aux_lemma => kernel_rfl) (by as_aux_lemma => kernel_rfl) (by as_aux_lemma => kernel_rfl) (by as_aux_lemma => kernel_rfl) (fun _ _ _ h => h) (Or.inl ⟨by rfl, ?_⟩) (by assumption) ?_; (focus (intro w hSw; (try dsimp only at hSw); go_simp; (try rfl))); (simp only [List.setIfInBounds_toArray, List.set_cons_zero, List.set_cons_succ]))
                    (refine Held.takeH (i := 10) (k := 173) (v := ?_) rfl (by as_aux_lemma => kernel_rfl) (by as_aux_lemma => kernel_rfl) (by as_aux_lemma => kernel_rfl) (by as_aux_lemma => kernel_rfl) (fun _ _ _ h => h) (Or.inl ⟨by rfl, ?_⟩) (by assumption) ?_; rotate_left; (focus (intro w hSw; (try dsimp only at hSw); go_simp; (try with_reducible rfl))); (simp only [List.setIfInBounds_toArray, List.set_cons_zero, List.set_cons_succ]))
                    (refine Held.takeH (i := 11) (k := 174) (v := ?_) rfl (by as_aux_lemma => kernel_rfl) (by as_aux_lemma => kernel_rfl) (by as_aux_lemma => kernel_rfl) (by as_aux_lemma => kernel_rfl) (fun _ _ _ h => h) (Or.inl ⟨by rfl, ?_⟩) (by assumption) ?_; rotate_left; (focus (intro w hSw; (try dsimp only at hSw); go_simp; (try with_reducible rfl))); (simp only [List.setIfInBounds_toArray, List.set_cons_zero, List.set_cons_succ]))
                    (refine Held.takeH (i := 12) (k := 175) (v := ?_) rfl (by as_aux_lemma => kernel_rfl) (by as_aux_lemma => kernel_rfl) (by as_aux_lemma => kernel_rfl) (by as_aux_lemma => kernel_rfl) (fun _ _ _ h => h) (Or.inl ⟨by rfl, ?_⟩) (by assumption) ?_; rotate_left; (focus (intro w hSw; (try dsimp only at hSw); go_simp; (try with_reducible rfl))); (simp only [List.setIfInBounds_toArray, List.set_cons_zero, List.set_cons_succ]))
                    (refine Held.takeH (i := 13) (k := 176) (v := ?_) rfl (by as_aux_lemma => kernel_rfl) (by as_aux_lemma => kernel_rfl) (by as_aux_lemma => kernel_rfl) (by as_aux_lemma => kernel_rfl) (fun _ _ _ h => h) (Or.inl ⟨by rfl, ?_⟩) (by assumption) ?_; rotate_left; (focus (intro w hSw; (try dsimp only at hSw); go_simp; (try with_reducible rfl))); (simp only [List.setIfInBounds_toArray, List.set_cons_zero, List.set_cons_succ]))
                    (refine Held.takeH (i := 14) (k := 177) (v := ?_) rfl (by as_aux_lemma => kernel_rfl) (by as_aux_lemma => kernel_rfl) (by as_aux_lemma => kernel_rfl) (by as_aux_lemma => kernel_rfl) (fun _ _ _ h => h) (Or.inl ⟨by rfl, ?_⟩) (by assumption) ?_; rotate_left; (focus (intro w hSw; (try dsimp only at hSw); go_simp; (try with_reducible rfl))); (simp only [List.setIfInBounds_toArray, List.set_cons_zero, List.set_cons_succ]))
                    refine wpAnyH_ready (rs := [15]) (by as_aux_lemma => kernel_rfl) (by simp) ?_
                    refine AllReadyH.cons rfl (fun K hK => ?_) AllReadyH.nil
                    go_simp
                    refine (KB.out _ hHeld).mono ?_
                    rintro e' w' ⟨rfl, hS'⟩
                    refine hK.out _ _ hS' (fun hHeld => ?_)
                    clear hK K
                    try simp only [Act.put, List.setIfInBounds_toArray, List.set_cons_zero, List.set_cons_succ]
                    (refine Held.takeH (i := 16) (k := 179) (v := .bool false) rfl (by as_aux_lemma => kernel_rfl) (by as_aux_lemma => kernel_rfl) (by as_aux_lemma => kernel_rfl) (by as_aux_lemma => kernel_rfl) (fun _ _ _ h => h) (Or.inl ⟨by rfl, ?_⟩) (by assumption) ?_; (focus (intro w hSw; (try dsimp only at hSw); go_simp; (try rfl))); (simp only [List.setIfInBounds_toArray, List.set_cons_zero, List.set_cons_succ]))
                    (refine Held.takeH (i := 17) (k := 180) (v := .bool false) rfl (by as_aux_lemma => kernel_rfl) (by as_aux_lemma => kernel_rfl) (by as_aux_lemma => kernel_rfl) (by as_aux_lemma => kernel_rfl) (fun _ _ _ h => h) (Or.inl ⟨by rfl, ?_⟩) (by assumption) ?_; (focus (intro w hSw; (try dsimp only at hSw); go_simp; (try rfl))); (simp only [List.setIfInBounds_toArray, List.set_cons_zero, List.set_cons_succ]))
                    refine wpAnyH_done (by as_aux_lemma => kernel_rfl) ?_ _
                    go_wp2_with fail
                    exact ⟨⟨i + 1, by omega, by go_num, Lib.hid hHeld.2.2.2⟩, by simp only [intOf]; omega⟩
                  · obtain rfl : i = zq.length := by omega
                    clear hlt hi HQF
                    -- as many as there should be
                    have hno := HNO.out
                    have hma := HMA.out
                    obtain ⟨qt, hqt⟩ : ∃ q : Nat, q = zt.length := ⟨_, rfl⟩
                    obtain ⟨qp, hqp⟩ : ∃ q : Nat, q = zp.length := ⟨_, rfl⟩
                    obtain ⟨qr, hqr⟩ : ∃ q : Nat, q = zr.length := ⟨_, rfl⟩
                    obtain ⟨qq, hqq⟩ : ∃ q : Nat, q = zq.length := ⟨_, rfl⟩
                    rw [← hqt] at hno
                    rw [← hqt, ← hqp, ← hqr, ← hqq] at hma
                    simp only [← hqt, ← hqp, ← hqr, ← hqq]
                    clear HNO HMA hqt hqp hqr hqq HZT HZP HZR HZQ
                    cases ac
                    · obtain rfl : qt = 0 := hno rfl
                      clear hma
                      obtain ⟨x0, x1⟩ := HCs.out _ Q17.out
                      go_wp2_with fail
                      refine (PAC.out _ Q17.out).mono ?_
                      rintro e wX ⟨rfl, hkX⟩
                      have QX := Lib.hid hkX
                      have BF := Lib.hid (HBE.out _ hkX)
                      clear hkX x0 x1
                      obtain ⟨x0, x1⟩ := HCs.out _ QX.out
                      go_wp2
                      go_ret
                      exact ⟨rfl, BF.out⟩
                    · by_cases h6 : (ms : Int) ≤ 6
                      · obtain ⟨h3, m1, m2, m3, m4⟩ := hma rfl h6
                        clear hno hma
                        obtain ⟨x0, x1⟩ := HCs.out _ Q17.out
                        go_wp2_with fail
                        refine (PAC.out _ Q17.out).mono ?_
                        rintro e wX ⟨rfl, hkX⟩
                        have QX := Lib.hid hkX
                        have BF := Lib.hid (HBE.out _ hkX)
                        clear hkX x0 x1
                        obtain ⟨x0, x1⟩ := HCs.out _ QX.out
                        have k0 : decide ((ms : Int) > 6) = false := decide_eq_false (by omega)
                        cases cv
                        · clear m4
                          go_wp2_with fail
                          refine (PCV.out _ QX.out).mono ?_
                          rintro e wY ⟨rfl, hkY⟩
                          have QY := Lib.hid hkY
                          have BY := Lib.hid (HBE.out _ hkY)
                          clear hkY x0 x1
                          obtain ⟨x0, x1⟩ := HCs.out _ QY.out
                          have k1 : decide ((qr : Int) ≥ 1) = true := decide_eq_true (by omega)
                          have k2 : decide ((qp : Int) ≥ (ms : Int)) = true := decide_eq_true (by omega)
                          rcases (by omega : ms = 3 ∨ ms = 4 ∨ ms = 5 ∨ ms = 6) with rfl | rfl | rfl | rfl
                          · have k3 : qq = 0 := by simpa using m3
                            subst k3
                            go_wp2
                            go_ret
                            exact ⟨rfl, BY.out⟩
                          · have k3 : 0 < qq := by simpa using m3
                            have k4 : decide ((qq : Int) > 0) = true := decide_eq_true (by omega)
                            go_wp2
                            go_ret
                            exact ⟨rfl, BY.out⟩
                          · have k3 : qq = 0 := by simpa using m3
                            subst k3
                            go_wp2
                            go_ret
                            exact ⟨rfl, BY.out⟩
                          · have k3 : 0 < qq := by simpa using m3
                            have k4 : decide ((qq : Int) > 0) = true := decide_eq_true (by omega)
                            go_wp2
                            go_ret
                            exact ⟨rfl, BY.out⟩
                        · obtain ⟨r1, r2, r3⟩ := m4 rfl
                          clear m4
                          subst r1
                          have k1 : decide (((1 : Nat) : Int) ≥ 1) = true := by decide
                          go_wp2_with fail
                          refine (PCV.out _ QX.out).mono ?_
                          rintro e wY ⟨rfl, hkY⟩
                          have QY := Lib.hid hkY
                          have BY := Lib.hid (HBE.out _ hkY)
                          clear hkY x0 x1
                          obtain ⟨x0, x1⟩ := HCs.out _ QY.out
                          have hbs1 : bs < wY.heap.size := Kit.cell_lt x0
                          have hbs2 : bs < wY.heap.size + 1 := by omega
                          have BY2 : Hid (∀ o1 o2, Below w1.heap.size w1 ((wY.alloc o1).alloc o2)) := Lib.hid (fun o1 o2 => (BY.out.alloc BY.out.size o1).alloc (Nat.le_trans BY.out.size (by simp)) o2)
                          rcases (by omega : ms = 3 ∨ ms = 4 ∨ ms = 5 ∨ ms = 6) with rfl | rfl | rfl | rfl
                          · have k3 : qq = 0 := by simpa using m3
                            subst k3
                            obtain rfl : qt = 3 := r2.trans (by decide)
                            obtain rfl : qp = 3 := r3.trans (by decide)
                            clear r2 r3
                            go_wp2
                            go_ret
                            exact ⟨rfl, BY2.out _ _⟩
                          · have k3 : 0 < qq := by simpa using m3
                            have k4 : decide ((qq : Int) > 0) = true := decide_eq_true (by omega)
                            obtain rfl : qt = 12 := r2.trans (by decide)
                            obtain rfl : qp = 8 := r3.trans (by decide)
                            clear r2 r3
                            go_wp2
                            go_ret
                            exact ⟨rfl, BY2.out _ _⟩
                          · have k3 : qq = 0 := by simpa using m3
                            subst k3
                            obtain rfl : qt = 55 := r2.trans (by decide)
                            obtain rfl : qp = 20 := r3.trans (by decide)
                            clear r2 r3
                            go_wp2
                            go_ret
                            exact ⟨rfl, BY2.out _ _⟩
                          · have k3 : 0 < qq := by simpa using m3
                            have k4 : decide ((qq : Int) > 0) = true := decide_eq_true (by omega)
                            obtain rfl : qt = 273 := r2.trans (by decide)
                            obtain rfl : qp = 48 := r3.trans (by decide)
                            clear r2 r3
                            go_wp2
                            go_ret
                            exact ⟨rfl, BY2.out _ _⟩
                      · obtain rfl : qt = 0 := hno (by rw [decide_eq_false h6]; rfl)
                        have k0 : decide ((ms : Int) > 6) = true := decide_eq_true (by omega)
                        clear hma
                        obtain ⟨x0, x1⟩ := HCs.out _ Q17.out
                        go_wp2_with fail
                        refine (PAC.out _ Q17.out).mono ?_
                        rintro e wX ⟨rfl, hkX⟩
                        have QX := Lib.hid hkX
                        have BF := Lib.hid (HBE.out _ hkX)
                        clear hkX x0 x1
                        obtain ⟨x0, x1⟩ := HCs.out _ QX.out
                        go_wp2
                        go_ret
                        exact ⟨rfl, BF.out⟩
end Go.Proofs.YtinlnafkmoabbaaGreatDoor.Sg
