/- LayersOf, as impl answers it. -/
import Derived.Test.YtgdkpgidklnndaaGreatDoorHuImpl
import Derived.Test.YtgdkpgidklnndaaGreatDoorMgH
import Derived.Test.YtgdkpgidklnndaaGreatDoorMgK
namespace Go.Proofs.YtgdkpgidklnndaaGreatDoor.Sg
open Go.RowKit Pt NewI NewII Go.Maps
theorem mapIs_ne {W : World} {b g : Nat} {f : Int → Int → Int → Int} (h : MapIs W b f) (hi : IntB W g) : b ≠ g := fun e => by
  obtain ⟨⟨m, D, ho, -⟩, -⟩ := h
  obtain ⟨es, clock, hb, -⟩ := ho
  obtain ⟨cs, hc⟩ := hi
  rw [e, hc] at hb
  cases hb
theorem ownL_keep {w w' : World} {B m g : Nat} {v : Value} {xss : List (List Int)} (h : OwnL w B m v xss) (hg : w.grownBy w' (some g)) (hgB : g < B) : OwnL w' B m v xss := by
  obtain ⟨gs, h1, h2, h3, h4⟩ := h
  have hlt := World.ownsRow.lt h2
  refine ⟨gs, h1, World.ownsRow.kept h2 hg ?_, fun j q hj => ?_, h4⟩
  · cases hv : v.ownBlock with
    | none => exact .inl rfl
    | some k => exact .inr (fun e => by have := (hlt k hv).1; have e := Option.some.inj e; omega)
  · obtain ⟨r1, r0, ⟨cs, r2⟩, r3⟩ := h3 j q hj
    have hne : some q.1 ≠ some g := fun e => by have e := Option.some.inj e; omega
    exact ⟨r1, r0, ⟨cs, (hg.block q.1 r3.lt hne).trans r2⟩, cells_keep r3 hg hne⟩
set_option maxHeartbeats 800000 in
set_option maxRecDepth 100000 in
theorem inLayer_any (p6 : Nat) (a : Option Addr) (c : Nat) (X : List Nat) (hX : X.length ≤ 1000) (B : Nat) (x : Nat) (w : World) (hp : w.cell? ⟨p6, 0, none⟩ = some (.slice a X.length c)) (hr : ResZ w B (.slice a X.length c) (zl X)) :
    Calls Tryz.prog 32 #[.int .i64 x, .pointer (some ⟨p6, 0, none⟩)] w fun e w' => e = .returned (.bool (X.contains x)) ∧ Below w.heap.size w w' := by
  have HC := Lib.hid (containsZ_any (by rw [zl_length]; exact hX) (x : Int) w hr)
  rw [contains_zl] at HC
  generalize X.contains x = q at HC ⊢
  clear hr
  go_enter Tryz.func32, Tryz.ntmps32
  go_wp2_with fail
  refine HC.out.mono ?_
  rintro e w' ⟨rfl, rfl⟩
  go_wp2
  go_ret
  exact ⟨rfl, Below.refl _ _⟩
theorem layZ_no {n : Int} {s : List UInt8} (h : aciB n s = false) : layZ n s = [] := by unfold layZ; rw [h]; rfl
set_option maxHeartbeats 3200000 in
set_option maxRecDepth 100000 in
theorem implLayers (n : Int) (s : ByteArray) (hs : s.size ≤ 9223372036854775807) (w : World) (hT : Tab w) :
    Calls Tryz.prog 7 #[sg n s] w fun e w' => Got2 w.heap.size (layZ n s.data.toList) e w' ∧ Below w.heap.size w w' := by
  have hmf : ∀ (fn : Fn) (first cap : Array Value) (w : World), (Instr.makeFunc fn first cap).run Tryz.prog w = .ok (.func fn first cap) w := fun _ _ _ _ => rfl
  have HS := Lib.hid (box_made w n s 25)
  have HO := Lib.hid (orderOf_any n s hs _ (hT.on ((Below.refl w.heap.size w).alloc (Nat.le_refl _) (.cells #[.int .i64 n, .string s] 25))))
  clear hT
  cases h : aciB n s.data.toList
  · have HE := Lib.hid (layZ_no h)
    rw [elsN_no h] at HO
    generalize ordF n s.data.toList = f at HO
    clear h
    go_enter Tryz.func7, Tryz.ntmps7
    go_wp2_with fail
    refine HO.out.mono ?_
    rintro e w1 ⟨b, v, rfl, -, ⟨-, rfl⟩ | ⟨h0, -⟩, hb1⟩
    · have B1 := Lib.hid (HS.out.2.2.trans (hb1.mono HS.out.2.2.size))
      clear hb1
      go_wp2
      refine wp_loop_rounds 1 ?_
      rw [rounds_succ]
      go_wp2
      go_ret
      exact ⟨by rw [HE.out]; exact ⟨none, 0, rfl, .inl rfl⟩, B1.out⟩
    · exact absurd rfl h0
  · obtain ⟨h3, h7⟩ := aciB_n h
    obtain ⟨m, rfl⟩ : ∃ m : Nat, n = m := ⟨n.toNat, by omega⟩
    have h7 : m ≤ 7 := by omega
    obtain ⟨i0, hi, hz0, hz1, hz2⟩ := info_parts infoL
    have HE : Hid (layZ m s.data.toList = layL (sgnF (lookS m s.data.toList)) m (2 ^ m - 1) (2 ^ m - 1)) := Lib.hid (by unfold layZ allS; rw [if_pos h, Int.toNat_natCast])
    have hp7 := pow_le7 h7
    have hal := all_lt2 m
    have HAM : Hid (∀ set, set < 2 ^ m → ∀ b B v W, MapIs W b (ordF m s.data.toList) → ArgZ W B v (zl (eltN set)) → Calls Tryz.prog 27 #[.map (some b), v] W fun e w' => ∃ v', e = .returned v' ∧ ResZ w' W.heap.size v' (zl (eltN (extS (sgnF (lookS m s.data.toList)) m set))) ∧ Below W.heap.size W w') :=
      Lib.hid (fun set hset b B v W hm hv => by
        have := extremeAmong_any b (ordF m s.data.toList) v (eltN set) (elt_len _) (fun x hx => (mem_elt.1 hx).1) W hm B hv
        rw [ordF_yes h, extL_eq h hset] at this
        exact this)
    have HEL : Hid (∀ set, extS (sgnF (lookS m s.data.toList)) m set < 128) := Lib.hid (fun set => Nat.lt_of_lt_of_le (extTo_lt (sgnF (lookS m s.data.toList)) m set m) (pow_le7 h7))
    have HNE : Hid (∀ set, set ≠ 0 → set < 2 ^ m → extS (sgnF (lookS m s.data.toList)) m set ≠ 0) := Lib.hid (fun set h0 hl => ext_ne h h0 hl)
    have HRL : Hid (∀ set, set ≠ 0 → set < 2 ^ m → restS (sgnF (lookS m s.data.toList)) m set < set) := Lib.hid (fun set h0 hl => rest_lt h h0 hl)
    have HST : Hid (∀ set, set ≠ 0 → set < 2 ^ m → layL (sgnF (lookS m s.data.toList)) m set set = zl (eltN (extS (sgnF (lookS m s.data.toList)) m set)) :: layL (sgnF (lookS m s.data.toList)) m (restS (sgnF (lookS m s.data.toList)) m set) (restS (sgnF (lookS m s.data.toList)) m set)) := Lib.hid (fun set h0 hl => by
      obtain ⟨k, rfl⟩ : ∃ k, set = k + 1 := ⟨set - 1, by omega⟩
      have hr := rest_lt h h0 hl
      rw [← layL_more h k (restS (sgnF (lookS m s.data.toList)) m (k + 1)) (by omega) (by omega)]
      rfl)
    rw [elsN_yes h] at HO
    generalize sgnF (lookS m s.data.toList) = F at HAM HEL HNE HRL HST HE
    generalize ordF m s.data.toList = f at HO HAM
    obtain ⟨M, hMe⟩ : ∃ M, M = 2 ^ m := ⟨_, rfl⟩
    rw [← hMe] at HAM HNE HRL HST HE HO hp7 hal
    clear h hMe
    go_enter Tryz.func7, Tryz.ntmps7
    go_wp2_with fail
    refine HO.out.mono ?_
    rintro e w1 ⟨b, v, rfl, hm, hv, hb1⟩
    have B1 := Lib.hid (HS.out.2.2.trans (hb1.mono HS.out.2.2.size))
    have HM := Lib.hid hm
    have HV : Hid (ResZ w1 w.heap.size v (zl (eltN (M - 1)))) := Lib.hid (hv.res.low HS.out.2.2.size)
    have HVB : Hid (∀ g, v.ownBlock = some g → g < w1.heap.size) := Lib.hid (fun g hg => by
      rcases hv with ⟨-, rfl⟩ | ⟨-, g2, c, rfl, -, -, -, -, h5⟩
      · cases hg
      · injection hg with hg; rw [← hg]; exact h5.lt)
    have HL0 : Hid (OwnL w1 w1.heap.size w1.heap.size (.slice none 0 0) []) := Lib.hid (OwnL.nil _ _ _)
    have hw1 := B1.out.size
    have hbl := hm.lt
    have HM1 : Hid (M - 1 < M) := Lib.hid hal
    clear hm hv hb1
    go_wp2
    go_loopw [4, 5] (fun lv vv wr => ∃ (set : Nat) (L : List (List Int)), L.length + set ≤ 127 ∧ Hid (set < M) ∧ Hid (L ++ layL F m set set = layL F m (M - 1) (M - 1)) ∧ (∃ a c, lv = .slice a (eltN set).length c) ∧ Hid (ResZ wr w.heap.size lv (zl (eltN set))) ∧ Hid (∀ g, lv.ownBlock = some g → g < w1.heap.size) ∧ Hid (OwnL wr w1.heap.size wr.heap.size vv L) ∧ Hid (MapIs wr b f) ∧ Hid (Below w.heap.size w wr) ∧ w1.heap.size ≤ wr.heap.size) (fun lv _ _ => match lv with | .slice _ n _ => n | _ => 0)
    case atStart =>
      obtain ⟨a, c, hv2, -⟩ := HV.out.new
      rw [zl_length] at hv2
      exact ⟨M - 1, [], by simp; omega, HM1, Lib.hid rfl, ⟨a, c, hv2⟩, HV, HVB, HL0, HM, B1, Nat.le_refl _⟩
    case round =>
      obtain ⟨set, L, hle, HSL, HLL, ⟨la, lc, rfl⟩, HR, HRB, HO, HM, HB, hwr⟩ := hrel
      by_cases hz : set = 0
      · subst hz
        have hl0 : (eltN 0).length = 0 := by decide
        have HLE : Hid (L = layL F m (M - 1) (M - 1)) := Lib.hid (by rw [← HLL.out, layL_zero, List.append_nil])
        obtain ⟨a2, c2, hv, hli⟩ := Lists.of_own HO.out
        subst hv
        have HLI := Lib.hid hli
        clear HO hli HLL
        rw [hl0]
        go_wp2
        go_ret
        exact ⟨by rw [HE.out, ← HLE.out]; exact ⟨a2, c2, rfl, HLI.out.low hw1⟩, HB.out⟩
      · have hset := HSL.out
        have HC := Lib.hid (HAM.out set hset)
        have hel := HEL.out set
        have hen := HNE.out set hz HSL.out
        have hrl := HRL.out set hz HSL.out
        have HSTs := Lib.hid (HST.out set hz HSL.out)
        have HLF := Lib.hid (left_eq F (n := m) set)
        have hne : eltN set ≠ [] := fun e => by
          have := (elt_step set (by omega) (by omega)).1
          rw [e] at this; cases this
        have hxe : eltN (extS F m set) ≠ [] := fun e => by
          have := (elt_step _ hel (by omega)).1
          rw [e] at this; cases this
        have hln := List.length_pos_iff.2 hne
        have hxl := elt_len (extS F m set)
        have hsl := elt_len set
        have hrlen : (eltN (restS F m set)).length < (eltN set).length := by
          have h1 := pcS_rest (n := m) F set
          have h2 : pcS set = (eltN set).length := by unfold pcS; rw [setsTo_elt, zl_length]
          have h3 : pcS (extS F m set) = (eltN (extS F m set)).length := by unfold pcS; rw [setsTo_elt, zl_length]
          have h4 : pcS (restS F m set) = (eltN (restS F m set)).length := by unfold pcS; rw [setsTo_elt, zl_length]
          have h5 := List.length_pos_iff.2 hxe
          omega
        generalize restS F m set = r at hrl HSTs HLF hrlen
        generalize eltN (extS F m set) = X at HC HSTs HLF hxe hxl
        rcases HR.out with ⟨h9, -⟩ | ⟨-, g, c, hgv, hgB, hgc, hcm, hib, hcl⟩
        · exact absurd (zl_nil h9) hne
        · injection hgv with e1 e2 e3
          subst e1 e3
          have hgl1 : g < w1.heap.size := HRB.out g rfl
          have HA : Hid (ArgZ wr w.heap.size (.slice (some ⟨g, 0, none⟩) (eltN set).length lc) (zl (eltN set))) := Lib.hid (.inr ⟨fun e => hne (zl_nil e), g, lc, by rw [zl_length], hgB, hgc, hcm, hib, hcl⟩)
          rw [zl_length] at hgc hcl
          have HIB := Lib.hid hib
          have HCL := Lib.hid hcl
          have HCM := Lib.hid hcm
          have HNB := Lib.hid (mapIs_ne HM.out hib)
          have HEN : Hid (∀ x, x ∈ eltN set → True) := Lib.hid (fun _ _ => trivial)
          generalize hES : eltN set = E at HC HA HCL hgc hln hsl HLF hrlen HEN hne
          have hcm2 : lc ≤ 9223372036854775807 := by simpa [maxLen] using hcm
          have hgt : decide ((0 : Int) < (E.length : Int)) = true := decide_eq_true (by omega)
          have hgt2 : decide (0 < E.length) = true := decide_eq_true (by omega)
          have HXE : Hid (X ≠ []) := Lib.hid hxe
          have HR2 : Hid (r < M) := Lib.hid (Nat.lt_trans hrl hset)
          clear hES hcl hib hcm e2 hxe HR hel hen hset HSL
          go_wp2_with fail
          refine (HC.out b _ _ _ HM.out HA.out).mono ?_
          rintro e w2 ⟨v2, rfl, hr2, hb2⟩
          rcases hr2 with ⟨h9, -⟩ | ⟨-, gb, gc, rfl, hgbB, hgbc, hgcm, hgib, hgcl⟩
          · exact absurd (zl_nil h9) HXE.out
          · rw [zl_length] at hgbc hgcl ⊢
            have hs2 := hb2.size
            have G2 := Lib.hid hgcl
            have GI2 := Lib.hid hgib
            have hal2 := (Below.refl w2.heap.size w2).alloc (Nat.le_refl _) (.cells #[.slice (some ⟨gb, 0, none⟩) X.length gc] 27)
            have B2 := hb2.trans (hal2.mono hs2)
            have HB2 := Lib.hid B2
            have p6 : (w2.alloc (.cells #[.slice (some ⟨gb, 0, none⟩) X.length gc] 27)).cell? ⟨w2.heap.size, 0, none⟩ = some (.slice (some ⟨gb, 0, none⟩) X.length gc) := by go_simp
            have hs3 : (w2.alloc (.cells #[.slice (some ⟨gb, 0, none⟩) X.length gc] 27)).heap.size = w2.heap.size + 1 := by simp
            have HN : Hid (∀ (j : Nat) u, [Value.slice (some ⟨gb, 0, none⟩) X.length gc][j]? = some u → ((w2.alloc (.cells #[.slice (some ⟨gb, 0, none⟩) X.length gc] 27)).alloc (.cells #[.slice (some ⟨gb, 0, none⟩) X.length gc] 27)).cell? (Addr.add ⟨w2.heap.size + 1, 0, none⟩ j) = some u) := Lib.hid (by
              have := newsR (w2.alloc (.cells #[.slice (some ⟨gb, 0, none⟩) X.length gc] 27)) (.slice (some ⟨gb, 0, none⟩) X.length gc) 27
              rw [hs3] at this
              exact this)
            have HKB : Hid (∀ k, u5.ownBlock = some k → w1.heap.size ≤ k ∧ k < wr.heap.size) := Lib.hid (fun k hk => by
              obtain ⟨L', h'⟩ := HO.out.row
              exact World.ownsRow.lt h' k hk)
            have HO3 := Lib.hid (HO.out.on B2)
            obtain ⟨LV, hLV⟩ := HO3.out.row
            have HL3 := Lib.hid hLV
            have G3 := Lib.hid (G2.out.on hal2)
            have GI3 := Lib.hid (GI2.out.on hal2)
            have HP6 := Lib.hid p6
            have hgbl := hgcl.lt
            have HS3 := Lib.hid hs3
            have HGC := Lib.hid hgbc
            have HGM := Lib.hid hgcm
            clear hLV hb2 hgcl hgib hgcm hal2 B2 hs3
            go_wp2_with (at_builtin; refine wpList_append_own _ rfl (.tmp 18) (.tmp 20) 29 rfl w1.heap.size 27 i0 _ 1 24 Tryz.underlying29 hi hz0 hz1 hz2 rfl (by decide) _ _ _ rfl (World.ownsRow.alloc HL3.out _) ⟨_, 0, none⟩ 1 1 [.slice (some ⟨gb, 0, none⟩) X.length gc] rfl rfl HN.out (oneR _ _ _) ?_ ?_ ?_ ?_)
            · simp only [maxLen]; omega
            · omega
            · simp; omega
            intro v1 w5 hown hg _
            have hal4 := (Below.refl (w2.alloc (.cells #[.slice (some ⟨gb, 0, none⟩) X.length gc] 27)).heap.size (w2.alloc (.cells #[.slice (some ⟨gb, 0, none⟩) X.length gc] 27))).alloc (Nat.le_refl _) (.cells #[.slice (some ⟨gb, 0, none⟩) X.length gc] 27)
            obtain ⟨W4, hW4⟩ : ∃ W4, W4 = (w2.alloc (.cells #[.slice (some ⟨gb, 0, none⟩) X.length gc] 27)).alloc (.cells #[.slice (some ⟨gb, 0, none⟩) X.length gc] 27) := ⟨_, rfl⟩
            have B4 : Below wr.heap.size wr W4 := by rw [hW4]; exact HB2.out.trans (hal4.mono HB2.out.size)
            have HKN : ∀ k, k < w1.heap.size ∨ wr.heap.size ≤ k → some k ≠ u5.ownBlock := fun k hk e => by
              have := HKB.out k e.symm
              omega
            have hs4 := B4.size
            have HO5 : Hid (OwnL w5 w1.heap.size w5.heap.size v1 (L ++ [zl X])) := Lib.hid (by
              obtain ⟨cs, hcs⟩ := GI3.out
              exact (OwnL.snoc (g := (gb, gc)) (zs := zl X) (HO3.out.on hal4) (by show w1.heap.size ≤ gb; omega) (by show wr.heap.size ≤ gb; omega) ⟨cs, by rw [hal4.block _ G3.out.lt]; exact hcs⟩ (by rw [zl_length]; exact G3.out.on hal4) hg (World.ownsRow.alloc HL3.out _) (by rw [zl_length]; exact hown)).top)
            have c6 : W4.cell? ⟨w2.heap.size, 0, none⟩ = some (.slice (some ⟨gb, 0, none⟩) X.length gc) := by
              rw [hW4, World.cell?_alloc_lt _ _ _ (World.block_lt_of_cell? _ ⟨w2.heap.size, 0, none⟩ HP6.out)]; exact HP6.out
            have hX4 : Cells W4 gb X.length (zc (zl X)) := by rw [hW4]; exact G3.out.on hal4
            have hI4 : IntB W4 gb := by rw [hW4]; exact GI3.out.on hal4
            rw [← hW4] at hg
            have n6 := HKN _ (.inr hs2)
            have ngb := HKN gb (.inr hgbB)
            have ng := HKN g (.inl hgl1)
            have nb := HKN b (.inl hbl)
            have h65 := hg.cell c6 n6
            have C6 := Lib.hid h65
            have HX5 := Lib.hid (cells_keep hX4 hg ngb)
            have HXI5 : Hid (IntB w5 gb) := Lib.hid (hI4.block (hg.block gb hI4.lt ngb))
            have HG5 := Lib.hid (cells_keep (HCL.out.on B4) hg ng)
            have hIg4 := HIB.out.on B4
            have HGI5 : Hid (IntB w5 g) := Lib.hid (hIg4.block (hg.block g hIg4.lt ng))
            have HM5 := Lib.hid (mapIs_keep (HM.out.on B4) hg nb)
            have B5 : Hid (Below w.heap.size w w5) := Lib.hid ((HB.out.trans (B4.mono HB.out.size)).grown hg (by have := HB.out.size; omega) (fun q hq => by have := (HKB.out q hq).1; omega))
            have hs5 := hg.size
            have eg : ∀ args w, (callFunc 32 args).run Tryz.prog w = .ok (.enter 32 args) w := enters_of Tryz.func32 (by kernel_rfl) rfl
            have HDF := Lib.hid (deleteFunc_any g lc E (by omega) hgc HCM.out (fun x => X.contains x) 32 #[.pointer (some ⟨w2.heap.size, 0, none⟩)] eg w5 HGI5.out HG5.out (Lib.hid (fun W x hW _ => inLayer_any w2.heap.size (some ⟨gb, 0, none⟩) gc X (by omega) 0 x W (hW.cell C6.out (fun e => absurd (show w2.heap.size = g from Option.some.inj e) (by omega))) (.inr ⟨fun e => HXE.out (zl_nil e), gb, gc, by rw [zl_length], Nat.zero_le _, by rw [zl_length]; exact HGC.out, HGM.out, HXI5.out.block (hW.block gb HXI5.out.lt (fun e => absurd (show gb = g from Option.some.inj e) (by omega))), by rw [zl_length]; exact cells_keep HX5.out hW (fun e => absurd (show gb = g from Option.some.inj e) (by omega))⟩))))
            have HLL5 : Hid ((L ++ [zl X]) ++ layL F m r r = layL F m (M - 1) (M - 1)) := Lib.hid (by rw [← HLL.out, HSTs.out]; simp)
            clear hown hg hal4 hW4 B4 c6 hX4 hI4 h65 n6 ngb ng nb hIg4
            go_wp2_with fail
            refine HDF.out.mono ?_
            rintro e w6 ⟨rfl, hc6, hi6, hg6⟩
            rw [HLF.out] at hc6 ⊢
            have HO6 : Hid (OwnL w6 w1.heap.size w6.heap.size v1 (L ++ [zl X])) := Lib.hid (ownL_keep HO5.out hg6 hgl1).top
            have HM6 := Lib.hid (mapIs_keep HM5.out hg6 (fun e => HNB.out (Option.some.inj e)))
            have B6 : Hid (Below w.heap.size w w6) := Lib.hid (B5.out.grown hg6 B5.out.size (fun q hq => by have hq := Option.some.inj hq; omega))
            have hs6 := hg6.size
            have HR6 : Hid (ResZ w6 w.heap.size (.slice (some ⟨g, 0, none⟩) (eltN r).length lc) (zl (eltN r))) := Lib.hid (by
              by_cases e0 : eltN r = []
              · rw [e0]; exact .inl ⟨rfl, _, _, rfl⟩
              · exact .inr ⟨fun e => e0 (zl_nil e), g, lc, by rw [zl_length], hgB, by rw [zl_length]; omega, HCM.out, hi6, by rw [zl_length]; exact hc6⟩)
            clear hc6 hi6 hg6
            go_wp2
            have HQ6 : Hid (∀ q, (Value.slice (some ⟨g, 0, none⟩) (eltN r).length lc).ownBlock = some q → q < w1.heap.size) := Lib.hid (fun q hq => by
              have hq2 : g = q := Option.some.inj hq
              omega)
            exact ⟨⟨r, L ++ [zl X], by simp; omega, HR2, HLL5, ⟨_, _, rfl⟩, HR6, HQ6, HO6, HM6, B6, by omega⟩, hrlen⟩
end Go.Proofs.YtgdkpgidklnndaaGreatDoor.Sg
