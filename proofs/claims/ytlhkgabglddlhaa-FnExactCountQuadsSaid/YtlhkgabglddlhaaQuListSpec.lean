/- QuadsOf and CountQuads, as impl and spec tell them. -/
import Derived.Test.YtlhkgabglddlhaaQuList
import Derived.Test.YtlhkgabglddlhaaQuInSpec
namespace Go.Proofs.Ytlhkgabglddlhaa.Sg
open Go.RowKit Pt NewI NewII Go.Maps
/-- What QuadsOf answers. -/
def quadsL (n : Int) (s : List UInt8) : List T4 := if aciB n s = true then quads (sgnF (lookS n s)) n.toNat else []
theorem quadsL_no {n : Int} {s : List UInt8} (h : aciB n s = false) : quadsL n s = [] := by unfold quadsL; rw [h]; rfl
theorem quadsL_yes {n : Nat} {s : List UInt8} (h : aciB n s = true) : quadsL n s = quads (sgnF (lookS n s)) n := by unfold quadsL; rw [if_pos h, Int.toNat_natCast]
theorem quadsL_len (n : Int) (s : List UInt8) : (quadsL n s).length ≤ 35 := by
  cases h : aciB n s
  · rw [quadsL_no h]; simp
  · obtain ⟨h3, h7⟩ := aciB_n h
    obtain ⟨m, rfl⟩ : ∃ m : Nat, n = m := ⟨n.toNat, by omega⟩
    rw [quadsL_yes h]; exact quads_len (by omega)
set_option maxHeartbeats 1600000 in
set_option maxRecDepth 100000 in
theorem implQuads (n : Int) (s : ByteArray) (hs : s.size ≤ 9223372036854775807) (w : World) :
    Calls Try.prog 38 #[sg n s] w fun e w' => Got2 w.heap.size (rows4 (quadsL n s.data.toList)) e w' ∧ Below w.heap.size w w' := by
  have HO := Lib.hid (fun W => implOrd n s hs W)
  have HS := Lib.hid (box_made w n s 25)
  cases h : aciB n s.data.toList
  · have HE := Lib.hid (quadsL_no h)
    rw [h] at HO
    clear h
    go_enter Try.func38, Try.ntmps38
    go_wp2_with fail
    refine (HO.out _).mono ?_
    rintro e w1 ⟨B, rfl, hm, hb1⟩
    have B1 := Lib.hid (HS.out.on hb1).2.2
    obtain ⟨⟨m, D, hown, hz, -⟩, -⟩ := hm
    have hz : ((Maps.size D : Int) == 0) = true := hz
    have HW := Lib.hid hown
    clear hown hb1
    go_wp2_with (at_len; refine wpList_len_own _ rfl _ 63 rfl 99 3 Try.underlying63 _ B m D rfl HW.out ?_)
    go_ret
    exact ⟨by rw [HE.out]; exact ⟨none, 0, rfl, .inl rfl⟩, B1.out⟩
  · obtain ⟨h3, h7⟩ := aciB_n h
    obtain ⟨m, rfl⟩ : ∃ m : Nat, n = m := ⟨n.toNat, by omega⟩
    have HE := Lib.hid (quadsL_yes h)
    have HF := Lib.hid (ordF_yes h)
    have HQ : Hid (∀ B W, MapIs W B (ordF m s.data.toList) → Calls Try.prog 89 #[.map (some B), .int .i64 m] W fun e w' => Got2 W.heap.size (rows4 (quadsL m s.data.toList)) e w' ∧ Below W.heap.size W w') := Lib.hid (fun B W hW => by rw [HE.out, ← HF.out]; exact quadsOf_any B _ m (by omega) (by omega) W hW)
    rw [h] at HO
    clear h
    go_enter Try.func38, Try.ntmps38
    go_wp2_with fail
    refine (HO.out _).mono ?_
    rintro e w1 ⟨B, rfl, hm, hb1⟩
    have X1 := Lib.hid (HS.out.on hb1)
    obtain ⟨c0, c1, B1⟩ := X1.out
    have HM1 := Lib.hid hm.is
    obtain ⟨⟨q, D, hown, hz, -⟩, -⟩ := hm
    have hz : ((Maps.size D : Int) == 0) = false := hz
    have HW := Lib.hid hown
    clear hown hb1
    go_wp2_with (at_len; refine wpList_len_own _ rfl _ 63 rfl 99 3 Try.underlying63 _ B q D rfl HW.out ?_)
    refine (HQ.out _ _ HM1.out).mono ?_
    rintro e w2 ⟨⟨a2, cp, rfl, hli⟩, hb2⟩
    have B2 := Lib.hid (B1.trans (hb2.mono B1.size))
    have HLI := Lib.hid (hli.low B1.size)
    clear hli hb2 c0 c1
    go_wp2
    go_ret
    exact ⟨⟨a2, cp, rfl, HLI.out⟩, B2.out⟩
/-- What CountQuads answers. -/
def quadsN (n : Int) (s : List UInt8) : Int := if aciB n s = true then ((quadsL n s).length : Nat) else -1
set_option maxHeartbeats 1600000 in
set_option maxRecDepth 100000 in
theorem implCountQuads (n : Int) (s : ByteArray) (hs : s.size ≤ 9223372036854775807) (w : World) :
    Calls Try.prog 44 #[sg n s] w fun e w' => e = .returned (.int .i64 (quadsN n s.data.toList)) ∧ Below w.heap.size w w' := by
  have HO := Lib.hid (fun W => implOrd n s hs W)
  have HS := Lib.hid (box_made w n s 25)
  cases h : aciB n s.data.toList
  · have HE : Hid (quadsN n s.data.toList = -1) := Lib.hid (by unfold quadsN; rw [h]; rfl)
    rw [h] at HO
    clear h
    go_enter Try.func44, Try.ntmps44
    go_wp2_with fail
    refine (HO.out _).mono ?_
    rintro e w1 ⟨B, rfl, hm, hb1⟩
    have B1 := Lib.hid (HS.out.on hb1).2.2
    obtain ⟨⟨m, D, hown, hz, -⟩, -⟩ := hm
    have hz : ((Maps.size D : Int) == 0) = true := hz
    have HW := Lib.hid hown
    clear hown hb1
    go_wp2_with (at_len; refine wpList_len_own _ rfl _ 63 rfl 99 3 Try.underlying63 _ B m D rfl HW.out ?_)
    go_ret
    exact ⟨ret_int HE.out.symm, B1.out⟩
  · obtain ⟨h3, h7⟩ := aciB_n h
    obtain ⟨m, rfl⟩ : ∃ m : Nat, n = m := ⟨n.toNat, by omega⟩
    have HE : Hid (quadsN m s.data.toList = ((quadsL m s.data.toList).length : Nat)) := Lib.hid (by unfold quadsN; rw [if_pos h])
    have HE2 := Lib.hid (quadsL_yes h)
    have HF := Lib.hid (ordF_yes h)
    have HQ : Hid (∀ B W, MapIs W B (ordF m s.data.toList) → Calls Try.prog 89 #[.map (some B), .int .i64 m] W fun e w' => Got2 W.heap.size (rows4 (quadsL m s.data.toList)) e w' ∧ Below W.heap.size W w') := Lib.hid (fun B W hW => by rw [HE2.out, ← HF.out]; exact quadsOf_any B _ m (by omega) (by omega) W hW)
    have HRL := Lib.hid (rows4_length (quadsL m s.data.toList))
    rw [h] at HO
    clear h
    go_enter Try.func44, Try.ntmps44
    go_wp2_with fail
    refine (HO.out _).mono ?_
    rintro e w1 ⟨B, rfl, hm, hb1⟩
    have X1 := Lib.hid (HS.out.on hb1)
    obtain ⟨c0, c1, B1⟩ := X1.out
    have HM1 := Lib.hid hm.is
    obtain ⟨⟨q, D, hown, hz, -⟩, -⟩ := hm
    have hz : ((Maps.size D : Int) == 0) = false := hz
    have HW := Lib.hid hown
    clear hown hb1
    go_wp2_with (at_len; refine wpList_len_own _ rfl _ 63 rfl 99 3 Try.underlying63 _ B q D rfl HW.out ?_)
    refine (HQ.out _ _ HM1.out).mono ?_
    rintro e w2 ⟨⟨a2, cp, rfl, hli⟩, hb2⟩
    have B2 := Lib.hid (B1.trans (hb2.mono B1.size))
    clear hli hb2 c0 c1
    go_wp2
    go_ret
    exact ⟨ret_int (by rw [HE.out, HRL.out]), B2.out⟩
set_option maxHeartbeats 3200000 in
set_option maxRecDepth 100000 in
theorem specQuads (n : Int) (s : ByteArray) (hs : s.size ≤ 9223372036854775807) (w : World) :
    Calls Try.prog 43 #[sg n s] w fun e w' => Got2 w.heap.size (rows4 (quadsL n s.data.toList)) e w' ∧ Below w.heap.size w w' := by
  have HA := Lib.hid (fun W => specAci n s hs W)
  have HS := Lib.hid ((box_made w n s 25).alloc (.cells #[] 27))
  have hsz : (w.alloc (.cells #[.int .i64 n, .string s] 25)).heap.size = w.heap.size + 1 := by simp
  obtain ⟨x0, x1, -⟩ := HS.out
  cases h : aciB n s.data.toList
  · have HE := Lib.hid (quadsL_no h)
    rw [h] at HA
    clear h
    go_enter Try.func43, Try.ntmps43
    go_wp2_with fail
    refine (HA.out _).mono ?_
    rintro e w1 ⟨rfl, hb1⟩
    have B1 := Lib.hid (HS.out.on hb1).2.2
    clear hb1 x0 x1
    go_wp2
    go_ret
    exact ⟨by rw [HE.out]; exact ⟨_, _, rfl, .inl rfl⟩, B1.out⟩
  · obtain ⟨h3, h7⟩ := aciB_n h
    obtain ⟨m, rfl⟩ : ∃ m : Nat, n = m := ⟨n.toNat, by omega⟩
    have h7 : m ≤ 7 := by omega
    have har := matB_ar (aciB_mat h)
    obtain ⟨i0, hi, hz0, hz1, hz2⟩ := info_parts infoL
    have HE := Lib.hid (quadsL_yes h)
    have HIN : Hid (∀ a b c d : Nat, a < b → b < c → c < d → d < m → ∀ g W, Cells W g 4 (zc [(a : Int), (b : Int), (c : Int), (d : Int)]) → Calls Try.prog 93 #[sg m s, .slice (some ⟨g, 0, none⟩) 4 4] W fun e w' => e = .returned (.int .i64 (inn4 (cir (sgnF (lookS m s.data.toList)) a b c d) a b c d)) ∧ Below W.heap.size W w') := Lib.hid (fun a b c d h1 h2 h3 h4 g W hW => l5Inner_any m s a b c d har (by omega) (by omega) (by omega) (by omega) (by omega) (by omega) (by omega) (by omega) (by omega) (by omega) g 4 W hW)
    rw [HE.out]
    rw [h] at HA
    have HGE : Hid (∀ x : Int × Int × Int × Int, ∀ a b c d : Nat, (inn4 x a b c d < 0) = (inn4 x a b c d = -1)) := Lib.hid (fun x a b c d => by
      unfold inn4
      split
      · (simp; try omega)
      · split
        · (simp; try omega)
        · split
          · (simp; try omega)
          · split
            · (simp; try omega)
            · simp)
    have HQL := Lib.hid (fun a b c d => quadsU_len (f := sgnF (lookS m s.data.toList)) (n := m) (a := a) (b := b) (c := c) (d := d) h7)
    have HHH := Lib.hid (fun a b c d => quadsU_hit (f := sgnF (lookS m s.data.toList)) (n := m) (a := a) (b := b) (c := c) (d := d) h7)
    have HMM := Lib.hid (fun a b c d => quadsU_miss (f := sgnF (lookS m s.data.toList)) (n := m) (a := a) (b := b) (c := c) (d := d) h7)
    have HEND := Lib.hid (quadsU_end h7 (sgnF (lookS m s.data.toList)))
    have HZZ : Hid (quadsU (sgnF (lookS m s.data.toList)) m 0 (0 + 1) (0 + 1 + 1) (0 + 1 + 1 + 1) = []) := Lib.hid (by unfold quadsU; rw [upto4_zero h7]; rfl)
    have HDD : Hid (∀ a b c, a < b → b < c → c < m → quadsU (sgnF (lookS m s.data.toList)) m a b c m = quadsU (sgnF (lookS m s.data.toList)) m a b (c + 1) (c + 1 + 1)) := Lib.hid (fun a b c h1 h2 h3 => by unfold quadsU; rw [upto4_d h7 h1 h2 h3])
    have HCC : Hid (∀ a b, a < b → b < m → quadsU (sgnF (lookS m s.data.toList)) m a b m (m + 1) = quadsU (sgnF (lookS m s.data.toList)) m a (b + 1) (b + 1 + 1) (b + 1 + 1 + 1)) := Lib.hid (fun a b h1 h2 => by unfold quadsU; rw [upto4_c h7 h1 h2])
    have HBB : Hid (∀ a, a < m → quadsU (sgnF (lookS m s.data.toList)) m a m (m + 1) (m + 1 + 1) = quadsU (sgnF (lookS m s.data.toList)) m (a + 1) (a + 1 + 1) (a + 1 + 1 + 1) (a + 1 + 1 + 1 + 1)) := Lib.hid (fun a h1 => by unfold quadsU; rw [upto4_b h7 h1])
    have HHI : Hid (∀ a b c d : Nat, hasI (sgnF (lookS m s.data.toList)) (a, b, c, d) = !(inn4 (cir (sgnF (lookS m s.data.toList)) a b c d) a b c d == -1)) := Lib.hid (fun a b c d => rfl)
    generalize sgnF (lookS m s.data.toList) = F at HIN HQL HHH HMM HEND HZZ HDD HCC HBB HHI ⊢
    clear h har HE
    have HO0 := Lib.hid (OwnL.made (w.alloc (.cells #[.int .i64 m, .string s] 25)) (w.heap.size + 1) (w.heap.size + 1) (by rw [hsz]; exact Nat.le_refl _))
    rw [hsz] at HO0
    go_enter Try.func43, Try.ntmps43
    go_wp2_with fail
    refine (HA.out _).mono ?_
    rintro e w1 ⟨rfl, hb1⟩
    have X1 := Lib.hid (HS.out.on hb1)
    have HO1 := Lib.hid ((HO0.out.on hb1).top)
    clear hb1 x0 x1 HO0
    obtain ⟨x0, x1, -⟩ := X1.out
    go_wp2
    go_loopw [3, 4] (fun vv x wr => ∃ a : Nat, a ≤ m ∧ x = .int .i64 a ∧ Hid (OwnL wr (w.heap.size + 1) wr.heap.size vv (rows4 (quadsU F m a (a + 1) (a + 1 + 1) (a + 1 + 1 + 1)))) ∧ Hid (Box w m s wr)) (fun _ x _ => m - (intOf x).toNat)
    case atStart => exact ⟨0, Nat.zero_le _, rfl, by rw [HZZ.out]; exact HO1, X1⟩
    case round =>
      obtain ⟨a, han, rfl, HV, HB⟩ := hrel
      obtain ⟨c0, c1, B0⟩ := HB.out
      by_cases hlt : a < m
      · go_wp2
        go_loopw [3, 5] (fun vv x wr => ∃ b : Nat, a < b ∧ b ≤ m ∧ x = .int .i64 b ∧ Hid (OwnL wr (w.heap.size + 1) wr.heap.size vv (rows4 (quadsU F m a b (b + 1) (b + 1 + 1)))) ∧ Hid (Box w m s wr)) (fun _ x _ => m - (intOf x).toNat)
        case atStart => exact ⟨a + 1, by omega, by omega, by go_num, HV, HB⟩
        case round =>
          obtain ⟨b, hab, hbn, rfl, HV, HB⟩ := hrel
          obtain ⟨c0, c1, B0⟩ := HB.out
          by_cases hlt2 : b < m
          · go_wp2
            go_loopw [3, 6] (fun vv x wr => ∃ c : Nat, b < c ∧ c ≤ m ∧ x = .int .i64 c ∧ Hid (OwnL wr (w.heap.size + 1) wr.heap.size vv (rows4 (quadsU F m a b c (c + 1)))) ∧ Hid (Box w m s wr)) (fun _ x _ => m - (intOf x).toNat)
            case atStart => exact ⟨b + 1, by omega, by omega, by go_num, HV, HB⟩
            case round =>
              obtain ⟨c, hbc, hcn, rfl, HV, HB⟩ := hrel
              obtain ⟨c0, c1, B0⟩ := HB.out
              by_cases hlt3 : c < m
              · go_wp2
                go_loopw [3, 7] (fun vv x wr => ∃ d : Nat, c < d ∧ d ≤ m ∧ x = .int .i64 d ∧ Hid (OwnL wr (w.heap.size + 1) wr.heap.size vv (rows4 (quadsU F m a b c d))) ∧ Hid (Box w m s wr)) (fun _ x _ => m - (intOf x).toNat)
                case atStart => exact ⟨c + 1, by omega, by omega, by go_num, HV, HB⟩
                case round =>
                  obtain ⟨d, hcd, hdn, rfl, HV, HB⟩ := hrel
                  obtain ⟨c0, c1, B0⟩ := HB.out
                  by_cases hlt4 : d < m
                  · have HC := Lib.hid (HIN.out a b c d hab hbc hcd hlt4)
                    have HH := Lib.hid (fun h => HHH.out a b c d hab hbc hcd hlt4 h)
                    have HX := Lib.hid (fun h => HMM.out a b c d hab hbc hcd hlt4 h)
                    have hhas := HHI.out a b c d
                    have hneg := HGE.out (cir F a b c d) a b c d
                    generalize inn4 (cir F a b c d) a b c d = y at HC hhas hneg
                    have G1 := Lib.hid (cells4_made wr a b c d 3)
                    have hcs1 : ∃ cs, (wr.alloc (.cells #[.int .i64 a, .int .i64 b, .int .i64 c, .int .i64 d] 3)).heap[wr.heap.size]? = some (Obj.cells cs 3) := ⟨_, heap_made wr _⟩
                    have HX1 := Lib.hid (HB.out.alloc (.cells #[.int .i64 a, .int .i64 b, .int .i64 c, .int .i64 d] 3))
                    have HV1 := Lib.hid (HV.out.on ((Below.refl wr.heap.size wr).alloc (Nat.le_refl _) (.cells #[.int .i64 a, .int .i64 b, .int .i64 c, .int .i64 d] 3)))
                    have hlt0 : wr.heap.size < (wr.alloc (.cells #[.int .i64 a, .int .i64 b, .int .i64 c, .int .i64 d] 3)).heap.size := by simp
                    obtain ⟨c0, c1, -⟩ := HX1.out
                    have HCS := Lib.hid hcs1
                    clear HV hcs1
                    by_cases hy : y < 0
                    · have hy1 : y = -1 := by rw [← hneg]; exact hy
                      subst hy1
                      have HN := Lib.hid (HH.out (by rw [hhas]; rfl))
                      have HYL := HQL.out a b c d
                      generalize quadsU F m a b c d = ys at HV1 HN HYL
                      go_wp2_with fail
                      refine (HC.out _ _ G1.out).mono ?_
                      rintro e w3 ⟨rfl, hb3⟩
                      have HX3 := Lib.hid (HX1.out.on hb3)
                      have HV3 := Lib.hid (HV1.out.on hb3)
                      have G3 := Lib.hid (G1.out.on hb3)
                      have HCS3 : Hid (∃ cs, w3.heap[wr.heap.size]? = some (Obj.cells cs 3)) := Lib.hid (by obtain ⟨cs, hcs⟩ := HCS.out; exact ⟨cs, by rw [hb3.block _ hlt0]; exact hcs⟩)
                      obtain ⟨L, hL⟩ := HV3.out.row
                      have HL3 := Lib.hid hL
                      have hyl2 : (rows4 ys).length ≤ 35 := by rw [rows4_length]; exact HYL
                      have hw0 : w.heap.size < wr.heap.size := Kit.cell_lt HB.out.1
                      have hs3 : wr.heap.size ≤ w3.heap.size := by have := hb3.size; simp at this; omega
                      have B3 := HX3.out.2.2
                      clear hL hb3 c0 c1
                      go_wp2_with (at_builtin; refine wpList_append_own _ rfl (.tmp 53) (.tmp 55) 44 rfl (w.heap.size + 1) 27 i0 _ 1 24 Try.underlying44 hi hz0 hz1 hz2 rfl (by decide) _ _ _ rfl (World.ownsRow.alloc HL3.out _) ⟨_, 0, none⟩ 1 1 [.slice (some ⟨wr.heap.size, 0, none⟩) 4 4] rfl rfl (newsR _ _ _) (oneR _ _ _) (by simp only [maxLen]; omega) (by omega) (by simp; omega) ?_)
                      intro v1 w5 hown hg _
                      have hal := (Below.refl w3.heap.size w3).alloc (Nat.le_refl _) (.cells #[.slice (some ⟨wr.heap.size, 0, none⟩) 4 4] 27)
                      have HV5 : Hid (OwnL w5 (w.heap.size + 1) w5.heap.size v1 (rows4 (quadsU F m a b c (d + 1)))) := Lib.hid (by
                        rw [HN.out, rows4_snoc]
                        obtain ⟨cs, hcs⟩ := HCS3.out
                        exact (OwnL.snoc (g := (wr.heap.size, 4)) (zs := r4 (a, b, c, d)) (HV3.out.on hal) (by show w.heap.size + 1 ≤ wr.heap.size; omega) (Nat.le_refl _) ⟨cs, by rw [hal.block _ G3.out.lt]; exact hcs⟩ (G3.out.on hal) hg (World.ownsRow.alloc HL3.out _) hown).top)
                      have HX5 : Hid (Box w m s w5) := Lib.hid (by
                        have hbx := HX3.out.alloc (.cells #[.slice (some ⟨wr.heap.size, 0, none⟩) 4 4] 27)
                        refine hbx.block (hg.block _ (by simp; omega) (fun e => ?_)) (hbx.2.2.grown hg (by simp; omega) (fun q hq => by have := (World.ownsRow.lt HL3.out q hq).1; omega))
                        have := (World.ownsRow.lt HL3.out _ e.symm).1
                        omega)
                      clear hown hg hal
                      go_wp2
                      exact ⟨⟨d + 1, by omega, by omega, by go_num, HV5, HX5⟩, by simp only [intOf]; omega⟩
                    · have hy1 : (y == -1) = false := by
                        rw [beq_eq_false_iff_ne]
                        intro e
                        rw [← hneg] at e
                        exact hy e
                      have HN := Lib.hid (HX.out (by rw [hhas, hy1]; rfl))
                      go_wp2_with fail
                      refine (HC.out _ _ G1.out).mono ?_
                      rintro e w3 ⟨rfl, hb3⟩
                      have HX3 := Lib.hid (HX1.out.on hb3)
                      have HV3 : Hid (OwnL w3 (w.heap.size + 1) w3.heap.size _ (rows4 (quadsU F m a b c (d + 1)))) := Lib.hid (by rw [HN.out]; exact (HV1.out.on hb3).top)
                      clear hb3 c0 c1
                      go_wp2
                      exact ⟨⟨d + 1, by omega, by omega, by go_num, HV3, HX3⟩, by simp only [intOf]; omega⟩
                  · have HN := Lib.hid (HDD.out a b c hab hbc hlt3)
                    obtain rfl : d = m := by omega
                    have HV2 := HV
                    rw [HN.out] at HV2
                    clear HV
                    go_wp2
                    exact ⟨⟨c + 1, by omega, by omega, by go_num, HV2, HB⟩, by simp only [intOf]; omega⟩
              · have HN := Lib.hid (HCC.out a b hab hlt2)
                obtain rfl : c = m := by omega
                have HV2 := HV
                rw [HN.out] at HV2
                clear HV
                go_wp2
                exact ⟨⟨b + 1, by omega, by omega, by go_num, HV2, HB⟩, by simp only [intOf]; omega⟩
          · have HN := Lib.hid (HBB.out a hlt)
            obtain rfl : b = m := by omega
            have HV2 := HV
            rw [HN.out] at HV2
            clear HV
            go_wp2
            exact ⟨⟨a + 1, by omega, by go_num, HV2, HB⟩, by simp only [intOf]; omega⟩
      · obtain rfl : a = m := by omega
        have HV2 := HV
        rw [HEND.out] at HV2
        obtain ⟨a2, c2, hv, hli⟩ := Lists.of_own HV2.out
        subst hv
        have HLI := Lib.hid hli
        clear HV HV2 hli
        go_wp2
        go_ret
        exact ⟨⟨a2, c2, rfl, HLI.out.low (by omega)⟩, B0⟩
end Go.Proofs.Ytlhkgabglddlhaa.Sg
