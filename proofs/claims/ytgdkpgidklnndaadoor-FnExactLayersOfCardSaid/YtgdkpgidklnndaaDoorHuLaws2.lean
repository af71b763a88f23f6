/- The laws of HullOf and LayersOf. -/
import Derived.Test.YtgdkpgidklnndaaDoorHuImplHull
import Derived.Test.YtgdkpgidklnndaaDoorHuImplLay
import Derived.Test.YtgdkpgidklnndaaDoorMgK
namespace Go.Proofs.YtgdkpgidklnndaaDoor.Sg
open Go.RowKit Pt NewI NewII
theorem hullGo_len (nx : Nat → Int) (first : Nat) : ∀ f a, (hullGo nx first f a).length ≤ f
  | 0, _ => Nat.le_refl _
  | f + 1, a => by
    show (_ :: (if _ then _ else _) : List Int).length ≤ _
    split
    · simp
    · have := hullGo_len nx first f (nx a).toNat
      simp only [List.length_cons]
      omega
theorem hullZ_len (n : Int) (s : List UInt8) : (hullZ n s).length ≤ 7 := by
  unfold hullZ
  split
  · rename_i h
    have h7 := (aciB_n h).2
    exact Nat.le_trans (hullGo_len _ _ _ _) (by omega)
  · simp
theorem layL_len (F : Int → Int → Int → Int) (n : Nat) : ∀ k set, (layL F n k set).length ≤ k
  | 0, _ => Nat.le_refl _
  | k + 1, set => by
    show (if set = 0 then _ else _ : List (List Int)).length ≤ _
    split
    · simp
    · have := layL_len F n k (restS F n set)
      simp only [List.length_cons]
      omega
theorem layL_mem (F : Int → Int → Int → Int) (n : Nat) : ∀ k set zs, zs ∈ layL F n k set → zs.length ≤ 7
  | 0, _, zs, h => by cases h
  | k + 1, set, zs, h => by
    have h : zs ∈ (if set = 0 then [] else setsTo (extS F n set).testBit 7 :: layL F n k (restS F n set)) := h
    split at h
    · cases h
    · rcases List.mem_cons.1 h with e | e
      · rw [e]; exact setsTo_length _ _
      · exact layL_mem F n k _ zs e
theorem pre_le (xss : List (List Int)) (h : ∀ zs ∈ xss, zs.length ≤ 7) : ∀ k, pre xss k ≤ 1 + 7 * k
  | 0 => by show 1 ≤ _; omega
  | k + 1 => by
    have ih := pre_le xss h k
    have h2 : ln xss k ≤ 7 := by
      unfold ln
      rw [List.getD_eq_getElem?_getD]
      cases hk : xss[k]? with
      | none => simp
      | some zs => exact h zs (List.mem_of_getElem? hk)
    show pre xss k + ln xss k ≤ _
    omega
theorem layZ_len (n : Int) (s : List UInt8) : (layZ n s).length ≤ 100000 ∧ pre (layZ n s) (layZ n s).length ≤ 100000 := by
  have h1 : (layZ n s).length ≤ 127 ∧ ∀ zs ∈ layZ n s, zs.length ≤ 7 := by
    unfold layZ
    split
    · rename_i h
      have h7 := (aciB_n h).2
      have hp := pow_le7 (p := n.toNat) (by omega)
      exact ⟨Nat.le_trans (layL_len _ _ _ _) (by unfold allS; omega), layL_mem _ _ _ _⟩
    · exact ⟨by simp, fun zs hz => by cases hz⟩
  have h2 := pre_le _ h1.2 (layZ n s).length
  omega
set_option maxHeartbeats 1600000 in
set_option maxRecDepth 100000 in
theorem walkHullOf (n : Int) (_ : -9223372036854775808 ≤ n ∧ n ≤ 9223372036854775807) (s : ByteArray) (hs : s.size ≤ 9223372036854775807) (w : World) (ht : Lib.TabIs Tryd.prog w "math/bits.deBruijn64tab" .u8 tab64) :
    Calls Tryd.prog 4 #[sg n s] w fun e w' => e = .returned (.bool true) ∧ Below w.heap.size w w' := by
  have HT := Lib.hid (Tab.of ht)
  have HS := Lib.hid (fun t => box_made w n s t)
  clear ht
  by_cases hz : (1048576 : Int) - s.size < 0
  · have z1 := left_neg (left := 1048576) hz
    go_enter Tryd.func4, Tryd.ntmps4
    go_wp2_with fail
    refine (sz_sg n s _ (by omega) (by omega) hs _).mono ?_
    rintro e w1 ⟨rfl, hb1⟩
    have B1 := ((HS.out _).on hb1).2.2
    go_wp2
    go_ret
    exact ⟨rfl, B1⟩
  · have z1 := left_pos (left := 1048576) (s := s) (by omega)
    have HA := Lib.hid (fun W => specHull n s hs W)
    have HI := Lib.hid (fun W hW => implHull n s hs W hW)
    have hyl := hullZ_len n s.data.toList
    generalize hullZ n s.data.toList = ys at HA HI hyl
    have hself2 : (((1 + ys.length : Nat) : Int) != ((1 + ys.length : Nat) : Int)) = false := by simp
    go_enter Tryd.func4, Tryd.ntmps4
    go_wp2_with fail
    refine (sz_sg n s _ (by omega) (by omega) hs _).mono ?_
    rintro e w1 ⟨rfl, hb1⟩
    have X1 := Lib.hid ((HS.out _).on hb1)
    obtain ⟨c1, c2, B1⟩ := X1.out
    go_wp2_with fail
    refine (to_sg n s _).mono ?_
    rintro e w2 ⟨rfl, hb2⟩
    have X2 := Lib.hid (X1.out.on hb2)
    clear c1 c2
    obtain ⟨c1, c2, B2⟩ := X2.out
    go_wp2_with fail
    refine (HA.out _).mono ?_
    rintro e w3 ⟨⟨a3, c3, rfl, hn3⟩, hb3⟩
    have X3 := Lib.hid (X2.out.on hb3)
    have S3 := Lib.hid hn3
    clear c1 c2 hn3
    obtain ⟨c1, c2, B3⟩ := X3.out
    go_wp2_with fail
    refine (to_sg n s _).mono ?_
    rintro e w4 ⟨rfl, hb4⟩
    have X4 := Lib.hid (X3.out.on hb4)
    have S4 := Lib.hid (S3.out.on hb4)
    clear c1 c2
    obtain ⟨c1, c2, B4⟩ := X4.out
    go_wp2_with fail
    refine (HI.out _ (HT.out.on X4.out.2.2)).mono ?_
    rintro e w5 ⟨⟨a5, c5, rfl, hn5⟩, hb5⟩
    have X5 := Lib.hid (X4.out.on hb5)
    have S5 := Lib.hid (S4.out.on hb5)
    have G5 := Lib.hid hn5
    have B5 := X5.out.2.2
    clear c1 c2 hn5
    go_wp2_with fail
    refine (eq_new _ _ _ _ _ _ _ _ ys (by omega) _ G5.out S5.out).mono ?_
    rintro e w6 ⟨rfl, hb6⟩
    have X6 := Lib.hid (X5.out.on hb6)
    have S6 := Lib.hid (S5.out.on hb6)
    have G6 := Lib.hid (G5.out.on hb6)
    have B6 := X6.out.2.2
    go_wp2_with fail
    refine (mark_new _ _ _ _ _ _ (zc_int ys) (by omega) _ G6.out).mono ?_
    rintro e w7 ⟨rfl, hn7, ho7⟩
    have hs34 := hb4.size
    have hs23 := hb3.size
    have hs12 := B2.size
    have S7 := Lib.hid (S6.out.far ho7 (.inl hs34))
    have G7 := Lib.hid hn7
    have hlt : w.heap.size < w2.heap.size := Kit.cell_lt X2.out.1
    have X7 : Hid (Box w n s w7) := Lib.hid (by
      have hbk := ho7.block w.heap.size (Kit.cell_lt X6.out.1) (by omega)
      exact ⟨by rw [World.cell?_of_block (a := ⟨w.heap.size, 0, none⟩) hbk]; exact X6.out.1, by rw [World.cell?_of_block (a := ⟨w.heap.size, 1, none⟩) hbk]; exact X6.out.2.1, B6.trans (ho7.below (by omega) B6.size)⟩)
    clear hn7 ho7
    go_wp2_with fail
    refine (held_new _ _ _ _ _ _ (by omega) _ G7.out).mono ?_
    rintro e w' ⟨rfl, rfl⟩
    obtain ⟨c1, c2, B7⟩ := X7.out
    go_wp2_with fail
    refine (to_sg n s _).mono ?_
    rintro e w8 ⟨rfl, hb8⟩
    have X8 := Lib.hid (X7.out.on hb8)
    have S8 := Lib.hid (S7.out.on hb8)
    have G8 := Lib.hid (G7.out.on hb8)
    clear c1 c2
    go_wp2_with fail
    refine (HI.out _ (HT.out.on X8.out.2.2)).mono ?_
    rintro e w9 ⟨⟨a9, c9, rfl, hn9⟩, hb9⟩
    have B9 := X8.out.2.2.trans (hb9.mono X8.out.2.2.size)
    have S9 := Lib.hid (S8.out.on hb9)
    have G9 := Lib.hid (G8.out.on hb9)
    have H9 := Lib.hid hn9
    clear hn9
    go_wp2_with fail
    refine (eq_new _ _ _ _ _ _ _ _ ys (by omega) _ H9.out S9.out).mono ?_
    rintro e w10 ⟨rfl, hb10⟩
    have B10 := B9.trans (hb10.mono B9.size)
    have G10 := Lib.hid (G9.out.on hb10)
    go_wp2_with fail
    refine (held_new _ _ _ _ _ _ (by omega) _ G10.out).mono ?_
    rintro e w' ⟨rfl, rfl⟩
    go_wp2
    go_ret
    exact ⟨rfl, B10⟩
set_option maxHeartbeats 3200000 in
set_option maxRecDepth 100000 in
theorem walkLayersOf (n : Int) (_ : -9223372036854775808 ≤ n ∧ n ≤ 9223372036854775807) (s : ByteArray) (hs : s.size ≤ 9223372036854775807) (w : World) (ht : Lib.TabIs Tryd.prog w "math/bits.deBruijn64tab" .u8 tab64) :
    Calls Tryd.prog 5 #[sg n s] w fun e w' => e = .returned (.bool true) ∧ Below w.heap.size w w' := by
  have HT := Lib.hid (Tab.of ht)
  have HS := Lib.hid (fun t => box_made w n s t)
  clear ht
  by_cases hz : (1048576 : Int) - s.size < 0
  · have z1 := left_neg (left := 1048576) hz
    go_enter Tryd.func5, Tryd.ntmps5
    go_wp2_with fail
    refine (sz_sg n s _ (by omega) (by omega) hs _).mono ?_
    rintro e w1 ⟨rfl, hb1⟩
    have B1 := ((HS.out _).on hb1).2.2
    go_wp2
    go_ret
    exact ⟨rfl, B1⟩
  · have z1 := left_pos (left := 1048576) (s := s) (by omega)
    have HA := Lib.hid (fun W => specLayers n s hs W)
    have HI := Lib.hid (fun W hW => implLayers n s hs W hW)
    obtain ⟨hyl, hpl⟩ := layZ_len n s.data.toList
    generalize layZ n s.data.toList = ys at HA HI hyl hpl
    have hself2 : (((pre ys ys.length : Nat) : Int) != ((pre ys ys.length : Nat) : Int)) = false := by simp
    go_enter Tryd.func5, Tryd.ntmps5
    go_wp2_with fail
    refine (sz_sg n s _ (by omega) (by omega) hs _).mono ?_
    rintro e w1 ⟨rfl, hb1⟩
    have X1 := Lib.hid ((HS.out _).on hb1)
    obtain ⟨c1, c2, B1⟩ := X1.out
    go_wp2_with fail
    refine (to_sg n s _).mono ?_
    rintro e w2 ⟨rfl, hb2⟩
    have X2 := Lib.hid (X1.out.on hb2)
    clear c1 c2
    obtain ⟨c1, c2, B2⟩ := X2.out
    go_wp2_with fail
    refine (HA.out _).mono ?_
    rintro e w3 ⟨⟨a3, c3, rfl, hn3⟩, hb3⟩
    have X3 := Lib.hid (X2.out.on hb3)
    have S3 := Lib.hid hn3
    clear c1 c2 hn3
    obtain ⟨c1, c2, B3⟩ := X3.out
    go_wp2_with fail
    refine (to_sg n s _).mono ?_
    rintro e w4 ⟨rfl, hb4⟩
    have X4 := Lib.hid (X3.out.on hb4)
    have S4 := Lib.hid (S3.out.on hb4)
    clear c1 c2
    obtain ⟨c1, c2, B4⟩ := X4.out
    go_wp2_with fail
    refine (HI.out _ (HT.out.on X4.out.2.2)).mono ?_
    rintro e w5 ⟨⟨a5, c5, rfl, hn5⟩, hb5⟩
    have X5 := Lib.hid (X4.out.on hb5)
    have S5 := Lib.hid (S4.out.on hb5)
    have G5 := Lib.hid hn5
    have B5 := X5.out.2.2
    clear c1 c2 hn5
    go_wp2_with fail
    refine (eq_lists _ _ _ _ _ _ _ _ ys hpl hyl _ G5.out S5.out).mono ?_
    rintro e w6 ⟨rfl, hb6⟩
    have X6 := Lib.hid (X5.out.on hb6)
    have S6 := Lib.hid (S5.out.on hb6)
    have G6 := Lib.hid (G5.out.on hb6)
    have B6 := X6.out.2.2
    go_wp2_with fail
    refine (mark_lists _ _ _ _ ys hpl hyl _ G6.out).mono ?_
    rintro e w7 ⟨rfl, hn7, ho7⟩
    have hs34 := hb4.size
    have hs23 := hb3.size
    have hs12 := B2.size
    have S7 := Lib.hid (S6.out.far ho7 (.inl hs34))
    have G7 := Lib.hid hn7
    have hlt : w.heap.size < w2.heap.size := Kit.cell_lt X2.out.1
    have X7 : Hid (Box w n s w7) := Lib.hid (by
      have hbk := ho7.block w.heap.size (Kit.cell_lt X6.out.1) (by omega)
      exact ⟨by rw [World.cell?_of_block (a := ⟨w.heap.size, 0, none⟩) hbk]; exact X6.out.1, by rw [World.cell?_of_block (a := ⟨w.heap.size, 1, none⟩) hbk]; exact X6.out.2.1, B6.trans (ho7.below (by omega) B6.size)⟩)
    clear hn7 ho7
    go_wp2_with fail
    refine (held_lists _ _ _ _ ys hpl hyl _ G7.out).mono ?_
    rintro e w' ⟨rfl, rfl⟩
    obtain ⟨c1, c2, B7⟩ := X7.out
    go_wp2_with fail
    refine (to_sg n s _).mono ?_
    rintro e w8 ⟨rfl, hb8⟩
    have X8 := Lib.hid (X7.out.on hb8)
    have S8 := Lib.hid (S7.out.on hb8)
    have G8 := Lib.hid (G7.out.on hb8)
    clear c1 c2
    go_wp2_with fail
    refine (HI.out _ (HT.out.on X8.out.2.2)).mono ?_
    rintro e w9 ⟨⟨a9, c9, rfl, hn9⟩, hb9⟩
    have B9 := X8.out.2.2.trans (hb9.mono X8.out.2.2.size)
    have S9 := Lib.hid (S8.out.on hb9)
    have G9 := Lib.hid (G8.out.on hb9)
    have H9 := Lib.hid hn9
    clear hn9
    go_wp2_with fail
    refine (eq_lists _ _ _ _ _ _ _ _ ys hpl hyl _ H9.out S9.out).mono ?_
    rintro e w10 ⟨rfl, hb10⟩
    have B10 := B9.trans (hb10.mono B9.size)
    have G10 := Lib.hid (G9.out.on hb10)
    go_wp2_with fail
    refine (held_lists _ _ _ _ ys hpl hyl _ G10.out).mono ?_
    rintro e w' ⟨rfl, rfl⟩
    go_wp2
    go_ret
    exact ⟨rfl, B10⟩
end Go.Proofs.YtgdkpgidklnndaaDoor.Sg
