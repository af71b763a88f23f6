/- The laws of LeftCount, LeftTable, LeftRow, CrossingSum, HalvingPairs and CutSets. -/
import Derived.Test.YtflcpgdgoencgaaDoorMgN
import Derived.Test.YtflcpgdgoencgaaDoorLeHalf
namespace Go.Proofs.YtflcpgdgoencgaaDoor.Sg
open Go.RowKit Pt NewI NewII
theorem pre_le7 (xss : List (List Int)) (h : ∀ zs ∈ xss, zs.length ≤ 7) : ∀ k, pre xss k ≤ 1 + 7 * k
  | 0 => by show 1 ≤ _; omega
  | k + 1 => by
    have ih := pre_le7 xss h k
    have h2 : ln xss k ≤ 7 := by
      unfold ln
      rw [List.getD_eq_getElem?_getD]
      cases hk : xss[k]? with
      | none => simp
      | some zs => exact h zs (List.mem_of_getElem? hk)
    show pre xss k + ln xss k ≤ _
    omega
theorem rowZ_len7 (n : Int) (s : List UInt8) : (rowZ n s).length ≤ 7 := by
  unfold rowZ
  split
  · rename_i h
    have h7 := (aciB_n h).2
    rw [rowQ_len]; omega
  · simp
theorem setsTo_len (q : Nat → Bool) (M : Nat) : (setsTo q M).length ≤ M := setsTo_length q M
theorem cutZ_len128 (n : Int) (s : List UInt8) (k : Int) : (cutZ n s k).length ≤ 128 := by
  unfold cutZ
  split
  · rename_i h
    have h7 := (aciB_n h.1).2
    exact Nat.le_trans (setsTo_len _ _) (pow_le7 (by omega))
  · simp
theorem tabZ_len (n : Int) (s : List UInt8) : (tabZ n s).length ≤ 100000 ∧ pre (tabZ n s) (tabZ n s).length ≤ 100000 := by
  have h1 : (tabZ n s).length ≤ 7 ∧ ∀ zs ∈ tabZ n s, zs.length ≤ 7 := by
    unfold tabZ
    split
    · rename_i h
      have h7 := (aciB_n h).2
      refine ⟨by rw [tabT_len]; omega, fun zs hz => ?_⟩
      unfold tabT at hz
      obtain ⟨a, -, rfl⟩ := List.mem_map.1 hz
      rw [rowT_len]; omega
    · exact ⟨by simp, fun zs hz => by cases hz⟩
  have h2 := pre_le7 _ h1.2 (tabZ n s).length
  omega
theorem halvZ_mem (n : Int) (s : List UInt8) : (halvZ n s).length ≤ 12 ∧ ∀ zs ∈ halvZ n s, zs.length = 2 := by
  cases h : aciB n s
  · unfold halvZ; rw [h]; exact ⟨by simp, fun zs hz => by cases hz⟩
  · obtain ⟨h3, h7⟩ := aciB_n h
    obtain ⟨m, rfl⟩ : ∃ m : Nat, n = m := ⟨n.toNat, by omega⟩
    have hf := halv_few h
    unfold halvZ
    rw [if_pos h, Int.toNat_natCast]
    refine ⟨hf, fun zs hz => ?_⟩
    rw [halvI_keys _ (by omega)] at hz
    obtain ⟨k, -, rfl⟩ := List.mem_map.1 hz
    rfl
theorem halvZ_len (n : Int) (s : List UInt8) : (halvZ n s).length ≤ 100000 ∧ pre (halvZ n s) (halvZ n s).length ≤ 100000 := by
  obtain ⟨h1, h0⟩ := halvZ_mem n s
  have h2 := pre_le7 _ (fun zs hz => by rw [h0 zs hz]; omega) (halvZ n s).length
  omega
set_option maxHeartbeats 1600000 in
set_option maxRecDepth 100000 in
theorem walkCutSets (n : Int) (_ : -9223372036854775808 ≤ n ∧ n ≤ 9223372036854775807) (s : ByteArray) (hs : s.size ≤ 9223372036854775807) (k : Int) (_hk : (Lit.int .i64 k).wf = true) (w : World) (ht : Lib.TabIs Tryd.prog w "math/bits.deBruijn64tab" .u8 tab64) :
    Calls Tryd.prog 10 #[sg n s, .int .i64 k] w fun e w' => e = .returned (.bool true) ∧ Below w.heap.size w w' := by
  have HT := Lib.hid (Tab.of ht)
  have HS := Lib.hid (fun t => box_made w n s t)
  clear ht
  by_cases hz : (1048576 : Int) - s.size < 0
  · have z1 := left_neg (left := 1048576) hz
    go_enter Tryd.func10, Tryd.ntmps10
    go_wp2_with fail
    refine (sz_sg n s _ (by omega) (by omega) hs _).mono ?_
    rintro e w1 ⟨rfl, hb1⟩
    have B1 := ((HS.out _).on hb1).2.2
    go_wp2
    go_ret
    exact ⟨rfl, B1⟩
  · have z1 := left_pos (left := 1048576) (s := s) (by omega)
    have HA := Lib.hid (fun W => specCutSets n s k hs W)
    have HI := Lib.hid (fun W hW => implCutSets n s k hs W hW)
    have hyl := cutZ_len128 n s.data.toList k
    generalize cutZ n s.data.toList k = ys at HA HI hyl
    have hself2 : (((1 + ys.length : Nat) : Int) != ((1 + ys.length : Nat) : Int)) = false := by simp
    go_enter Tryd.func10, Tryd.ntmps10
    go_wp2_with fail
    refine (sz_sg n s _ (by omega) (by omega) hs _).mono ?_
    rintro e w1 ⟨rfl, hb1⟩
    have X1 := Lib.hid ((HS.out _).on hb1)
    obtain ⟨c1, c2, B1⟩ := X1.out
    go_wp2_with fail
    refine (to_sg n s _).mono ?_
    rintro e w2 ⟨rfl, hb2⟩
    have X2 := Lib.hid (X1.out.on hb2)
    clear c1 c2
    obtain ⟨c1, c2, B2⟩ := X2.out
    go_wp2_with fail
    refine (HA.out _).mono ?_
    rintro e w3 ⟨⟨a3, c3, rfl, hn3⟩, hb3⟩
    have X3 := Lib.hid (X2.out.on hb3)
    have S3 := Lib.hid hn3
    clear c1 c2 hn3
    obtain ⟨c1, c2, B3⟩ := X3.out
    go_wp2_with fail
    refine (to_sg n s _).mono ?_
    rintro e w4 ⟨rfl, hb4⟩
    have X4 := Lib.hid (X3.out.on hb4)
    have S4 := Lib.hid (S3.out.on hb4)
    clear c1 c2
    obtain ⟨c1, c2, B4⟩ := X4.out
    go_wp2_with fail
    refine (HI.out _ (HT.out.on X4.out.2.2)).mono ?_
    rintro e w5 ⟨⟨a5, c5, rfl, hn5⟩, hb5⟩
    have X5 := Lib.hid (X4.out.on hb5)
    have S5 := Lib.hid (S4.out.on hb5)
    have G5 := Lib.hid hn5
    have B5 := X5.out.2.2
    clear c1 c2 hn5
    go_wp2_with fail
    refine (eq_new _ _ _ _ _ _ _ _ ys (by omega) _ G5.out S5.out).mono ?_
    rintro e w6 ⟨rfl, hb6⟩
    have X6 := Lib.hid (X5.out.on hb6)
    have S6 := Lib.hid (S5.out.on hb6)
    have G6 := Lib.hid (G5.out.on hb6)
    have B6 := X6.out.2.2
    go_wp2_with fail
    refine (mark_new _ _ _ _ _ _ (zc_int ys) (by omega) _ G6.out).mono ?_
    rintro e w7 ⟨rfl, hn7, ho7⟩
    have hs34 := hb4.size
    have hs23 := hb3.size
    have hs12 := B2.size
    have S7 := Lib.hid (S6.out.far ho7 (.inl hs34))
    have G7 := Lib.hid hn7
    have hlt : w.heap.size < w2.heap.size := Kit.cell_lt X2.out.1
    have X7 : Hid (Box w n s w7) := Lib.hid (by
      have hbk := ho7.block w.heap.size (Kit.cell_lt X6.out.1) (by omega)
      exact ⟨by rw [World.cell?_of_block (a := ⟨w.heap.size, 0, none⟩) hbk]; exact X6.out.1, by rw [World.cell?_of_block (a := ⟨w.heap.size, 1, none⟩) hbk]; exact X6.out.2.1, B6.trans (ho7.below (by omega) B6.size)⟩)
    clear hn7 ho7
    go_wp2_with fail
    refine (held_new _ _ _ _ _ _ (by omega) _ G7.out).mono ?_
    rintro e w' ⟨rfl, rfl⟩
    obtain ⟨c1, c2, B7⟩ := X7.out
    go_wp2_with fail
    refine (to_sg n s _).mono ?_
    rintro e w8 ⟨rfl, hb8⟩
    have X8 := Lib.hid (X7.out.on hb8)
    have S8 := Lib.hid (S7.out.on hb8)
    have G8 := Lib.hid (G7.out.on hb8)
    clear c1 c2
    go_wp2_with fail
    refine (HI.out _ (HT.out.on X8.out.2.2)).mono ?_
    rintro e w9 ⟨⟨a9, c9, rfl, hn9⟩, hb9⟩
    have B9 := X8.out.2.2.trans (hb9.mono X8.out.2.2.size)
    have S9 := Lib.hid (S8.out.on hb9)
    have G9 := Lib.hid (G8.out.on hb9)
    have H9 := Lib.hid hn9
    clear hn9
    go_wp2_with fail
    refine (eq_new _ _ _ _ _ _ _ _ ys (by omega) _ H9.out S9.out).mono ?_
    rintro e w10 ⟨rfl, hb10⟩
    have B10 := B9.trans (hb10.mono B9.size)
    have G10 := Lib.hid (G9.out.on hb10)
    go_wp2_with fail
    refine (held_new _ _ _ _ _ _ (by omega) _ G10.out).mono ?_
    rintro e w' ⟨rfl, rfl⟩
    go_wp2
    go_ret
    exact ⟨rfl, B10⟩
end Go.Proofs.YtflcpgdgoencgaaDoor.Sg
