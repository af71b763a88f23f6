/- The laws of QuadsOf and CountQuads. -/
import Derived.Test.YtlhkgabglddlhaaQuListSpec
namespace Go.Proofs.Ytlhkgabglddlhaa.Sg
open Go.RowKit Pt NewI NewII
set_option maxHeartbeats 1600000 in
set_option maxRecDepth 100000 in
theorem specCountQuads (n : Int) (s : ByteArray) (hs : s.size ≤ 9223372036854775807) (w : World) :
    Calls Try.prog 45 #[sg n s] w fun e w' => e = .returned (.int .i64 (quadsN n s.data.toList)) ∧ Below w.heap.size w w' := by
  have HA := Lib.hid (fun W => specAci n s hs W)
  have HQ := Lib.hid (fun W => specQuads n s hs W)
  have HRL := Lib.hid (rows4_length (quadsL n s.data.toList))
  have HS := Lib.hid (box_made w n s 25)
  cases h : aciB n s.data.toList
  · have HE : Hid (quadsN n s.data.toList = -1) := Lib.hid (by unfold quadsN; rw [h]; rfl)
    rw [h] at HA
    clear h
    go_enter Try.func45, Try.ntmps45
    go_wp2_with fail
    refine (HA.out _).mono ?_
    rintro e w1 ⟨rfl, hb1⟩
    have B1 := Lib.hid (HS.out.on hb1).2.2
    clear hb1
    go_wp2
    go_ret
    exact ⟨ret_int HE.out.symm, B1.out⟩
  · have HE : Hid (quadsN n s.data.toList = ((quadsL n s.data.toList).length : Nat)) := Lib.hid (by unfold quadsN; rw [if_pos h])
    rw [h] at HA
    clear h
    go_enter Try.func45, Try.ntmps45
    go_wp2_with fail
    refine (HA.out _).mono ?_
    rintro e w1 ⟨rfl, hb1⟩
    have X1 := Lib.hid (HS.out.on hb1)
    clear hb1
    obtain ⟨c0, c1, B1⟩ := X1.out
    go_wp2_with fail
    refine (HQ.out _).mono ?_
    rintro e w2 ⟨⟨a2, cp, rfl, hli⟩, hb2⟩
    have B2 := Lib.hid (B1.trans (hb2.mono B1.size))
    clear hli hb2 c0 c1
    go_wp2
    go_ret
    exact ⟨ret_int (by rw [HE.out, HRL.out]), B2.out⟩
set_option maxHeartbeats 1600000 in
set_option maxRecDepth 100000 in
theorem walkCountQuads (n : Int) (_ : -9223372036854775808 ≤ n ∧ n ≤ 9223372036854775807) (s : ByteArray) (hs : s.size ≤ 9223372036854775807) (w : World) :
    Calls Try.prog 8 #[sg n s] w fun e w' => e = .returned (.bool true) ∧ Below w.heap.size w w' := by
  have HS := Lib.hid (fun t => box_made w n s t)
  by_cases hz : (1048576 : Int) - s.size < 0
  · have z1 := left_neg (left := 1048576) hz
    go_enter Try.func8, Try.ntmps8
    go_wp2_with fail
    refine (sz_sg n s _ (by omega) (by omega) hs _).mono ?_
    rintro e w1 ⟨rfl, hb1⟩
    have B1 := ((HS.out _).on hb1).2.2
    go_wp2
    go_ret
    exact ⟨rfl, B1⟩
  · have z1 := left_pos (left := 1048576) (s := s) (by omega)
    have HA := Lib.hid (fun W => specCountQuads n s  hs W)
    have HI := Lib.hid (fun W => implCountQuads n s   hs W)
    generalize quadsN n s.data.toList = v at HA HI
    skip
    have hself : (v != v) = false := by simp
    skip
    go_enter Try.func8, Try.ntmps8
    go_wp2_with fail
    refine (sz_sg n s _ (by omega) (by omega) hs _).mono ?_
    rintro e w1 ⟨rfl, hb1⟩
    have X1 := Lib.hid ((HS.out _).on hb1)
    obtain ⟨c1, c2, B1⟩ := X1.out
    go_wp2_with fail
    refine (to_sg n s _).mono ?_
    rintro e w2 ⟨rfl, hb2⟩
    have X2 := Lib.hid (X1.out.on hb2)
    clear c1 c2
    obtain ⟨c1, c2, B2⟩ := X2.out
    go_wp2_with fail
    refine (HA.out _).mono ?_
    rintro e w3 ⟨rfl, hb3⟩
    have X3 := Lib.hid (X2.out.on hb3)
    clear c1 c2
    obtain ⟨c1, c2, B3⟩ := X3.out
    go_wp2_with fail
    refine (to_sg n s _).mono ?_
    rintro e w4 ⟨rfl, hb4⟩
    have X4 := Lib.hid (X3.out.on hb4)
    clear c1 c2
    obtain ⟨c1, c2, B4⟩ := X4.out
    go_wp2_with fail
    refine (HI.out _).mono ?_
    rintro e w5 ⟨rfl, hb5⟩
    have B5 := B4.trans (hb5.mono B4.size)
    clear c1 c2
    go_wp2
    go_ret
    exact ⟨rfl, B5⟩
theorem pre_quads (L : List T4) (h : L.length ≤ 35) : ∀ k, k ≤ (rows4 L).length → pre (rows4 L) k ≤ 1 + 4 * k
  | 0, _ => by show 1 ≤ _; omega
  | k + 1, hk => by
    have h1 := pre_quads L h k (by omega)
    have h2 : ln (rows4 L) k = 4 := by
      unfold ln rows4
      rw [List.getD_eq_getElem?_getD, List.getElem?_map]
      rw [rows4_length] at hk
      rw [List.getElem?_eq_getElem (by omega)]
      rfl
    show pre (rows4 L) k + ln (rows4 L) k ≤ _
    omega
set_option maxHeartbeats 3200000 in
set_option maxRecDepth 100000 in
theorem walkQuadsOf (n : Int) (_ : -9223372036854775808 ≤ n ∧ n ≤ 9223372036854775807) (s : ByteArray) (hs : s.size ≤ 9223372036854775807) (w : World) :
    Calls Try.prog 7 #[sg n s] w fun e w' => e = .returned (.bool true) ∧ Below w.heap.size w w' := by
  have HS := Lib.hid (fun t => box_made w n s t)
  by_cases hz : (1048576 : Int) - s.size < 0
  · have z1 := left_neg (left := 1048576) hz
    go_enter Try.func7, Try.ntmps7
    go_wp2_with fail
    refine (sz_sg n s _ (by omega) (by omega) hs _).mono ?_
    rintro e w1 ⟨rfl, hb1⟩
    have B1 := ((HS.out _).on hb1).2.2
    go_wp2
    go_ret
    exact ⟨rfl, B1⟩
  · have z1 := left_pos (left := 1048576) (s := s) (by omega)
    have HA := Lib.hid (fun W => specQuads n s hs W)
    have HI := Lib.hid (fun W => implQuads n s hs W)
    have hyl : (rows4 (quadsL n s.data.toList)).length ≤ 100000 := by rw [rows4_length]; have := quadsL_len n s.data.toList; omega
    have hpl : pre (rows4 (quadsL n s.data.toList)) (rows4 (quadsL n s.data.toList)).length ≤ 100000 := by
      have h0 := quadsL_len n s.data.toList
      have := pre_quads (quadsL n s.data.toList) h0 _ (Nat.le_refl _)
      rw [rows4_length] at this
      rw [rows4_length]
      omega
    generalize rows4 (quadsL n s.data.toList) = ys at HA HI hyl hpl
    have hself2 : (((pre ys ys.length : Nat) : Int) != ((pre ys ys.length : Nat) : Int)) = false := by simp
    go_enter Try.func7, Try.ntmps7
    go_wp2_with fail
    refine (sz_sg n s _ (by omega) (by omega) hs _).mono ?_
    rintro e w1 ⟨rfl, hb1⟩
    have X1 := Lib.hid ((HS.out _).on hb1)
    obtain ⟨c1, c2, B1⟩ := X1.out
    go_wp2_with fail
    refine (to_sg n s _).mono ?_
    rintro e w2 ⟨rfl, hb2⟩
    have X2 := Lib.hid (X1.out.on hb2)
    clear c1 c2
    obtain ⟨c1, c2, B2⟩ := X2.out
    go_wp2_with fail
    refine (HA.out _).mono ?_
    rintro e w3 ⟨⟨a3, c3, rfl, hn3⟩, hb3⟩
    have X3 := Lib.hid (X2.out.on hb3)
    have S3 := Lib.hid hn3
    clear c1 c2 hn3
    obtain ⟨c1, c2, B3⟩ := X3.out
    go_wp2_with fail
    refine (to_sg n s _).mono ?_
    rintro e w4 ⟨rfl, hb4⟩
    have X4 := Lib.hid (X3.out.on hb4)
    have S4 := Lib.hid (S3.out.on hb4)
    clear c1 c2
    obtain ⟨c1, c2, B4⟩ := X4.out
    go_wp2_with fail
    refine (HI.out _).mono ?_
    rintro e w5 ⟨⟨a5, c5, rfl, hn5⟩, hb5⟩
    have X5 := Lib.hid (X4.out.on hb5)
    have S5 := Lib.hid (S4.out.on hb5)
    have G5 := Lib.hid hn5
    have B5 := X5.out.2.2
    clear c1 c2 hn5
    go_wp2_with fail
    refine (eq_lists _ _ _ _ _ _ _ _ ys hpl hyl _ G5.out S5.out).mono ?_
    rintro e w6 ⟨rfl, hb6⟩
    have X6 := Lib.hid (X5.out.on hb6)
    have S6 := Lib.hid (S5.out.on hb6)
    have G6 := Lib.hid (G5.out.on hb6)
    have B6 := X6.out.2.2
    go_wp2_with fail
    refine (mark_lists _ _ _ _ ys hpl hyl _ G6.out).mono ?_
    rintro e w7 ⟨rfl, hn7, ho7⟩
    have hs34 := hb4.size
    have hs23 := hb3.size
    have hs12 := B2.size
    have S7 := Lib.hid (S6.out.far ho7 (.inl hs34))
    have G7 := Lib.hid hn7
    have hlt : w.heap.size < w2.heap.size := Kit.cell_lt X2.out.1
    have X7 : Hid (Box w n s w7) := Lib.hid (by
      have hbk := ho7.block w.heap.size (Kit.cell_lt X6.out.1) (by omega)
      exact ⟨by rw [World.cell?_of_block (a := ⟨w.heap.size, 0, none⟩) hbk]; exact X6.out.1, by rw [World.cell?_of_block (a := ⟨w.heap.size, 1, none⟩) hbk]; exact X6.out.2.1, B6.trans (ho7.below (by omega) B6.size)⟩)
    clear hn7 ho7
    go_wp2_with fail
    refine (held_lists _ _ _ _ ys hpl hyl _ G7.out).mono ?_
    rintro e w' ⟨rfl, rfl⟩
    obtain ⟨c1, c2, B7⟩ := X7.out
    go_wp2_with fail
    refine (to_sg n s _).mono ?_
    rintro e w8 ⟨rfl, hb8⟩
    have X8 := Lib.hid (X7.out.on hb8)
    have S8 := Lib.hid (S7.out.on hb8)
    have G8 := Lib.hid (G7.out.on hb8)
    clear c1 c2
    go_wp2_with fail
    refine (HI.out _).mono ?_
    rintro e w9 ⟨⟨a9, c9, rfl, hn9⟩, hb9⟩
    have B9 := X8.out.2.2.trans (hb9.mono X8.out.2.2.size)
    have S9 := Lib.hid (S8.out.on hb9)
    have G9 := Lib.hid (G8.out.on hb9)
    have H9 := Lib.hid hn9
    clear hn9
    go_wp2_with fail
    refine (eq_lists _ _ _ _ _ _ _ _ ys hpl hyl _ H9.out S9.out).mono ?_
    rintro e w10 ⟨rfl, hb10⟩
    have B10 := B9.trans (hb10.mono B9.size)
    have G10 := Lib.hid (G9.out.on hb10)
    go_wp2_with fail
    refine (held_lists _ _ _ _ ys hpl hyl _ G10.out).mono ?_
    rintro e w' ⟨rfl, rfl⟩
    go_wp2
    go_ret
    exact ⟨rfl, B10⟩
end Go.Proofs.Ytlhkgabglddlhaa.Sg
