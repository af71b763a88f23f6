/- The laws of DegreesOf, IsTree, PlaneTrees, PlanePaths, PolygonsOf and PlaneMatchings. -/
import Derived.Test.YtinlnafkmoabbaaDoorMgFc
import Derived.Test.YtinlnafkmoabbaaDoorMgFb
import Derived.Test.YtinlnafkmoabbaaDoorMgFd
namespace Go.Proofs.YtinlnafkmoabbaaDoor.Sg
open Go.RowKit Pt NewI
theorem degZ_len (n T : Int) : (zl (degZ n T)).length ≤ 100 := by
  unfold degZ
  split
  · rename_i h
    obtain ⟨h1, h2⟩ := inB_mem h.1
    rw [zl_length, degL_len]; omega
  · simp [zl]
theorem pairZ_lenE (n : Int) (s : List UInt8) : (pairZ n s).length ≤ 32768 := by
  unfold pairZ
  split
  · exact set_len _ _ _ _ _ _
  · simp
set_option maxHeartbeats 1600000 in
set_option maxRecDepth 100000 in
theorem walkDegreesOf (n : Int) (hn : (Lit.int .i64 n).wf = true) (edges : Int) (hedges : (Lit.int .i64 edges).wf = true) (w : World) (ht : Lib.TabIs Tryd.prog w "math/bits.deBruijn64tab" .u8 tab64) :
    Calls Tryd.prog 3 #[.int .i64 n, .int .i64 edges] w fun e w' => e = .returned (.bool true) ∧ Below w.heap.size w w' := by
  have HT := Lib.hid (Tab.of ht)
  clear ht
  have HA := Lib.hid (fun W => specDegrees n edges W)
  have HI := Lib.hid (fun W hW => implDegrees n edges (bounds_i64 hn) (bounds_i64 hedges) W hW)
  have hyl := degZ_len n edges
  generalize zl (degZ n edges) = ys at HA HI hyl
  have hself2 : (((1 + ys.length : Nat) : Int) != ((1 + ys.length : Nat) : Int)) = false := by simp
  go_enter Tryd.func3, Tryd.ntmps3
  go_wp2_with fail
  refine (HA.out _).mono ?_
  rintro e w3 ⟨⟨a3, c3, rfl, hn3⟩, hb3⟩
  have S3 := Lib.hid hn3
  clear hn3
  go_wp2_with fail
  refine (HI.out _ (HT.out.on hb3)).mono ?_
  rintro e w5 ⟨⟨a5, c5, rfl, hn5⟩, hb5⟩
  have B5 := hb3.trans (hb5.mono hb3.size)
  have S5 := Lib.hid (S3.out.on hb5)
  have G5 := Lib.hid hn5
  clear hn5
  go_wp2_with fail
  refine (NewI.eq_new _ _ _ _ _ _ _ _ ys (by omega) _ G5.out S5.out).mono ?_
  rintro e w6 ⟨rfl, hb6⟩
  have B6 := B5.trans (hb6.mono B5.size)
  have S6 := Lib.hid (S5.out.on hb6)
  have G6 := Lib.hid (G5.out.on hb6)
  go_wp2_with fail
  refine (NewI.mark_new _ _ _ _ _ _ (zc_int ys) (by omega) _ G6.out).mono ?_
  rintro e w7 ⟨rfl, hn7, ho7⟩
  have hs3 := hb3.size
  have S7 := Lib.hid (S6.out.far ho7 (.inl (Nat.le_refl _)))
  have G7 := Lib.hid hn7
  have B7 := B6.trans (ho7.below (by omega) B6.size)
  clear hn7 ho7
  go_wp2_with fail
  refine (NewI.held_new _ _ _ _ _ _ (by omega) _ G7.out).mono ?_
  rintro e w' ⟨rfl, rfl⟩
  go_wp2_with fail
  refine (HI.out _ (HT.out.on B7)).mono ?_
  rintro e w9 ⟨⟨a9, c9, rfl, hn9⟩, hb9⟩
  have B9 := B7.trans (hb9.mono B7.size)
  have S9 := Lib.hid (S7.out.on hb9)
  have G9 := Lib.hid (G7.out.on hb9)
  have H9 := Lib.hid hn9
  clear hn9
  go_wp2_with fail
  refine (NewI.eq_new _ _ _ _ _ _ _ _ ys (by omega) _ H9.out S9.out).mono ?_
  rintro e w10 ⟨rfl, hb10⟩
  have B10 := B9.trans (hb10.mono B9.size)
  have G10 := Lib.hid (G9.out.on hb10)
  go_wp2_with fail
  refine (NewI.held_new _ _ _ _ _ _ (by omega) _ G10.out).mono ?_
  rintro e w' ⟨rfl, rfl⟩
  go_wp2
  go_ret
  exact ⟨rfl, B10⟩
set_option maxHeartbeats 1600000 in
set_option maxRecDepth 100000 in
theorem walkIsTree (n : Int) (hn : (Lit.int .i64 n).wf = true) (edges : Int) (hedges : (Lit.int .i64 edges).wf = true) (w : World) (ht : Lib.TabIs Tryd.prog w "math/bits.deBruijn64tab" .u8 tab64) :
    Calls Tryd.prog 4 #[.int .i64 n, .int .i64 edges] w fun e w' => e = .returned (.bool true) ∧ Below w.heap.size w w' := by
  have HT := Lib.hid (Tab.of ht)
  clear ht
  have HA := Lib.hid (fun W => specIsTree n edges W)
  have HI := Lib.hid (fun W hW => implIsTree n edges (bounds_i64 hn) (bounds_i64 hedges) W hW)
  generalize trB n edges = v at HA HI
  have hself : (v != v) = false := by cases v <;> rfl
  go_enter Tryd.func4, Tryd.ntmps4
  go_wp2_with fail
  refine (HA.out _).mono ?_
  rintro e w1 ⟨rfl, hb1⟩
  subst hb1
  have B1 := Below.refl w.heap.size w
  go_wp2_with fail
  refine (HI.out _ (HT.out.on B1)).mono ?_
  rintro e w2 ⟨rfl, hb2⟩
  have B2 := B1.trans (hb2.mono B1.size)
  go_wp2
  go_ret
  exact ⟨rfl, B2⟩
set_option maxHeartbeats 1600000 in
set_option maxRecDepth 100000 in
theorem walkPlaneTrees (n : Int) (hn : -9223372036854775808 ≤ n ∧ n ≤ 9223372036854775807) (s : ByteArray) (hs : s.size ≤ 9223372036854775807) (w : World) (ht : Lib.TabIs Tryd.prog w "math/bits.deBruijn64tab" .u8 tab64) :
    Calls Tryd.prog 5 #[sg n s] w fun e w' => e = .returned (.bool true) ∧ Below w.heap.size w w' := by
  have HT := Lib.hid (Tab.of ht)
  clear ht
  have HS := Lib.hid (fun t => box_made w n s t)
  by_cases hz : (1048576 : Int) - s.size < 0
  · have z1 := left_neg (left := 1048576) hz
    go_enter Tryd.func5, Tryd.ntmps5
    go_wp2_with fail
    refine (sz_sg n s _ (by omega) (by omega) hs _).mono ?_
    rintro e w1 ⟨rfl, hb1⟩
    have B1 := ((HS.out _).on hb1).2.2
    go_wp2
    go_ret
    exact ⟨rfl, B1⟩
  · have z1 := left_pos (left := 1048576) (s := s) (by omega)
    have HA := Lib.hid (fun W => specPlaneTrees n hn s hs W)
    have HI := Lib.hid (fun W hW => implTrees n hn s hs W hW)
    have hyl := (show (zl (treeZ n s.data.toList)).length ≤ 32768 by rw [zl_length]; exact set_len _ _ _ _ _ _)
    generalize zl (treeZ n s.data.toList) = ys at HA HI hyl
    have hself2 : (((1 + ys.length : Nat) : Int) != ((1 + ys.length : Nat) : Int)) = false := by simp
    go_enter Tryd.func5, Tryd.ntmps5
    go_wp2_with fail
    refine (sz_sg n s _ (by omega) (by omega) hs _).mono ?_
    rintro e w1 ⟨rfl, hb1⟩
    have X1 := Lib.hid ((HS.out _).on hb1)
    obtain ⟨c1, c2, B1⟩ := X1.out
    go_wp2_with fail
    refine (to_sg n s _).mono ?_
    rintro e w2 ⟨rfl, hb2⟩
    have X2 := Lib.hid (X1.out.on hb2)
    clear c1 c2
    obtain ⟨c1, c2, B2⟩ := X2.out
    go_wp2_with fail
    refine (HA.out _).mono ?_
    rintro e w3 ⟨⟨a3, c3, rfl, hn3⟩, hb3⟩
    have X3 := Lib.hid (X2.out.on hb3)
    have S3 := Lib.hid hn3
    clear c1 c2 hn3
    obtain ⟨c1, c2, B3⟩ := X3.out
    go_wp2_with fail
    refine (to_sg n s _).mono ?_
    rintro e w4 ⟨rfl, hb4⟩
    have X4 := Lib.hid (X3.out.on hb4)
    have S4 := Lib.hid (S3.out.on hb4)
    clear c1 c2
    obtain ⟨c1, c2, B4⟩ := X4.out
    go_wp2_with fail
    refine (HI.out _ (HT.out.on X4.out.2.2)).mono ?_
    rintro e w5 ⟨⟨a5, c5, rfl, hn5⟩, hb5⟩
    have X5 := Lib.hid (X4.out.on hb5)
    have S5 := Lib.hid (S4.out.on hb5)
    have G5 := Lib.hid hn5
    have B5 := X5.out.2.2
    clear c1 c2 hn5
    go_wp2_with fail
    refine (NewI.eq_new _ _ _ _ _ _ _ _ ys (by omega) _ G5.out S5.out).mono ?_
    rintro e w6 ⟨rfl, hb6⟩
    have X6 := Lib.hid (X5.out.on hb6)
    have S6 := Lib.hid (S5.out.on hb6)
    have G6 := Lib.hid (G5.out.on hb6)
    have B6 := X6.out.2.2
    go_wp2_with fail
    refine (NewI.mark_new _ _ _ _ _ _ (zc_int ys) (by omega) _ G6.out).mono ?_
    rintro e w7 ⟨rfl, hn7, ho7⟩
    have hs34 := hb4.size
    have hs23 := hb3.size
    have hs12 := B2.size
    have S7 := Lib.hid (S6.out.far ho7 (.inl hs34))
    have G7 := Lib.hid hn7
    have hlt : w.heap.size < w2.heap.size := Kit.cell_lt X2.out.1
    have X7 : Hid (Box w n s w7) := Lib.hid (by
      have hbk := ho7.block w.heap.size (Kit.cell_lt X6.out.1) (by omega)
      exact ⟨by rw [World.cell?_of_block (a := ⟨w.heap.size, 0, none⟩) hbk]; exact X6.out.1, by rw [World.cell?_of_block (a := ⟨w.heap.size, 1, none⟩) hbk]; exact X6.out.2.1, B6.trans (ho7.below (by omega) B6.size)⟩)
    clear hn7 ho7
    go_wp2_with fail
    refine (NewI.held_new _ _ _ _ _ _ (by omega) _ G7.out).mono ?_
    rintro e w' ⟨rfl, rfl⟩
    obtain ⟨c1, c2, B7⟩ := X7.out
    go_wp2_with fail
    refine (to_sg n s _).mono ?_
    rintro e w8 ⟨rfl, hb8⟩
    have X8 := Lib.hid (X7.out.on hb8)
    have S8 := Lib.hid (S7.out.on hb8)
    have G8 := Lib.hid (G7.out.on hb8)
    clear c1 c2
    go_wp2_with fail
    refine (HI.out _ (HT.out.on X8.out.2.2)).mono ?_
    rintro e w9 ⟨⟨a9, c9, rfl, hn9⟩, hb9⟩
    have B9 := X8.out.2.2.trans (hb9.mono X8.out.2.2.size)
    have S9 := Lib.hid (S8.out.on hb9)
    have G9 := Lib.hid (G8.out.on hb9)
    have H9 := Lib.hid hn9
    clear hn9
    go_wp2_with fail
    refine (NewI.eq_new _ _ _ _ _ _ _ _ ys (by omega) _ H9.out S9.out).mono ?_
    rintro e w10 ⟨rfl, hb10⟩
    have B10 := B9.trans (hb10.mono B9.size)
    have G10 := Lib.hid (G9.out.on hb10)
    go_wp2_with fail
    refine (NewI.held_new _ _ _ _ _ _ (by omega) _ G10.out).mono ?_
    rintro e w' ⟨rfl, rfl⟩
    go_wp2
    go_ret
    exact ⟨rfl, B10⟩
set_option maxHeartbeats 1600000 in
set_option maxRecDepth 100000 in
theorem walkPlanePaths (n : Int) (hn : -9223372036854775808 ≤ n ∧ n ≤ 9223372036854775807) (s : ByteArray) (hs : s.size ≤ 9223372036854775807) (w : World) (ht : Lib.TabIs Tryd.prog w "math/bits.deBruijn64tab" .u8 tab64) :
    Calls Tryd.prog 6 #[sg n s] w fun e w' => e = .returned (.bool true) ∧ Below w.heap.size w w' := by
  have HT := Lib.hid (Tab.of ht)
  clear ht
  have HS := Lib.hid (fun t => box_made w n s t)
  by_cases hz : (1048576 : Int) - s.size < 0
  · have z1 := left_neg (left := 1048576) hz
    go_enter Tryd.func6, Tryd.ntmps6
    go_wp2_with fail
    refine (sz_sg n s _ (by omega) (by omega) hs _).mono ?_
    rintro e w1 ⟨rfl, hb1⟩
    have B1 := ((HS.out _).on hb1).2.2
    go_wp2
    go_ret
    exact ⟨rfl, B1⟩
  · have z1 := left_pos (left := 1048576) (s := s) (by omega)
    have HA := Lib.hid (fun W => specPlanePaths n hn s hs W)
    have HI := Lib.hid (fun W hW => implPaths n hn s hs W hW)
    have hyl := (show (zl (pathZ n s.data.toList)).length ≤ 32768 by rw [zl_length]; exact set_len _ _ _ _ _ _)
    generalize zl (pathZ n s.data.toList) = ys at HA HI hyl
    have hself2 : (((1 + ys.length : Nat) : Int) != ((1 + ys.length : Nat) : Int)) = false := by simp
    go_enter Tryd.func6, Tryd.ntmps6
    go_wp2_with fail
    refine (sz_sg n s _ (by omega) (by omega) hs _).mono ?_
    rintro e w1 ⟨rfl, hb1⟩
    have X1 := Lib.hid ((HS.out _).on hb1)
    obtain ⟨c1, c2, B1⟩ := X1.out
    go_wp2_with fail
    refine (to_sg n s _).mono ?_
    rintro e w2 ⟨rfl, hb2⟩
    have X2 := Lib.hid (X1.out.on hb2)
    clear c1 c2
    obtain ⟨c1, c2, B2⟩ := X2.out
    go_wp2_with fail
    refine (HA.out _).mono ?_
    rintro e w3 ⟨⟨a3, c3, rfl, hn3⟩, hb3⟩
    have X3 := Lib.hid (X2.out.on hb3)
    have S3 := Lib.hid hn3
    clear c1 c2 hn3
    obtain ⟨c1, c2, B3⟩ := X3.out
    go_wp2_with fail
    refine (to_sg n s _).mono ?_
    rintro e w4 ⟨rfl, hb4⟩
    have X4 := Lib.hid (X3.out.on hb4)
    have S4 := Lib.hid (S3.out.on hb4)
    clear c1 c2
    obtain ⟨c1, c2, B4⟩ := X4.out
    go_wp2_with fail
    refine (HI.out _ (HT.out.on X4.out.2.2)).mono ?_
    rintro e w5 ⟨⟨a5, c5, rfl, hn5⟩, hb5⟩
    have X5 := Lib.hid (X4.out.on hb5)
    have S5 := Lib.hid (S4.out.on hb5)
    have G5 := Lib.hid hn5
    have B5 := X5.out.2.2
    clear c1 c2 hn5
    go_wp2_with fail
    refine (NewI.eq_new _ _ _ _ _ _ _ _ ys (by omega) _ G5.out S5.out).mono ?_
    rintro e w6 ⟨rfl, hb6⟩
    have X6 := Lib.hid (X5.out.on hb6)
    have S6 := Lib.hid (S5.out.on hb6)
    have G6 := Lib.hid (G5.out.on hb6)
    have B6 := X6.out.2.2
    go_wp2_with fail
    refine (NewI.mark_new _ _ _ _ _ _ (zc_int ys) (by omega) _ G6.out).mono ?_
    rintro e w7 ⟨rfl, hn7, ho7⟩
    have hs34 := hb4.size
    have hs23 := hb3.size
    have hs12 := B2.size
    have S7 := Lib.hid (S6.out.far ho7 (.inl hs34))
    have G7 := Lib.hid hn7
    have hlt : w.heap.size < w2.heap.size := Kit.cell_lt X2.out.1
    have X7 : Hid (Box w n s w7) := Lib.hid (by
      have hbk := ho7.block w.heap.size (Kit.cell_lt X6.out.1) (by omega)
      exact ⟨by rw [World.cell?_of_block (a := ⟨w.heap.size, 0, none⟩) hbk]; exact X6.out.1, by rw [World.cell?_of_block (a := ⟨w.heap.size, 1, none⟩) hbk]; exact X6.out.2.1, B6.trans (ho7.below (by omega) B6.size)⟩)
    clear hn7 ho7
    go_wp2_with fail
    refine (NewI.held_new _ _ _ _ _ _ (by omega) _ G7.out).mono ?_
    rintro e w' ⟨rfl, rfl⟩
    obtain ⟨c1, c2, B7⟩ := X7.out
    go_wp2_with fail
    refine (to_sg n s _).mono ?_
    rintro e w8 ⟨rfl, hb8⟩
    have X8 := Lib.hid (X7.out.on hb8)
    have S8 := Lib.hid (S7.out.on hb8)
    have G8 := Lib.hid (G7.out.on hb8)
    clear c1 c2
    go_wp2_with fail
    refine (HI.out _ (HT.out.on X8.out.2.2)).mono ?_
    rintro e w9 ⟨⟨a9, c9, rfl, hn9⟩, hb9⟩
    have B9 := X8.out.2.2.trans (hb9.mono X8.out.2.2.size)
    have S9 := Lib.hid (S8.out.on hb9)
    have G9 := Lib.hid (G8.out.on hb9)
    have H9 := Lib.hid hn9
    clear hn9
    go_wp2_with fail
    refine (NewI.eq_new _ _ _ _ _ _ _ _ ys (by omega) _ H9.out S9.out).mono ?_
    rintro e w10 ⟨rfl, hb10⟩
    have B10 := B9.trans (hb10.mono B9.size)
    have G10 := Lib.hid (G9.out.on hb10)
    go_wp2_with fail
    refine (NewI.held_new _ _ _ _ _ _ (by omega) _ G10.out).mono ?_
    rintro e w' ⟨rfl, rfl⟩
    go_wp2
    go_ret
    exact ⟨rfl, B10⟩
set_option maxHeartbeats 1600000 in
set_option maxRecDepth 100000 in
theorem walkPolygonsOf (n : Int) (hn : -9223372036854775808 ≤ n ∧ n ≤ 9223372036854775807) (s : ByteArray) (hs : s.size ≤ 9223372036854775807) (w : World) (ht : Lib.TabIs Tryd.prog w "math/bits.deBruijn64tab" .u8 tab64) :
    Calls Tryd.prog 7 #[sg n s] w fun e w' => e = .returned (.bool true) ∧ Below w.heap.size w w' := by
  have HT := Lib.hid (Tab.of ht)
  clear ht
  have HS := Lib.hid (fun t => box_made w n s t)
  by_cases hz : (1048576 : Int) - s.size < 0
  · have z1 := left_neg (left := 1048576) hz
    go_enter Tryd.func7, Tryd.ntmps7
    go_wp2_with fail
    refine (sz_sg n s _ (by omega) (by omega) hs _).mono ?_
    rintro e w1 ⟨rfl, hb1⟩
    have B1 := ((HS.out _).on hb1).2.2
    go_wp2
    go_ret
    exact ⟨rfl, B1⟩
  · have z1 := left_pos (left := 1048576) (s := s) (by omega)
    have HA := Lib.hid (fun W => specPolygonsOf n hn s hs W)
    have HI := Lib.hid (fun W hW => implRings n hn s hs W hW)
    have hyl := (show (zl (ringZ n s.data.toList)).length ≤ 32768 by rw [zl_length]; exact set_len _ _ _ _ _ _)
    generalize zl (ringZ n s.data.toList) = ys at HA HI hyl
    have hself2 : (((1 + ys.length : Nat) : Int) != ((1 + ys.length : Nat) : Int)) = false := by simp
    go_enter Tryd.func7, Tryd.ntmps7
    go_wp2_with fail
    refine (sz_sg n s _ (by omega) (by omega) hs _).mono ?_
    rintro e w1 ⟨rfl, hb1⟩
    have X1 := Lib.hid ((HS.out _).on hb1)
    obtain ⟨c1, c2, B1⟩ := X1.out
    go_wp2_with fail
    refine (to_sg n s _).mono ?_
    rintro e w2 ⟨rfl, hb2⟩
    have X2 := Lib.hid (X1.out.on hb2)
    clear c1 c2
    obtain ⟨c1, c2, B2⟩ := X2.out
    go_wp2_with fail
    refine (HA.out _).mono ?_
    rintro e w3 ⟨⟨a3, c3, rfl, hn3⟩, hb3⟩
    have X3 := Lib.hid (X2.out.on hb3)
    have S3 := Lib.hid hn3
    clear c1 c2 hn3
    obtain ⟨c1, c2, B3⟩ := X3.out
    go_wp2_with fail
    refine (to_sg n s _).mono ?_
    rintro e w4 ⟨rfl, hb4⟩
    have X4 := Lib.hid (X3.out.on hb4)
    have S4 := Lib.hid (S3.out.on hb4)
    clear c1 c2
    obtain ⟨c1, c2, B4⟩ := X4.out
    go_wp2_with fail
    refine (HI.out _ (HT.out.on X4.out.2.2)).mono ?_
    rintro e w5 ⟨⟨a5, c5, rfl, hn5⟩, hb5⟩
    have X5 := Lib.hid (X4.out.on hb5)
    have S5 := Lib.hid (S4.out.on hb5)
    have G5 := Lib.hid hn5
    have B5 := X5.out.2.2
    clear c1 c2 hn5
    go_wp2_with fail
    refine (NewI.eq_new _ _ _ _ _ _ _ _ ys (by omega) _ G5.out S5.out).mono ?_
    rintro e w6 ⟨rfl, hb6⟩
    have X6 := Lib.hid (X5.out.on hb6)
    have S6 := Lib.hid (S5.out.on hb6)
    have G6 := Lib.hid (G5.out.on hb6)
    have B6 := X6.out.2.2
    go_wp2_with fail
    refine (NewI.mark_new _ _ _ _ _ _ (zc_int ys) (by omega) _ G6.out).mono ?_
    rintro e w7 ⟨rfl, hn7, ho7⟩
    have hs34 := hb4.size
    have hs23 := hb3.size
    have hs12 := B2.size
    have S7 := Lib.hid (S6.out.far ho7 (.inl hs34))
    have G7 := Lib.hid hn7
    have hlt : w.heap.size < w2.heap.size := Kit.cell_lt X2.out.1
    have X7 : Hid (Box w n s w7) := Lib.hid (by
      have hbk := ho7.block w.heap.size (Kit.cell_lt X6.out.1) (by omega)
      exact ⟨by rw [World.cell?_of_block (a := ⟨w.heap.size, 0, none⟩) hbk]; exact X6.out.1, by rw [World.cell?_of_block (a := ⟨w.heap.size, 1, none⟩) hbk]; exact X6.out.2.1, B6.trans (ho7.below (by omega) B6.size)⟩)
    clear hn7 ho7
    go_wp2_with fail
    refine (NewI.held_new _ _ _ _ _ _ (by omega) _ G7.out).mono ?_
    rintro e w' ⟨rfl, rfl⟩
    obtain ⟨c1, c2, B7⟩ := X7.out
    go_wp2_with fail
    refine (to_sg n s _).mono ?_
    rintro e w8 ⟨rfl, hb8⟩
    have X8 := Lib.hid (X7.out.on hb8)
    have S8 := Lib.hid (S7.out.on hb8)
    have G8 := Lib.hid (G7.out.on hb8)
    clear c1 c2
    go_wp2_with fail
    refine (HI.out _ (HT.out.on X8.out.2.2)).mono ?_
    rintro e w9 ⟨⟨a9, c9, rfl, hn9⟩, hb9⟩
    have B9 := X8.out.2.2.trans (hb9.mono X8.out.2.2.size)
    have S9 := Lib.hid (S8.out.on hb9)
    have G9 := Lib.hid (G8.out.on hb9)
    have H9 := Lib.hid hn9
    clear hn9
    go_wp2_with fail
    refine (NewI.eq_new _ _ _ _ _ _ _ _ ys (by omega) _ H9.out S9.out).mono ?_
    rintro e w10 ⟨rfl, hb10⟩
    have B10 := B9.trans (hb10.mono B9.size)
    have G10 := Lib.hid (G9.out.on hb10)
    go_wp2_with fail
    refine (NewI.held_new _ _ _ _ _ _ (by omega) _ G10.out).mono ?_
    rintro e w' ⟨rfl, rfl⟩
    go_wp2
    go_ret
    exact ⟨rfl, B10⟩
set_option maxHeartbeats 1600000 in
set_option maxRecDepth 100000 in
theorem walkPlaneMatchings (n : Int) (hn : -9223372036854775808 ≤ n ∧ n ≤ 9223372036854775807) (s : ByteArray) (hs : s.size ≤ 9223372036854775807) (w : World) (ht : Lib.TabIs Tryd.prog w "math/bits.deBruijn64tab" .u8 tab64) :
    Calls Tryd.prog 8 #[sg n s] w fun e w' => e = .returned (.bool true) ∧ Below w.heap.size w w' := by
  have HT := Lib.hid (Tab.of ht)
  clear ht
  have HS := Lib.hid (fun t => box_made w n s t)
  by_cases hz : (1048576 : Int) - s.size < 0
  · have z1 := left_neg (left := 1048576) hz
    go_enter Tryd.func8, Tryd.ntmps8
    go_wp2_with fail
    refine (sz_sg n s _ (by omega) (by omega) hs _).mono ?_
    rintro e w1 ⟨rfl, hb1⟩
    have B1 := ((HS.out _).on hb1).2.2
    go_wp2
    go_ret
    exact ⟨rfl, B1⟩
  · have z1 := left_pos (left := 1048576) (s := s) (by omega)
    have HA := Lib.hid (fun W => specPlaneMatchings n hn s hs W)
    have HI := Lib.hid (fun W hW => implPairs n hn s hs W hW)
    have hyl := (show (zl (pairZ n s.data.toList)).length ≤ 32768 by rw [zl_length]; exact pairZ_lenE n s.data.toList)
    generalize zl (pairZ n s.data.toList) = ys at HA HI hyl
    have hself2 : (((1 + ys.length : Nat) : Int) != ((1 + ys.length : Nat) : Int)) = false := by simp
    go_enter Tryd.func8, Tryd.ntmps8
    go_wp2_with fail
    refine (sz_sg n s _ (by omega) (by omega) hs _).mono ?_
    rintro e w1 ⟨rfl, hb1⟩
    have X1 := Lib.hid ((HS.out _).on hb1)
    obtain ⟨c1, c2, B1⟩ := X1.out
    go_wp2_with fail
    refine (to_sg n s _).mono ?_
    rintro e w2 ⟨rfl, hb2⟩
    have X2 := Lib.hid (X1.out.on hb2)
    clear c1 c2
    obtain ⟨c1, c2, B2⟩ := X2.out
    go_wp2_with fail
    refine (HA.out _).mono ?_
    rintro e w3 ⟨⟨a3, c3, rfl, hn3⟩, hb3⟩
    have X3 := Lib.hid (X2.out.on hb3)
    have S3 := Lib.hid hn3
    clear c1 c2 hn3
    obtain ⟨c1, c2, B3⟩ := X3.out
    go_wp2_with fail
    refine (to_sg n s _).mono ?_
    rintro e w4 ⟨rfl, hb4⟩
    have X4 := Lib.hid (X3.out.on hb4)
    have S4 := Lib.hid (S3.out.on hb4)
    clear c1 c2
    obtain ⟨c1, c2, B4⟩ := X4.out
    go_wp2_with fail
    refine (HI.out _ (HT.out.on X4.out.2.2)).mono ?_
    rintro e w5 ⟨⟨a5, c5, rfl, hn5⟩, hb5⟩
    have X5 := Lib.hid (X4.out.on hb5)
    have S5 := Lib.hid (S4.out.on hb5)
    have G5 := Lib.hid hn5
    have B5 := X5.out.2.2
    clear c1 c2 hn5
    go_wp2_with fail
    refine (NewI.eq_new _ _ _ _ _ _ _ _ ys (by omega) _ G5.out S5.out).mono ?_
    rintro e w6 ⟨rfl, hb6⟩
    have X6 := Lib.hid (X5.out.on hb6)
    have S6 := Lib.hid (S5.out.on hb6)
    have G6 := Lib.hid (G5.out.on hb6)
    have B6 := X6.out.2.2
    go_wp2_with fail
    refine (NewI.mark_new _ _ _ _ _ _ (zc_int ys) (by omega) _ G6.out).mono ?_
    rintro e w7 ⟨rfl, hn7, ho7⟩
    have hs34 := hb4.size
    have hs23 := hb3.size
    have hs12 := B2.size
    have S7 := Lib.hid (S6.out.far ho7 (.inl hs34))
    have G7 := Lib.hid hn7
    have hlt : w.heap.size < w2.heap.size := Kit.cell_lt X2.out.1
    have X7 : Hid (Box w n s w7) := Lib.hid (by
      have hbk := ho7.block w.heap.size (Kit.cell_lt X6.out.1) (by omega)
      exact ⟨by rw [World.cell?_of_block (a := ⟨w.heap.size, 0, none⟩) hbk]; exact X6.out.1, by rw [World.cell?_of_block (a := ⟨w.heap.size, 1, none⟩) hbk]; exact X6.out.2.1, B6.trans (ho7.below (by omega) B6.size)⟩)
    clear hn7 ho7
    go_wp2_with fail
    refine (NewI.held_new _ _ _ _ _ _ (by omega) _ G7.out).mono ?_
    rintro e w' ⟨rfl, rfl⟩
    obtain ⟨c1, c2, B7⟩ := X7.out
    go_wp2_with fail
    refine (to_sg n s _).mono ?_
    rintro e w8 ⟨rfl, hb8⟩
    have X8 := Lib.hid (X7.out.on hb8)
    have S8 := Lib.hid (S7.out.on hb8)
    have G8 := Lib.hid (G7.out.on hb8)
    clear c1 c2
    go_wp2_with fail
    refine (HI.out _ (HT.out.on X8.out.2.2)).mono ?_
    rintro e w9 ⟨⟨a9, c9, rfl, hn9⟩, hb9⟩
    have B9 := X8.out.2.2.trans (hb9.mono X8.out.2.2.size)
    have S9 := Lib.hid (S8.out.on hb9)
    have G9 := Lib.hid (G8.out.on hb9)
    have H9 := Lib.hid hn9
    clear hn9
    go_wp2_with fail
    refine (NewI.eq_new _ _ _ _ _ _ _ _ ys (by omega) _ H9.out S9.out).mono ?_
    rintro e w10 ⟨rfl, hb10⟩
    have B10 := B9.trans (hb10.mono B9.size)
    have G10 := Lib.hid (G9.out.on hb10)
    go_wp2_with fail
    refine (NewI.held_new _ _ _ _ _ _ (by omega) _ G10.out).mono ?_
    rintro e w' ⟨rfl, rfl⟩
    go_wp2
    go_ret
    exact ⟨rfl, B10⟩
end Go.Proofs.YtinlnafkmoabbaaDoor.Sg
