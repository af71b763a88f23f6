/- WithoutElement, as spec answers it; the law. -/
import Derived.Test.YtohihlhkheeemaaSgWithout
namespace Go.Proofs.Ytohihlhkheeemaa.Sg
open Go.RowKit Pt
/-- spec.l3Others beside the call's own two blocks. -/
theorem others_at (w : World) (n i : Nat) (s : ByteArray) (hn : n ≤ 7) (hi : i < n) (hn2 : 2 ≤ n) (W : World) (hW : WAt w n s W) :
    Calls Try.prog 51 #[.int .i64 n, .int .i64 i] W fun e w' => ∃ b c, e = .returned (.slice (some ⟨b, 0, none⟩) (n - 1) c) ∧ (w'.cell? ⟨w.heap.size, 0, none⟩ = some (.int .i64 n) ∧ w'.cell? ⟨w.heap.size, 1, none⟩ = some (.string s)) ∧ Hid (WAt w n s w' ∧ IntsAt w' b (othersTo i n) ∧ b < w'.heap.size) :=
  (l3Others_any n i hn hi hn2 W).mono fun e w' ⟨b, c, he, hat, hb, hbl⟩ => ⟨b, c, he, ⟨(hW.on hbl).b0, (hW.on hbl).b1⟩, Lib.hid ⟨hW.on hbl, hat, hb⟩⟩
theorem pick_at (w : World) (n i : Nat) (s : ByteArray) (h : arB n s.data.toList = true) (hn3 : n ≠ 3) (hi : i < n) (b c : Nat) (W : World) (hW : Hid (WAt w n s W ∧ IntsAt W b (othersTo i n) ∧ b < W.heap.size)) :
    Calls Try.prog 47 #[sg n s, .slice (some ⟨b, 0, none⟩) (n - 1) c] W fun e w' => e = .returned (sg ((n - 1 : Nat) : Int) ⟨(text3 (n - 1) (pickF n s.data.toList (othersTo i n))).toArray⟩) ∧ (w'.cell? ⟨w.heap.size, 0, none⟩ = some (.int .i64 n) ∧ w'.cell? ⟨w.heap.size, 1, none⟩ = some (.string s)) ∧ (w'.cell? ⟨w.heap.size + 1, 0, none⟩ = some (.int .i64 0) ∧ w'.cell? ⟨w.heap.size + 1, 1, none⟩ = some (.string ⟨#[]⟩)) ∧ (w'.frozen? ⟨w.heap.size + 1, 0, none⟩ = false ∧ w'.frozen? ⟨w.heap.size + 1, 1, none⟩ = false) ∧ Below w.heap.size w w' := by
  obtain ⟨h3, h7, -⟩ := arB_yes h
  have h3 : 3 ≤ n := by omega
  have h7 : n ≤ 7 := by omega
  have hl := othersTo_length hi
  have := l3Pick_any n s (othersTo i n) b c h (by omega) (by omega) othersTo_lt (othersTo_nodup i n) W hW.out.2.1 hW.out.2.2
  rw [hl] at this
  refine this.mono fun e w' ⟨he, hb⟩ => ?_
  obtain ⟨x0, x1, r0, r1, z0, z1, B⟩ := hW.out.1.on hb
  exact ⟨he, ⟨x0, x1⟩, ⟨r0, r1⟩, ⟨z0, z1⟩, B⟩
set_option maxHeartbeats 3200000 in
set_option maxRecDepth 100000 in
theorem specWithout_good (n : Nat) (s : ByteArray) (i : Nat) (h : arB n s.data.toList = true) (hn3 : n ≠ 3) (hi : i < n) (w : World) :
    Calls Try.prog 27 #[sg n s, .int .i64 i] w fun e w' => e = .returned (withV n s i) ∧ Below w.heap.size w w' := by
  have HPK := Lib.hid (fun b c W hW => pick_at w n i s h hn3 hi b c W hW)
  obtain ⟨h3, h7, hl, -⟩ := arB_yes h
  have h3 : 3 ≤ n := by omega
  have h7 : n ≤ 7 := by omega
  have hs35 : s.size ≤ 35 := by have := cnt_le h7; have : s.size = cnt n := by simpa using hl
                                omega
  have HA := Lib.hid (fun W => specAre_sg n s (by omega) W)
  rw [h] at HA
  have HM := Lib.hid (wAt_made w n s 26)
  have HOT := Lib.hid (fun W hW => others_at w n i s h7 hi (by omega) W hW)
  have hnb : ((n : Int) == 3) = false := by simp; omega
  have e1 : inB i 0 ((n : Int) - 1) = true := inB_yes (by omega) (by omega)
  have n1 : w.heap.size + 1 ≠ w.heap.size := by omega
  generalize hT : (text3 (n - 1) (pickF n s.data.toList (othersTo i n))).toArray = T at HPK
  have HT := Lib.hid hT
  clear h hl hT
  go_enter Try.func27, Try.ntmps27
  go_wp2_with fail
  refine (HA.out _).mono ?_
  rintro e w1 ⟨rfl, hb1⟩
  have W1 := Lib.hid (HM.out.on hb1)
  obtain ⟨x0, x1, -, -, -, -, -⟩ := W1.out
  clear hb1
  go_wp2_with (go_at_call 29; refine (l1In_any _ _ _ _).mono ?_; rintro e w' ⟨rfl, rfl⟩)
  go_region_held3 (fun W => W.cell? ⟨w.heap.size, 0, none⟩ = some (.int .i64 n) ∧ W.cell? ⟨w.heap.size, 1, none⟩ = some (.string s))
    (first | exact ⟨x0, x1⟩ | (refine ⟨?_, ?_⟩ <;> first | assumption | (rw [World.cell?_setCell_far _ _ _ _ n1, World.cell?_setCell_far _ _ _ _ n1]; assumption)))
    (first
    | (go_at_call 51; refine (HOT.out _ W1.out.drew).mono ?_; rintro e w' ⟨b, c, rfl, ⟨y0, y1⟩, HAT⟩)
    | (go_at_call 47; refine (HPK.out _ _ _ HAT).mono ?_; rintro e w' ⟨rfl, ⟨y2, y3⟩, ⟨r0, r1⟩, ⟨z0, z1⟩, B⟩))
  all_goals obtain ⟨k0, k1⟩ := ret_sg r0 r1 (.int .i64 ((n - 1 : Nat) : Int)) (.string ⟨T⟩)
  all_goals go_wp2
  all_goals exact bodyPost_ret (v := .tuple #[.agg #[.int .i64 ((n - 1 : Nat) : Int), .string ⟨T⟩], .bool true]) (by simp [results, Try.results27, go_sem, k0, k1]) rfl ⟨ret_v (by unfold withV; rw [HT.out]), (B.setCell (by simp) _).setCell (by simp) _⟩
theorem without_both (n : Int) (s : ByteArray) (i : Int) (hs : s.size ≤ 9223372036854775807) : ∃ m t b,
    (∀ W, Calls Try.prog 27 #[sg n s, .int .i64 i] W fun e w' => e = .returned (.tuple #[sg m t, .bool b]) ∧ Below W.heap.size W w') ∧
    (∀ W, Calls Try.prog 28 #[sg n s, .int .i64 i] W fun e w' => e = .returned (.tuple #[sg m t, .bool b]) ∧ Below W.heap.size W w') := by
  by_cases hb : arB n s.data.toList = true ∧ n ≠ 3 ∧ 0 ≤ i ∧ i < n
  · obtain ⟨h, hn, hi0, hi⟩ := hb
    obtain ⟨h3, -⟩ := arB_yes h
    obtain ⟨m, rfl⟩ : ∃ m : Nat, n = m := ⟨n.toNat, by omega⟩
    obtain ⟨k, rfl⟩ : ∃ k : Nat, i = k := ⟨i.toNat, by omega⟩
    exact ⟨_, _, _, fun W => specWithout_good m s k h (by omega) (by omega) W, fun W => implWithout_good m s k h (by omega) (by omega) W⟩
  · exact ⟨_, _, _, fun W => specWithout_bad n s i hs hb W, fun W => implWithout_bad n s i hs hb W⟩
set_option maxHeartbeats 1600000 in
set_option maxRecDepth 100000 in
theorem walkWithoutElement (n : Int) (_ : -9223372036854775808 ≤ n ∧ n ≤ 9223372036854775807) (s : ByteArray) (hs : s.size ≤ 9223372036854775807) (i : Int) (_ : (Lit.int .i64 i).wf = true) (w : World) :
    Calls Try.prog 8 #[sg n s, .int .i64 i] w fun e w' => e = .returned (.bool true) ∧ Below w.heap.size w w' := by
  have HS := Lib.hid (fun t => box_made w n s t)
  by_cases hz : (1048576 : Int) - s.size < 0
  · have z1 := left_neg (left := 1048576) hz
    go_enter Try.func8, Try.ntmps8
    go_wp2_with fail
    refine (sz_sg n s _ (by omega) (by omega) hs _).mono ?_
    rintro e w1 ⟨rfl, hb1⟩
    have B1 := ((HS.out _).on hb1).2.2
    go_wp2
    go_ret
    exact ⟨rfl, B1⟩
  · have z1 := left_pos (left := 1048576) (s := s) (by omega)
    obtain ⟨m, t, b, h1, h2⟩ := without_both n s i hs
    have HA := Lib.hid h1
    have HI := Lib.hid h2
    have hself : (b != b) = false := by simp
    have HQ := Lib.hid (fun W => eq_sg m t W)
    clear h1 h2
    go_enter Try.func8, Try.ntmps8
    go_wp2_with fail
    refine (sz_sg n s _ (by omega) (by omega) hs _).mono ?_
    rintro e w1 ⟨rfl, hb1⟩
    obtain ⟨c1, c2, B1⟩ := (HS.out _).on hb1
    go_wp2_with fail
    refine (to_sg n s _).mono ?_
    rintro e w2 ⟨rfl, hb2⟩
    have X2 := Lib.hid (Box.on ⟨c1, c2, B1⟩ hb2)
    clear c1 c2
    go_wp2_with fail
    refine (HA.out _).mono ?_
    rintro e w3 ⟨rfl, hb3⟩
    have Y3 := Lib.hid (box_made w3 m t 26)
    obtain ⟨c1, c2, B3⟩ := (X2.out.on hb3).alloc (.cells #[.int .i64 m, .string t] 26)
    go_wp2_with fail
    refine (to_sg n s _).mono ?_
    rintro e w4 ⟨rfl, hb4⟩
    have B4 := B3.trans (hb4.mono B3.size)
    have Y4 := Lib.hid (Y3.out.on hb4)
    clear c1 c2
    go_wp2_with fail
    refine (HI.out _).mono ?_
    rintro e w5 ⟨rfl, hb5⟩
    have B5 := B4.trans (hb5.mono B4.size)
    obtain ⟨x0, x1, -⟩ := (Y4.out.on hb5).alloc (.cells #[.int .i64 m, .string t] 26)
    have B5' := B5.alloc B5.size (.cells #[.int .i64 m, .string t] 26)
    go_wp2_with fail
    refine (HQ.out _).mono ?_
    rintro e w6 ⟨rfl, hb6⟩
    have B6 := B5'.trans (hb6.mono B5'.size)
    go_wp2
    go_ret
    exact ⟨rfl, B6⟩
end Go.Proofs.Ytohihlhkheeemaa.Sg
