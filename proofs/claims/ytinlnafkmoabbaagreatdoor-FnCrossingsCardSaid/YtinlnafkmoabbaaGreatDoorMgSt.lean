/- Several texts in one: SgThrees, SgAreImpl. -/
import Derived.Test.YtinlnafkmoabbaaGreatDoorMgP
import Derived.Test.YtinlnafkmoabbaaGreatDoorKit
import Derived.Laws.AppendOwn
import Derived.Laws.OwnMore
import Derived.OwnWalk
import Derived.Deep.AppendLies
import Derived.Deep.OwnRows
import Derived.Deep.Onto
import Derived.ChangeAlike
import Derived.BigRegion
import Derived.Test.YtinlnafkmoabbaaGreatDoorShelf
import Derived.Deep.RegionHeld3
import Derived.Deep.RegionWith
/- impl.threesOf: the threes of n elements, in memory of the call's own. -/
namespace Go.Proofs.YtinlnafkmoabbaaGreatDoor.Sg
open Go.RowKit Pt
/-- The cells of a list of threes. -/
def c3 : List T3 → List Value
  | [] => []
  | t :: r => .int .i64 t.1 :: .int .i64 t.2.1 :: .int .i64 t.2.2 :: c3 r
theorem c3_append : ∀ xs ys : List T3, c3 (xs ++ ys) = c3 xs ++ c3 ys
  | [], ys => rfl
  | t :: r, ys => by simp [c3, c3_append r ys]
theorem c3_get : ∀ (xs : List T3) (j : Nat) (t : T3), xs[j]? = some t → (c3 xs)[j * 3]? = some (.int .i64 t.1) ∧ (c3 xs)[j * 3 + 1]? = some (.int .i64 t.2.1) ∧ (c3 xs)[j * 3 + 2]? = some (.int .i64 t.2.2)
  | [], j, t, h => by simp at h
  | x :: r, 0, t, h => by
    simp only [List.getElem?_cons_zero, Option.some.injEq] at h
    subst h
    exact ⟨rfl, rfl, rfl⟩
  | x :: r, j + 1, t, h => by
    have := c3_get r j t (by simpa using h)
    rw [show (j + 1) * 3 = j * 3 + 3 by omega]
    simpa [c3] using this
def Owns3 (w : World) (B : Nat) (v : Value) (xs : List T3) : Prop := w.ownsRow B 99 3 v xs.length (c3 xs)
theorem owns3_snoc {w : World} {B : Nat} {v : Value} {xs : List T3} {i j k : Nat} (h : w.ownsRow B 99 3 v (xs.length + 1) (c3 xs ++ [.int .i64 i, .int .i64 j, .int .i64 k])) : Owns3 w B v (xs ++ [(i, j, k)]) := by
  unfold Owns3
  rw [c3_append, List.length_append]
  exact h
set_option maxRecDepth 100000 in
theorem info3 : (Tryz.prog.info? 99).map (fun i => (i.zero, i.size, i.bytes)) = some (some (.agg #[.int .i64 0, .int .i64 0, .int .i64 0]), 3, 24) := by kernel_rfl
theorem run_make_threes (n : Nat) (hn : n ≤ 2000000) (w : World) :
    (Instr.makeSlice 96 (.int .i64 0) (.int .i64 (n : Int))).run Tryz.prog w = .ok (.slice (some ⟨w.heap.size, 0, none⟩) 0 n) (w.alloc (.cells (madeCells #[.int .i64 0, .int .i64 0, .int .i64 0] (n * 3)) 99)) := by
  obtain ⟨i, hi, hzz⟩ := Option.map_eq_some_iff.1 info3
  simp only [Prod.mk.injEq] at hzz
  obtain ⟨hz, hs, hb⟩ := hzz
  have hr := run_make (P := Tryz.prog) w 96 99 i _ Tryz.underlying96 hi hz .i64 .i64 0 n (by omega) (by omega) (by rw [hb]; omega) (by omega)
  rw [hs] at hr
  exact hr
theorem news3 (w : World) (x y z : Int) (t : TypeId) : ∀ (j : Nat) u, [Value.int .i64 x, Value.int .i64 y, Value.int .i64 z][j]? = some u → (w.alloc (.cells #[.int .i64 x, .int .i64 y, .int .i64 z] t)).cell? (Addr.add ⟨w.heap.size, 0, none⟩ j) = some u
  | 0, u, h => by
    rw [WideShapes.add_plain, Nat.add_zero, World.cell?_alloc_new]
    simpa using h
  | 1, u, h => by
    rw [WideShapes.add_plain, World.cell?_alloc_new]
    simpa using h
  | 2, u, h => by
    rw [WideShapes.add_plain, World.cell?_alloc_new]
    simpa using h
  | j + 3, u, h => by simp at h
theorem one3 (x y z : Int) : ∀ u ∈ [Value.int .i64 x, Value.int .i64 y, Value.int .i64 z], u.oneCell' = true := fun u hu => by
  simp only [List.mem_cons, List.not_mem_nil, or_false] at hu
  rcases hu with rfl | rfl | rfl <;> rfl
set_option maxHeartbeats 1600000 in
set_option maxRecDepth 100000 in
theorem threesOf_any (n : Nat) (h3 : 3 ≤ n) (h7 : n ≤ 7) (w : World) :
    Calls Tryz.prog 124 #[.int .i64 n] w fun e w' => ∃ v, e = .returned v ∧ Owns3 w' w.heap.size v (threes n) ∧ Below w.heap.size w w' := by
  obtain ⟨hq, ⟨q1, q2⟩, q3, q4⟩ := cnt_eq h3 h7
  have hc35 := cnt_le h7
  have hmk := run_make_threes (cnt n) (by omega)
  have hmk2 := hmk
  rw [← hq] at hmk2
  obtain ⟨i0, hi, hz0, hz1, hz2⟩ := info_parts info3
  have HO := Lib.hid (World.ownsRow_made (base := w.heap.size) (e := 99) (size := 3) w (madeCells #[.int .i64 0, .int .i64 0, .int .i64 0] (cnt n * 3)) (cnt n) (Nat.le_refl _) (by simp only [maxLen]; omega) (by rw [size_madeCells]))
  have HB0 := Lib.hid ((Below.refl w.heap.size w).alloc (Nat.le_refl _) (.cells (madeCells #[.int .i64 0, .int .i64 0, .int .i64 0] (cnt n * 3)) 99))
  have HL : Hid (∀ i j k, (upto n i j k).length ≤ 35) := Lib.hid (fun i j k => Nat.le_trans (upto_length n i j k) (by rw [threes_length h7]; exact hc35))
  go_enter Tryz.func124, Tryz.ntmps124
  go_wp2
  clear hq q1 q2 q3 q4 hmk hmk2
  go_loopw [3, 17] (fun vv c wr => ∃ (i : Nat) (ys : List T3), i ≤ n ∧ c = .int .i64 i ∧ Hid (ys = upto n i (i + 1) (i + 2)) ∧ Hid (Owns3 wr w.heap.size vv ys) ∧ Below w.heap.size w wr) (fun _ c _ => n - (intOf c).toNat)
  case atStart => exact ⟨0, [], Nat.zero_le _, rfl, Lib.hid (upto_zero n (by omega)).symm, HO, HB0.out⟩
  case round =>
    obtain ⟨i, ys, hin, rfl, HY, HV, hb⟩ := hrel
    by_cases hlt : i < n
    · go_wp2
      go_loopw [3, 5] (fun vv c wr => ∃ (j : Nat) (ys : List T3), i < j ∧ j ≤ n ∧ c = .int .i64 j ∧ Hid (ys = upto n i j (j + 1)) ∧ Hid (Owns3 wr w.heap.size vv ys) ∧ Below w.heap.size w wr) (fun _ c _ => n - (intOf c).toNat)
      case atStart => exact ⟨i + 1, ys, by omega, by omega, by go_num, HY, HV, hb⟩
      case round =>
        obtain ⟨j, ys, hij, hjn, rfl, HY, HV, hb⟩ := hrel
        by_cases hltj : j < n
        · go_wp2
          go_loopw [3, 6] (fun vv c wr => ∃ (k : Nat) (ys : List T3), j < k ∧ k ≤ n ∧ c = .int .i64 k ∧ Hid (ys = upto n i j k) ∧ Hid (Owns3 wr w.heap.size vv ys) ∧ Below w.heap.size w wr) (fun _ c _ => n - (intOf c).toNat)
          case atStart => exact ⟨j + 1, ys, by omega, by omega, by go_num, HY, HV, hb⟩
          case round =>
            obtain ⟨k, ys, hjk, hkn, rfl, HY, HV, hb⟩ := hrel
            by_cases hltk : k < n
            · have HS : Hid (ys ++ [(i, j, k)] = upto n i j (k + 1)) := Lib.hid (by rw [HY.out, upto_step h7 hij hjk hltk])
              have hyl : ys.length ≤ 35 := by rw [HY.out]; exact HL.out i j k
              go_wp2_with (at_builtin; refine wpList_append_own _ rfl (.tmp 34) (.tmp 39) 96 rfl w.heap.size 99 i0 _ 3 24 Tryz.underlying96 hi hz0 hz1 hz2 rfl (by decide) _ _ _ rfl (World.ownsRow.alloc HV.out _) ⟨wr.heap.size, 0, none⟩ 1 1 [.int .i64 i, .int .i64 j, .int .i64 k] rfl rfl ?_ ?_ ?_ ?_ ?_ ?_)
              · exact news3 _ _ _ _ _
              · exact one3 _ _ _
              · simp only [maxLen]; omega
              · omega
              · have := hb.size; simp; omega
              intro v1 w1 hown1 hg1 _
              have hb1 := ((hb.alloc hb.size (.cells #[.int .i64 i, .int .i64 j, .int .i64 k] 99)).grown hg1 (by have := hb.size; simp; omega) (fun q hq => (World.ownsRow.lt HV.out q hq).1))
              have HV1 := Lib.hid (owns3_snoc hown1)
              clear hown1
              go_wp2
              exact ⟨⟨k + 1, _, by omega, by omega, by go_num, HS, HV1, hb1⟩, by simp only [intOf]; omega⟩
            · have HS : Hid (ys = upto n i (j + 1) (j + 1 + 1)) := Lib.hid (by rw [HY.out, show k = n by omega, upto_inner h7 hij hltj])
              go_wp2
              exact ⟨⟨j + 1, ys, by omega, by omega, by go_num, HS, HV, hb⟩, by simp only [intOf]; omega⟩
        · have HS : Hid (ys = upto n (i + 1) (i + 1 + 1) (i + 1 + 2)) := Lib.hid (by rw [HY.out, show j = n by omega, upto_mid h7 hlt])
          go_wp2
          exact ⟨⟨i + 1, ys, by omega, by go_num, HS, HV, hb⟩, by simp only [intOf]; omega⟩
    · have HS : Hid (ys = threes n) := Lib.hid (by rw [HY.out, show i = n by omega, upto_end h7])
      go_wp2
      go_ret
      exact ⟨_, rfl, by rw [← HS.out]; exact HV.out, hb⟩
end Go.Proofs.YtinlnafkmoabbaaGreatDoor.Sg
/- impl.AreSigns, and the law: both answer alike. -/
namespace Go.Proofs.YtinlnafkmoabbaaGreatDoor.Sg
open Go.RowKit Pt
theorem drewN_below {B : Nat} {a w : World} (h : Below B a w) (n : Nat) : Below B a (w.drewN n) := ⟨h.os, h.tape, h.output, h.size, h.block⟩
/-- Signs in a block of the call's own. -/
def Box (w0 : World) (n : Int) (s : ByteArray) (W : World) : Prop := W.cell? ⟨w0.heap.size, 0, none⟩ = some (.int .i64 n) ∧ W.cell? ⟨w0.heap.size, 1, none⟩ = some (.string s) ∧ Below w0.heap.size w0 W
theorem box_made (w : World) (n : Int) (s : ByteArray) (t : TypeId) : Box w n s (w.alloc (.cells #[.int .i64 n, .string s] t)) := by
  refine ⟨?_, ?_, (Below.refl _ _).alloc (Nat.le_refl _) _⟩
  all_goals go_simp
theorem Box.drew {w0 : World} {n : Int} {s : ByteArray} {w : World} (h : Box w0 n s w) : Box w0 n s w.drew := ⟨h.1, h.2.1, h.2.2.drew⟩
theorem Box.alloc {w0 : World} {n : Int} {s : ByteArray} {w : World} (h : Box w0 n s w) (o : Obj) : Box w0 n s (w.alloc o) :=
  ⟨by rw [World.cell?_alloc_lt _ _ _ (Kit.cell_lt h.1)]; exact h.1, by rw [World.cell?_alloc_lt _ _ _ (Kit.cell_lt h.2.1)]; exact h.2.1, h.2.2.alloc h.2.2.size o⟩
theorem Box.on {w0 : World} {n : Int} {s : ByteArray} {w w' : World} (h : Box w0 n s w) (hb : Below w.heap.size w w') : Box w0 n s w' :=
  ⟨by rw [hb.cell (Kit.cell_lt h.1)]; exact h.1, by rw [hb.cell (Kit.cell_lt h.2.1)]; exact h.2.1, h.2.2.trans (hb.mono h.2.2.size)⟩
/-- threesOf hands back a slice of so many. -/
theorem threesOf_box (w0 : World) (n : Nat) (s : ByteArray) (h3 : 3 ≤ n) (h7 : n ≤ 7) (w : World) (h : Box w0 n s w) :
    Calls Tryz.prog 124 #[.int .i64 n] w fun e w' => ∃ a c, e = .returned (.slice a (cnt n) c) ∧ w'.cell? ⟨w0.heap.size, 0, none⟩ = some (.int .i64 n) ∧ w'.cell? ⟨w0.heap.size, 1, none⟩ = some (.string s) ∧ Below w0.heap.size w0 w' := by
  refine (threesOf_any n h3 h7 w).mono fun e w' ⟨v, he, hv, hb⟩ => ?_
  obtain ⟨h1, h2, h4⟩ := h.on hb
  have hl := threes_length h7
  obtain ⟨-, ⟨rfl, h0⟩ | ⟨g, cap, cur, rfl, -⟩⟩ := hv
  · exact ⟨none, 0, by rw [he, ← hl, h0], h1, h2, h4⟩
  · exact ⟨_, _, by rw [he, ← hl], h1, h2, h4⟩
set_option maxRecDepth 100000 in
theorem implAre_lo (n : Int) (s : ByteArray) (h : n < 3) (w : World) :
    Calls Tryz.prog 155 #[sg n s] w fun e w' => e = .returned (.bool false) ∧ Below w.heap.size w w' := by
  have hd : decide (n < 3) = true := by simpa using h
  go_enter Tryz.func155, Tryz.ntmps155
  go_wp2
  go_quiet (fail)
  go_wp2
  go_ret
  exact ⟨rfl, drewN_below ((Below.refl _ _).alloc (Nat.le_refl _) _) _⟩
set_option maxRecDepth 100000 in
theorem implAre_hi (n : Int) (s : ByteArray) (h : 7 < n) (w : World) :
    Calls Tryz.prog 155 #[sg n s] w fun e w' => e = .returned (.bool false) ∧ Below w.heap.size w w' := by
  have hd : decide (n < 3) = false := by simp; omega
  have hd2 : decide (7 < n) = true := by simpa using h
  go_enter Tryz.func155, Tryz.ntmps155
  go_wp2
  go_quiet (fail)
  go_wp2
  go_ret
  exact ⟨rfl, drewN_below ((Below.refl _ _).alloc (Nat.le_refl _) _) _⟩
theorem count_arB {n : Nat} {s : ByteArray} (h3 : 3 ≤ n) (h7 : n ≤ 7) (hl : s.size = cnt n) : ((Lib.countByte s.data.toList 43 : Int) + (Lib.countByte s.data.toList 45 : Int) == (s.size : Int)) = arB n s.data.toList := by
  obtain ⟨h1, h2⟩ := count_two s.data.toList
  have e1 : Lib.countByte s.data.toList 43 = s.data.toList.countP (· == 43) := rfl
  have e2 : Lib.countByte s.data.toList 45 = s.data.toList.countP (· == 45) := rfl
  have hlen : s.data.toList.length = s.size := by simp
  rw [e1, e2]
  by_cases hall : ∀ b ∈ s.data.toList, b = 43 ∨ b = 45
  · rw [arB_of (by omega) (by omega) (by simpa using hl) hall]
    have := h2.2 hall
    rw [hlen] at this
    rw [beq_iff_eq]; omega
  · rw [arB_no (.inr (.inr (by simpa using hall)))]
    have : ¬ (s.data.toList.countP (· == 43) + s.data.toList.countP (· == 45) = s.size) := fun e => hall (h2.1 (by rw [e, hlen]))
    rw [beq_eq_false_iff_ne]; omega
set_option maxHeartbeats 800000 in
set_option maxRecDepth 100000 in
theorem implAre_len (n : Nat) (s : ByteArray) (h3 : 3 ≤ n) (h7 : n ≤ 7) (_hs : s.size ≤ 9223372036854775807) (hl : s.size ≠ cnt n) (w : World) :
    Calls Tryz.prog 155 #[sg n s] w fun e w' => e = .returned (.bool false) ∧ Below w.heap.size w w' := by
  have hd : decide ((n : Int) < 3) = false := by simp; omega
  have hd2 : decide ((7 : Int) < n) = false := by simp; omega
  have hne : ((s.size : Int) != (cnt n : Nat)) = true := by simp; omega
  have HS := Lib.hid (fun t => box_made w n s t)
  go_enter Tryz.func155, Tryz.ntmps155
  go_wp2
  go_region_held3 (fun W => W.cell? ⟨w.heap.size, 0, none⟩ = some (.int .i64 n) ∧ W.cell? ⟨w.heap.size, 1, none⟩ = some (.string s) ∧ Below w.heap.size w W) (first | exact HS.out _ | exact (HS.out _).drew | exact ⟨by assumption, by assumption, by assumption⟩)
    (first | (go_at_call 124; refine (threesOf_box w n s h3 h7 _ ?_).mono ?_; (first | exact HS.out _ | exact (HS.out _).drew | exact ⟨by assumption, by assumption, by assumption⟩); rintro e w' ⟨a, c, rfl, c1, c2, c3⟩))
  all_goals go_wp2
  all_goals go_ret
  all_goals exact ⟨rfl, by assumption⟩
set_option maxHeartbeats 800000 in
set_option maxRecDepth 100000 in
theorem implAre_good (n : Nat) (s : ByteArray) (h3 : 3 ≤ n) (h7 : n ≤ 7) (hl : s.size = cnt n) (w : World) :
    Calls Tryz.prog 155 #[sg n s] w fun e w' => e = .returned (.bool (arB n s.data.toList)) ∧ Below w.heap.size w w' := by
  have hd : decide ((n : Int) < 3) = false := by simp; omega
  have hd2 : decide ((7 : Int) < n) = false := by simp; omega
  have hne : ((s.size : Int) != (cnt n : Nat)) = false := by simp; omega
  have he := count_arB h3 h7 hl
  have hcc := fun c W => Tryz.strings_Count_one s c W
  have hb1 : Lib.countByte s.data.toList 43 ≤ 35 := by
    have h1 := (count_two s.data.toList).1
    have e1 : Lib.countByte s.data.toList 43 = s.data.toList.countP (· == 43) := rfl
    have hlen : s.data.toList.length = s.size := by simp
    have := cnt_le h7
    omega
  have hb2 : Lib.countByte s.data.toList 45 ≤ 35 := by
    have h1 := (count_two s.data.toList).1
    have e1 : Lib.countByte s.data.toList 45 = s.data.toList.countP (· == 45) := rfl
    have hlen : s.data.toList.length = s.size := by simp
    have := cnt_le h7
    omega
  generalize Lib.countByte s.data.toList = cb at he hcc hb1 hb2
  have HE := Lib.hid he
  have HP := Lib.hid hcc
  clear he hcc hl
  have HS := Lib.hid (fun t => box_made w n s t)
  go_enter Tryz.func155, Tryz.ntmps155
  go_wp2
  go_region_held3 (fun W => W.cell? ⟨w.heap.size, 0, none⟩ = some (.int .i64 n) ∧ W.cell? ⟨w.heap.size, 1, none⟩ = some (.string s) ∧ Below w.heap.size w W) (first | exact HS.out _ | exact (HS.out _).drew | exact ⟨by assumption, by assumption, by assumption⟩)
    (first | (go_at_call 124; refine (threesOf_box w n s h3 h7 _ ?_).mono ?_; (first | exact HS.out _ | exact (HS.out _).drew | exact ⟨by assumption, by assumption, by assumption⟩); rintro e w' ⟨a, c, rfl, c1, c2, c3⟩))
  go_wp2
  go_region_held3 (fun W => W.cell? ⟨w.heap.size, 0, none⟩ = some (.int .i64 n) ∧ W.cell? ⟨w.heap.size, 1, none⟩ = some (.string s) ∧ Below w.heap.size w W) (first | exact ⟨by assumption, by assumption, by assumption⟩ | exact ⟨by assumption, by assumption, Below.drew (by assumption)⟩)
    (first | (go_at_call 181; refine (HP.out _ _).mono ?_; rintro e w' ⟨rfl, rfl⟩))
  go_wp2
  go_ret
  exact ⟨ret_bool (by rw [IntWalk.i64_in _ (by omega)]; exact HE.out), Below.drew (by assumption)⟩
theorem implAre_sg (n : Int) (s : ByteArray) (hs : s.size ≤ 9223372036854775807) (w : World) :
    Calls Tryz.prog 155 #[sg n s] w fun e w' => e = .returned (.bool (arB n s.data.toList)) ∧ Below w.heap.size w w' := by
  by_cases h : 3 ≤ n ∧ n ≤ 7
  · obtain ⟨m, rfl⟩ : ∃ m : Nat, n = m := ⟨n.toNat, by omega⟩
    by_cases hl : s.size = cnt m
    · exact implAre_good m s (by omega) (by omega) hl w
    · rw [arB_no (.inr (.inl (by simpa using hl)))]
      exact implAre_len m s (by omega) (by omega) hs hl w
  · rw [arB_no (.inl h)]
    by_cases h1 : n < 3
    · exact implAre_lo n s h1 w
    · exact implAre_hi n s (by omega) w
end Go.Proofs.YtinlnafkmoabbaaGreatDoor.Sg
