/- impl.threesOf: the threes of n elements, in memory of the call's own. -/
import Derived.Test.YtfggiflngfihcaaGreatDoorMgP
import Derived.Test.YtfggiflngfihcaaGreatDoorKit
import Derived.Laws.AppendOwn
import Derived.Laws.OwnMore
import Derived.OwnWalk
import Derived.Deep.AppendLies
import Derived.Deep.OwnRows
import Derived.Deep.Onto
import Derived.ChangeAlike
import Derived.BigRegion
namespace Go.Proofs.YtfggiflngfihcaaGreatDoor.Sg
open Go.RowKit Pt
/-- The cells of a list of threes. -/
def c3 : List T3 → List Value
  | [] => []
  | t :: r => .int .i64 t.1 :: .int .i64 t.2.1 :: .int .i64 t.2.2 :: c3 r
theorem c3_append : ∀ xs ys : List T3, c3 (xs ++ ys) = c3 xs ++ c3 ys
  | [], ys => rfl
  | t :: r, ys => by simp [c3, c3_append r ys]
theorem c3_get : ∀ (xs : List T3) (j : Nat) (t : T3), xs[j]? = some t → (c3 xs)[j * 3]? = some (.int .i64 t.1) ∧ (c3 xs)[j * 3 + 1]? = some (.int .i64 t.2.1) ∧ (c3 xs)[j * 3 + 2]? = some (.int .i64 t.2.2)
  | [], j, t, h => by simp at h
  | x :: r, 0, t, h => by
    simp only [List.getElem?_cons_zero, Option.some.injEq] at h
    subst h
    exact ⟨rfl, rfl, rfl⟩
  | x :: r, j + 1, t, h => by
    have := c3_get r j t (by simpa using h)
    rw [show (j + 1) * 3 = j * 3 + 3 by omega]
    simpa [c3] using this
def Owns3 (w : World) (B : Nat) (v : Value) (xs : List T3) : Prop := w.ownsRow B 75 3 v xs.length (c3 xs)
theorem owns3_snoc {w : World} {B : Nat} {v : Value} {xs : List T3} {i j k : Nat} (h : w.ownsRow B 75 3 v (xs.length + 1) (c3 xs ++ [.int .i64 i, .int .i64 j, .int .i64 k])) : Owns3 w B v (xs ++ [(i, j, k)]) := by
  unfold Owns3
  rw [c3_append, List.length_append]
  exact h
set_option maxRecDepth 100000 in
theorem info3 : (Tryz.prog.info? 75).map (fun i => (i.zero, i.size, i.bytes)) = some (some (.agg #[.int .i64 0, .int .i64 0, .int .i64 0]), 3, 24) := by kernel_rfl
theorem run_make_threes (n : Nat) (hn : n ≤ 2000000) (w : World) :
    (Instr.makeSlice 72 (.int .i64 0) (.int .i64 (n : Int))).run Tryz.prog w = .ok (.slice (some ⟨w.heap.size, 0, none⟩) 0 n) (w.alloc (.cells (madeCells #[.int .i64 0, .int .i64 0, .int .i64 0] (n * 3)) 75)) := by
  obtain ⟨i, hi, hzz⟩ := Option.map_eq_some_iff.1 info3
  simp only [Prod.mk.injEq] at hzz
  obtain ⟨hz, hs, hb⟩ := hzz
  have hr := run_make (P := Tryz.prog) w 72 75 i _ Tryz.underlying72 hi hz .i64 .i64 0 n (by omega) (by omega) (by rw [hb]; omega) (by omega)
  rw [hs] at hr
  exact hr
theorem news3 (w : World) (x y z : Int) (t : TypeId) : ∀ (j : Nat) u, [Value.int .i64 x, Value.int .i64 y, Value.int .i64 z][j]? = some u → (w.alloc (.cells #[.int .i64 x, .int .i64 y, .int .i64 z] t)).cell? (Addr.add ⟨w.heap.size, 0, none⟩ j) = some u
  | 0, u, h => by
    rw [WideShapes.add_plain, Nat.add_zero, World.cell?_alloc_new]
    simpa using h
  | 1, u, h => by
    rw [WideShapes.add_plain, World.cell?_alloc_new]
    simpa using h
  | 2, u, h => by
    rw [WideShapes.add_plain, World.cell?_alloc_new]
    simpa using h
  | j + 3, u, h => by simp at h
theorem one3 (x y z : Int) : ∀ u ∈ [Value.int .i64 x, Value.int .i64 y, Value.int .i64 z], u.oneCell' = true := fun u hu => by
  simp only [List.mem_cons, List.not_mem_nil, or_false] at hu
  rcases hu with rfl | rfl | rfl <;> rfl
set_option maxHeartbeats 1600000 in
set_option maxRecDepth 100000 in
theorem threesOf_any (n : Nat) (h3 : 3 ≤ n) (h7 : n ≤ 7) (w : World) :
    Calls Tryz.prog 57 #[.int .i64 n] w fun e w' => ∃ v, e = .returned v ∧ Owns3 w' w.heap.size v (threes n) ∧ Below w.heap.size w w' := by
  obtain ⟨hq, ⟨q1, q2⟩, q3, q4⟩ := cnt_eq h3 h7
  have hc35 := cnt_le h7
  have hmk := run_make_threes (cnt n) (by omega)
  have hmk2 := hmk
  rw [← hq] at hmk2
  obtain ⟨i0, hi, hz0, hz1, hz2⟩ := info_parts info3
  have HO := Lib.hid (World.ownsRow_made (base := w.heap.size) (e := 75) (size := 3) w (madeCells #[.int .i64 0, .int .i64 0, .int .i64 0] (cnt n * 3)) (cnt n) (Nat.le_refl _) (by simp only [maxLen]; omega) (by rw [size_madeCells]))
  have HB0 := Lib.hid ((Below.refl w.heap.size w).alloc (Nat.le_refl _) (.cells (madeCells #[.int .i64 0, .int .i64 0, .int .i64 0] (cnt n * 3)) 75))
  have HL : Hid (∀ i j k, (upto n i j k).length ≤ 35) := Lib.hid (fun i j k => Nat.le_trans (upto_length n i j k) (by rw [threes_length h7]; exact hc35))
  go_enter Tryz.func57, Tryz.ntmps57
  go_wp2
  clear hq q1 q2 q3 q4 hmk hmk2
  go_loopw [3, 17] (fun vv c wr => ∃ (i : Nat) (ys : List T3), i ≤ n ∧ c = .int .i64 i ∧ Hid (ys = upto n i (i + 1) (i + 2)) ∧ Hid (Owns3 wr w.heap.size vv ys) ∧ Below w.heap.size w wr) (fun _ c _ => n - (intOf c).toNat)
  case atStart => exact ⟨0, [], Nat.zero_le _, rfl, Lib.hid (upto_zero n (by omega)).symm, HO, HB0.out⟩
  case round =>
    obtain ⟨i, ys, hin, rfl, HY, HV, hb⟩ := hrel
    by_cases hlt : i < n
    · go_wp2
      go_loopw [3, 5] (fun vv c wr => ∃ (j : Nat) (ys : List T3), i < j ∧ j ≤ n ∧ c = .int .i64 j ∧ Hid (ys = upto n i j (j + 1)) ∧ Hid (Owns3 wr w.heap.size vv ys) ∧ Below w.heap.size w wr) (fun _ c _ => n - (intOf c).toNat)
      case atStart => exact ⟨i + 1, ys, by omega, by omega, by go_num, HY, HV, hb⟩
      case round =>
        obtain ⟨j, ys, hij, hjn, rfl, HY, HV, hb⟩ := hrel
        by_cases hltj : j < n
        · go_wp2
          go_loopw [3, 6] (fun vv c wr => ∃ (k : Nat) (ys : List T3), j < k ∧ k ≤ n ∧ c = .int .i64 k ∧ Hid (ys = upto n i j k) ∧ Hid (Owns3 wr w.heap.size vv ys) ∧ Below w.heap.size w wr) (fun _ c _ => n - (intOf c).toNat)
          case atStart => exact ⟨j + 1, ys, by omega, by omega, by go_num, HY, HV, hb⟩
          case round =>
            obtain ⟨k, ys, hjk, hkn, rfl, HY, HV, hb⟩ := hrel
            by_cases hltk : k < n
            · have HS : Hid (ys ++ [(i, j, k)] = upto n i j (k + 1)) := Lib.hid (by rw [HY.out, upto_step h7 hij hjk hltk])
              have hyl : ys.length ≤ 35 := by rw [HY.out]; exact HL.out i j k
              go_wp2_with (at_builtin; refine wpList_append_own _ rfl (.tmp 34) (.tmp 39) 72 rfl w.heap.size 75 i0 _ 3 24 Tryz.underlying72 hi hz0 hz1 hz2 rfl (by decide) _ _ _ rfl (World.ownsRow.alloc HV.out _) ⟨wr.heap.size, 0, none⟩ 1 1 [.int .i64 i, .int .i64 j, .int .i64 k] rfl rfl ?_ ?_ ?_ ?_ ?_ ?_)
              · exact news3 _ _ _ _ _
              · exact one3 _ _ _
              · simp only [maxLen]; omega
              · omega
              · have := hb.size; simp; omega
              intro v1 w1 hown1 hg1 _
              have hb1 := ((hb.alloc hb.size (.cells #[.int .i64 i, .int .i64 j, .int .i64 k] 75)).grown hg1 (by have := hb.size; simp; omega) (fun q hq => (World.ownsRow.lt HV.out q hq).1))
              have HV1 := Lib.hid (owns3_snoc hown1)
              clear hown1
              go_wp2
              exact ⟨⟨k + 1, _, by omega, by omega, by go_num, HS, HV1, hb1⟩, by simp only [intOf]; omega⟩
            · have HS : Hid (ys = upto n i (j + 1) (j + 1 + 1)) := Lib.hid (by rw [HY.out, show k = n by omega, upto_inner h7 hij hltj])
              go_wp2
              exact ⟨⟨j + 1, ys, by omega, by omega, by go_num, HS, HV, hb⟩, by simp only [intOf]; omega⟩
        · have HS : Hid (ys = upto n (i + 1) (i + 1 + 1) (i + 1 + 2)) := Lib.hid (by rw [HY.out, show j = n by omega, upto_mid h7 hlt])
          go_wp2
          exact ⟨⟨i + 1, ys, by omega, by go_num, HS, HV, hb⟩, by simp only [intOf]; omega⟩
    · have HS : Hid (ys = threes n) := Lib.hid (by rw [HY.out, show i = n by omega, upto_end h7])
      go_wp2
      go_ret
      exact ⟨_, rfl, by rw [← HS.out]; exact HV.out, hb⟩
end Go.Proofs.YtfggiflngfihcaaGreatDoor.Sg
