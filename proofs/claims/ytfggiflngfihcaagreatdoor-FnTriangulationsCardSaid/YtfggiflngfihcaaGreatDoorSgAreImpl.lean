/- impl.AreSigns, and the law: both answer alike. -/
import Derived.Test.YtfggiflngfihcaaGreatDoorSgThrees
import Derived.Test.YtfggiflngfihcaaGreatDoorShelf
import Derived.Deep.RegionHeld3
import Derived.Deep.RegionWith
namespace Go.Proofs.YtfggiflngfihcaaGreatDoor.Sg
open Go.RowKit Pt
theorem drewN_below {B : Nat} {a w : World} (h : Below B a w) (n : Nat) : Below B a (w.drewN n) := ⟨h.os, h.tape, h.output, h.size, h.block⟩
/-- Signs in a block of the call's own. -/
def Box (w0 : World) (n : Int) (s : ByteArray) (W : World) : Prop := W.cell? ⟨w0.heap.size, 0, none⟩ = some (.int .i64 n) ∧ W.cell? ⟨w0.heap.size, 1, none⟩ = some (.string s) ∧ Below w0.heap.size w0 W
theorem box_made (w : World) (n : Int) (s : ByteArray) (t : TypeId) : Box w n s (w.alloc (.cells #[.int .i64 n, .string s] t)) := by
  refine ⟨?_, ?_, (Below.refl _ _).alloc (Nat.le_refl _) _⟩
  all_goals go_simp
theorem Box.drew {w0 : World} {n : Int} {s : ByteArray} {w : World} (h : Box w0 n s w) : Box w0 n s w.drew := ⟨h.1, h.2.1, h.2.2.drew⟩
theorem Box.alloc {w0 : World} {n : Int} {s : ByteArray} {w : World} (h : Box w0 n s w) (o : Obj) : Box w0 n s (w.alloc o) :=
  ⟨by rw [World.cell?_alloc_lt _ _ _ (Kit.cell_lt h.1)]; exact h.1, by rw [World.cell?_alloc_lt _ _ _ (Kit.cell_lt h.2.1)]; exact h.2.1, h.2.2.alloc h.2.2.size o⟩
theorem Box.on {w0 : World} {n : Int} {s : ByteArray} {w w' : World} (h : Box w0 n s w) (hb : Below w.heap.size w w') : Box w0 n s w' :=
  ⟨by rw [hb.cell (Kit.cell_lt h.1)]; exact h.1, by rw [hb.cell (Kit.cell_lt h.2.1)]; exact h.2.1, h.2.2.trans (hb.mono h.2.2.size)⟩
/-- threesOf hands back a slice of so many. -/
theorem threesOf_box (w0 : World) (n : Nat) (s : ByteArray) (h3 : 3 ≤ n) (h7 : n ≤ 7) (w : World) (h : Box w0 n s w) :
    Calls Tryz.prog 57 #[.int .i64 n] w fun e w' => ∃ a c, e = .returned (.slice a (cnt n) c) ∧ w'.cell? ⟨w0.heap.size, 0, none⟩ = some (.int .i64 n) ∧ w'.cell? ⟨w0.heap.size, 1, none⟩ = some (.string s) ∧ Below w0.heap.size w0 w' := by
  refine (threesOf_any n h3 h7 w).mono fun e w' ⟨v, he, hv, hb⟩ => ?_
  obtain ⟨h1, h2, h4⟩ := h.on hb
  have hl := threes_length h7
  obtain ⟨-, ⟨rfl, h0⟩ | ⟨g, cap, cur, rfl, -⟩⟩ := hv
  · exact ⟨none, 0, by rw [he, ← hl, h0], h1, h2, h4⟩
  · exact ⟨_, _, by rw [he, ← hl], h1, h2, h4⟩
set_option maxRecDepth 100000 in
theorem implAre_lo (n : Int) (s : ByteArray) (h : n < 3) (w : World) :
    Calls Tryz.prog 81 #[sg n s] w fun e w' => e = .returned (.bool false) ∧ Below w.heap.size w w' := by
  have hd : decide (n < 3) = true := by simpa using h
  go_enter Tryz.func81, Tryz.ntmps81
  go_wp2
  go_quiet (fail)
  go_wp2
  go_ret
  exact ⟨rfl, drewN_below ((Below.refl _ _).alloc (Nat.le_refl _) _) _⟩
set_option maxRecDepth 100000 in
theorem implAre_hi (n : Int) (s : ByteArray) (h : 7 < n) (w : World) :
    Calls Tryz.prog 81 #[sg n s] w fun e w' => e = .returned (.bool false) ∧ Below w.heap.size w w' := by
  have hd : decide (n < 3) = false := by simp; omega
  have hd2 : decide (7 < n) = true := by simpa using h
  go_enter Tryz.func81, Tryz.ntmps81
  go_wp2
  go_quiet (fail)
  go_wp2
  go_ret
  exact ⟨rfl, drewN_below ((Below.refl _ _).alloc (Nat.le_refl _) _) _⟩
theorem count_arB {n : Nat} {s : ByteArray} (h3 : 3 ≤ n) (h7 : n ≤ 7) (hl : s.size = cnt n) : ((Lib.countByte s.data.toList 43 : Int) + (Lib.countByte s.data.toList 45 : Int) == (s.size : Int)) = arB n s.data.toList := by
  obtain ⟨h1, h2⟩ := count_two s.data.toList
  have e1 : Lib.countByte s.data.toList 43 = s.data.toList.countP (· == 43) := rfl
  have e2 : Lib.countByte s.data.toList 45 = s.data.toList.countP (· == 45) := rfl
  have hlen : s.data.toList.length = s.size := by simp
  rw [e1, e2]
  by_cases hall : ∀ b ∈ s.data.toList, b = 43 ∨ b = 45
  · rw [arB_of (by omega) (by omega) (by simpa using hl) hall]
    have := h2.2 hall
    rw [hlen] at this
    rw [beq_iff_eq]; omega
  · rw [arB_no (.inr (.inr (by simpa using hall)))]
    have : ¬ (s.data.toList.countP (· == 43) + s.data.toList.countP (· == 45) = s.size) := fun e => hall (h2.1 (by rw [e, hlen]))
    rw [beq_eq_false_iff_ne]; omega
set_option maxHeartbeats 800000 in
set_option maxRecDepth 100000 in
theorem implAre_len (n : Nat) (s : ByteArray) (h3 : 3 ≤ n) (h7 : n ≤ 7) (_hs : s.size ≤ 9223372036854775807) (hl : s.size ≠ cnt n) (w : World) :
    Calls Tryz.prog 81 #[sg n s] w fun e w' => e = .returned (.bool false) ∧ Below w.heap.size w w' := by
  have hd : decide ((n : Int) < 3) = false := by simp; omega
  have hd2 : decide ((7 : Int) < n) = false := by simp; omega
  have hne : ((s.size : Int) != (cnt n : Nat)) = true := by simp; omega
  have HS := Lib.hid (fun t => box_made w n s t)
  go_enter Tryz.func81, Tryz.ntmps81
  go_wp2
  go_region_held3 (fun W => W.cell? ⟨w.heap.size, 0, none⟩ = some (.int .i64 n) ∧ W.cell? ⟨w.heap.size, 1, none⟩ = some (.string s) ∧ Below w.heap.size w W) (first | exact HS.out _ | exact (HS.out _).drew | exact ⟨by assumption, by assumption, by assumption⟩)
    (first | (go_at_call 57; refine (threesOf_box w n s h3 h7 _ ?_).mono ?_; (first | exact HS.out _ | exact (HS.out _).drew | exact ⟨by assumption, by assumption, by assumption⟩); rintro e w' ⟨a, c, rfl, c1, c2, c3⟩))
  all_goals go_wp2
  all_goals go_ret
  all_goals exact ⟨rfl, by assumption⟩
set_option maxHeartbeats 800000 in
set_option maxRecDepth 100000 in
theorem implAre_good (n : Nat) (s : ByteArray) (h3 : 3 ≤ n) (h7 : n ≤ 7) (hl : s.size = cnt n) (w : World) :
    Calls Tryz.prog 81 #[sg n s] w fun e w' => e = .returned (.bool (arB n s.data.toList)) ∧ Below w.heap.size w w' := by
  have hd : decide ((n : Int) < 3) = false := by simp; omega
  have hd2 : decide ((7 : Int) < n) = false := by simp; omega
  have hne : ((s.size : Int) != (cnt n : Nat)) = false := by simp; omega
  have he := count_arB h3 h7 hl
  have hcc := fun c W => Tryz.strings_Count_one s c W
  have hb1 : Lib.countByte s.data.toList 43 ≤ 35 := by
    have h1 := (count_two s.data.toList).1
    have e1 : Lib.countByte s.data.toList 43 = s.data.toList.countP (· == 43) := rfl
    have hlen : s.data.toList.length = s.size := by simp
    have := cnt_le h7
    omega
  have hb2 : Lib.countByte s.data.toList 45 ≤ 35 := by
    have h1 := (count_two s.data.toList).1
    have e1 : Lib.countByte s.data.toList 45 = s.data.toList.countP (· == 45) := rfl
    have hlen : s.data.toList.length = s.size := by simp
    have := cnt_le h7
    omega
  generalize Lib.countByte s.data.toList = cb at he hcc hb1 hb2
  have HE := Lib.hid he
  have HP := Lib.hid hcc
  clear he hcc hl
  have HS := Lib.hid (fun t => box_made w n s t)
  go_enter Tryz.func81, Tryz.ntmps81
  go_wp2
  go_region_held3 (fun W => W.cell? ⟨w.heap.size, 0, none⟩ = some (.int .i64 n) ∧ W.cell? ⟨w.heap.size, 1, none⟩ = some (.string s) ∧ Below w.heap.size w W) (first | exact HS.out _ | exact (HS.out _).drew | exact ⟨by assumption, by assumption, by assumption⟩)
    (first | (go_at_call 57; refine (threesOf_box w n s h3 h7 _ ?_).mono ?_; (first | exact HS.out _ | exact (HS.out _).drew | exact ⟨by assumption, by assumption, by assumption⟩); rintro e w' ⟨a, c, rfl, c1, c2, c3⟩))
  go_wp2
  go_region_held3 (fun W => W.cell? ⟨w.heap.size, 0, none⟩ = some (.int .i64 n) ∧ W.cell? ⟨w.heap.size, 1, none⟩ = some (.string s) ∧ Below w.heap.size w W) (first | exact ⟨by assumption, by assumption, by assumption⟩ | exact ⟨by assumption, by assumption, Below.drew (by assumption)⟩)
    (first | (go_at_call 107; refine (HP.out _ _).mono ?_; rintro e w' ⟨rfl, rfl⟩))
  go_wp2
  go_ret
  exact ⟨ret_bool (by rw [IntWalk.i64_in _ (by omega)]; exact HE.out), Below.drew (by assumption)⟩
theorem implAre_sg (n : Int) (s : ByteArray) (hs : s.size ≤ 9223372036854775807) (w : World) :
    Calls Tryz.prog 81 #[sg n s] w fun e w' => e = .returned (.bool (arB n s.data.toList)) ∧ Below w.heap.size w w' := by
  by_cases h : 3 ≤ n ∧ n ≤ 7
  · obtain ⟨m, rfl⟩ : ∃ m : Nat, n = m := ⟨n.toNat, by omega⟩
    by_cases hl : s.size = cnt m
    · exact implAre_good m s (by omega) (by omega) hl w
    · rw [arB_no (.inr (.inl (by simpa using hl)))]
      exact implAre_len m s (by omega) (by omega) hs hl w
  · rw [arB_no (.inl h)]
    by_cases h1 : n < 3
    · exact implAre_lo n s h1 w
    · exact implAre_hi n s (by omega) w
end Go.Proofs.YtfggiflngfihcaaGreatDoor.Sg
