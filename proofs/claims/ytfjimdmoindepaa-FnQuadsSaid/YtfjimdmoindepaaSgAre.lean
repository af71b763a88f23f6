/- AreSigns, as spec asks it. -/
import Derived.Test.YtfjimdmoindepaaSg
namespace Go.Proofs.Ytfjimdmoindepaa.Sg
open Go.RowKit Pt
def okTo (s : ByteArray) (k : Nat) : Prop := ∀ b ∈ s.data.toList.take k, b = 43 ∨ b = 45
theorem okTo_zero (s : ByteArray) : okTo s 0 := fun b hb => by simp at hb
theorem okTo_step {s : ByteArray} {k : Nat} (h : okTo s k) (hk : k < s.size) (hb : s[k] = 43 ∨ s[k] = 45) : okTo s (k + 1) := fun b hm => by
  have hl : k < s.data.toList.length := by simpa using hk
  rw [List.take_succ_eq_append_getElem hl, List.mem_append] at hm
  rcases hm with hm | hm
  · exact h b hm
  · simp only [List.mem_singleton] at hm
    subst hm
    exact hb
theorem okTo_all {s : ByteArray} (h : okTo s s.size) : ∀ b ∈ s.data.toList, b = 43 ∨ b = 45 := fun b hb => h b (by rw [List.take_of_length_le (by simp)]; exact hb)
theorem byte_mem {s : ByteArray} {k : Nat} (hk : k < s.size) : s[k] ∈ s.data.toList := by
  have : s[k] = s.data.toList[k]'(by simpa using hk) := rfl
  rw [this]
  exact List.getElem_mem _
theorem neI {a b : UInt8} (h : a ≠ b) : ((a.toNat : Int) != (b.toNat : Int)) = true := by
  have : (a.toNat : Int) ≠ (b.toNat : Int) := fun e => h (UInt8.toNat_inj.1 (by omega))
  simpa using this
theorem cnt_eq {n : Nat} (h3 : 3 ≤ n) (h7 : n ≤ 7) : (n : Int) * ((n : Int) - 1) * ((n : Int) - 2) / 6 = (cnt n : Nat) ∧ (0 ≤ (n : Int) * ((n : Int) - 1) ∧ (n : Int) * ((n : Int) - 1) ≤ 42) ∧ 0 ≤ (n : Int) * ((n : Int) - 1) * ((n : Int) - 2) ∧ (n : Int) * ((n : Int) - 1) * ((n : Int) - 2) ≤ 210 := by
  rcases (by omega : n = 3 ∨ n = 4 ∨ n = 5 ∨ n = 6 ∨ n = 7) with rfl | rfl | rfl | rfl | rfl <;> decide
set_option maxRecDepth 100000 in
theorem specAre_out (n : Int) (s : ByteArray) (h : inB n 3 7 = false) (w : World) :
    Calls Try.prog 63 #[sg n s] w fun e w' => e = .returned (.bool false) ∧ Below w.heap.size w w' := by
  go_enter Try.func63, Try.ntmps63
  go_wp2_with fail
  refine (l1In_any _ _ _ _).mono ?_
  rintro e w' ⟨rfl, rfl⟩
  go_wp2
  go_ret
  exact ⟨rfl, by go_grown⟩
set_option maxRecDepth 100000 in
theorem specAre_len (n : Nat) (s : ByteArray) (h3 : 3 ≤ n) (h7 : n ≤ 7) (_ : s.size ≤ 9223372036854775807) (hl : s.size ≠ cnt n) (w : World) :
    Calls Try.prog 63 #[sg n s] w fun e w' => e = .returned (.bool false) ∧ Below w.heap.size w w' := by
  obtain ⟨hq, ⟨q1, q2⟩, q3, q4⟩ := cnt_eq h3 h7
  have hB : inB n 3 7 = true := inB_yes (by omega) (by omega)
  have hne : ((s.size : Int) != (n : Int) * ((n : Int) - 1) * ((n : Int) - 2) / 6) = true := by rw [hq]; simp; omega
  go_enter Try.func63, Try.ntmps63
  go_wp2_with fail
  refine (l1In_any _ _ _ _).mono ?_
  rintro e w' ⟨rfl, rfl⟩
  go_wp2
  go_ret
  exact ⟨rfl, by go_grown⟩
set_option maxHeartbeats 400000 in
set_option maxRecDepth 100000 in
theorem specAre_good (n : Nat) (s : ByteArray) (h3 : 3 ≤ n) (h7 : n ≤ 7) (hl : s.size = cnt n) (w : World) :
    Calls Try.prog 63 #[sg n s] w fun e w' => e = .returned (.bool (arB n s.data.toList)) ∧ Below w.heap.size w w' := by
  obtain ⟨hq, ⟨q1, q2⟩, q3, q4⟩ := cnt_eq h3 h7
  have hB : inB n 3 7 = true := inB_yes (by omega) (by omega)
  have hne : ((s.size : Int) != (n : Int) * ((n : Int) - 1) * ((n : Int) - 2) / 6) = false := by rw [hq]; simp; omega
  have hs35 : s.size ≤ 35 := by rw [hl]; exact cnt_le h7
  have HY : Hid (okTo s s.size → arB n s.data.toList = true) := Lib.hid (fun h => arB_of (by omega) (by omega) (by simpa using hl) (okTo_all h))
  have HN : Hid (∀ k (hk : k < s.size), s[k] ≠ 43 → s[k] ≠ 45 → arB n s.data.toList = false) := Lib.hid (fun k hk h1 h2 => arB_no (.inr (.inr ⟨_, byte_mem hk, h1, h2⟩)))
  go_enter Try.func63, Try.ntmps63
  go_wp2_with fail
  refine (l1In_any _ _ _ _).mono ?_
  rintro e w' ⟨rfl, rfl⟩
  go_wp2
  clear hq q1 q2 q3 q4 hne hB hl
  go_loop [3] (fun i => ∃ k : Nat, k ≤ s.size ∧ i = .int .i64 k ∧ Hid (okTo s k)) (fun i => s.size - (intOf i).toNat)
  case atStart => exact ⟨0, Nat.zero_le _, rfl, Lib.hid (okTo_zero s)⟩
  case round =>
    obtain ⟨k, hk, rfl, HK⟩ := hrel
    by_cases hlt : k < s.size
    · by_cases c1 : s[k] = 43
      · have HS := Lib.hid (okTo_step HK.out hlt (.inl c1))
        have ht : ((s[k].toNat : Int) != 43) = false := by rw [c1]; rfl
        clear c1
        go_wp2
        go_round
        case rel => exact ⟨k + 1, by omega, by go_num, HS⟩
        case measure => simp only [intOf]; omega
      · have ht : ((s[k].toNat : Int) != 43) = true := neI (b := 43) c1
        by_cases c2 : s[k] = 45
        · have HS := Lib.hid (okTo_step HK.out hlt (.inr c2))
          have ht2 : ((s[k].toNat : Int) != 45) = false := by rw [c2]; rfl
          clear c1 c2
          go_wp2
          go_round
          case rel => exact ⟨k + 1, by omega, by go_num, HS⟩
          case measure => simp only [intOf]; omega
        · have ht2 : ((s[k].toNat : Int) != 45) = true := neI (b := 45) c2
          have HE := Lib.hid (HN.out k hlt c1 c2)
          clear c1 c2
          go_wp2
          go_ret
          exact ⟨ret_bool HE.out.symm, by go_grown⟩
    · obtain rfl : k = s.size := by omega
      have HE := Lib.hid (HY.out HK.out)
      go_wp2
      go_ret
      exact ⟨ret_bool HE.out.symm, by go_grown⟩
theorem specAre_sg (n : Int) (s : ByteArray) (hs : s.size ≤ 9223372036854775807) (w : World) :
    Calls Try.prog 63 #[sg n s] w fun e w' => e = .returned (.bool (arB n s.data.toList)) ∧ Below w.heap.size w w' := by
  by_cases h : 3 ≤ n ∧ n ≤ 7
  · obtain ⟨m, rfl⟩ : ∃ m : Nat, n = m := ⟨n.toNat, by omega⟩
    by_cases hl : s.size = cnt m
    · exact specAre_good m s (by omega) (by omega) hl w
    · rw [arB_no (.inr (.inl (by simpa using hl)))]
      exact specAre_len m s (by omega) (by omega) hs hl w
  · rw [arB_no (.inl h)]
    exact specAre_out n s (by unfold inB; simp; omega) w
end Go.Proofs.Ytfjimdmoindepaa.Sg
