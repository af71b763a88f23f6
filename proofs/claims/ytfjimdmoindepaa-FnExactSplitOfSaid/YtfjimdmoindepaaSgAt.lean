/- SignAt, as impl and spec answer it. -/
import Derived.Test.YtfjimdmoindepaaSgMapOf
namespace Go.Proofs.Ytfjimdmoindepaa.Sg
open Go.RowKit Pt Go.Maps
theorem srt_facts (i j k : Int) : (srt i j k).1 ≤ (srt i j k).2.1 ∧ (srt i j k).2.1 ≤ (srt i j k).2.2.1 ∧ ((srt i j k).1 < (srt i j k).2.1 → (srt i j k).2.1 < (srt i j k).2.2.1 → i ≠ j ∧ j ≠ k ∧ i ≠ k) ∧ ((srt i j k).1 ≤ i ∧ (srt i j k).1 ≤ j ∧ (srt i j k).1 ≤ k) ∧ (i ≤ (srt i j k).2.2.1 ∧ j ≤ (srt i j k).2.2.1 ∧ k ≤ (srt i j k).2.2.1) := by
  unfold srt
  by_cases h1 : j < i
  · by_cases h2 : k < i
    · by_cases h3 : k < j
      · simp [h1, h2, h3]; omega
      · simp [h1, h2, h3]; omega
    · have h3 : ¬ i < j := by omega
      simp [h1, h2, h3]; omega
  · by_cases h2 : k < j
    · by_cases h3 : k < i
      · simp [h1, h2, h3]; omega
      · simp [h1, h2, h3]; omega
    · simp [h1, h2]; omega
theorem sgnF_bd {f : Int → Int → Int → Int} (h : ∀ x y z, -1 ≤ f x y z ∧ f x y z ≤ 1) (i j k : Int) : -1 ≤ sgnF f i j k ∧ sgnF f i j k ≤ 1 := by
  have hp : (srt i j k).2.2.2 = 1 ∨ (srt i j k).2.2.2 = -1 := by
    unfold srt
    by_cases h1 : j < i
    · by_cases h2 : k < i
      · by_cases h3 : k < j
        · simp [h1, h2, h3]
        · simp [h1, h2, h3]
      · have h3 : ¬ i < j := by omega
        simp [h1, h2, h3]
    · by_cases h2 : k < j
      · by_cases h3 : k < i
        · simp [h1, h2, h3]
        · simp [h1, h2, h3]
      · simp [h1, h2]
  have := h (srt i j k).1 (srt i j k).2.1 (srt i j k).2.2.1
  unfold sgnF
  rcases hp with hp | hp <;> rw [hp] <;> omega
theorem sgnF_zero {n : Nat} {s : List UInt8} {i j k : Int} (h : ¬ ((0 ≤ i ∧ i < n) ∧ (0 ≤ j ∧ j < n) ∧ (0 ≤ k ∧ k < n) ∧ i ≠ j ∧ j ≠ k ∧ i ≠ k)) : sgnF (look n s) i j k = 0 := by
  obtain ⟨h1, h2, h3, h4, h5⟩ := srt_facts i j k
  unfold sgnF look
  rw [if_neg (fun e => h (by have := h3 e.2.1 e.2.2.1; omega))]
  simp
theorem sgnF_none {n : Int} {s : List UInt8} (h : arB n s = false) (i j k : Int) : sgnF (lookS n s) i j k = 0 := by
  unfold sgnF
  rw [lookS_no h]
  simp
theorem sgnF_bad {n : Nat} {s : List UInt8} {i j k : Int} (h : arB n s = true) (hb : ¬ ((0 ≤ i ∧ i < n) ∧ (0 ≤ j ∧ j < n) ∧ (0 ≤ k ∧ k < n) ∧ i ≠ j ∧ j ≠ k ∧ i ≠ k)) : sgnF (lookS n s) i j k = 0 := by
  rw [lookS_yes h]
  exact sgnF_zero hb
/-- The sign of three by the byte that stands at them in order. -/
theorem sgnF_byte {n : Nat} {s : ByteArray} {i j k : Int} {x y z : Nat} {p : Int} (h : arB n s.data.toList = true) (hs : srt i j k = ((x : Int), (y : Int), (z : Int), p)) (h1 : x < y) (h2 : y < z) (h3 : z < n) :
    ∃ hq : idx n x y z < s.size, sgnF (lookS n s.data.toList) i j k = (if s[idx n x y z] = 45 then -p else p) := by
  obtain ⟨_, h7, hl, hall⟩ := arB_yes h
  have h7 : n ≤ 7 := by omega
  have hlt := idx_lt h7 h1 h2 h3
  have hsz : s.size = cnt n := by simpa using hl
  have hq : idx n x y z < s.size := by omega
  refine ⟨hq, ?_⟩
  rw [sgnF_of hs, lookS_yes h]
  unfold look
  simp only [Int.toNat_natCast]
  rw [if_pos (by omega)]
  have hg : s.data.toList.getD (idx n x y z) 0 = s[idx n x y z] := by rw [List.getD_eq_getElem?_getD, List.getElem?_eq_getElem (by simpa using hq)]; rfl
  rw [hg]
  rcases hall _ (byte_mem hq) with e | e <;> rw [e] <;> simp [sgn1]
theorem neI45 {a : UInt8} (h : ¬ a = 45) : ((a.toNat : Int) == 45) = false := by
  have : (a.toNat : Int) ≠ ((45 : UInt8).toNat : Int) := fun e => h (UInt8.toNat_inj.1 (by omega))
  simpa using this
theorem wr_neg {x : Int} (h : -10 ≤ x ∧ x ≤ 10) : wrap64 (-x) = -x := IntWalk.wrap64_in _ (by omega)
set_option maxHeartbeats 1600000 in
set_option maxRecDepth 100000 in
theorem l3At_any (n : Nat) (s : ByteArray) (i j k : Nat) (h : arB n s.data.toList = true) (hi : i < n) (hj : j < n) (hk : k < n) (hij : i ≠ j) (hjk : j ≠ k) (hik : i ≠ k) (w : World) :
    Calls Try.prog 71 #[sg n s, .int .i64 i, .int .i64 j, .int .i64 k] w fun e w' => e = .returned (.int .i64 (sgnF (lookS n s.data.toList) i j k)) ∧ Below w.heap.size w w' := by
  obtain ⟨_, h7, -, -⟩ := arB_yes h
  have h7 : n ≤ 7 := by omega
  by_cases h1 : j < i
  · by_cases h2 : k < i
    · by_cases h3 : k < j
      · obtain ⟨hq, hE⟩ := sgnF_byte (i := i) (j := j) (k := k) (x := k) (y := j) (z := i) (p := -1) h (by unfold srt; simp [h1, h2, h3]; try omega) h3 h1 hi
        have HI : Hid (∀ W, Calls Try.prog 81 #[.int .i64 n, .int .i64 k, .int .i64 j, .int .i64 i] W fun e w' => e = .returned (.int .i64 (idx n k j i : Nat)) ∧ w' = W) := Lib.hid (fun W => (index_any n k j i h7 h3 h1 hi W).mono fun _ _ ⟨a, b⟩ => ⟨a, b.symm⟩)
        generalize idx n k j i = q at hq hE HI
        have HE := Lib.hid hE
        by_cases hb : s[q] = 45
        · have ht : ((s[q].toNat : Int) == 45) = true := by rw [hb]; rfl
          have HR : Hid (sgnF (lookS n s.data.toList) i j k = 1) := Lib.hid (by rw [HE.out, if_pos hb]; try rfl)
          clear hE hb h
          go_enter Try.func71, Try.ntmps71
          go_wp2
          go_quiet ((go_at_call 81; exact Calls.quiet_of_same (HI.out _)))
          go_wp2
          go_ret
          exact ⟨ret_int HR.out.symm, drewN_below ((Below.refl _ _).alloc (Nat.le_refl _) _) _⟩
        · have ht : ((s[q].toNat : Int) == 45) = false := neI45 hb
          have HR : Hid (sgnF (lookS n s.data.toList) i j k = -1) := Lib.hid (by rw [HE.out, if_neg hb])
          clear hE hb h
          go_enter Try.func71, Try.ntmps71
          go_wp2
          go_quiet ((go_at_call 81; exact Calls.quiet_of_same (HI.out _)))
          go_wp2
          go_ret
          exact ⟨ret_int HR.out.symm, drewN_below ((Below.refl _ _).alloc (Nat.le_refl _) _) _⟩
      · obtain ⟨hq, hE⟩ := sgnF_byte (i := i) (j := j) (k := k) (x := j) (y := k) (z := i) (p := 1) h (by unfold srt; simp [h1, h2, h3]; try omega) (by omega) h2 hi
        have HI : Hid (∀ W, Calls Try.prog 81 #[.int .i64 n, .int .i64 j, .int .i64 k, .int .i64 i] W fun e w' => e = .returned (.int .i64 (idx n j k i : Nat)) ∧ w' = W) := Lib.hid (fun W => (index_any n j k i h7 (by omega) h2 hi W).mono fun _ _ ⟨a, b⟩ => ⟨a, b.symm⟩)
        generalize idx n j k i = q at hq hE HI
        have HE := Lib.hid hE
        by_cases hb : s[q] = 45
        · have ht : ((s[q].toNat : Int) == 45) = true := by rw [hb]; rfl
          have HR : Hid (sgnF (lookS n s.data.toList) i j k = -1) := Lib.hid (by rw [HE.out, if_pos hb]; try rfl)
          clear hE hb h
          go_enter Try.func71, Try.ntmps71
          go_wp2
          go_quiet ((go_at_call 81; exact Calls.quiet_of_same (HI.out _)))
          go_wp2
          go_ret
          exact ⟨ret_int HR.out.symm, drewN_below ((Below.refl _ _).alloc (Nat.le_refl _) _) _⟩
        · have ht : ((s[q].toNat : Int) == 45) = false := neI45 hb
          have HR : Hid (sgnF (lookS n s.data.toList) i j k = 1) := Lib.hid (by rw [HE.out, if_neg hb])
          clear hE hb h
          go_enter Try.func71, Try.ntmps71
          go_wp2
          go_quiet ((go_at_call 81; exact Calls.quiet_of_same (HI.out _)))
          go_wp2
          go_ret
          exact ⟨ret_int HR.out.symm, drewN_below ((Below.refl _ _).alloc (Nat.le_refl _) _) _⟩
    · have h3 : ¬ i < j := by omega
      obtain ⟨hq, hE⟩ := sgnF_byte (i := i) (j := j) (k := k) (x := j) (y := i) (z := k) (p := -1) h (by unfold srt; simp [h1, h2, h3]; try omega) h1 (by omega) hk
      have HI : Hid (∀ W, Calls Try.prog 81 #[.int .i64 n, .int .i64 j, .int .i64 i, .int .i64 k] W fun e w' => e = .returned (.int .i64 (idx n j i k : Nat)) ∧ w' = W) := Lib.hid (fun W => (index_any n j i k h7 h1 (by omega) hk W).mono fun _ _ ⟨a, b⟩ => ⟨a, b.symm⟩)
      generalize idx n j i k = q at hq hE HI
      have HE := Lib.hid hE
      by_cases hb : s[q] = 45
      · have ht : ((s[q].toNat : Int) == 45) = true := by rw [hb]; rfl
        have HR : Hid (sgnF (lookS n s.data.toList) i j k = 1) := Lib.hid (by rw [HE.out, if_pos hb]; try rfl)
        clear hE hb h
        go_enter Try.func71, Try.ntmps71
        go_wp2
        go_quiet ((go_at_call 81; exact Calls.quiet_of_same (HI.out _)))
        go_wp2
        go_ret
        exact ⟨ret_int HR.out.symm, drewN_below ((Below.refl _ _).alloc (Nat.le_refl _) _) _⟩
      · have ht : ((s[q].toNat : Int) == 45) = false := neI45 hb
        have HR : Hid (sgnF (lookS n s.data.toList) i j k = -1) := Lib.hid (by rw [HE.out, if_neg hb])
        clear hE hb h
        go_enter Try.func71, Try.ntmps71
        go_wp2
        go_quiet ((go_at_call 81; exact Calls.quiet_of_same (HI.out _)))
        go_wp2
        go_ret
        exact ⟨ret_int HR.out.symm, drewN_below ((Below.refl _ _).alloc (Nat.le_refl _) _) _⟩
  · by_cases h2 : k < j
    · by_cases h3 : k < i
      · obtain ⟨hq, hE⟩ := sgnF_byte (i := i) (j := j) (k := k) (x := k) (y := i) (z := j) (p := 1) h (by unfold srt; simp [h1, h2, h3]; try omega) h3 (by omega) hj
        have HI : Hid (∀ W, Calls Try.prog 81 #[.int .i64 n, .int .i64 k, .int .i64 i, .int .i64 j] W fun e w' => e = .returned (.int .i64 (idx n k i j : Nat)) ∧ w' = W) := Lib.hid (fun W => (index_any n k i j h7 h3 (by omega) hj W).mono fun _ _ ⟨a, b⟩ => ⟨a, b.symm⟩)
        generalize idx n k i j = q at hq hE HI
        have HE := Lib.hid hE
        by_cases hb : s[q] = 45
        · have ht : ((s[q].toNat : Int) == 45) = true := by rw [hb]; rfl
          have HR : Hid (sgnF (lookS n s.data.toList) i j k = -1) := Lib.hid (by rw [HE.out, if_pos hb]; try rfl)
          clear hE hb h
          go_enter Try.func71, Try.ntmps71
          go_wp2
          go_quiet ((go_at_call 81; exact Calls.quiet_of_same (HI.out _)))
          go_wp2
          go_ret
          exact ⟨ret_int HR.out.symm, drewN_below ((Below.refl _ _).alloc (Nat.le_refl _) _) _⟩
        · have ht : ((s[q].toNat : Int) == 45) = false := neI45 hb
          have HR : Hid (sgnF (lookS n s.data.toList) i j k = 1) := Lib.hid (by rw [HE.out, if_neg hb])
          clear hE hb h
          go_enter Try.func71, Try.ntmps71
          go_wp2
          go_quiet ((go_at_call 81; exact Calls.quiet_of_same (HI.out _)))
          go_wp2
          go_ret
          exact ⟨ret_int HR.out.symm, drewN_below ((Below.refl _ _).alloc (Nat.le_refl _) _) _⟩
      · obtain ⟨hq, hE⟩ := sgnF_byte (i := i) (j := j) (k := k) (x := i) (y := k) (z := j) (p := -1) h (by unfold srt; simp [h1, h2, h3]; try omega) (by omega) h2 hj
        have HI : Hid (∀ W, Calls Try.prog 81 #[.int .i64 n, .int .i64 i, .int .i64 k, .int .i64 j] W fun e w' => e = .returned (.int .i64 (idx n i k j : Nat)) ∧ w' = W) := Lib.hid (fun W => (index_any n i k j h7 (by omega) h2 hj W).mono fun _ _ ⟨a, b⟩ => ⟨a, b.symm⟩)
        generalize idx n i k j = q at hq hE HI
        have HE := Lib.hid hE
        by_cases hb : s[q] = 45
        · have ht : ((s[q].toNat : Int) == 45) = true := by rw [hb]; rfl
          have HR : Hid (sgnF (lookS n s.data.toList) i j k = 1) := Lib.hid (by rw [HE.out, if_pos hb]; try rfl)
          clear hE hb h
          go_enter Try.func71, Try.ntmps71
          go_wp2
          go_quiet ((go_at_call 81; exact Calls.quiet_of_same (HI.out _)))
          go_wp2
          go_ret
          exact ⟨ret_int HR.out.symm, drewN_below ((Below.refl _ _).alloc (Nat.le_refl _) _) _⟩
        · have ht : ((s[q].toNat : Int) == 45) = false := neI45 hb
          have HR : Hid (sgnF (lookS n s.data.toList) i j k = -1) := Lib.hid (by rw [HE.out, if_neg hb])
          clear hE hb h
          go_enter Try.func71, Try.ntmps71
          go_wp2
          go_quiet ((go_at_call 81; exact Calls.quiet_of_same (HI.out _)))
          go_wp2
          go_ret
          exact ⟨ret_int HR.out.symm, drewN_below ((Below.refl _ _).alloc (Nat.le_refl _) _) _⟩
    · obtain ⟨hq, hE⟩ := sgnF_byte (i := i) (j := j) (k := k) (x := i) (y := j) (z := k) (p := 1) h (by unfold srt; simp [h1, h2]; try omega) (by omega) (by omega) hk
      have HI : Hid (∀ W, Calls Try.prog 81 #[.int .i64 n, .int .i64 i, .int .i64 j, .int .i64 k] W fun e w' => e = .returned (.int .i64 (idx n i j k : Nat)) ∧ w' = W) := Lib.hid (fun W => (index_any n i j k h7 (by omega) (by omega) hk W).mono fun _ _ ⟨a, b⟩ => ⟨a, b.symm⟩)
      generalize idx n i j k = q at hq hE HI
      have HE := Lib.hid hE
      by_cases hb : s[q] = 45
      · have ht : ((s[q].toNat : Int) == 45) = true := by rw [hb]; rfl
        have HR : Hid (sgnF (lookS n s.data.toList) i j k = -1) := Lib.hid (by rw [HE.out, if_pos hb]; try rfl)
        clear hE hb h
        go_enter Try.func71, Try.ntmps71
        go_wp2
        go_quiet ((go_at_call 81; exact Calls.quiet_of_same (HI.out _)))
        go_wp2
        go_ret
        exact ⟨ret_int HR.out.symm, drewN_below ((Below.refl _ _).alloc (Nat.le_refl _) _) _⟩
      · have ht : ((s[q].toNat : Int) == 45) = false := neI45 hb
        have HR : Hid (sgnF (lookS n s.data.toList) i j k = 1) := Lib.hid (by rw [HE.out, if_neg hb])
        clear hE hb h
        go_enter Try.func71, Try.ntmps71
        go_wp2
        go_quiet ((go_at_call 81; exact Calls.quiet_of_same (HI.out _)))
        go_wp2
        go_ret
        exact ⟨ret_int HR.out.symm, drewN_below ((Below.refl _ _).alloc (Nat.le_refl _) _) _⟩
theorem inB_range {i n : Int} (h : inB i 0 (n - 1) = true) : 0 ≤ i ∧ i < n := by have := inB_mem h; omega
theorem inB_norange {i n : Int} (h : inB i 0 (n - 1) = false) : ¬ (0 ≤ i ∧ i < n) := fun e => by
  have := inB_yes (x := i) (lo := 0) (hi := n - 1) e.1 (by omega)
  rw [this] at h; cases h
end Go.Proofs.Ytfjimdmoindepaa.Sg
