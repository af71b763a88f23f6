/- Several texts in one: HuLeft, LeSpec, LeApSpec, LeCutSpec, LeTabSpec, LeCrSpec, LeHvSpec, LeRowSpec, LeFacts. -/
import Derived.Test.YtflcpgdgoencgaaGreatDoorHuFacts
import Derived.Test.YtflcpgdgoencgaaGreatDoorMgO
import Derived.Test.YtflcpgdgoencgaaGreatDoorMgL
import Derived.Test.YtflcpgdgoencgaaGreatDoorTakeH
/- LeftCount, as spec answers it of two different elements of order signs. -/
namespace Go.Proofs.YtflcpgdgoencgaaGreatDoor.Sg
open Go.RowKit Pt NewI
theorem cells2_made (w : World) (a b : Int) (t : TypeId) : Cells (w.alloc (.cells #[.int .i64 a, .int .i64 b] t)) w.heap.size 2 (zc [a, b]) := by
  refine ⟨fun j hj => ?_, fun j => by go_simp, by simp⟩
  rcases (by omega : j = 0 ∨ j = 1) with rfl | rfl <;> go_simp <;> rfl
/-- How many of the first k elements are to the left of two. -/
def leftK (F : Int → Int → Int → Int) (i j k : Nat) : Nat := (List.range k).countP fun k => k != i && (k != j && decide (0 < F i j k))
theorem leftK_succ (F : Int → Int → Int → Int) (i j k : Nat) : leftK F i j (k + 1) = leftK F i j k + bit (k != i && (k != j && decide (0 < F i j k))) := by
  unfold leftK
  rw [List.range_succ, List.countP_append, List.countP_singleton]
  cases (k != i && (k != j && decide (0 < F i j k))) <;> rfl
theorem leftK_le (F : Int → Int → Int → Int) (i j k : Nat) : leftK F i j k ≤ k := by
  unfold leftK
  have := List.countP_le_length (p := fun k => k != i && (k != j && decide (0 < F i j k))) (l := List.range k)
  rwa [List.length_range] at this
set_option maxHeartbeats 1600000 in
set_option maxRecDepth 100000 in
theorem l7Left_any (n : Nat) (s : ByteArray) (h : arB n s.data.toList = true) (i j : Nat) (hi : i < n) (hj : j < n) (hij : i ≠ j) (w : World) :
    Calls Tryz.prog 81 #[sg n s, .int .i64 i, .int .i64 j] w fun e w' => e = .returned (.int .i64 (leftN (sgnF (lookS n s.data.toList)) n i j : Nat)) ∧ Below w.heap.size w w' := by
  obtain ⟨_, h7, -, -⟩ := arB_yes h
  have h7 : n ≤ 7 := by omega
  have HS := Lib.hid (box_made w n s 25)
  have HAT := Lib.hid (fun (k : Nat) (hk : k < n) (h1 : k ≠ i) (h2 : k ≠ j) W => l3At_any n s i j k h hi hj hk hij (fun e => h2 e.symm) (fun e => h1 e.symm) W)
  generalize sgnF (lookS n s.data.toList) = F at HAT ⊢
  have HSU := Lib.hid (leftK_succ F i j)
  have HLE := Lib.hid (leftK_le F i j)
  have HB0 : Hid (∀ W, Calls Tryz.prog 57 #[.bool false] W fun e w' => e = .returned (.int .i64 0) ∧ w' = W) := Lib.hid (fun W => l1Bit_any false W)
  have HB1 : Hid (∀ W, Calls Tryz.prog 57 #[.bool true] W fun e w' => e = .returned (.int .i64 1) ∧ w' = W) := Lib.hid (fun W => l1Bit_any true W)
  have HEN : Hid (leftK F i j n = leftN F n i j) := Lib.hid rfl
  clear h
  go_enter Tryz.func81, Tryz.ntmps81
  go_wp2
  go_loopw [7, 8] (fun sv x wr => ∃ k : Nat, k ≤ n ∧ x = .int .i64 k ∧ sv = .int .i64 (leftK F i j k : Nat) ∧ Hid (Box w n s wr)) (fun _ x _ => n - (intOf x).toNat)
  case atStart => exact ⟨0, Nat.zero_le _, rfl, rfl, HS⟩
  case round =>
    obtain ⟨k, hk, rfl, rfl, HB⟩ := hrel
    obtain ⟨c0, c1, B0⟩ := HB.out
    have hle := HLE.out k
    by_cases hlt : k < n
    · have HN := Lib.hid (HSU.out k)
      by_cases e1 : k = i
      · have t1 : ((k : Int) != (i : Int)) = false := by simp; omega
        have HN2 : Hid (leftK F i j (k + 1) = leftK F i j k) := Lib.hid (by rw [HN.out]; simp [e1, bit])
        clear e1
        go_wp2_with fail
        refine (HB0.out _).mono ?_
        rintro e w' ⟨rfl, rfl⟩
        go_wp2
        exact ⟨⟨k + 1, by omega, by go_num, by rw [HN2.out], HB⟩, by simp only [intOf]; omega⟩
      · have t1 : ((k : Int) != (i : Int)) = true := by simp; omega
        by_cases e2 : k = j
        · have t2 : ((k : Int) != (j : Int)) = false := by simp; omega
          have HN2 : Hid (leftK F i j (k + 1) = leftK F i j k) := Lib.hid (by rw [HN.out]; simp [e2, bit])
          clear e1 e2
          go_wp2_with fail
          refine (HB0.out _).mono ?_
          rintro e w' ⟨rfl, rfl⟩
          go_wp2
          exact ⟨⟨k + 1, by omega, by go_num, by rw [HN2.out], HB⟩, by simp only [intOf]; omega⟩
        · have t2 : ((k : Int) != (j : Int)) = true := by simp; omega
          have HC := Lib.hid (HAT.out k hlt e1 e2)
          have ka : (k != i) = true := by simpa using e1
          have kb : (k != j) = true := by simpa using e2
          rw [ka, kb] at HN
          generalize F i j k = v at HC HN
          by_cases hv : 0 < v
          · have HN2 : Hid (leftK F i j (k + 1) = leftK F i j k + 1) := Lib.hid (by rw [HN.out]; simp [hv, bit])
            have tv : decide (0 < v) = true := decide_eq_true hv
            clear e1 e2 ka kb HN
            go_wp2_with fail
            refine (HC.out _).mono ?_
            rintro e w2 ⟨rfl, hb2⟩
            have X2 := Lib.hid (HB.out.on hb2)
            clear hb2 c0 c1
            go_wp2_with fail
            refine (HB1.out _).mono ?_
            rintro e w' ⟨rfl, rfl⟩
            go_wp2
            exact ⟨⟨k + 1, by omega, by go_num, by rw [HN2.out]; go_num, X2⟩, by simp only [intOf]; omega⟩
          · have HN2 : Hid (leftK F i j (k + 1) = leftK F i j k) := Lib.hid (by rw [HN.out]; simp [hv, bit])
            have tv : decide (0 < v) = false := decide_eq_false hv
            clear e1 e2 ka kb HN
            go_wp2_with fail
            refine (HC.out _).mono ?_
            rintro e w2 ⟨rfl, hb2⟩
            have X2 := Lib.hid (HB.out.on hb2)
            clear hb2 c0 c1
            go_wp2_with fail
            refine (HB0.out _).mono ?_
            rintro e w' ⟨rfl, rfl⟩
            go_wp2
            exact ⟨⟨k + 1, by omega, by go_num, by rw [HN2.out], X2⟩, by simp only [intOf]; omega⟩
    · obtain rfl : k = n := by omega
      go_wp2
      go_ret
      exact ⟨ret_int (by rw [HEN.out]), B0⟩
theorem difB2 {n a b : Int} (h0 : 0 ≤ a ∧ a < n) (h1 : 0 ≤ b ∧ b < n) (h2 : a ≠ b) : difB n [a, b] = true := by
  unfold difB
  rw [decide_eq_true_eq]
  intro i hi
  simp only [List.length_cons, List.length_nil] at hi
  rcases (by omega : i = 0 ∨ i = 1) with rfl | rfl
  · exact ⟨h0, fun j hj => by omega⟩
  · refine ⟨h1, fun j hj => ?_⟩
    obtain rfl : j = 0 := by omega
    exact fun e => h2 e.symm
set_option maxHeartbeats 1600000 in
set_option maxRecDepth 100000 in
theorem specLeftCount (n : Nat) (s : ByteArray) (h : aciB n s.data.toList = true) (hs : s.size ≤ 9223372036854775807) (i j : Nat) (hi : i < n) (hj : j < n) (hij : i ≠ j) (w : World) :
    Calls Tryz.prog 40 #[sg n s, .int .i64 i, .int .i64 j] w fun e w' => e = .returned (.int .i64 (leftN (sgnF (lookS n s.data.toList)) n i j : Nat)) ∧ Below w.heap.size w w' := by
  obtain ⟨h3, h7⟩ := aciB_n h
  have HA := Lib.hid (fun W => specAci n s hs W)
  have HS := Lib.hid (box_made w n s 25)
  have HL := Lib.hid (fun W => l7Left_any n s (matB_ar (aciB_mat h)) i j hi hj hij W)
  have HD : Hid (∀ g W, Cells W g 2 (zc [(i : Int), (j : Int)]) → Calls Tryz.prog 83 #[.int .i64 n, .slice (some ⟨g, 0, none⟩) 2 2] W fun e w' => e = .returned (.bool true) ∧ Below W.heap.size W w') := Lib.hid (fun g W hW => by
    have := l5Different_any n (by omega) [(i : Int), (j : Int)] (by simp) g 2 W hW
    rw [difB2 (by omega) (by omega) (by omega)] at this
    exact this)
  generalize leftN (sgnF (lookS n s.data.toList)) n i j = q at HL ⊢
  obtain ⟨x0, x1, -⟩ := HS.out
  rw [h] at HA
  clear h
  go_enter Tryz.func40, Tryz.ntmps40
  go_wp2_with fail
  refine (HA.out _).mono ?_
  rintro e w1 ⟨rfl, hb1⟩
  have X1 := Lib.hid (HS.out.on hb1)
  clear hb1 x0 x1
  obtain ⟨x0, x1, B1⟩ := X1.out
  have G1 := Lib.hid (cells2_made w1 i j 3)
  have X1a := Lib.hid (X1.out.alloc (.cells #[.int .i64 i, .int .i64 j] 3))
  go_wp2_with fail
  refine (HD.out _ _ G1.out).mono ?_
  rintro e w2 ⟨rfl, hb2⟩
  have X2 := Lib.hid (X1a.out.on hb2)
  clear hb2 x0 x1 B1
  obtain ⟨x0, x1, B2⟩ := X2.out
  go_wp2_with fail
  refine (HL.out _).mono ?_
  rintro e w3 ⟨rfl, hb3⟩
  have B3 := Lib.hid (B2.trans (hb3.mono B2.size))
  clear hb3 x0 x1
  go_wp2
  go_ret
  exact ⟨rfl, B3.out⟩
end Go.Proofs.YtflcpgdgoencgaaGreatDoor.Sg
/- What lies left, as spec tells it: l7Bits, LeftCount, CrossingSum. -/
namespace Go.Proofs.YtflcpgdgoencgaaGreatDoor.Sg
open Go.RowKit Pt NewI
theorem pcS_step : ∀ x, x < 128 → pcS x = x % 2 + pcS (x / 2) := by decide +kernel
theorem pcS_le (x : Nat) : pcS x ≤ 7 := by
  rw [pcS_eq]
  exact Nat.le_trans List.countP_le_length (by simp)
set_option maxHeartbeats 400000 in
set_option maxRecDepth 100000 in
theorem l7Bits_any (set : Nat) (hs : set < 128) (w : World) :
    Calls Tryz.prog 84 #[.int .i64 set] w fun e w' => e = .returned (.int .i64 (pcS set : Nat)) ∧ w = w' := by
  have HST := Lib.hid pcS_step
  have HLE := Lib.hid pcS_le
  have H0 : Hid (pcS 0 = 0) := Lib.hid rfl
  obtain ⟨p, hp⟩ : ∃ p : Nat → Nat, p = pcS := ⟨_, rfl⟩
  rw [← hp] at HST HLE H0
  rw [← hp]
  clear hp
  go_enter Tryz.func84, Tryz.ntmps84
  go_wp2
  go_loop [0, 3] (fun x sv => ∃ k t : Nat, x = .int .i64 k ∧ sv = .int .i64 t ∧ k < 128 ∧ t ≤ 7 ∧ Hid (t + p k = p set)) (fun x _ => (intOf x).toNat)
  case atStart => exact ⟨set, 0, rfl, rfl, hs, by omega, Lib.hid (by omega)⟩
  case round =>
    obtain ⟨k, t, rfl, rfl, hk, ht, HT⟩ := hrel
    by_cases hz : k = 0
    · subst hz
      have HR : Hid (t = p set) := Lib.hid (by have := HT.out; have := H0.out; omega)
      go_wp2
      go_ret
      exact ⟨ret_int (by rw [HR.out]), rfl⟩
    · have hb := bits_andH k (by omega)
      have HT2 : Hid (t + k % 2 + p (k / 2) = p set) := Lib.hid (by have := HT.out; have := HST.out k hk; omega)
      have ht2 : t + k % 2 ≤ 7 := by have := HT2.out; have := HLE.out set; omega
      go_wp2
      go_round
      case rel => exact ⟨k / 2, t + k % 2, by go_num, by go_num, by omega, ht2, HT2⟩
      case measure => simp only [intOf]; omega
/-- What LeftCount answers. -/
def leftZ (n : Int) (s : List UInt8) (i j : Int) : Int := if aciB n s = true ∧ difB n [i, j] = true then (leftN (sgnF (lookS n s)) n.toNat i.toNat j.toNat : Nat) else -1
theorem difB2_iff {n a b : Int} : difB n [a, b] = true ↔ (0 ≤ a ∧ a < n) ∧ (0 ≤ b ∧ b < n) ∧ a ≠ b := by
  constructor
  · intro h
    unfold difB at h
    rw [decide_eq_true_eq] at h
    have h0 := h 0 (by simp)
    have h1 := h 1 (by simp)
    have e10 := h1.2 0 (by omega)
    have q0 := h0.1
    have q1 := h1.1
    simp at q0 q1 e10
    exact ⟨q0, q1, fun e => e10 e.symm⟩
  · rintro ⟨h0, h1, h2⟩
    exact difB2 h0 h1 h2
set_option maxHeartbeats 1600000 in
set_option maxRecDepth 100000 in
theorem specLeftCountZ (n : Int) (s : ByteArray) (hs : s.size ≤ 9223372036854775807) (i j : Int) (w : World) :
    Calls Tryz.prog 40 #[sg n s, .int .i64 i, .int .i64 j] w fun e w' => e = .returned (.int .i64 (leftZ n s.data.toList i j)) ∧ Below w.heap.size w w' := by
  cases h : aciB n s.data.toList
  · have HE : Hid (leftZ n s.data.toList i j = -1) := Lib.hid (by unfold leftZ; rw [h]; simp)
    have HA := Lib.hid (fun W => specAci n s hs W)
    have HS := Lib.hid (box_made w n s 25)
    obtain ⟨x0, x1, -⟩ := HS.out
    rw [h] at HA
    clear h
    go_enter Tryz.func40, Tryz.ntmps40
    go_wp2_with fail
    refine (HA.out _).mono ?_
    rintro e w1 ⟨rfl, hb1⟩
    have B1 := Lib.hid (HS.out.on hb1).2.2
    clear hb1 x0 x1
    go_wp2
    go_ret
    exact ⟨ret_int HE.out.symm, B1.out⟩
  · obtain ⟨h3, h7⟩ := aciB_n h
    obtain ⟨n, rfl⟩ : ∃ m : Nat, n = m := ⟨n.toNat, by omega⟩
    cases hdf : difB n [i, j]
    · have HE : Hid (leftZ n s.data.toList i j = -1) := Lib.hid (by unfold leftZ; rw [hdf]; simp)
      have HA := Lib.hid (fun W => specAci n s hs W)
      have HS := Lib.hid (box_made w n s 25)
      have HD : Hid (∀ g W, Cells W g 2 (zc [i, j]) → Calls Tryz.prog 83 #[.int .i64 n, .slice (some ⟨g, 0, none⟩) 2 2] W fun e w' => e = .returned (.bool false) ∧ Below W.heap.size W w') := Lib.hid (fun g W hW => by
        have := l5Different_any n (by omega) [i, j] (by simp) g 2 W hW
        rw [hdf] at this
        exact this)
      obtain ⟨x0, x1, -⟩ := HS.out
      rw [h] at HA
      clear h hdf
      go_enter Tryz.func40, Tryz.ntmps40
      go_wp2_with fail
      refine (HA.out _).mono ?_
      rintro e w1 ⟨rfl, hb1⟩
      have X1 := Lib.hid (HS.out.on hb1)
      clear hb1 x0 x1
      obtain ⟨x0, x1, B1⟩ := X1.out
      have G1 := Lib.hid (cells2_made w1 i j 3)
      have X1a := Lib.hid (X1.out.alloc (.cells #[.int .i64 i, .int .i64 j] 3))
      go_wp2_with fail
      refine (HD.out _ _ G1.out).mono ?_
      rintro e w2 ⟨rfl, hb2⟩
      have X2 := Lib.hid (X1a.out.on hb2)
      clear hb2 x0 x1 B1
      obtain ⟨x0, x1, B2⟩ := X2.out
      go_wp2
      go_ret
      exact ⟨ret_int HE.out.symm, B2⟩
    · obtain ⟨⟨i0, i1⟩, ⟨j0, j1⟩, hij⟩ := difB2_iff.1 hdf
      obtain ⟨i, rfl⟩ : ∃ m : Nat, i = m := ⟨i.toNat, by omega⟩
      obtain ⟨j, rfl⟩ : ∃ m : Nat, j = m := ⟨j.toNat, by omega⟩
      have HE : leftZ n s.data.toList i j = (leftN (sgnF (lookS n s.data.toList)) n i j : Nat) := by unfold leftZ; rw [h, hdf]; simp
      rw [HE]
      exact specLeftCount n s h hs i j (by omega) (by omega) (by omega) w
end Go.Proofs.YtflcpgdgoencgaaGreatDoor.Sg
/- What lies left, as spec tells it: l7Apart. -/
namespace Go.Proofs.YtflcpgdgoencgaaGreatDoor.Sg
open Go.RowKit Pt NewI
/-- Tuples ahead of one. -/
def Ahead (a b c d a' b' c' d' : Nat) : Prop := a' < a ∨ a' = a ∧ (b' < b ∨ b' = b ∧ (c' < c ∨ c' = c ∧ d' < d))
def NoQ7 (F : Int → Int → Int → Int) (n S a b c d : Nat) : Prop := ∀ a' b' c' d', a' < b' → b' < n → c' < d' → d' < n → Ahead a b c d a' b' c' d' → apQ F S a' b' c' d' = false
theorem noQ7_zero (F : Int → Int → Int → Int) (n S : Nat) : NoQ7 F n S 0 (0 + 1) 0 (0 + 1) := fun a' b' c' d' h1 h2 h3 h4 ha => by
  unfold Ahead at ha; omega
theorem noQ7_step {F : Int → Int → Int → Int} {n S a b c d : Nat} (h : NoQ7 F n S a b c d) (hq : apQ F S a b c d = false) : NoQ7 F n S a b c (d + 1) := fun a' b' c' d' h1 h2 h3 h4 ha => by
  by_cases e : a' = a ∧ b' = b ∧ c' = c ∧ d' = d
  · obtain ⟨rfl, rfl, rfl, rfl⟩ := e; exact hq
  · exact h a' b' c' d' h1 h2 h3 h4 (by unfold Ahead at ha ⊢; omega)
theorem noQ7_c {F : Int → Int → Int → Int} {n S a b c : Nat} (h : NoQ7 F n S a b c n) : NoQ7 F n S a b (c + 1) (c + 1 + 1) := fun a' b' c' d' h1 h2 h3 h4 ha => h a' b' c' d' h1 h2 h3 h4 (by unfold Ahead at ha ⊢; omega)
theorem noQ7_b {F : Int → Int → Int → Int} {n S a b d : Nat} (h : NoQ7 F n S a b n d) : NoQ7 F n S a (b + 1) 0 (0 + 1) := fun a' b' c' d' h1 h2 h3 h4 ha => h a' b' c' d' h1 h2 h3 h4 (by unfold Ahead at ha ⊢; omega)
theorem noQ7_a {F : Int → Int → Int → Int} {n S a c d : Nat} (h : NoQ7 F n S a n c d) : NoQ7 F n S (a + 1) (a + 1 + 1) 0 (0 + 1) := fun a' b' c' d' h1 h2 h3 h4 ha => h a' b' c' d' h1 h2 h3 h4 (by unfold Ahead at ha ⊢; omega)
theorem noQ7_end {F : Int → Int → Int → Int} {n S b c d : Nat} (h : NoQ7 F n S n b c d) : ∀ a b c d, a < b → b < n → c < d → d < n → apQ F S a b c d = false := fun a' b' c' d' h1 h2 h3 h4 => h a' b' c' d' h1 h2 h3 h4 (by unfold Ahead; omega)
set_option maxHeartbeats 6400000 in
set_option maxRecDepth 100000 in
theorem l7Apart_any (n : Nat) (s : ByteArray) (h : aciB n s.data.toList = true) (set : Nat) (hset : set < 2 ^ n) (w : World) :
    Calls Tryz.prog 85 #[sg n s, .int .i64 set] w fun e w' => e = .returned (.bool (acS n s.data.toList set)) ∧ Below w.heap.size w w' := by
  obtain ⟨h3, h7⟩ := aciB_n h
  have h7 : n ≤ 7 := by omega
  have har := matB_ar (aciB_mat h)
  obtain ⟨M, hM⟩ := allS_of (m := n) (by omega) (by omega)
  obtain ⟨⟨hM8, hMl⟩, v2, hMe, hMc⟩ := hM
  have hpw := Nat.pow_pos (n := n) (show 0 < 2 by omega)
  have hsM : set ≤ M - 1 := by omega
  have v3 : IntKind.i64.wrap ((M : Int) - 1) = ((M - 1 : Nat) : Int) := by rw [hMc]; exact IntWalk.i64_in _ (by omega)
  have v4 : IntKind.i64.wrap (((M - 1 : Nat) : Int) - (set : Int)) = ((M - 1 - set : Nat) : Int) := by rw [show ((M - 1 : Nat) : Int) - (set : Int) = ((M - 1 - set : Nat) : Int) by omega]; exact IntWalk.i64_in _ (by omega)
  have HS := Lib.hid (box_made w n s 25)
  have HI1 : Hid (∀ p, p < n → ∀ W, Calls Tryz.prog 109 #[sg n s, .int .i64 (M - 1 - set : Nat), .int .i64 p] W fun e w' => e = .returned (.bool (inT (sgnF (lookS n s.data.toList)) n (2 ^ n - 1 - set) p)) ∧ Below W.heap.size W w') := Lib.hid (fun p hp W => by
    rw [hMe]; exact l6In_any n s h (M - 1 - set) p (by omega) hp W)
  have HI2 : Hid (∀ p, p < n → ∀ W, Calls Tryz.prog 109 #[sg n s, .int .i64 set, .int .i64 p] W fun e w' => e = .returned (.bool (inT (sgnF (lookS n s.data.toList)) n set p)) ∧ Below W.heap.size W w') := Lib.hid (fun p hp W => l6In_any n s h set p (by omega) hp W)
  have HH1 : Hid (∀ k : Nat, k < 64 → ∀ W, Calls Tryz.prog 108 #[.int .i64 set, .int .i64 k] W fun e w' => e = .returned (.bool (set.testBit k)) ∧ W = w') := Lib.hid (fun k hk W => l6Has_any set k (by omega) hk W)
  have HH2 : Hid (∀ p, p < n → ∀ W, Calls Tryz.prog 108 #[.int .i64 (M - 1 - set : Nat), .int .i64 p] W fun e w' => e = .returned (.bool (!set.testBit p)) ∧ W = w') := Lib.hid (fun p hp W => by
    have := l6Has_any (M - 1 - set) p (by omega) (by omega) W
    rw [← hMe, rest_bit hset, decide_eq_true hp, Bool.true_and, hMe] at this
    exact this)
  have HSP : Hid (∀ a b c d : Nat, a < n → b < n → c < n → d < n → a ≠ b → a ≠ c → a ≠ d → b ≠ c → b ≠ d → c ≠ d → ∀ g W, Cells W g 4 (zc [(a : Int), (b : Int), (c : Int), (d : Int)]) → Calls Tryz.prog 121 #[sg n s, .slice (some ⟨g, 0, none⟩) 4 4] W fun e w' => e = .returned (.tuple #[.int .i64 (sets4 (cir (sgnF (lookS n s.data.toList)) a b c d) a b c d).1, .int .i64 (sets4 (cir (sgnF (lookS n s.data.toList)) a b c d) a b c d).2]) ∧ Below W.heap.size W w') := Lib.hid (fun a b c d ha hb hc hd d1 d2 d3 d4 d5 d6 g W hW => l5Split_any n s a b c d har ha hb hc hd d1 d2 d3 d4 d5 d6 g 4 W hW)
  have HP : Hid (∀ p, p < n → apP (sgnF (lookS n s.data.toList)) n set p = ((set.testBit p && inT (sgnF (lookS n s.data.toList)) n (2 ^ n - 1 - set) p) || (!set.testBit p && inT (sgnF (lookS n s.data.toList)) n set p))) := Lib.hid (fun p hp => by
    unfold apP; rw [rest_bit hset, decide_eq_true hp, Bool.true_and])
  have HBP : Hid (∀ p, p < n → apP (sgnF (lookS n s.data.toList)) n set p = true → acS n s.data.toList set = false) := Lib.hid (fun p hp e => (bad_iff h hset).1 (.inl ⟨p, hp, e⟩))
  have HBQ : Hid (∀ a b c d, a < b → b < n → c < d → d < n → apQ (sgnF (lookS n s.data.toList)) set a b c d = true → acS n s.data.toList set = false) := Lib.hid (fun a b c d h1 h2 h3 h4 e => (bad_iff h hset).1 (.inr ⟨a, b, c, d, h1, h2, h3, h4, e⟩))
  have HALL : Hid ((∀ p, p < n → apP (sgnF (lookS n s.data.toList)) n set p = false) → (∀ a b c d, a < b → b < n → c < d → d < n → apQ (sgnF (lookS n s.data.toList)) set a b c d = false) → acS n s.data.toList set = true) := Lib.hid (fun hp hq => by
    cases e : acS n s.data.toList set
    · rcases (bad_iff h hset).2 e with ⟨p, k1, k2⟩ | ⟨a, b, c, d, k1, k2, k3, k4, k5⟩
      · rw [hp p k1] at k2; cases k2
      · rw [hq a b c d k1 k2 k3 k4] at k5; cases k5
    · rfl)
  have hpl := pow_le7 h7
  have hs10 : set < 1024 := by omega
  generalize acS n s.data.toList set = r at HBP HBQ HALL ⊢
  generalize sgnF (lookS n s.data.toList) = F at HI1 HI2 HSP HP HBP HBQ HALL
  generalize 2 ^ n - 1 - set = rest at HI1 HP
  have HQZ := Lib.hid (noQ7_zero F n set)
  clear h har hset hpw hMe hMc hpl
  go_enter Tryz.func85, Tryz.ntmps85
  go_wp2
  go_loopw [6] (fun x wr => ∃ p : Nat, p ≤ n ∧ x = .int .i64 p ∧ Hid (∀ q, q < p → apP F n set q = false) ∧ Hid (Box w n s wr)) (fun x _ => n - (intOf x).toNat)
  case atStart => exact ⟨0, Nat.zero_le _, rfl, Lib.hid (fun q hq => by omega), HS⟩
  case round =>
    obtain ⟨p, hpn, rfl, HNP, HB⟩ := hrel
    obtain ⟨c0, c1, B0⟩ := HB.out
    by_cases hlt : p < n
    · have HC1 := Lib.hid (HH1.out p (by omega))
      have HC2 := Lib.hid (HH2.out p hlt)
      have HJ1 := Lib.hid (HI1.out p hlt)
      have HJ2 := Lib.hid (HI2.out p hlt)
      have HPP := Lib.hid (HP.out p hlt)
      have HYES := Lib.hid (fun e => HBP.out p hlt e)
      have HNO : Hid (apP F n set p = false → ∀ q, q < p + 1 → apP F n set q = false) := Lib.hid (fun e q hq => by
        by_cases hqp : q = p
        · subst hqp; exact e
        · exact HNP.out q (by omega))
      cases hb : set.testBit p
      · rw [hb] at HC1 HC2 HPP
        simp only [Bool.not_false, Bool.false_and, Bool.true_and, Bool.false_or] at HC2 HPP
        clear hb HJ1
        cases hi : inT F n set p
        · rw [hi] at HJ2 HPP
          have HN2 := Lib.hid (HNO.out HPP.out)
          clear hi
          go_wp2_with fail
          refine (HC1.out _).mono ?_
          rintro e w' ⟨rfl, rfl⟩
          go_wp2_with fail
          refine (HC2.out _).mono ?_
          rintro e w' ⟨rfl, rfl⟩
          go_wp2_with fail
          refine (HJ2.out _).mono ?_
          rintro e w2 ⟨rfl, hb2⟩
          have X2 := Lib.hid (HB.out.on hb2)
          clear hb2 c0 c1
          go_wp2
          exact ⟨⟨p + 1, by omega, by go_num, HN2, X2⟩, by simp only [intOf]; omega⟩
        · rw [hi] at HJ2 HPP
          have HR := Lib.hid (HYES.out HPP.out)
          clear hi
          go_wp2_with fail
          refine (HC1.out _).mono ?_
          rintro e w' ⟨rfl, rfl⟩
          go_wp2_with fail
          refine (HC2.out _).mono ?_
          rintro e w' ⟨rfl, rfl⟩
          go_wp2_with fail
          refine (HJ2.out _).mono ?_
          rintro e w2 ⟨rfl, hb2⟩
          have B2 := Lib.hid (HB.out.on hb2).2.2
          clear hb2 c0 c1
          go_wp2
          go_ret
          exact ⟨ret_bool HR.out.symm, B2.out⟩
      · rw [hb] at HC1 HC2 HPP
        simp only [Bool.not_true, Bool.true_and, Bool.false_and, Bool.or_false] at HC2 HPP
        clear hb HJ2
        cases hi : inT F n rest p
        · rw [hi] at HJ1 HPP
          have HN2 := Lib.hid (HNO.out HPP.out)
          clear hi
          go_wp2_with fail
          refine (HC1.out _).mono ?_
          rintro e w' ⟨rfl, rfl⟩
          go_wp2_with fail
          refine (HJ1.out _).mono ?_
          rintro e w2 ⟨rfl, hb2⟩
          have X2 := Lib.hid (HB.out.on hb2)
          clear hb2 c0 c1
          go_wp2_with fail
          refine (HC2.out _).mono ?_
          rintro e w' ⟨rfl, rfl⟩
          go_wp2
          exact ⟨⟨p + 1, by omega, by go_num, HN2, X2⟩, by simp only [intOf]; omega⟩
        · rw [hi] at HJ1 HPP
          have HR := Lib.hid (HYES.out HPP.out)
          clear hi
          go_wp2_with fail
          refine (HC1.out _).mono ?_
          rintro e w' ⟨rfl, rfl⟩
          go_wp2_with fail
          refine (HJ1.out _).mono ?_
          rintro e w2 ⟨rfl, hb2⟩
          have B2 := Lib.hid (HB.out.on hb2).2.2
          clear hb2 c0 c1
          go_wp2
          go_ret
          exact ⟨ret_bool HR.out.symm, B2.out⟩
    · obtain rfl : p = n := by omega
      have HNP2 := Lib.hid HNP.out
      clear HI1 HI2 HH2 HP HBP
      go_wp2
      go_loopw [7] (fun x wr => ∃ a : Nat, a ≤ p ∧ x = .int .i64 a ∧ Hid (NoQ7 F p set a (a + 1) 0 (0 + 1)) ∧ Hid (Box w p s wr)) (fun x _ => p - (intOf x).toNat)
      case atStart => exact ⟨0, Nat.zero_le _, rfl, HQZ, HB⟩
      case round =>
        obtain ⟨a, han, rfl, HU, HB⟩ := hrel
        obtain ⟨c0, c1, B0⟩ := HB.out
        by_cases hlt : a < p
        · go_wp2
          go_loopw [8] (fun x wr => ∃ b : Nat, a < b ∧ b ≤ p ∧ x = .int .i64 b ∧ Hid (NoQ7 F p set a b 0 (0 + 1)) ∧ Hid (Box w p s wr)) (fun x _ => p - (intOf x).toNat)
          case atStart => exact ⟨a + 1, by omega, by omega, by go_num, HU, HB⟩
          case round =>
            obtain ⟨b, hab, hbn, rfl, HU, HB⟩ := hrel
            obtain ⟨c0, c1, B0⟩ := HB.out
            by_cases hlt2 : b < p
            · go_wp2
              go_loopw [9] (fun x wr => ∃ c : Nat, c ≤ p ∧ x = .int .i64 c ∧ Hid (NoQ7 F p set a b c (c + 1)) ∧ Hid (Box w p s wr)) (fun x _ => p - (intOf x).toNat)
              case atStart => exact ⟨0, Nat.zero_le _, rfl, HU, HB⟩
              case round =>
                obtain ⟨c, hcn, rfl, HU, HB⟩ := hrel
                obtain ⟨c0, c1, B0⟩ := HB.out
                by_cases hlt3 : c < p
                · go_wp2
                  go_loopw [10] (fun x wr => ∃ d : Nat, c < d ∧ d ≤ p ∧ x = .int .i64 d ∧ Hid (NoQ7 F p set a b c d) ∧ Hid (Box w p s wr)) (fun x _ => p - (intOf x).toNat)
                  case atStart => exact ⟨c + 1, by omega, by omega, by go_num, HU, HB⟩
                  case round =>
                    obtain ⟨d, hcd, hdn, rfl, HU, HB⟩ := hrel
                    obtain ⟨c0, c1, B0⟩ := HB.out
                    by_cases hlt4 : d < p
                    · have HA := Lib.hid (HH1.out a (by omega))
                      have HBT := Lib.hid (HH1.out b (by omega))
                      have HCT := Lib.hid (HH1.out c (by omega))
                      have HDT := Lib.hid (HH1.out d (by omega))
                      have HNO : Hid (apQ F set a b c d = false → NoQ7 F p set a b c (d + 1)) := Lib.hid (fun e => noQ7_step HU.out e)
                      have HYES : Hid (apQ F set a b c d = true → r = false) := Lib.hid (fun e => HBQ.out a b c d hab hlt2 hcd hlt4 e)
                      cases ta : set.testBit a
                      · have HU2 := Lib.hid (HNO.out (by unfold apQ; rw [ta]; rfl))
                        rw [ta] at HA
                        clear ta
                        go_wp2_with fail
                        refine (HA.out _).mono ?_
                        rintro e w' ⟨rfl, rfl⟩
                        go_wp2
                        exact ⟨⟨d + 1, by omega, by omega, by go_num, HU2, HB⟩, by simp only [intOf]; omega⟩
                      · rw [ta] at HA
                        cases tb : set.testBit b
                        · have HU2 := Lib.hid (HNO.out (by unfold apQ; rw [tb]; simp))
                          rw [tb] at HBT
                          clear ta tb
                          go_wp2_with fail
                          refine (HA.out _).mono ?_
                          rintro e w' ⟨rfl, rfl⟩
                          go_wp2_with fail
                          refine (HBT.out _).mono ?_
                          rintro e w' ⟨rfl, rfl⟩
                          go_wp2
                          exact ⟨⟨d + 1, by omega, by omega, by go_num, HU2, HB⟩, by simp only [intOf]; omega⟩
                        · rw [tb] at HBT
                          cases tc : set.testBit c
                          · rw [tc] at HCT
                            cases td : set.testBit d
                            · rw [td] at HDT
                              have hne : a ≠ c ∧ a ≠ d ∧ b ≠ c ∧ b ≠ d := ⟨fun e => (by rw [e, tc] at ta; cases ta), fun e => (by rw [e, td] at ta; cases ta), fun e => (by rw [e, tc] at tb; cases tb), fun e => (by rw [e, td] at tb; cases tb)⟩
                              have HCALL := Lib.hid (HSP.out a b c d hlt hlt2 hlt3 hlt4 (by omega) hne.1 hne.2.1 hne.2.2.1 hne.2.2.2 (by omega))
                              have hap : apQ F set a b c d = ((sets4 (cir F a b c d) a b c d).1 == ((2 ^ a + 2 ^ b : Nat) : Int)) := by unfold apQ; rw [ta, tb, tc, td]; rfl
                              rw [hap] at HNO HYES
                              have pa := pow_le7 (show a ≤ 7 by omega)
                              have pb := pow_le7 (show b ≤ 7 by omega)
                              have ca : ((2 ^ a : Nat) : Int) = (2 : Int) ^ a := by push_cast; rfl
                              have cb : ((2 ^ b : Nat) : Int) = (2 : Int) ^ b := by push_cast; rfl
                              generalize 2 ^ a = A at HNO HYES pa ca
                              generalize 2 ^ b = C at HNO HYES pb cb
                              have va : IntKind.i64.wrap ((2 : Int) ^ a) = (A : Int) := by rw [← ca]; exact IntWalk.i64_in _ (by omega)
                              have vb : IntKind.i64.wrap ((2 : Int) ^ b) = (C : Int) := by rw [← cb]; exact IntWalk.i64_in _ (by omega)
                              have vc : IntKind.i64.wrap ((A : Int) + (C : Int)) = ((A + C : Nat) : Int) := by rw [show (A : Int) + (C : Int) = ((A + C : Nat) : Int) by push_cast; rfl]; exact IntWalk.i64_in _ (by omega)
                              generalize (sets4 (cir F a b c d) a b c d).1 = y at HCALL HNO HYES
                              generalize (sets4 (cir F a b c d) a b c d).2 = y2 at HCALL
                              clear ta tb tc td hap ca cb hne
                              have G1 := Lib.hid (cells4_made wr a b c d 3)
                              have X1 := Lib.hid (HB.out.alloc (.cells #[.int .i64 a, .int .i64 b, .int .i64 c, .int .i64 d] 3))
                              cases hq : (y == ((A + C : Nat) : Int))
                              · have HU2 := Lib.hid (HNO.out hq)
                                go_wp2_with fail
                                refine (HA.out _).mono ?_
                                rintro e w' ⟨rfl, rfl⟩
                                go_wp2_with fail
                                refine (HBT.out _).mono ?_
                                rintro e w' ⟨rfl, rfl⟩
                                go_wp2_with fail
                                refine (HCT.out _).mono ?_
                                rintro e w' ⟨rfl, rfl⟩
                                go_wp2_with fail
                                refine (HDT.out _).mono ?_
                                rintro e w' ⟨rfl, rfl⟩
                                go_wp2_with fail
                                refine (HCALL.out _ _ G1.out).mono ?_
                                rintro e w2 ⟨rfl, hb2⟩
                                have X2 := Lib.hid (X1.out.on hb2)
                                clear hb2
                                go_wp2
                                exact ⟨⟨d + 1, by omega, by omega, by go_num, HU2, X2⟩, by simp only [intOf]; omega⟩
                              · have HE := Lib.hid (HYES.out hq)
                                go_wp2_with fail
                                refine (HA.out _).mono ?_
                                rintro e w' ⟨rfl, rfl⟩
                                go_wp2_with fail
                                refine (HBT.out _).mono ?_
                                rintro e w' ⟨rfl, rfl⟩
                                go_wp2_with fail
                                refine (HCT.out _).mono ?_
                                rintro e w' ⟨rfl, rfl⟩
                                go_wp2_with fail
                                refine (HDT.out _).mono ?_
                                rintro e w' ⟨rfl, rfl⟩
                                go_wp2_with fail
                                refine (HCALL.out _ _ G1.out).mono ?_
                                rintro e w2 ⟨rfl, hb2⟩
                                have B2 := Lib.hid (X1.out.on hb2).2.2
                                clear hb2
                                go_wp2
                                go_ret
                                exact ⟨ret_bool HE.out.symm, B2.out⟩
                            · have HU2 := Lib.hid (HNO.out (by unfold apQ; rw [td]; simp))
                              rw [td] at HDT
                              clear ta tb tc td
                              go_wp2_with fail
                              refine (HA.out _).mono ?_
                              rintro e w' ⟨rfl, rfl⟩
                              go_wp2_with fail
                              refine (HBT.out _).mono ?_
                              rintro e w' ⟨rfl, rfl⟩
                              go_wp2_with fail
                              refine (HCT.out _).mono ?_
                              rintro e w' ⟨rfl, rfl⟩
                              go_wp2_with fail
                              refine (HDT.out _).mono ?_
                              rintro e w' ⟨rfl, rfl⟩
                              go_wp2
                              exact ⟨⟨d + 1, by omega, by omega, by go_num, HU2, HB⟩, by simp only [intOf]; omega⟩
                          · have HU2 := Lib.hid (HNO.out (by unfold apQ; rw [tc]; simp))
                            rw [tc] at HCT
                            clear ta tb tc
                            go_wp2_with fail
                            refine (HA.out _).mono ?_
                            rintro e w' ⟨rfl, rfl⟩
                            go_wp2_with fail
                            refine (HBT.out _).mono ?_
                            rintro e w' ⟨rfl, rfl⟩
                            go_wp2_with fail
                            refine (HCT.out _).mono ?_
                            rintro e w' ⟨rfl, rfl⟩
                            go_wp2
                            exact ⟨⟨d + 1, by omega, by omega, by go_num, HU2, HB⟩, by simp only [intOf]; omega⟩
                    · obtain rfl : d = p := by omega
                      go_wp2
                      exact ⟨⟨c + 1, by omega, by go_num, Lib.hid (noQ7_c HU.out), HB⟩, by simp only [intOf]; omega⟩
                · obtain rfl : c = p := by omega
                  go_wp2
                  exact ⟨⟨b + 1, by omega, by omega, by go_num, Lib.hid (noQ7_b HU.out), HB⟩, by simp only [intOf]; omega⟩
            · obtain rfl : b = p := by omega
              go_wp2
              exact ⟨⟨a + 1, by omega, by go_num, Lib.hid (noQ7_a HU.out), HB⟩, by simp only [intOf]; omega⟩
        · obtain rfl : a = p := by omega
          have HE := Lib.hid (HALL.out HNP2.out (noQ7_end HU.out))
          go_wp2
          go_ret
          exact ⟨ret_bool HE.out.symm, B0⟩
end Go.Proofs.YtflcpgdgoencgaaGreatDoor.Sg
/- What lies left, as spec tells it: CutSets. -/
namespace Go.Proofs.YtflcpgdgoencgaaGreatDoor.Sg
open Go.RowKit Pt NewI
/-- A set of k elements that can be cut off. -/
def cutQ (n : Nat) (s : List UInt8) (k : Int) (S : Nat) : Bool := (((pcS S : Nat) : Int) == k) && acS n s S
/-- What CutSets answers. -/
def cutZ (n : Int) (s : List UInt8) (k : Int) : List Int := if aciB n s = true ∧ inB k 0 n = true then setsTo (cutQ n.toNat s k) (2 ^ n.toNat) else []
theorem new_low {w : World} {lo lo' hi n : Nat} {a : Option Addr} {f : Nat → Value} (h : New w lo hi a n f) (hl : lo' ≤ lo) : New w lo' hi a n f := by
  rcases h with h | ⟨b, h1, h2, h3, h4⟩
  · exact .inl h
  · exact .inr ⟨b, h1, Nat.le_trans hl h2, h3, h4⟩
set_option maxHeartbeats 3200000 in
set_option maxRecDepth 100000 in
theorem specCutSets (n : Int) (s : ByteArray) (k : Int) (hs : s.size ≤ 9223372036854775807) (w : World) :
    Calls Tryz.prog 43 #[sg n s, .int .i64 k] w fun e w' => Got w.heap.size (cutZ n s.data.toList k) e w' ∧ Below w.heap.size w w' := by
  have HA := Lib.hid (fun W => specAci n s hs W)
  have HS := Lib.hid ((box_made w n s 25).alloc (.cells #[] 3))
  have hsz : (w.alloc (.cells #[.int .i64 n, .string s] 25)).heap.size = w.heap.size + 1 := by simp
  obtain ⟨x0, x1, -⟩ := HS.out
  cases h : aciB n s.data.toList
  · have HE : Hid (cutZ n s.data.toList k = []) := Lib.hid (by unfold cutZ; rw [h]; simp)
    rw [h] at HA
    clear h
    go_enter Tryz.func43, Tryz.ntmps43
    go_wp2_with fail
    refine (HA.out _).mono ?_
    rintro e w1 ⟨rfl, hb1⟩
    have B1 := Lib.hid (HS.out.on hb1).2.2
    clear hb1 x0 x1
    go_wp2
    go_ret
    exact ⟨by rw [HE.out]; exact ⟨_, _, rfl, .inl rfl⟩, B1.out⟩
  · obtain ⟨h3, h7⟩ := aciB_n h
    obtain ⟨m, rfl⟩ : ∃ m : Nat, n = m := ⟨n.toNat, by omega⟩
    have h7 : m ≤ 7 := by omega
    have HL := Lib.hid (fun W => l1In_any k 0 (m : Int) W)
    cases hin : inB k 0 (m : Int)
    · have HE : Hid (cutZ m s.data.toList k = []) := Lib.hid (by unfold cutZ; rw [hin]; simp)
      rw [h] at HA
      rw [hin] at HL
      clear h hin
      go_enter Tryz.func43, Tryz.ntmps43
      go_wp2_with fail
      refine (HA.out _).mono ?_
      rintro e w1 ⟨rfl, hb1⟩
      have X1 := Lib.hid (HS.out.on hb1)
      clear hb1 x0 x1
      obtain ⟨x0, x1, B1⟩ := X1.out
      go_wp2_with fail
      refine (HL.out _).mono ?_
      rintro e w' ⟨rfl, rfl⟩
      go_wp2
      go_ret
      exact ⟨by rw [HE.out]; exact ⟨_, _, rfl, .inl rfl⟩, B1⟩
    · obtain ⟨M, hM⟩ := allS_of (m := m) (by omega) (by omega)
      obtain ⟨⟨hM8, hMl⟩, v2, hMe, -⟩ := hM
      have hpw := Nat.pow_pos (n := m) (show 0 < 2 by omega)
      have hMM : 2 ^ m = M := by omega
      have HE : cutZ m s.data.toList k = setsTo (cutQ m s.data.toList k) M := by unfold cutZ; rw [h, hin, Int.toNat_natCast, hMM]; simp
      rw [HE]
      have HBI := Lib.hid (fun (S : Nat) (hS : S < M) W => l7Bits_any S (by omega) W)
      have HAP := Lib.hid (fun (S : Nat) (hS : S < M) W => l7Apart_any m s h S (by omega) W)
      have HQ : Hid (∀ S, cutQ m s.data.toList k S = ((((pcS S : Nat) : Int) == k) && acS m s.data.toList S)) := Lib.hid (fun S => rfl)
      obtain ⟨i0, hi, hz0, hz1, hz2⟩ := info_parts infoI
      rw [h] at HA
      rw [hin] at HL
      generalize cutQ m s.data.toList k = q at HQ ⊢
      generalize acS m s.data.toList = ac at HAP HQ
      generalize pcS = pc at HBI HQ
      have HSL := Lib.hid (setsTo_length q)
      have HH := Lib.hid (fun p => setsTo_hit (q := q) (p := p))
      have HMI := Lib.hid (fun p => setsTo_miss (q := q) (p := p))
      have HO0 : Hid (OwnsZ ((w.alloc (.cells #[.int .i64 m, .string s] 25)).alloc (.cells #[] 3)) (w.heap.size + 1) (.slice (some ⟨w.heap.size + 1, 0, none⟩) 0 0) (setsTo q 0)) := Lib.hid (by
        have := World.ownsRow_made (base := w.heap.size + 1) (e := 3) (size := 1) (w.alloc (.cells #[.int .i64 m, .string s] 25)) #[] 0 (by rw [hsz]; exact Nat.le_refl _) (by decide) rfl
        rw [hsz] at this
        exact this)
      clear h hin HE hMe hMM hpw
      go_enter Tryz.func43, Tryz.ntmps43
      go_wp2_with fail
      refine (HA.out _).mono ?_
      rintro e w1 ⟨rfl, hb1⟩
      have X1 := Lib.hid (HS.out.on hb1)
      have HO1 : Hid (OwnsZ w1 (w.heap.size + 1) (.slice (some ⟨w.heap.size + 1, 0, none⟩) 0 0) (setsTo q 0)) := Lib.hid (ownsZ_on HO0.out hb1)
      clear hb1 x0 x1 HO0
      obtain ⟨x0, x1, -⟩ := X1.out
      go_wp2_with fail
      refine (HL.out _).mono ?_
      rintro e w' ⟨rfl, rfl⟩
      go_wp2
      go_loopw [5, 6] (fun vv c wr => ∃ p : Nat, p ≤ M ∧ c = .int .i64 p ∧ Hid (OwnsZ wr (w.heap.size + 1) vv (setsTo q p)) ∧ Hid (Box w m s wr)) (fun _ c _ => M - (intOf c).toNat)
      case atStart => exact ⟨0, Nat.zero_le _, rfl, HO1, X1⟩
      case round =>
        obtain ⟨p, hp, rfl, HO, HB⟩ := hrel
        obtain ⟨c0, c1, B0⟩ := HB.out
        have hw0 : w.heap.size < wr.heap.size := Kit.cell_lt c0
        by_cases hlt : p < M
        · have hpl := HSL.out p
          have HC := Lib.hid (HBI.out p hlt)
          have HD := Lib.hid (HAP.out p hlt)
          have HQP := Lib.hid (HQ.out p)
          have HHP := Lib.hid (HH.out p)
          have HMP := Lib.hid (HMI.out p)
          generalize pc p = t at HC HQP
          generalize ac p = r at HD HQP
          generalize setsTo q p = xs at HO hpl HHP HMP
          cases ht : (((t : Nat) : Int) == k)
          · have HE := Lib.hid (HMP.out (by rw [HQP.out, ht]; rfl))
            have HO5 := HO
            rw [← HE.out] at HO5
            go_wp2_with fail
            refine (HC.out _).mono ?_
            rintro e w' ⟨rfl, rfl⟩
            go_wp2
            exact ⟨⟨p + 1, by omega, by go_num, HO5, HB⟩, by simp only [intOf]; omega⟩
          · cases r
            · have HE := Lib.hid (HMP.out (by rw [HQP.out, ht]; rfl))
              go_wp2_with fail
              refine (HC.out _).mono ?_
              rintro e w' ⟨rfl, rfl⟩
              go_wp2_with fail
              refine (HD.out _).mono ?_
              rintro e w2 ⟨rfl, hb2⟩
              have X2 := Lib.hid (HB.out.on hb2)
              have HO5 := Lib.hid (ownsZ_on HO.out hb2)
              rw [← HE.out] at HO5
              clear hb2 c0 c1
              go_wp2
              exact ⟨⟨p + 1, by omega, by go_num, HO5, X2⟩, by simp only [intOf]; omega⟩
            · have HE := Lib.hid (HHP.out (by rw [HQP.out, ht]; rfl))
              go_wp2_with fail
              refine (HC.out _).mono ?_
              rintro e w' ⟨rfl, rfl⟩
              go_wp2_with fail
              refine (HD.out _).mono ?_
              rintro e w2 ⟨rfl, hb2⟩
              have X2 := Lib.hid (HB.out.on hb2)
              have HO2 := Lib.hid (ownsZ_on HO.out hb2)
              have hs2 := hb2.size
              have B2 := X2.out.2.2
              clear hb2 c0 c1
              go_wp2_with (at_builtin; refine wpList_append_own _ rfl (.tmp 36) (.tmp 38) 28 rfl (w.heap.size + 1) 3 i0 _ 1 8 Tryz.underlying28 hi hz0 hz1 hz2 rfl (by decide) _ _ _ rfl (World.ownsRow.alloc HO2.out _) ⟨_, 0, none⟩ 1 1 [.int .i64 (p : Int)] rfl rfl (news1 _ _ _) (one1 _) (by simp only [maxLen]; omega) (by omega) (by simp; omega) ?_)
              intro v6 w6 hown6 hg6 _
              have HX6 : Hid (Box w m s w6) := Lib.hid (by
                have hbx := X2.out.alloc (.cells #[.int .i64 (p : Int)] 3)
                refine hbx.block (hg6.block _ (by simp; omega) (fun e => ?_)) (hbx.2.2.grown hg6 (by simp; omega) (fun q hq => by have := (World.ownsRow.lt HO2.out q hq).1; omega))
                have := (World.ownsRow.lt HO2.out _ e.symm).1
                omega)
              have HO6 : Hid (OwnsZ w6 (w.heap.size + 1) v6 (xs ++ [(p : Int)])) := Lib.hid (ownsZ_snoc (ys := [(p : Int)]) hown6)
              rw [← HE.out] at HO6
              clear hown6 hg6
              go_wp2
              exact ⟨⟨p + 1, by omega, by go_num, HO6, HX6⟩, by simp only [intOf]; omega⟩
        · obtain rfl : p = M := by omega
          obtain ⟨ra, rc, rfl, hnew, -⟩ := New.of_own HO.out
          have HN := Lib.hid hnew
          clear hnew
          go_wp2
          go_ret
          exact ⟨⟨_, _, rfl, new_low HN.out (by omega)⟩, B0⟩
end Go.Proofs.YtflcpgdgoencgaaGreatDoor.Sg
/- What lies left, as spec tells it: LeftTable. -/
namespace Go.Proofs.YtflcpgdgoencgaaGreatDoor.Sg
open Go.RowKit Pt NewI NewII
/-- A row of the table, and the table. -/
def rowT (q : Nat → Nat → Nat) (a k : Nat) : List Int := (List.range k).map fun j => if a = j then 0 else ((q a j : Nat) : Int)
def tabT (q : Nat → Nat → Nat) (n i : Nat) : List (List Int) := (List.range i).map fun a => rowT q a n
theorem rowT_succ (q : Nat → Nat → Nat) (a k : Nat) : rowT q a (k + 1) = rowT q a k ++ [if a = k then 0 else ((q a k : Nat) : Int)] := by unfold rowT; rw [List.range_succ, List.map_append]; rfl
theorem rowT_len (q : Nat → Nat → Nat) (a k : Nat) : (rowT q a k).length = k := by unfold rowT; simp
theorem tabT_succ (q : Nat → Nat → Nat) (n i : Nat) : tabT q n (i + 1) = tabT q n i ++ [rowT q i n] := by unfold tabT; rw [List.range_succ, List.map_append]; rfl
theorem tabT_len (q : Nat → Nat → Nat) (n i : Nat) : (tabT q n i).length = i := by unfold tabT; simp
/-- What LeftTable answers. -/
def tabZ (n : Int) (s : List UInt8) : List (List Int) := if aciB n s = true then tabT (leftN (sgnF (lookS n s)) n.toNat) n.toNat n.toNat else []
set_option maxHeartbeats 3200000 in
set_option maxRecDepth 100000 in
theorem specLeftTable (n : Int) (s : ByteArray) (hs : s.size ≤ 9223372036854775807) (w : World) :
    Calls Tryz.prog 42 #[sg n s] w fun e w' => Got2 w.heap.size (tabZ n s.data.toList) e w' ∧ Below w.heap.size w w' := by
  have HA := Lib.hid (fun W => specAci n s hs W)
  have HS := Lib.hid ((box_made w n s 25).alloc (.cells #[] 28))
  have hsz : (w.alloc (.cells #[.int .i64 n, .string s] 25)).heap.size = w.heap.size + 1 := by simp
  obtain ⟨x0, x1, xb⟩ := HS.out
  cases h : aciB n s.data.toList
  · have HE : Hid (tabZ n s.data.toList = []) := Lib.hid (by unfold tabZ; rw [h]; rfl)
    rw [h] at HA
    clear h
    by_cases hn : 0 < n
    · clear xb
      go_enter Tryz.func42, Tryz.ntmps42
      go_wp2
      refine wp_loop_rounds 1 ?_
      rw [rounds_succ]
      go_wp2_with fail
      refine (HA.out _).mono ?_
      rintro e w1 ⟨rfl, hb1⟩
      have B1 := Lib.hid (HS.out.on hb1).2.2
      clear hb1 x0 x1
      go_wp2
      go_ret
      exact ⟨by rw [HE.out]; exact ⟨_, _, rfl, .inl rfl⟩, B1.out⟩
    · go_enter Tryz.func42, Tryz.ntmps42
      go_wp2
      refine wp_loop_rounds 1 ?_
      rw [rounds_succ]
      go_wp2
      go_ret
      exact ⟨by rw [HE.out]; exact ⟨_, _, rfl, .inl rfl⟩, xb⟩
  · obtain ⟨h3, h7⟩ := aciB_n h
    obtain ⟨m, rfl⟩ : ∃ m : Nat, n = m := ⟨n.toNat, by omega⟩
    have h7 : m ≤ 7 := by omega
    have har := matB_ar (aciB_mat h)
    have HE : Hid (tabZ m s.data.toList = tabT (leftN (sgnF (lookS m s.data.toList)) m) m m) := Lib.hid (by unfold tabZ; rw [if_pos h, Int.toNat_natCast])
    have HL : Hid (∀ i j : Nat, i < m → j < m → i ≠ j → ∀ W, Calls Tryz.prog 81 #[sg m s, .int .i64 i, .int .i64 j] W fun e w' => e = .returned (.int .i64 (leftN (sgnF (lookS m s.data.toList)) m i j : Nat)) ∧ Below W.heap.size W w') := Lib.hid (fun i j hi hj hij W => l7Left_any m s har i j hi hj hij W)
    obtain ⟨i0, hi, hz0, hz1, hz2⟩ := info_parts infoL
    obtain ⟨j0, hj, jz0, jz1, jz2⟩ := info_parts infoI
    rw [HE.out]
    rw [h] at HA
    generalize leftN (sgnF (lookS m s.data.toList)) m = q at HL ⊢
    have HRS := Lib.hid (rowT_succ q)
    have HTS := Lib.hid (tabT_succ q m)
    have HRL := Lib.hid (rowT_len q)
    have HTL := Lib.hid (tabT_len q m)
    have HR0 : Hid (∀ a, rowT q a 0 = []) := Lib.hid (fun a => rfl)
    have HT0 : Hid (tabT q m 0 = []) := Lib.hid rfl
    generalize tabT q m = tt at HTS HTL HT0 ⊢
    generalize rowT q = rr at HRS HRL HTS HR0
    clear h har HE xb
    have HO0 := Lib.hid (OwnL.made (w.alloc (.cells #[.int .i64 m, .string s] 25)) (w.heap.size + 1) (w.heap.size + 1) (by rw [hsz]; exact Nat.le_refl _))
    rw [hsz] at HO0
    have HO1 : Hid (OwnL ((w.alloc (.cells #[.int .i64 m, .string s] 25)).alloc (.cells #[] 28)) (w.heap.size + 1) ((w.alloc (.cells #[.int .i64 m, .string s] 25)).alloc (.cells #[] 28)).heap.size (.slice (some ⟨w.heap.size + 1, 0, none⟩) 0 0) (tt 0)) := Lib.hid (by rw [HT0.out]; exact HO0.out.top)
    clear HO0
    go_enter Tryz.func42, Tryz.ntmps42
    go_wp2
    go_loopw [3, 4] (fun vv x wr => ∃ i : Nat, i ≤ m ∧ x = .int .i64 i ∧ Hid (OwnL wr (w.heap.size + 1) wr.heap.size vv (tt i)) ∧ Hid (Box w m s wr)) (fun _ x _ => m - (intOf x).toNat)
    case atStart => exact ⟨0, Nat.zero_le _, rfl, HO1, HS⟩
    case round =>
      obtain ⟨i, him, rfl, HV, HB⟩ := hrel
      obtain ⟨c0, c1, B0⟩ := HB.out
      by_cases hlt : i < m
      · go_wp2_with fail
        refine (HA.out _).mono ?_
        rintro e w1 ⟨rfl, hb1⟩
        have X1 := Lib.hid (HB.out.on hb1)
        have V1 := Lib.hid (HV.out.on hb1).top
        clear hb1 c0 c1 B0 HV HB
        obtain ⟨c0, c1, -⟩ := X1.out
        have hw1 : w.heap.size < w1.heap.size := Kit.cell_lt c0
        have HR1 : Hid (OwnsZ (w1.alloc (.cells #[] 3)) w1.heap.size (.slice (some ⟨w1.heap.size, 0, none⟩) 0 0) (rr i 0)) := Lib.hid (by
          rw [HR0.out]
          exact World.ownsRow_made (base := w1.heap.size) (e := 3) (size := 1) w1 #[] 0 (Nat.le_refl _) (by decide) rfl)
        have HB1 : Hid (Below w1.heap.size w1 (w1.alloc (.cells #[] 3))) := Lib.hid ((Below.refl _ _).alloc (Nat.le_refl _) _)
        have HBX : Hid (∀ W, Below w1.heap.size w1 W → Box w m s W) := Lib.hid (fun W hW => X1.out.on hW)
        obtain ⟨c0, c1, -⟩ := HBX.out _ HB1.out
        go_wp2
        go_loopw [5, 6] (fun vv x wr => ∃ j : Nat, j ≤ m ∧ x = .int .i64 j ∧ Hid (OwnsZ wr w1.heap.size vv (rr i j)) ∧ Hid (Below w1.heap.size w1 wr)) (fun _ x _ => m - (intOf x).toNat)
        case atStart => exact ⟨0, Nat.zero_le _, rfl, HR1, HB1⟩
        case round =>
          obtain ⟨j, hjm, rfl, HO, HBb⟩ := hrel
          obtain ⟨c0, c1, -⟩ := HBX.out _ HBb.out
          have hwr := HBb.out.size
          have hrl : (rr i j).length ≤ 7 := by rw [HRL.out]; omega
          have hrj : (rr i j).length ≠ 0 ∨ j = 0 := by rw [HRL.out]; omega
          by_cases hlt2 : j < m
          · have HN := Lib.hid (HRS.out i j)
            by_cases hij : i = j
            · have HN2 : Hid (rr i (j + 1) = rr i j ++ [0]) := Lib.hid (by rw [HN.out, if_pos hij])
              have t1 : ((i : Int) != (j : Int)) = false := by simp; omega
              clear hij HN
              clear hrj
              generalize rr i j = ys at HO HN2 hrl
              go_wp2_with (at_builtin; refine wpList_append_own _ rfl (.tmp 33) (.tmp 35) 28 rfl w1.heap.size 3 j0 _ 1 8 Tryz.underlying28 hj jz0 jz1 jz2 rfl (by decide) _ _ _ rfl (World.ownsRow.alloc HO.out _) ⟨_, 0, none⟩ 1 1 [.int .i64 0] rfl rfl (news1 _ _ _) (one1 _) (by simp only [maxLen]; omega) (by omega) (by simp; omega) ?_)
              intro v6 w6 hown6 hg6 _
              have HB6 := Lib.hid ((HBb.out.alloc hwr (.cells #[.int .i64 0] 3)).grown hg6 (by simp; omega) (fun k hk => (World.ownsRow.lt HO.out k hk).1))
              have HO6 : Hid (OwnsZ w6 w1.heap.size v6 (ys ++ [0])) := Lib.hid (ownsZ_snoc (ys := [0]) hown6)
              rw [← HN2.out] at HO6
              clear hown6 hg6
              go_wp2
              exact ⟨⟨j + 1, by omega, by go_num, HO6, HB6⟩, by simp only [intOf]; omega⟩
            · have HC := Lib.hid (HL.out i j hlt hlt2 hij)
              have HN2 : Hid (rr i (j + 1) = rr i j ++ [((q i j : Nat) : Int)]) := Lib.hid (by rw [HN.out, if_neg hij])
              have t1 : ((i : Int) != (j : Int)) = true := by simp; omega
              clear hij HN
              clear hrj
              generalize rr i j = ys at HO HN2 hrl
              generalize q i j = v at HC HN2
              go_wp2_with fail
              refine (HC.out _).mono ?_
              rintro e w2 ⟨rfl, hb2⟩
              have HO2 := Lib.hid (ownsZ_on HO.out hb2)
              have HBb2 := Lib.hid (HBb.out.trans (hb2.mono hwr))
              have hw2 := HBb2.out.size
              clear hb2 c0 c1
              go_wp2_with (at_builtin; refine wpList_append_own _ rfl (.tmp 33) (.tmp 35) 28 rfl w1.heap.size 3 j0 _ 1 8 Tryz.underlying28 hj jz0 jz1 jz2 rfl (by decide) _ _ _ rfl (World.ownsRow.alloc HO2.out _) ⟨_, 0, none⟩ 1 1 [.int .i64 (v : Int)] rfl rfl (news1 _ _ _) (one1 _) (by simp only [maxLen]; omega) (by omega) (by simp; omega) ?_)
              intro v6 w6 hown6 hg6 _
              have HB6 := Lib.hid ((HBb2.out.alloc hw2 (.cells #[.int .i64 (v : Int)] 3)).grown hg6 (by simp; omega) (fun k hk => (World.ownsRow.lt HO2.out k hk).1))
              have HO6 : Hid (OwnsZ w6 w1.heap.size v6 (ys ++ [(v : Int)])) := Lib.hid (ownsZ_snoc (ys := [(v : Int)]) hown6)
              rw [← HN2.out] at HO6
              clear hown6 hg6
              go_wp2
              exact ⟨⟨j + 1, by omega, by go_num, HO6, HB6⟩, by simp only [intOf]; omega⟩
          · obtain rfl : j = m := by omega
            have HN := Lib.hid (HTS.out i)
            have htl : (tt i).length ≤ 7 := by rw [HTL.out]; omega
            have V2 := Lib.hid (V1.out.on HBb.out)
            obtain ⟨-, ⟨hvn, hz0'⟩ | ⟨gb, gc, cur, rfl, hgB, hgh, hgr⟩⟩ := id HO.out
            · omega
            · have hglt := (World.ownsRow.lt HO.out gb rfl).2
              have X2 := Lib.hid (HBX.out _ HBb.out)
              have G2 : Hid (Cells wr gb (rr i j).length (zc (rr i j))) := Lib.hid ⟨fun k hk => by rw [World.ownsRow.cellAt HO.out k (by omega), List.getElem?_map, List.getElem?_eq_getElem hk, zc_lt hk]; rfl, fun k => World.ownsRow.frozenAt HO.out k, hglt⟩
              have HCS2 : Hid (∃ cs, wr.heap[gb]? = some (Obj.cells cs 3)) := Lib.hid ⟨_, hgh⟩
              clear hrj hgh hgr HO
              generalize rr i j = zs at HN G2 hrl
              generalize tt i = xs at V2 HN htl
              obtain ⟨LV, hLV⟩ := V2.out.row
              have HL3 := Lib.hid hLV
              have B2 := X2.out.2.2
              clear hLV
              go_wp2_with (at_builtin; refine wpList_append_own _ rfl (.tmp 37) (.tmp 39) 42 rfl (w.heap.size + 1) 28 i0 _ 1 24 Tryz.underlying42 hi hz0 hz1 hz2 rfl (by decide) _ _ _ rfl (World.ownsRow.alloc HL3.out _) ⟨_, 0, none⟩ 1 1 [.slice (some ⟨gb, 0, none⟩) zs.length gc] rfl rfl (newsR _ _ _) (oneR _ _ _) (by simp only [maxLen]; omega) (by omega) (by simp; omega) ?_)
              intro v1 w5 hown hg _
              have hal := (Below.refl wr.heap.size wr).alloc (Nat.le_refl _) (.cells #[.slice (some ⟨gb, 0, none⟩) zs.length gc] 28)
              have HV5 : Hid (OwnL w5 (w.heap.size + 1) w5.heap.size v1 (xs ++ [zs])) := Lib.hid (by
                obtain ⟨cs, hcs⟩ := HCS2.out
                exact (OwnL.snoc (g := (gb, gc)) (zs := zs) (V2.out.on hal) (by show w.heap.size + 1 ≤ gb; omega) (by show w1.heap.size ≤ gb; omega) ⟨cs, by rw [hal.block _ G2.out.lt]; exact hcs⟩ (G2.out.on hal) hg (World.ownsRow.alloc HL3.out _) hown).top)
              have HX5 : Hid (Box w j s w5) := Lib.hid (by
                have hbx := X2.out.alloc (.cells #[.slice (some ⟨gb, 0, none⟩) zs.length gc] 28)
                refine hbx.block (hg.block _ (by simp; omega) (fun e => ?_)) (hbx.2.2.grown hg (by simp; omega) (fun q hq => by have := (World.ownsRow.lt HL3.out q hq).1; omega))
                have := (World.ownsRow.lt HL3.out _ e.symm).1
                omega)
              rw [← HN.out] at HV5
              clear hown hg hal
              go_wp2
              exact ⟨⟨i + 1, by omega, by go_num, HV5, HX5⟩, by simp only [intOf]; omega⟩
      · obtain rfl : i = m := by omega
        obtain ⟨a2, c2, hv, hli⟩ := Lists.of_own HV.out
        subst hv
        have HLI := Lib.hid hli
        clear HV hli
        go_wp2
        go_ret
        exact ⟨⟨a2, c2, rfl, HLI.out.low (by omega)⟩, B0⟩
end Go.Proofs.YtflcpgdgoencgaaGreatDoor.Sg
/- What lies left, as spec tells it: CrossingSum. -/
namespace Go.Proofs.YtflcpgdgoencgaaGreatDoor.Sg
open Go.RowKit Pt NewI
/-- The crossing sum of the pairs before i, j. -/
def crossJ (F : Int → Int → Int → Int) (n i j : Nat) : Nat := ((List.range' (i + 1) (j - (i + 1))).map fun b => leftN F n i b * leftN F n b i).sum
def crossI (F : Int → Int → Int → Int) (n i : Nat) : Nat := ((List.range i).map fun a => crossJ F n a n).sum
theorem crossJ_zero (F : Int → Int → Int → Int) (n i : Nat) : crossJ F n i (i + 1) = 0 := by unfold crossJ; simp
theorem crossJ_succ (F : Int → Int → Int → Int) {n i j : Nat} (h : i < j) : crossJ F n i (j + 1) = crossJ F n i j + leftN F n i j * leftN F n j i := by
  unfold crossJ
  rw [show j + 1 - (i + 1) = (j - (i + 1)) + 1 by omega, List.range'_concat, List.map_append, List.sum_append]
  simp only [List.map_cons, List.map_nil, List.sum_cons, List.sum_nil, Nat.one_mul, Nat.add_zero]
  rw [show i + 1 + (j - (i + 1)) = j by omega]
theorem crossI_zero (F : Int → Int → Int → Int) (n : Nat) : crossI F n 0 = 0 := rfl
theorem crossI_succ (F : Int → Int → Int → Int) (n i : Nat) : crossI F n (i + 1) = crossI F n i + crossJ F n i n := by
  unfold crossI
  rw [List.range_succ, List.map_append, List.sum_append]
  simp
theorem sum_flat {α β : Type} (f : α → List β) (g : β → Nat) : ∀ L : List α, ((L.flatMap f).map g).sum = (L.map fun a => ((f a).map g).sum).sum
  | [] => rfl
  | a :: L => by rw [List.flatMap_cons, List.map_append, List.sum_append, sum_flat f g L]; rfl
theorem crossI_all (F : Int → Int → Int → Int) (n : Nat) : crossI F n n = crossN F n := by
  unfold crossI crossN pairsU
  rw [sum_flat]
  congr 1
  refine List.map_congr_left fun i _ => ?_
  unfold crossJ
  rw [List.map_map]
  rfl
theorem leftN_le (F : Int → Int → Int → Int) (n i j : Nat) : leftN F n i j ≤ n := by
  unfold leftN
  exact Nat.le_trans List.countP_le_length (by simp)
/-- What CrossingSum answers. -/
def crossZ (n : Int) (s : List UInt8) : Int := if aciB n s = true then (crossN (sgnF (lookS n s)) n.toNat : Nat) else 0
set_option maxHeartbeats 1600000 in
set_option maxRecDepth 100000 in
theorem specCrossing (n : Int) (s : ByteArray) (hs : s.size ≤ 9223372036854775807) (w : World) :
    Calls Tryz.prog 46 #[sg n s] w fun e w' => e = .returned (.int .i64 (crossZ n s.data.toList)) ∧ Below w.heap.size w w' := by
  have HA := Lib.hid (fun W => specAci n s hs W)
  have HS := Lib.hid (box_made w n s 25)
  obtain ⟨x0, x1, -⟩ := HS.out
  cases h : aciB n s.data.toList
  · have HE : Hid (crossZ n s.data.toList = 0) := Lib.hid (by unfold crossZ; rw [h]; rfl)
    rw [h] at HA
    clear h
    go_enter Tryz.func46, Tryz.ntmps46
    go_wp2_with fail
    refine (HA.out _).mono ?_
    rintro e w1 ⟨rfl, hb1⟩
    have B1 := Lib.hid (HS.out.on hb1).2.2
    clear hb1 x0 x1
    go_wp2
    go_ret
    exact ⟨ret_int HE.out.symm, B1.out⟩
  · obtain ⟨h3, h7⟩ := aciB_n h
    obtain ⟨n, rfl⟩ : ∃ m : Nat, n = m := ⟨n.toNat, by omega⟩
    have h7 : n ≤ 7 := by omega
    have har := matB_ar (aciB_mat h)
    have HE : Hid (crossZ n s.data.toList = (crossI (sgnF (lookS n s.data.toList)) n n : Nat)) := Lib.hid (by unfold crossZ; rw [if_pos h, Int.toNat_natCast, crossI_all])
    have HL : Hid (∀ i j : Nat, i < n → j < n → i ≠ j → ∀ W, Calls Tryz.prog 81 #[sg n s, .int .i64 i, .int .i64 j] W fun e w' => e = .returned (.int .i64 (leftN (sgnF (lookS n s.data.toList)) n i j : Nat)) ∧ Below W.heap.size W w') := Lib.hid (fun i j hi hj hij W => l7Left_any n s har i j hi hj hij W)
    rw [HE.out]
    rw [h] at HA
    generalize sgnF (lookS n s.data.toList) = F at HL ⊢
    have HJ0 := Lib.hid (crossJ_zero F n)
    have HJS := Lib.hid (fun i j (h : i < j) => crossJ_succ F (n := n) h)
    have HIS := Lib.hid (crossI_succ F n)
    have HI0 := Lib.hid (crossI_zero F n)
    have HLE := Lib.hid (leftN_le F n)
    generalize crossI F n = cI at HIS HI0 ⊢
    generalize crossJ F n = cJ at HIS HJ0 HJS
    generalize leftN F n = q at HL HJS HLE
    clear h har HE
    go_enter Tryz.func46, Tryz.ntmps46
    go_wp2_with fail
    refine (HA.out _).mono ?_
    rintro e w1 ⟨rfl, hb1⟩
    have X1 := Lib.hid (HS.out.on hb1)
    clear hb1 x0 x1
    obtain ⟨x0, x1, -⟩ := X1.out
    go_wp2
    go_loopw [3, 4] (fun sv x wr => ∃ i t : Nat, i ≤ n ∧ x = .int .i64 i ∧ sv = .int .i64 t ∧ t ≤ 343 * i ∧ Hid (t = cI i) ∧ Hid (Box w n s wr)) (fun _ x _ => n - (intOf x).toNat)
    case atStart => exact ⟨0, 0, Nat.zero_le _, rfl, rfl, by omega, Lib.hid HI0.out.symm, X1⟩
    case round =>
      obtain ⟨i, t, hin, rfl, rfl, ht, HT, HB⟩ := hrel
      obtain ⟨c0, c1, B0⟩ := HB.out
      by_cases hlt : i < n
      · go_wp2
        go_loopw [3, 5] (fun sv x wr => ∃ j t : Nat, i < j ∧ j ≤ n ∧ x = .int .i64 j ∧ sv = .int .i64 t ∧ t ≤ 343 * i + 49 * (j - 1) ∧ Hid (t = cI i + cJ i j) ∧ Hid (Box w n s wr)) (fun _ x _ => n - (intOf x).toNat)
        case atStart => exact ⟨i + 1, t, by omega, by omega, by go_num, rfl, by omega, Lib.hid (by rw [HT.out, HJ0.out]; rfl), HB⟩
        case round =>
          obtain ⟨j, t, hij, hjn, rfl, rfl, ht, HT, HB⟩ := hrel
          obtain ⟨c0, c1, B0⟩ := HB.out
          by_cases hlt2 : j < n
          · have HC1 := Lib.hid (HL.out i j hlt hlt2 (by omega))
            have HC2 := Lib.hid (HL.out j i hlt2 hlt (by omega))
            have l1 := HLE.out i j
            have l2 := HLE.out j i
            have HS2 := Lib.hid (HJS.out i j hij)
            generalize q i j = a at HC1 l1 HS2
            generalize q j i = b at HC2 l2 HS2
            have hm : a * b ≤ 7 * 7 := Nat.mul_le_mul (by omega) (by omega)
            have hcast : ((a : Int) * (b : Int)) = ((a * b : Nat) : Int) := by push_cast; rfl
            have HT2 : Hid (t + a * b = cI i + cJ i (j + 1)) := Lib.hid (by rw [HS2.out, HT.out]; omega)
            have HD1 : Hid (∀ W, Box w n s W → Calls Tryz.prog 81 #[sg n s, .int .i64 i, .int .i64 j] W fun e w' => e = .returned (.int .i64 (a : Nat)) ∧ w'.cell? ⟨w.heap.size, 0, none⟩ = some (.int .i64 n) ∧ w'.cell? ⟨w.heap.size, 1, none⟩ = some (.string s) ∧ Below w.heap.size w w') := Lib.hid (fun W hW => (HC1.out W).mono fun e w' ⟨he, hb⟩ => ⟨he, hW.on hb⟩)
            have HD2 : Hid (∀ W, Box w n s W → Calls Tryz.prog 81 #[sg n s, .int .i64 j, .int .i64 i] W fun e w' => e = .returned (.int .i64 (b : Nat)) ∧ w'.cell? ⟨w.heap.size, 0, none⟩ = some (.int .i64 n) ∧ w'.cell? ⟨w.heap.size, 1, none⟩ = some (.string s) ∧ Below w.heap.size w w') := Lib.hid (fun W hW => (HC2.out W).mono fun e w' ⟨he, hb⟩ => ⟨he, hW.on hb⟩)
            clear HB HC1 HC2
            go_wp2
            have hS0 : wr.drew.cell? ⟨w.heap.size, 0, none⟩ = some (.int .i64 n) ∧ wr.drew.cell? ⟨w.heap.size, 1, none⟩ = some (.string s) ∧ Below w.heap.size w wr.drew := ⟨c0, c1, B0.drew⟩
            obtain ⟨P, hP⟩ : ∃ P : Nat, P = a * b := ⟨_, rfl⟩
            have vm : IntKind.i64.wrap ((a : Int) * (b : Int)) = (P : Int) := by rw [hcast, hP]; exact IntWalk.i64_in _ (by omega)
            obtain ⟨Q, hQ⟩ : ∃ Q : Nat, Q = t + P := ⟨_, rfl⟩
            have hQl : Q ≤ 343 * i + 49 * j := by omega
            have HT3 : Hid (Q = cI i + cJ i (j + 1)) := Lib.hid (by rw [hQ, hP]; exact HT2.out)
            have va : IntKind.i64.wrap ((t : Int) + (P : Int)) = (Q : Int) := by rw [show (t : Int) + (P : Int) = (Q : Int) by omega]; exact IntWalk.i64_in _ (by omega)
            clear hcast hm hP hQ HT2 ht
            refine wp_region_held (S := fun W => W.cell? ⟨w.heap.size, 0, none⟩ = some (.int .i64 n) ∧ W.cell? ⟨w.heap.size, 1, none⟩ = some (.string s) ∧ Below w.heap.size w W) rfl ?_
            have hHeld := (hS0)
            (refine Held.takeH (i := 0) (k := 23) (v := ?_) rfl (by as_aux_lemma => kernel_rfl) (by as_aux_lemma => kernel_rfl) (by as_aux_lemma => kernel_rfl) (by as_aux_lemma => kernel_rfl) (fun _ _ _ h => h) (Or.inl ⟨by rfl, ?_⟩) (by assumption) ?_; rotate_left; (focus (intro w hSw; (try dsimp only at hSw); go_simp; (try with_reducible rfl))); (simp only [List.setIfInBounds_toArray, List.set_cons_zero, List.set_cons_succ]))
            (refine Held.takeH (i := 1) (k := 24) (v := ?_) rfl (by as_aux_lemma => kernel_rfl) (by as_aux_lemma => kernel_rfl) (by as_aux_lemma => kernel_rfl) (by as_aux_lemma => kernel_rfl) (fun _ _ _ h => h) (Or.inl ⟨by rfl, ?_⟩) (by assumption) ?_; rotate_left; (focus (intro w hSw; (try dsimp only at hSw); go_simp; (try with_reducible rfl))); (simp only [List.setIfInBounds_toArray, List.set_cons_zero, List.set_cons_succ]))
            (refine Held.takeH (i := 2) (k := 25) (v := ?_) rfl (by as_aux_lemma => kernel_rfl) (by as_aux_lemma => kernel_rfl) (by as_aux_lemma => kernel_rfl) (by as_aux_lemma => kernel_rfl) (fun _ _ _ h => h) (Or.inl ⟨by rfl, ?_⟩) (by assumption) ?_; rotate_left; (focus (intro w hSw; (try dsimp only at hSw); go_simp; (try with_reducible rfl))); (simp only [List.setIfInBounds_toArray, List.set_cons_zero, List.set_cons_succ]))
            (refine Held.takeH (i := 3) (k := 26) (v := ?_) rfl (by as_aux_lemma => kernel_rfl) (by as_aux_lemma => kernel_rfl) (by as_aux_lemma => kernel_rfl) (by as_aux_lemma => kernel_rfl) (fun _ _ _ h => h) (Or.inl ⟨by rfl, ?_⟩) (by assumption) ?_; rotate_left; (focus (intro w hSw; (try dsimp only at hSw); go_simp; (try with_reducible rfl))); (simp only [List.setIfInBounds_toArray, List.set_cons_zero, List.set_cons_succ]))
            (refine Held.takeH (i := 5) (k := 28) (v := ?_) rfl (by as_aux_lemma => kernel_rfl) (by as_aux_lemma => kernel_rfl) (by as_aux_lemma => kernel_rfl) (by as_aux_lemma => kernel_rfl) (fun _ _ _ h => h) (Or.inl ⟨by rfl, ?_⟩) (by assumption) ?_; rotate_left; (focus (intro w hSw; (try dsimp only at hSw); go_simp; (try with_reducible rfl))); (simp only [List.setIfInBounds_toArray, List.set_cons_zero, List.set_cons_succ]))
            (refine Held.takeH (i := 6) (k := 29) (v := ?_) rfl (by as_aux_lemma => kernel_rfl) (by as_aux_lemma => kernel_rfl) (by as_aux_lemma => kernel_rfl) (by as_aux_lemma => kernel_rfl) (fun _ _ _ h => h) (Or.inl ⟨by rfl, ?_⟩) (by assumption) ?_; rotate_left; (focus (intro w hSw; (try dsimp only at hSw); go_simp; (try with_reducible rfl))); (simp only [List.setIfInBounds_toArray, List.set_cons_zero, List.set_cons_succ]))
            (refine Held.takeH (i := 7) (k := 30) (v := ?_) rfl (by as_aux_lemma => kernel_rfl) (by as_aux_lemma => kernel_rfl) (by as_aux_lemma => kernel_rfl) (by as_aux_lemma => kernel_rfl) (fun _ _ _ h => h) (Or.inl ⟨by rfl, ?_⟩) (by assumption) ?_; rotate_left; (focus (intro w hSw; (try dsimp only at hSw); go_simp; (try with_reducible rfl))); (simp only [List.setIfInBounds_toArray, List.set_cons_zero, List.set_cons_succ]))
            refine wpAnyH_ready (rs := [4]) (by as_aux_lemma => kernel_rfl) (by simp) ?_
            refine AllReadyH.cons rfl (fun K hK => ?_) AllReadyH.nil
            go_simp
            refine (HD1.out _ hHeld).mono ?_
            rintro e' w' ⟨rfl, hS'⟩
            refine hK.out _ _ hS' (fun hHeld => ?_)
            clear hK K
            try simp only [Act.put, List.setIfInBounds_toArray, List.set_cons_zero, List.set_cons_succ]
            refine wpAnyH_ready (rs := [8]) (by as_aux_lemma => kernel_rfl) (by simp) ?_
            refine AllReadyH.cons rfl (fun K hK => ?_) AllReadyH.nil
            go_simp
            refine (HD2.out _ hHeld).mono ?_
            rintro e' w' ⟨rfl, hS'⟩
            refine hK.out _ _ hS' (fun hHeld => ?_)
            clear hK K
            try simp only [Act.put, List.setIfInBounds_toArray, List.set_cons_zero, List.set_cons_succ]
            (refine Held.takeH (i := 9) (k := 32) (v := .int .i64 (P : Int)) rfl (by as_aux_lemma => kernel_rfl) (by as_aux_lemma => kernel_rfl) (by as_aux_lemma => kernel_rfl) (by as_aux_lemma => kernel_rfl) (fun _ _ _ h => h) (Or.inl ⟨by rfl, ?_⟩) (by assumption) ?_; (focus (intro w hSw; (try dsimp only at hSw); go_simp; (try simp only [vm, va]); (try rfl))); (simp only [List.setIfInBounds_toArray, List.set_cons_zero, List.set_cons_succ]))
            (refine Held.takeH (i := 10) (k := 33) (v := .int .i64 (Q : Int)) rfl (by as_aux_lemma => kernel_rfl) (by as_aux_lemma => kernel_rfl) (by as_aux_lemma => kernel_rfl) (by as_aux_lemma => kernel_rfl) (fun _ _ _ h => h) (Or.inl ⟨by rfl, ?_⟩) (by assumption) ?_; (focus (intro w hSw; (try dsimp only at hSw); go_simp; (try simp only [vm, va]); (try rfl))); (simp only [List.setIfInBounds_toArray, List.set_cons_zero, List.set_cons_succ]))
            (refine Held.takeH (i := 11) (k := 3) (v := .int .i64 (Q : Int)) rfl (by as_aux_lemma => kernel_rfl) (by as_aux_lemma => kernel_rfl) (by as_aux_lemma => kernel_rfl) (by as_aux_lemma => kernel_rfl) (fun _ _ _ h => h) (Or.inl ⟨by rfl, ?_⟩) (by assumption) ?_; (focus (intro w hSw; (try dsimp only at hSw); go_simp; (try simp only [vm, va]); (try rfl))); (simp only [List.setIfInBounds_toArray, List.set_cons_zero, List.set_cons_succ]))
            refine wpAnyH_done (by as_aux_lemma => kernel_rfl) ?_ _
            go_wp2
            exact ⟨⟨j + 1, Q, by omega, by omega, by go_num, rfl, by omega, HT3, hHeld⟩, by simp only [intOf]; omega⟩
          · obtain rfl : j = n := by omega
            have HT2 : Hid (t = cI (i + 1)) := Lib.hid (by rw [HT.out, HIS.out])
            go_wp2
            exact ⟨⟨i + 1, t, by omega, by go_num, rfl, by omega, HT2, HB⟩, by simp only [intOf]; omega⟩
      · obtain rfl : i = n := by omega
        go_wp2
        go_ret
        exact ⟨ret_int (by rw [HT.out]), B0⟩
end Go.Proofs.YtflcpgdgoencgaaGreatDoor.Sg
/- What lies left, as spec tells it: HalvingPairs. -/
namespace Go.Proofs.YtflcpgdgoencgaaGreatDoor.Sg
open Go.RowKit Pt NewI NewII
/-- Have two elements as many on both sides, but for one? -/
def halvB (q : Nat → Nat → Nat) (i j : Nat) : Bool := inB (((q i j : Nat) : Int) - ((q j i : Nat) : Int)) (-1) 1
def halvJ (q : Nat → Nat → Nat) (i j : Nat) : List (List Int) := ((List.range' (i + 1) (j - (i + 1))).filter (halvB q i)).map fun (j : Nat) => [(i : Int), (j : Int)]
def halvI (q : Nat → Nat → Nat) (n i : Nat) : List (List Int) := (List.range i).flatMap fun a => halvJ q a n
theorem halvJ_zero (q : Nat → Nat → Nat) (i : Nat) : halvJ q i (i + 1) = [] := by unfold halvJ; simp
theorem halvJ_range {i j : Nat} (h : i < j) : List.range' (i + 1) (j + 1 - (i + 1)) = List.range' (i + 1) (j - (i + 1)) ++ [j] := by
  rw [show j + 1 - (i + 1) = (j - (i + 1)) + 1 by omega, List.range'_concat, Nat.one_mul, show i + 1 + (j - (i + 1)) = j by omega]
theorem halvJ_yes {q : Nat → Nat → Nat} {i j : Nat} (h : i < j) (hb : halvB q i j = true) : halvJ q i (j + 1) = halvJ q i j ++ [[(i : Int), (j : Int)]] := by
  unfold halvJ; rw [halvJ_range h, List.filter_append, List.map_append]; simp [hb]
theorem halvJ_no {q : Nat → Nat → Nat} {i j : Nat} (h : i < j) (hb : halvB q i j = false) : halvJ q i (j + 1) = halvJ q i j := by
  unfold halvJ; rw [halvJ_range h, List.filter_append, List.map_append]; simp [hb]
theorem halvI_succ (q : Nat → Nat → Nat) (n i : Nat) : halvI q n (i + 1) = halvI q n i ++ halvJ q i n := by unfold halvI; rw [List.range_succ, List.flatMap_append]; simp
/-- What HalvingPairs answers. -/
def halvZ (n : Int) (s : List UInt8) : List (List Int) := if aciB n s = true then halvI (leftN (sgnF (lookS n s)) n.toNat) n.toNat n.toNat else []
theorem cells2_zc (w : World) (a b : Int) (t : TypeId) : Cells (w.alloc (.cells #[.int .i64 a, .int .i64 b] t)) w.heap.size ([a, b] : List Int).length (zc [a, b]) := cells2_made w a b t
set_option maxHeartbeats 3200000 in
set_option maxRecDepth 100000 in
theorem specHalving (n : Int) (s : ByteArray) (hs : s.size ≤ 9223372036854775807) (w : World) :
    Calls Tryz.prog 44 #[sg n s] w fun e w' => Got2 w.heap.size (halvZ n s.data.toList) e w' ∧ Below w.heap.size w w' := by
  have HA := Lib.hid (fun W => specAci n s hs W)
  have HS := Lib.hid ((box_made w n s 25).alloc (.cells #[] 28))
  have hsz : (w.alloc (.cells #[.int .i64 n, .string s] 25)).heap.size = w.heap.size + 1 := by simp
  obtain ⟨x0, x1, xb⟩ := HS.out
  cases h : aciB n s.data.toList
  · have HE : Hid (halvZ n s.data.toList = []) := Lib.hid (by unfold halvZ; rw [h]; rfl)
    rw [h] at HA
    clear h
    by_cases hn : 0 < n
    · clear xb
      go_enter Tryz.func44, Tryz.ntmps44
      go_wp2
      refine wp_loop_rounds 1 ?_
      rw [rounds_succ]
      go_wp2_with fail
      refine (HA.out _).mono ?_
      rintro e w1 ⟨rfl, hb1⟩
      have B1 := Lib.hid (HS.out.on hb1).2.2
      clear hb1 x0 x1
      go_wp2
      go_ret
      exact ⟨by rw [HE.out]; exact ⟨_, _, rfl, .inl rfl⟩, B1.out⟩
    · go_enter Tryz.func44, Tryz.ntmps44
      go_wp2
      refine wp_loop_rounds 1 ?_
      rw [rounds_succ]
      go_wp2
      go_ret
      exact ⟨by rw [HE.out]; exact ⟨_, _, rfl, .inl rfl⟩, xb⟩
  · obtain ⟨h3, h7⟩ := aciB_n h
    obtain ⟨m, rfl⟩ : ∃ m : Nat, n = m := ⟨n.toNat, by omega⟩
    have h7 : m ≤ 7 := by omega
    have har := matB_ar (aciB_mat h)
    have HE : Hid (halvZ m s.data.toList = halvI (leftN (sgnF (lookS m s.data.toList)) m) m m) := Lib.hid (by unfold halvZ; rw [if_pos h, Int.toNat_natCast])
    have HL : Hid (∀ i j : Nat, i < m → j < m → i ≠ j → ∀ W, Calls Tryz.prog 81 #[sg m s, .int .i64 i, .int .i64 j] W fun e w' => e = .returned (.int .i64 (leftN (sgnF (lookS m s.data.toList)) m i j : Nat)) ∧ Below W.heap.size W w') := Lib.hid (fun i j hi hj hij W => l7Left_any m s har i j hi hj hij W)
    have HLE := Lib.hid (leftN_le (sgnF (lookS m s.data.toList)) m)
    obtain ⟨i0, hi, hz0, hz1, hz2⟩ := info_parts infoL
    rw [HE.out]
    rw [h] at HA
    generalize leftN (sgnF (lookS m s.data.toList)) m = q at HL HLE ⊢
    have HIS := Lib.hid (halvI_succ q m)
    have HJZ := Lib.hid (halvJ_zero q)
    have HJY := Lib.hid (fun i j => halvJ_yes (q := q) (i := i) (j := j))
    have HJN := Lib.hid (fun i j => halvJ_no (q := q) (i := i) (j := j))
    have HHB : Hid (∀ i j, halvB q i j = inB (((q i j : Nat) : Int) - ((q j i : Nat) : Int)) (-1) 1) := Lib.hid (fun i j => rfl)
    have HI0 : Hid (halvI q m 0 = []) := Lib.hid rfl
    generalize halvI q m = hI at HIS HI0 ⊢
    generalize halvJ q = hJ at HIS HJZ HJY HJN
    generalize halvB q = hB at HHB HJY HJN
    clear h har HE xb
    have HO0 := Lib.hid (OwnL.made (w.alloc (.cells #[.int .i64 m, .string s] 25)) (w.heap.size + 1) (w.heap.size + 1) (by rw [hsz]; exact Nat.le_refl _))
    rw [hsz] at HO0
    have HO1 : Hid (OwnL ((w.alloc (.cells #[.int .i64 m, .string s] 25)).alloc (.cells #[] 28)) (w.heap.size + 1) ((w.alloc (.cells #[.int .i64 m, .string s] 25)).alloc (.cells #[] 28)).heap.size (.slice (some ⟨w.heap.size + 1, 0, none⟩) 0 0) []) := Lib.hid HO0.out.top
    clear HO0
    go_enter Tryz.func44, Tryz.ntmps44
    go_wp2
    go_loopw [3, 4] (fun vv x wr => ∃ (i : Nat) (L : List (List Int)), i ≤ m ∧ x = .int .i64 i ∧ L.length ≤ 7 * i ∧ Hid (L = hI i) ∧ Hid (OwnL wr (w.heap.size + 1) wr.heap.size vv L) ∧ Hid (Box w m s wr)) (fun _ x _ => m - (intOf x).toNat)
    case atStart => exact ⟨0, [], Nat.zero_le _, rfl, by simp, Lib.hid HI0.out.symm, HO1, HS⟩
    case round =>
      obtain ⟨i, L, him, rfl, hll, HLI, HV, HB⟩ := hrel
      obtain ⟨c0, c1, B0⟩ := HB.out
      by_cases hlt : i < m
      · go_wp2_with fail
        refine (HA.out _).mono ?_
        rintro e w1 ⟨rfl, hb1⟩
        have X1 := Lib.hid (HB.out.on hb1)
        have V1 := Lib.hid (HV.out.on hb1).top
        clear hb1 c0 c1 B0 HV HB
        obtain ⟨c0, c1, -⟩ := X1.out
        go_wp2
        go_loopw [3, 5] (fun vv x wr => ∃ (j : Nat) (L : List (List Int)), i < j ∧ j ≤ m ∧ x = .int .i64 j ∧ L.length ≤ 7 * i + (j - (i + 1)) ∧ Hid (L = hI i ++ hJ i j) ∧ Hid (OwnL wr (w.heap.size + 1) wr.heap.size vv L) ∧ Hid (Box w m s wr)) (fun _ x _ => m - (intOf x).toNat)
        case atStart => exact ⟨i + 1, L, by omega, by omega, by go_num, by omega, Lib.hid (by rw [HJZ.out, List.append_nil]; exact HLI.out), V1, X1⟩
        case round =>
          obtain ⟨j, L, hij, hjm, rfl, hll, HLI, HV, HB⟩ := hrel
          obtain ⟨c0, c1, B0⟩ := HB.out
          by_cases hlt2 : j < m
          · have HC1 := Lib.hid (HL.out i j hlt hlt2 (by omega))
            have HC2 := Lib.hid (HL.out j i hlt2 hlt (by omega))
            have l1 := HLE.out i j
            have l2 := HLE.out j i
            have HHI := Lib.hid (HHB.out i j)
            have HY := Lib.hid (HJY.out i j hij)
            have HN := Lib.hid (HJN.out i j hij)
            generalize hB i j = r at HHI HY HN
            generalize q i j = a at HC1 l1 HHI
            generalize q j i = b at HC2 l2 HHI
            obtain ⟨D, hD⟩ : ∃ D : Int, D = (a : Int) - (b : Int) := ⟨_, rfl⟩
            have vd : IntKind.i64.wrap ((a : Int) - (b : Int)) = D := by rw [hD]; exact IntWalk.i64_in _ (by omega)
            rw [← hD] at HHI
            have HBX : Hid (∀ W, Below wr.heap.size wr W → Box w m s W) := Lib.hid (fun W hW => HB.out.on hW)
            have HD1 : Hid (∀ W, (W.cell? ⟨w.heap.size, 0, none⟩ = some (.int .i64 m) ∧ W.cell? ⟨w.heap.size, 1, none⟩ = some (.string s) ∧ Below wr.heap.size wr W) → Calls Tryz.prog 81 #[sg m s, .int .i64 i, .int .i64 j] W fun e w' => e = .returned (.int .i64 (a : Nat)) ∧ (w'.cell? ⟨w.heap.size, 0, none⟩ = some (.int .i64 m) ∧ w'.cell? ⟨w.heap.size, 1, none⟩ = some (.string s) ∧ Below wr.heap.size wr w')) := Lib.hid (fun W hW => (HC1.out W).mono fun e w' ⟨he, hb⟩ => by
              have hb2 := hW.2.2.trans (hb.mono hW.2.2.size)
              exact ⟨he, (HBX.out _ hb2).1, (HBX.out _ hb2).2.1, hb2⟩)
            have HD2 : Hid (∀ W, (W.cell? ⟨w.heap.size, 0, none⟩ = some (.int .i64 m) ∧ W.cell? ⟨w.heap.size, 1, none⟩ = some (.string s) ∧ Below wr.heap.size wr W) → Calls Tryz.prog 81 #[sg m s, .int .i64 j, .int .i64 i] W fun e w' => e = .returned (.int .i64 (b : Nat)) ∧ (w'.cell? ⟨w.heap.size, 0, none⟩ = some (.int .i64 m) ∧ w'.cell? ⟨w.heap.size, 1, none⟩ = some (.string s) ∧ Below wr.heap.size wr w')) := Lib.hid (fun W hW => (HC2.out W).mono fun e w' ⟨he, hb⟩ => by
              have hb2 := hW.2.2.trans (hb.mono hW.2.2.size)
              exact ⟨he, (HBX.out _ hb2).1, (HBX.out _ hb2).2.1, hb2⟩)
            have HD3 : Hid (∀ W, (W.cell? ⟨w.heap.size, 0, none⟩ = some (.int .i64 m) ∧ W.cell? ⟨w.heap.size, 1, none⟩ = some (.string s) ∧ Below wr.heap.size wr W) → Calls Tryz.prog 64 #[.int .i64 D, .int .i64 (-1), .int .i64 1] W fun e w' => e = .returned (.bool r) ∧ (w'.cell? ⟨w.heap.size, 0, none⟩ = some (.int .i64 m) ∧ w'.cell? ⟨w.heap.size, 1, none⟩ = some (.string s) ∧ Below wr.heap.size wr w')) := Lib.hid (fun W hW => (l1In_any D (-1) 1 W).mono fun e w' ⟨he, hb⟩ => by
              subst hb
              exact ⟨by rw [he, HHI.out], hW⟩)
            have hS0 : wr.drew.cell? ⟨w.heap.size, 0, none⟩ = some (.int .i64 m) ∧ wr.drew.cell? ⟨w.heap.size, 1, none⟩ = some (.string s) ∧ Below wr.heap.size wr wr.drew := ⟨c0, c1, (Below.refl _ _).drew⟩
            clear HC1 HC2 HHI hD B0
            cases r
            · have HLN : Hid (L = hI i ++ hJ i (j + 1)) := Lib.hid (by rw [HN.out rfl]; exact HLI.out)
              go_wp2
              refine wp_region_held (S := fun W => W.cell? ⟨w.heap.size, 0, none⟩ = some (.int .i64 m) ∧ W.cell? ⟨w.heap.size, 1, none⟩ = some (.string s) ∧ Below wr.heap.size wr W) rfl ?_
              have hHeld := (hS0)
              (refine Held.takeH (i := 0) (k := 25) (v := ?_) rfl (by as_aux_lemma => kernel_rfl) (by as_aux_lemma => kernel_rfl) (by as_aux_lemma => kernel_rfl) (by as_aux_lemma => kernel_rfl) (fun _ _ _ h => h) (Or.inl ⟨by rfl, ?_⟩) (by assumption) ?_; rotate_left; (focus (intro w hSw; (try dsimp only at hSw); go_simp; (try with_reducible rfl))); (simp only [List.setIfInBounds_toArray, List.set_cons_zero, List.set_cons_succ]))
              (refine Held.takeH (i := 1) (k := 26) (v := ?_) rfl (by as_aux_lemma => kernel_rfl) (by as_aux_lemma => kernel_rfl) (by as_aux_lemma => kernel_rfl) (by as_aux_lemma => kernel_rfl) (fun _ _ _ h => h) (Or.inl ⟨by rfl, ?_⟩) (by assumption) ?_; rotate_left; (focus (intro w hSw; (try dsimp only at hSw); go_simp; (try with_reducible rfl))); (simp only [List.setIfInBounds_toArray, List.set_cons_zero, List.set_cons_succ]))
              (refine Held.takeH (i := 2) (k := 27) (v := ?_) rfl (by as_aux_lemma => kernel_rfl) (by as_aux_lemma => kernel_rfl) (by as_aux_lemma => kernel_rfl) (by as_aux_lemma => kernel_rfl) (fun _ _ _ h => h) (Or.inl ⟨by rfl, ?_⟩) (by assumption) ?_; rotate_left; (focus (intro w hSw; (try dsimp only at hSw); go_simp; (try with_reducible rfl))); (simp only [List.setIfInBounds_toArray, List.set_cons_zero, List.set_cons_succ]))
              (refine Held.takeH (i := 4) (k := 29) (v := ?_) rfl (by as_aux_lemma => kernel_rfl) (by as_aux_lemma => kernel_rfl) (by as_aux_lemma => kernel_rfl) (by as_aux_lemma => kernel_rfl) (fun _ _ _ h => h) (Or.inl ⟨by rfl, ?_⟩) (by assumption) ?_; rotate_left; (focus (intro w hSw; (try dsimp only at hSw); go_simp; (try with_reducible rfl))); (simp only [List.setIfInBounds_toArray, List.set_cons_zero, List.set_cons_succ]))
              (refine Held.takeH (i := 5) (k := 30) (v := ?_) rfl (by as_aux_lemma => kernel_rfl) (by as_aux_lemma => kernel_rfl) (by as_aux_lemma => kernel_rfl) (by as_aux_lemma => kernel_rfl) (fun _ _ _ h => h) (Or.inl ⟨by rfl, ?_⟩) (by assumption) ?_; rotate_left; (focus (intro w hSw; (try dsimp only at hSw); go_simp; (try with_reducible rfl))); (simp only [List.setIfInBounds_toArray, List.set_cons_zero, List.set_cons_succ]))
              (refine Held.takeH (i := 6) (k := 31) (v := ?_) rfl (by as_aux_lemma => kernel_rfl) (by as_aux_lemma => kernel_rfl) (by as_aux_lemma => kernel_rfl) (by as_aux_lemma => kernel_rfl) (fun _ _ _ h => h) (Or.inl ⟨by rfl, ?_⟩) (by assumption) ?_; rotate_left; (focus (intro w hSw; (try dsimp only at hSw); go_simp; (try with_reducible rfl))); (simp only [List.setIfInBounds_toArray, List.set_cons_zero, List.set_cons_succ]))
              refine wpAnyH_ready (rs := [3]) (by as_aux_lemma => kernel_rfl) (by simp) ?_
              refine AllReadyH.cons rfl (fun K hK => ?_) AllReadyH.nil
              go_simp
              refine (HD1.out _ hHeld).mono ?_
              rintro e' w' ⟨rfl, hS'⟩
              refine hK.out _ _ hS' (fun hHeld => ?_)
              clear hK K
              try simp only [Act.put, List.setIfInBounds_toArray, List.set_cons_zero, List.set_cons_succ]
              refine wpAnyH_ready (rs := [7]) (by as_aux_lemma => kernel_rfl) (by simp) ?_
              refine AllReadyH.cons rfl (fun K hK => ?_) AllReadyH.nil
              go_simp
              refine (HD2.out _ hHeld).mono ?_
              rintro e' w' ⟨rfl, hS'⟩
              refine hK.out _ _ hS' (fun hHeld => ?_)
              clear hK K
              try simp only [Act.put, List.setIfInBounds_toArray, List.set_cons_zero, List.set_cons_succ]
              (refine Held.takeH (i := 8) (k := 33) (v := .int .i64 D) rfl (by as_aux_lemma => kernel_rfl) (by as_aux_lemma => kernel_rfl) (by as_aux_lemma => kernel_rfl) (by as_aux_lemma => kernel_rfl) (fun _ _ _ h => h) (Or.inl ⟨by rfl, ?_⟩) (by assumption) ?_; (focus (intro w hSw; (try dsimp only at hSw); go_simp; (try simp only [vd]); (try rfl))); (simp only [List.setIfInBounds_toArray, List.set_cons_zero, List.set_cons_succ]))
              refine wpAnyH_ready (rs := [9]) (by as_aux_lemma => kernel_rfl) (by simp) ?_
              refine AllReadyH.cons rfl (fun K hK => ?_) AllReadyH.nil
              go_simp
              refine (HD3.out _ hHeld).mono ?_
              rintro e' w' ⟨rfl, hS'⟩
              refine hK.out _ _ hS' (fun hHeld => ?_)
              clear hK K
              try simp only [Act.put, List.setIfInBounds_toArray, List.set_cons_zero, List.set_cons_succ]
              refine wpAnyH_done (by as_aux_lemma => kernel_rfl) ?_ _
              have V2 := Lib.hid (HV.out.on hHeld.2.2).top
              have X2 := Lib.hid (HBX.out _ hHeld.2.2)
              clear hHeld hS0 c0 c1
              go_wp2
              exact ⟨⟨j + 1, L, by omega, by omega, by go_num, by omega, HLN, V2, X2⟩, by simp only [intOf]; omega⟩
            · have HLN : Hid (L ++ [[(i : Int), (j : Int)]] = hI i ++ hJ i (j + 1)) := Lib.hid (by rw [HY.out rfl, HLI.out, List.append_assoc])
              go_wp2
              refine wp_region_held (S := fun W => W.cell? ⟨w.heap.size, 0, none⟩ = some (.int .i64 m) ∧ W.cell? ⟨w.heap.size, 1, none⟩ = some (.string s) ∧ Below wr.heap.size wr W) rfl ?_
              have hHeld := (hS0)
              (refine Held.takeH (i := 0) (k := 25) (v := ?_) rfl (by as_aux_lemma => kernel_rfl) (by as_aux_lemma => kernel_rfl) (by as_aux_lemma => kernel_rfl) (by as_aux_lemma => kernel_rfl) (fun _ _ _ h => h) (Or.inl ⟨by rfl, ?_⟩) (by assumption) ?_; rotate_left; (focus (intro w hSw; (try dsimp only at hSw); go_simp; (try with_reducible rfl))); (simp only [List.setIfInBounds_toArray, List.set_cons_zero, List.set_cons_succ]))
              (refine Held.takeH (i := 1) (k := 26) (v := ?_) rfl (by as_aux_lemma => kernel_rfl) (by as_aux_lemma => kernel_rfl) (by as_aux_lemma => kernel_rfl) (by as_aux_lemma => kernel_rfl) (fun _ _ _ h => h) (Or.inl ⟨by rfl, ?_⟩) (by assumption) ?_; rotate_left; (focus (intro w hSw; (try dsimp only at hSw); go_simp; (try with_reducible rfl))); (simp only [List.setIfInBounds_toArray, List.set_cons_zero, List.set_cons_succ]))
              (refine Held.takeH (i := 2) (k := 27) (v := ?_) rfl (by as_aux_lemma => kernel_rfl) (by as_aux_lemma => kernel_rfl) (by as_aux_lemma => kernel_rfl) (by as_aux_lemma => kernel_rfl) (fun _ _ _ h => h) (Or.inl ⟨by rfl, ?_⟩) (by assumption) ?_; rotate_left; (focus (intro w hSw; (try dsimp only at hSw); go_simp; (try with_reducible rfl))); (simp only [List.setIfInBounds_toArray, List.set_cons_zero, List.set_cons_succ]))
              (refine Held.takeH (i := 4) (k := 29) (v := ?_) rfl (by as_aux_lemma => kernel_rfl) (by as_aux_lemma => kernel_rfl) (by as_aux_lemma => kernel_rfl) (by as_aux_lemma => kernel_rfl) (fun _ _ _ h => h) (Or.inl ⟨by rfl, ?_⟩) (by assumption) ?_; rotate_left; (focus (intro w hSw; (try dsimp only at hSw); go_simp; (try with_reducible rfl))); (simp only [List.setIfInBounds_toArray, List.set_cons_zero, List.set_cons_succ]))
              (refine Held.takeH (i := 5) (k := 30) (v := ?_) rfl (by as_aux_lemma => kernel_rfl) (by as_aux_lemma => kernel_rfl) (by as_aux_lemma => kernel_rfl) (by as_aux_lemma => kernel_rfl) (fun _ _ _ h => h) (Or.inl ⟨by rfl, ?_⟩) (by assumption) ?_; rotate_left; (focus (intro w hSw; (try dsimp only at hSw); go_simp; (try with_reducible rfl))); (simp only [List.setIfInBounds_toArray, List.set_cons_zero, List.set_cons_succ]))
              (refine Held.takeH (i := 6) (k := 31) (v := ?_) rfl (by as_aux_lemma => kernel_rfl) (by as_aux_lemma => kernel_rfl) (by as_aux_lemma => kernel_rfl) (by as_aux_lemma => kernel_rfl) (fun _ _ _ h => h) (Or.inl ⟨by rfl, ?_⟩) (by assumption) ?_; rotate_left; (focus (intro w hSw; (try dsimp only at hSw); go_simp; (try with_reducible rfl))); (simp only [List.setIfInBounds_toArray, List.set_cons_zero, List.set_cons_succ]))
              refine wpAnyH_ready (rs := [3]) (by as_aux_lemma => kernel_rfl) (by simp) ?_
              refine AllReadyH.cons rfl (fun K hK => ?_) AllReadyH.nil
              go_simp
              refine (HD1.out _ hHeld).mono ?_
              rintro e' w' ⟨rfl, hS'⟩
              refine hK.out _ _ hS' (fun hHeld => ?_)
              clear hK K
              try simp only [Act.put, List.setIfInBounds_toArray, List.set_cons_zero, List.set_cons_succ]
              refine wpAnyH_ready (rs := [7]) (by as_aux_lemma => kernel_rfl) (by simp) ?_
              refine AllReadyH.cons rfl (fun K hK => ?_) AllReadyH.nil
              go_simp
              refine (HD2.out _ hHeld).mono ?_
              rintro e' w' ⟨rfl, hS'⟩
              refine hK.out _ _ hS' (fun hHeld => ?_)
              clear hK K
              try simp only [Act.put, List.setIfInBounds_toArray, List.set_cons_zero, List.set_cons_succ]
              (refine Held.takeH (i := 8) (k := 33) (v := .int .i64 D) rfl (by as_aux_lemma => kernel_rfl) (by as_aux_lemma => kernel_rfl) (by as_aux_lemma => kernel_rfl) (by as_aux_lemma => kernel_rfl) (fun _ _ _ h => h) (Or.inl ⟨by rfl, ?_⟩) (by assumption) ?_; (focus (intro w hSw; (try dsimp only at hSw); go_simp; (try simp only [vd]); (try rfl))); (simp only [List.setIfInBounds_toArray, List.set_cons_zero, List.set_cons_succ]))
              refine wpAnyH_ready (rs := [9]) (by as_aux_lemma => kernel_rfl) (by simp) ?_
              refine AllReadyH.cons rfl (fun K hK => ?_) AllReadyH.nil
              go_simp
              refine (HD3.out _ hHeld).mono ?_
              rintro e' w' ⟨rfl, hS'⟩
              refine hK.out _ _ hS' (fun hHeld => ?_)
              clear hK K
              try simp only [Act.put, List.setIfInBounds_toArray, List.set_cons_zero, List.set_cons_succ]
              refine wpAnyH_done (by as_aux_lemma => kernel_rfl) ?_ _
              have V2 := Lib.hid (HV.out.on hHeld.2.2).top
              have X2 := Lib.hid (HBX.out _ hHeld.2.2)
              have hs0 : wr.heap.size ≤ w'.heap.size := hHeld.2.2.size
              have hw0 : w.heap.size < w'.heap.size := Kit.cell_lt hHeld.1
              clear hHeld hS0 c0 c1 HV
              have G1 := Lib.hid (cells2_zc w' i j 3)
              have HCS : Hid (∃ cs, (w'.alloc (.cells #[.int .i64 i, .int .i64 j] 3)).heap[w'.heap.size]? = some (Obj.cells cs 3)) := Lib.hid ⟨_, heap_made w' _⟩
              have X3 := Lib.hid (X2.out.alloc (.cells #[.int .i64 i, .int .i64 j] 3))
              have V3 := Lib.hid (V2.out.on ((Below.refl w'.heap.size w').alloc (Nat.le_refl _) (.cells #[.int .i64 i, .int .i64 j] 3)))
              obtain ⟨LV, hLV⟩ := V3.out.row
              have HL3 := Lib.hid hLV
              have B3 := X3.out.2.2
              have HN2 : Hid (∀ (k : Nat) u, [Value.slice (some ⟨w'.heap.size, 0, none⟩) 2 2][k]? = some u → ((w'.alloc (.cells #[.int .i64 i, .int .i64 j] 3)).alloc (.cells #[.slice (some ⟨w'.heap.size, 0, none⟩) 2 2] 28)).cell? (Addr.add ⟨w'.heap.size + 1, 0, none⟩ k) = some u) := Lib.hid (by
                have := newsR (w'.alloc (.cells #[.int .i64 i, .int .i64 j] 3)) (.slice (some ⟨w'.heap.size, 0, none⟩) 2 2) 28
                rw [show (w'.alloc (.cells #[.int .i64 i, .int .i64 j] 3)).heap.size = w'.heap.size + 1 by simp] at this
                exact this)
              clear hLV V2
              go_wp2_with (at_builtin; refine wpList_append_own _ rfl (.tmp 35) (.tmp 39) 42 rfl (w.heap.size + 1) 28 i0 _ 1 24 Tryz.underlying42 hi hz0 hz1 hz2 rfl (by decide) _ _ _ rfl (World.ownsRow.alloc HL3.out _) ⟨_, 0, none⟩ 1 1 [.slice (some ⟨w'.heap.size, 0, none⟩) 2 2] rfl rfl HN2.out (oneR _ _ _) ?_ ?_ ?_ ?_)
              · simp only [maxLen]; omega
              · omega
              · simp; omega
              intro v1 w5 hown hg _
              have hal := (Below.refl (w'.alloc (.cells #[.int .i64 i, .int .i64 j] 3)).heap.size (w'.alloc (.cells #[.int .i64 i, .int .i64 j] 3))).alloc (Nat.le_refl _) (.cells #[.slice (some ⟨w'.heap.size, 0, none⟩) 2 2] 28)
              have HV5 : Hid (OwnL w5 (w.heap.size + 1) w5.heap.size v1 (L ++ [[(i : Int), (j : Int)]])) := Lib.hid (by
                obtain ⟨cs, hcs⟩ := HCS.out
                exact (OwnL.snoc (g := (w'.heap.size, 2)) (zs := [(i : Int), (j : Int)]) (V3.out.on hal) (by show w.heap.size + 1 ≤ w'.heap.size; omega) (Nat.le_refl _) ⟨cs, by rw [hal.block _ G1.out.lt]; exact hcs⟩ (G1.out.on hal) hg (World.ownsRow.alloc HL3.out _) hown).top)
              have HX5 : Hid (Box w m s w5) := Lib.hid (by
                have hbx := X3.out.alloc (.cells #[.slice (some ⟨w'.heap.size, 0, none⟩) 2 2] 28)
                refine hbx.block (hg.block _ (by simp; omega) (fun e => ?_)) (hbx.2.2.grown hg (by simp; omega) (fun q hq => by have := (World.ownsRow.lt HL3.out q hq).1; omega))
                have := (World.ownsRow.lt HL3.out _ e.symm).1
                omega)
              have hll2 : (L ++ [[(i : Int), (j : Int)]]).length ≤ 7 * i + (j + 1 - (i + 1)) := by simp; omega
              clear hown hg hal
              go_wp2
              exact ⟨⟨j + 1, _, by omega, by omega, by go_num, hll2, HLN, HV5, HX5⟩, by simp only [intOf]; omega⟩
          · obtain rfl : j = m := by omega
            have HLN : Hid (L = hI (i + 1)) := Lib.hid (by rw [HIS.out]; exact HLI.out)
            go_wp2
            exact ⟨⟨i + 1, L, by omega, by go_num, by omega, HLN, HV, HB⟩, by simp only [intOf]; omega⟩
      · obtain rfl : i = m := by omega
        obtain ⟨a2, c2, hv, hli⟩ := Lists.of_own HV.out
        subst hv
        have HLI2 := Lib.hid hli
        clear HV hli
        go_wp2
        go_ret
        exact ⟨by rw [← HLI.out]; exact ⟨a2, c2, rfl, HLI2.out.low (by omega)⟩, B0⟩
end Go.Proofs.YtflcpgdgoencgaaGreatDoor.Sg
/- What lies left, as spec tells it: LeftRow. -/
namespace Go.Proofs.YtflcpgdgoencgaaGreatDoor.Sg
open Go.RowKit Pt NewI
/-- The pairs before i, j, as LeftRow goes through them. -/
def prJ (i j : Nat) : List (Nat × Nat) := ((List.range j).filter fun k => k != i).map fun k => (i, k)
def prP (n i : Nat) : List (Nat × Nat) := (List.range i).flatMap fun a => prJ a n
/-- How many of these have x elements to the left. -/
def crow (q : Nat → Nat → Nat) (n i j x : Nat) : Nat := (prP n i ++ prJ i j).countP fun p => q p.1 p.2 == x
theorem crow_zero (q : Nat → Nat → Nat) (n x : Nat) : crow q n 0 0 x = 0 := rfl
theorem crow_same (q : Nat → Nat → Nat) (n i x : Nat) : crow q n i (i + 1) x = crow q n i i x := by
  unfold crow prJ
  rw [List.range_succ, List.filter_append]
  simp
theorem crow_step (q : Nat → Nat → Nat) (n : Nat) {i j : Nat} (h : i ≠ j) (x : Nat) : crow q n i (j + 1) x = if x = q i j then crow q n i j x + 1 else crow q n i j x := by
  unfold crow
  have e : prJ i (j + 1) = prJ i j ++ [(i, j)] := by
    unfold prJ
    rw [List.range_succ, List.filter_append, List.map_append]
    have : (j != i) = true := by simpa using fun e => h e.symm
    simp [this]
  rw [e, ← List.append_assoc, List.countP_append (l₂ := [(i, j)]), List.countP_singleton]
  by_cases hx : x = q i j
  · subst hx; simp
  · have : (q i j == x) = false := by simpa using fun e => hx e.symm
    simp [this, hx]
theorem crow_next (q : Nat → Nat → Nat) (n i x : Nat) : crow q n i n x = crow q n (i + 1) 0 x := by
  unfold crow
  have e : prP n (i + 1) = prP n i ++ prJ i n := by unfold prP; rw [List.range_succ, List.flatMap_append]; simp
  rw [e]
  have e2 : prJ (i + 1) 0 = [] := rfl
  rw [e2, List.append_nil]
theorem crow_end (q : Nat → Nat → Nat) (n x : Nat) : crow q n n 0 x = (pairsN n).countP fun p => q p.1 p.2 == x := by
  unfold crow
  have e2 : prJ n 0 = [] := rfl
  rw [e2, List.append_nil]
  rfl
theorem prJ_len (i j : Nat) : (prJ i j).length ≤ j := by
  unfold prJ
  rw [List.length_map]
  exact Nat.le_trans (List.length_filter_le _ _) (by simp)
theorem prP_len (n : Nat) (h7 : n ≤ 7) : ∀ i, (prP n i).length ≤ 7 * i
  | 0 => by simp [prP]
  | i + 1 => by
    have := prP_len n h7 i
    have hj := prJ_len i n
    have e : prP n (i + 1) = prP n i ++ prJ i n := by unfold prP; rw [List.range_succ, List.flatMap_append]; simp
    rw [e, List.length_append]
    omega
theorem crow_le (q : Nat → Nat → Nat) {n : Nat} (h7 : n ≤ 7) (i j x : Nat) : crow q n i j x ≤ 7 * i + j := by
  have h1 := prP_len n h7 i
  have h2 := prJ_len i j
  have h3 := List.countP_le_length (p := fun p => q p.1 p.2 == x) (l := prP n i ++ prJ i j)
  rw [List.length_append] at h3
  unfold crow
  omega
/-- What LeftRow answers. -/
def rowQ (q : Nat → Nat → Nat) (n : Nat) : List Int := (List.range (n - 1)).map fun x => (((pairsN n).countP fun p => q p.1 p.2 == x : Nat) : Int)
theorem rowQ_len (q : Nat → Nat → Nat) (n : Nat) : (rowQ q n).length = n - 1 := by unfold rowQ; simp
theorem rowQ_zc (q : Nat → Nat → Nat) (n : Nat) {x : Nat} (hx : x < n - 1) : zc (rowQ q n) x = .int .i64 (crow q n n 0 x : Nat) := by
  rw [zc_lt (by rw [rowQ_len]; exact hx)]
  simp [rowQ, crow_end]
def rowZ (n : Int) (s : List UInt8) : List Int := if aciB n s = true then rowQ (leftN (sgnF (lookS n s)) n.toNat) n.toNat else []
set_option maxRecDepth 100000 in
theorem infoZ7 : (Tryz.prog.info? 3).map (fun i => (i.zero, i.size, i.bytes)) = some (some (.int .i64 0), 1, 8) := by kernel_rfl
set_option maxHeartbeats 3200000 in
set_option maxRecDepth 100000 in
theorem specLeftRow (n : Int) (s : ByteArray) (hs : s.size ≤ 9223372036854775807) (w : World) :
    Calls Tryz.prog 38 #[sg n s] w fun e w' => Got w.heap.size (rowZ n s.data.toList) e w' ∧ Below w.heap.size w w' := by
  have HA := Lib.hid (fun W => specAci n s hs W)
  have HS := Lib.hid (box_made w n s 25)
  obtain ⟨x0, x1, -⟩ := HS.out
  cases h : aciB n s.data.toList
  · have HE : Hid (rowZ n s.data.toList = []) := Lib.hid (by unfold rowZ; rw [h]; rfl)
    rw [h] at HA
    clear h
    go_enter Tryz.func38, Tryz.ntmps38
    go_wp2_with fail
    refine (HA.out _).mono ?_
    rintro e w1 ⟨rfl, hb1⟩
    have X1 := Lib.hid (HS.out.on hb1)
    have B1 := Lib.hid (X1.out.2.2.alloc (Nat.le_of_lt (Kit.cell_lt X1.out.1)) (.cells #[] 3))
    clear hb1 x0 x1
    go_wp2
    go_ret
    exact ⟨by rw [HE.out]; exact ⟨_, _, rfl, .inl rfl⟩, B1.out⟩
  · obtain ⟨h3, h7⟩ := aciB_n h
    obtain ⟨m, rfl⟩ : ∃ m : Nat, n = m := ⟨n.toNat, by omega⟩
    have h7 : m ≤ 7 := by omega
    have har := matB_ar (aciB_mat h)
    have HE : Hid (rowZ m s.data.toList = rowQ (leftN (sgnF (lookS m s.data.toList)) m) m) := Lib.hid (by unfold rowZ; rw [if_pos h, Int.toNat_natCast])
    have HL : Hid (∀ i j : Nat, i < m → j < m → i ≠ j → ∀ W, Calls Tryz.prog 81 #[sg m s, .int .i64 i, .int .i64 j] W fun e w' => e = .returned (.int .i64 (leftN (sgnF (lookS m s.data.toList)) m i j : Nat)) ∧ Below W.heap.size W w') := Lib.hid (fun i j hi hj hij W => l7Left_any m s har i j hi hj hij W)
    have HLT : Hid (∀ i j : Nat, i < m → j < m → i ≠ j → leftN (sgnF (lookS m s.data.toList)) m i j < m - 1) := Lib.hid (fun i j hi hj hij => left_lt h hi hj hij)
    rw [HE.out]
    rw [h] at HA
    generalize leftN (sgnF (lookS m s.data.toList)) m = q at HL HLT ⊢
    have HC0 := Lib.hid (crow_zero q m)
    have HCE := Lib.hid (fun i x => crow_same q m i x)
    have HCS := Lib.hid (fun i j (hij : i ≠ j) x => crow_step q m hij x)
    have HCN := Lib.hid (fun i x => crow_next q m i x)
    have HCL := Lib.hid (fun i j x => crow_le q h7 i j x)
    have HRL := Lib.hid (rowQ_len q m)
    have HRZ := Lib.hid (fun x (hx : x < m - 1) => rowQ_zc q m hx)
    generalize rowQ q m = zs at HRL HRZ ⊢
    generalize crow q m = cr at HC0 HCE HCS HCN HCL HRZ
    clear h har HE
    obtain ⟨M, hM⟩ : ∃ M : Nat, M = m - 1 := ⟨_, rfl⟩
    have v1 : IntKind.i64.wrap ((m : Int) - 1) = (M : Int) := by rw [show (m : Int) - 1 = (M : Int) by omega]; exact IntWalk.i64_in _ (by omega)
    rw [← hM] at HLT HRL HRZ
    have hM1 : 0 < M := by omega
    have hM7 : M ≤ 6 := by omega
    clear hM
    have hmk := run_make_row' (P := Tryz.prog) 28 3 (.int .i64 0) 8 Tryz.underlying28 infoZ7 rfl .i64 .i64 M (by omega) (by omega)
    go_enter Tryz.func38, Tryz.ntmps38
    go_wp2_with fail
    refine (HA.out _).mono ?_
    rintro e w1 ⟨rfl, hb1⟩
    have X1 := Lib.hid (HS.out.on hb1)
    clear hb1 x0 x1
    obtain ⟨x0, x1, -⟩ := X1.out
    have hw1 : w.heap.size < w1.heap.size := Kit.cell_lt x0
    have H0 := Lib.hid ((World.rowIs_made w1 (.int .i64 0) M 3).congr (g := fun x => .int .i64 (cr 0 0 x : Nat)) (fun i _ => by rw [HC0.out]; rfl))
    have HB0 := Lib.hid ((Below.refl w1.heap.size w1).alloc (Nat.le_refl _) (.cells (madeCells #[.int .i64 0] M) 3))
    have HBX : Hid (∀ W, Below w1.heap.size w1 W → Box w m s W) := Lib.hid (fun W hW => X1.out.on hW)
    go_wp2
    clear hmk
    go_loopw [4] (fun x wr => ∃ i : Nat, i ≤ m ∧ x = .int .i64 i ∧ Hid (wr.rowIs w1.heap.size 3 M (fun x => .int .i64 (cr i 0 x : Nat))) ∧ Hid (Below w1.heap.size w1 wr)) (fun x _ => m - (intOf x).toNat)
    case atStart => exact ⟨0, Nat.zero_le _, rfl, H0, HB0⟩
    case round =>
      obtain ⟨i, him, rfl, HR, HB⟩ := hrel
      obtain ⟨c0, c1, -⟩ := HBX.out _ HB.out
      by_cases hlt : i < m
      · go_wp2
        go_loopw [5] (fun x wr => ∃ j : Nat, j ≤ m ∧ x = .int .i64 j ∧ Hid (wr.rowIs w1.heap.size 3 M (fun x => .int .i64 (cr i j x : Nat))) ∧ Hid (Below w1.heap.size w1 wr)) (fun x _ => m - (intOf x).toNat)
        case atStart => exact ⟨0, Nat.zero_le _, rfl, HR, HB⟩
        case round =>
          obtain ⟨j, hjm, rfl, HR, HB⟩ := hrel
          obtain ⟨c0, c1, -⟩ := HBX.out _ HB.out
          by_cases hlt2 : j < m
          · by_cases hij : i = j
            · have t1 : ((i : Int) != (j : Int)) = false := by simp; omega
              have HR2 : Hid (wr.rowIs w1.heap.size 3 M (fun x => .int .i64 (cr i (j + 1) x : Nat))) := Lib.hid (HR.out.congr (fun x _ => by rw [← hij, HCE.out]))
              clear hij
              go_wp2
              exact ⟨⟨j + 1, by omega, by go_num, HR2, HB⟩, by simp only [intOf]; omega⟩
            · have t1 : ((i : Int) != (j : Int)) = true := by simp; omega
              have HC := Lib.hid (HL.out i j hlt hlt2 hij)
              have hql := HLT.out i j hlt hlt2 hij
              have HST := Lib.hid (HCS.out i j hij)
              generalize q i j = v at HC hql HST
              have hcl := HCL.out i j v
              have HBlt := Lib.hid HR.out.lt
              clear hij
              go_wp2_with fail
              refine (HC.out _).mono ?_
              rintro e w2 ⟨rfl, hb2⟩
              have HR2 : Hid (w2.rowIs w1.heap.size 3 M (fun x => .int .i64 (cr i j x : Nat))) := Lib.hid (World.rowIs.of_block HR.out (hb2.block _ HBlt.out))
              have HB2 := Lib.hid (HB.out.trans (hb2.mono HB.out.size))
              have hd0 := HR2.out.cell hql
              have hfz := HR2.out.frozen v
              have HR3 : Hid ((w2.setCell ⟨w1.heap.size, v, none⟩ (.int .i64 ((cr i j v + 1 : Nat) : Int))).rowIs w1.heap.size 3 M (fun x => .int .i64 (cr i (j + 1) x : Nat))) := Lib.hid ((HR2.out.set v (.int .i64 ((cr i j v + 1 : Nat) : Int))).congr (fun x _ => by
                rw [HST.out]
                by_cases e : x = v
                · subst e; rw [if_pos rfl, if_pos rfl]
                · rw [if_neg e, if_neg e]))
              have HB3 := Lib.hid (HB2.out.setCell (p := ⟨w1.heap.size, v, none⟩) (Nat.le_refl _) (.int .i64 ((cr i j v + 1 : Nat) : Int)))
              obtain ⟨K, hK⟩ : ∃ K : Nat, K = cr i j v := ⟨_, rfl⟩
              have hd : w2.cell? ⟨w1.heap.size, v, none⟩ = some (.int .i64 (K : Nat)) := by rw [hK]; exact hd0
              rw [← hK] at HR3 HB3 hcl
              obtain ⟨Q, hQ⟩ : ∃ Q : Nat, Q = K + 1 := ⟨_, rfl⟩
              rw [← hQ] at HR3 HB3
              have va : IntKind.i64.wrap ((K : Int) + 1) = (Q : Int) := by rw [show (K : Int) + 1 = (Q : Int) by omega]; exact IntWalk.i64_in _ (by omega)
              clear hb2 c0 c1 hK hQ hd0
              go_wp2
              exact ⟨⟨j + 1, by omega, by go_num, HR3, HB3⟩, by simp only [intOf]; omega⟩
          · obtain rfl : j = m := by omega
            have HR2 : Hid (wr.rowIs w1.heap.size 3 M (fun x => .int .i64 (cr (i + 1) 0 x : Nat))) := Lib.hid (HR.out.congr (fun x _ => by rw [HCN.out]))
            go_wp2
            exact ⟨⟨i + 1, by omega, by go_num, HR2, HB⟩, by simp only [intOf]; omega⟩
      · obtain rfl : i = m := by omega
        have HG : Hid (New wr w.heap.size wr.heap.size (some ⟨w1.heap.size, 0, none⟩) zs.length (zc zs)) := Lib.hid (.inr ⟨w1.heap.size, rfl, by omega, HR.out.lt, ⟨fun x hx => by
          rw [HRL.out] at hx
          rw [HR.out.cell hx, HRZ.out x hx], fun x => HR.out.frozen x, HR.out.lt⟩⟩)
        have BB := Lib.hid (HBX.out _ HB.out).2.2
        go_wp2
        go_ret
        exact ⟨⟨some ⟨w1.heap.size, 0, none⟩, M, by rw [HRL.out]; rfl, HG.out⟩, BB.out⟩
end Go.Proofs.YtflcpgdgoencgaaGreatDoor.Sg
/- What lies left, on plain functions: what FnLefts asks of the answers. -/
namespace Go.Proofs.YtflcpgdgoencgaaGreatDoor.Sg
section
variable {n : Nat} {s : List UInt8}
theorem rowZ_yes (h : aciB n s = true) : rowZ n s = (rowL n s).map fun (x : Nat) => (x : Int) := by
  unfold rowZ
  rw [if_pos h, Int.toNat_natCast]
  unfold rowQ rowL rowK
  rw [List.map_map]
  rfl
theorem rowZ_len (h : aciB n s = true) : (rowZ n s).length = n - 1 := by rw [rowZ_yes h, List.length_map, rowL_len]
theorem cast_sum : ∀ L : List Nat, (L.map fun (x : Nat) => (x : Int)).sum = (L.sum : Nat)
  | [] => rfl
  | a :: L => by rw [List.map_cons, List.sum_cons, List.sum_cons, cast_sum L]; push_cast; rfl
theorem rowZ_sum (h : aciB n s = true) : (rowZ n s).sum = ((n * (n - 1) : Nat) : Int) := by rw [rowZ_yes h, cast_sum, rowL_sum h]
theorem rowZ_get (h : aciB n s = true) {m : Nat} (hm : m < n - 1) : (rowZ n s).getD m 0 = (rowK n s m : Nat) := by
  rw [rowZ_yes h, List.getD_eq_getElem?_getD, List.getElem?_map]
  unfold rowL
  rw [List.getElem?_map, List.getElem?_range hm]
  rfl
theorem rowZ_head (h : aciB n s = true) : (rowZ n s).getD 0 0 = hszZ n s := by
  have h3 := (aciB_n h).1
  rw [rowZ_get h (show 0 < n - 1 by omega), rowK_zero h]
theorem rowZ_sym (h : aciB n s = true) {m : Nat} (hm : m < n - 1) : (rowZ n s).getD m 0 = (rowZ n s).getD (n - 2 - m) 0 := by
  rw [rowZ_get h hm, rowZ_get h (show n - 2 - m < n - 1 by omega), rowK_sym h hm]
theorem cutZ_len (h : aciB n s = true) (h6 : n ≤ 6) {k : Nat} (h1 : 1 ≤ k) (h2 : k < n) : (((cutZ n s k).length : Nat) : Int) = (rowZ n s).getD (k - 1) 0 := by
  rw [rowZ_get h (show k - 1 < n - 1 by omega), ← kset_count h h6 h1 h2]
  have hin : Pt.inB (k : Int) 0 (n : Int) = true := Pt.inB_yes (by omega) (by omega)
  unfold cutZ
  rw [if_pos ⟨h, hin⟩, Int.toNat_natCast]
  unfold setsTo setsA
  rw [List.length_map, List.countP_filter, ← List.countP_eq_length_filter]
  congr 1
  refine List.countP_congr fun S _ => ?_
  unfold cutQ
  simp only [Bool.and_eq_true, beq_iff_eq]
  constructor
  · rintro ⟨a, b⟩; first | exact ⟨by omega, b⟩ | exact ⟨b, by omega⟩
  · rintro ⟨a, b⟩; first | exact ⟨by omega, b⟩ | exact ⟨b, by omega⟩
theorem halvZ_some (h : aciB n s = true) : halvZ n s ≠ [] := by
  obtain ⟨i, j, h1, h2, h3⟩ := halving_some h
  have hb : halvB (leftN (sgnF (lookS n s)) n) i j = true := by
    unfold halvB
    exact Pt.inB_yes (by omega) (by omega)
  have hm : [(i : Int), (j : Int)] ∈ halvI (leftN (sgnF (lookS n s)) n) n n := by
    unfold halvI
    refine List.mem_flatMap.2 ⟨i, List.mem_range.2 (by omega), ?_⟩
    unfold halvJ
    exact List.mem_map.2 ⟨j, List.mem_filter.2 ⟨List.mem_range'_1.2 ⟨by omega, by omega⟩, hb⟩, rfl⟩
  unfold halvZ
  rw [if_pos h, Int.toNat_natCast]
  exact List.ne_nil_of_mem hm
theorem crossZ_quads (h : aciB n s = true) : 3 * ((n * (n - 1) * (n - 2) * (n - 3) / 24 : Nat) : Int) - crossZ n s = quadsN n s := by
  have hc := cross_sum h
  unfold crossZ quadsN
  rw [if_pos h, if_pos h, quadsL_yes h, Int.toNat_natCast]
  omega
theorem leftZ_sum (h : aciB n s = true) {i j : Int} (hd : difB n [i, j] = true) : leftZ n s i j + leftZ n s j i = (n : Int) - 2 := by
  obtain ⟨⟨i0, i1⟩, ⟨j0, j1⟩, hij⟩ := difB2_iff.1 hd
  have hd2 : difB n [j, i] = true := difB2_iff.2 ⟨⟨j0, j1⟩, ⟨i0, i1⟩, fun e => hij e.symm⟩
  have h3 := (aciB_n h).1
  have hs := left_sum h (i := i.toNat) (j := j.toNat) (by omega) (by omega) (by omega)
  unfold leftZ
  rw [if_pos ⟨h, hd⟩, if_pos ⟨h, hd2⟩, Int.toNat_natCast]
  omega
theorem leftZ_neg {i j : Int} (h : ¬ (aciB n s = true ∧ difB n [i, j] = true)) : leftZ n s i j = -1 := by unfold leftZ; rw [if_neg h]
end
end Go.Proofs.YtflcpgdgoencgaaGreatDoor.Sg
