/- Signs by value: what the laws' helpers make of them; where three stand (spec.l3Index). -/
import Derived.Test.YtfjimdmoindepaaPt
import Derived.Test.YtfjimdmoindepaaSgMath
import Derived.Laws.MakeOwn
import Derived.Laws.Entries
import Derived.Deep.QuietTactic
import Derived.BigQuiet
import Derived.RegionTactic
import Derived.Outline
namespace Go.Proofs.Ytfjimdmoindepaa.Sg
open Go.RowKit Pt
abbrev sg (n : Int) (s : ByteArray) : Value := .agg #[.int .i64 n, .string s]
def left' (left : Int) (s : ByteArray) : Int := if left - s.size < 0 then -1 else left - s.size
theorem left_neg {left : Int} {s : ByteArray} (h : left - s.size < 0) : left' left s = -1 := if_pos h
theorem left_pos {left : Int} {s : ByteArray} (h : 0 ≤ left - s.size) : left' left s = left - s.size := if_neg (by omega)
set_option maxRecDepth 100000 in
theorem sz_sg (n : Int) (s : ByteArray) (left : Int) (h0 : 0 ≤ left) (h1 : left ≤ 1048576) (hs : s.size ≤ 9223372036854775807) (w : World) :
    Calls Try.prog 26 #[sg n s, .int .i64 left] w fun e w' => e = .returned (.int .i64 (left' left s)) ∧ Below w.heap.size w w' := by
  by_cases h : left - s.size < 0
  · have HE := Lib.hid (left_neg h)
    go_enter Try.func26, Try.ntmps26
    go_wp2
    go_ret
    exact ⟨ret_int HE.out.symm, by go_grown⟩
  · have HE := Lib.hid (left_pos (left := left) (s := s) (by omega))
    go_enter Try.func26, Try.ntmps26
    go_wp2
    go_ret
    exact ⟨ret_int HE.out.symm, by go_grown⟩
set_option maxRecDepth 100000 in
theorem to_sg (n : Int) (s : ByteArray) (w : World) :
    Calls Try.prog 27 #[sg n s] w fun e w' => e = .returned (sg n s) ∧ Below w.heap.size w w' := by
  go_enter Try.func27, Try.ntmps27
  go_wp2
  exact bodyPost_ret (v := .agg #[.int .i64 n, .string s]) (by simp [results, Try.results27, go_sem]) rfl ⟨rfl, by go_grown⟩
theorem cast_a {n a : Nat} (_ : n ≤ 7) (h : a + 2 < n) : ((n : Int) - 1 - a) * ((n : Int) - 2 - a) = ((n - 1 - a) * (n - 2 - a) : Nat) := by
  rw [Int.natCast_mul]
  congr 1 <;> omega
theorem bound_a {n a : Nat} (hn : n ≤ 7) (h : a + 2 < n) : 0 ≤ ((n : Int) - 1 - a) * ((n : Int) - 2 - a) ∧ ((n : Int) - 1 - a) * ((n : Int) - 2 - a) ≤ 42 := by
  rw [cast_a hn h]
  have := (sA_le0 n (by omega) a (by omega)).2
  omega
theorem sA_succ {n a : Nat} (hn : n ≤ 7) (h : a + 2 < n) : (sA n a : Int) + ((n : Int) - 1 - a) * ((n : Int) - 2 - a) / 2 = sA n (a + 1) := by
  rw [cast_a hn h]
  simp only [sA]
  omega
theorem sB_succ {n i b : Nat} (h : i < b) (h2 : b < n) (c : Nat) : ((c + sB n i (b - (i + 1)) : Nat) : Int) + n - 1 - b = ((c + sB n i (b + 1 - (i + 1)) : Nat) : Int) := by
  rw [show b + 1 - (i + 1) = (b - (i + 1)) + 1 by omega]
  simp only [sB]
  omega
theorem sB_zero (n i : Nat) : sB n i (i + 1 - (i + 1)) = 0 := by rw [Nat.sub_self]; rfl
theorem idx_last {n i j k : Nat} (_ : i < j) (_ : j < k) : ((sA n i + sB n i (j - (i + 1)) : Nat) : Int) + k - j - 1 = (idx n i j k : Nat) := by
  unfold idx
  rw [show j - i - 1 = j - (i + 1) by omega]
  omega
theorem sAB_le {n i m : Nat} (hn : n ≤ 7) (hi : i < 8) (hm : m < 8) : sA n i ≤ 35 ∧ sA n i + sB n i m ≤ 70 := by
  have h1 := (sA_le0 n (by omega) i hi).1
  have h2 := sB_le0 n (by omega) i hi m hm
  omega
set_option maxHeartbeats 800000 in
set_option maxRecDepth 100000 in
theorem index_any (n i j k : Nat) (hn : n ≤ 7) (h1 : i < j) (h2 : j < k) (h3 : k < n) (w : World) :
    Calls Try.prog 81 #[.int .i64 n, .int .i64 i, .int .i64 j, .int .i64 k] w fun e w' => e = .returned (.int .i64 (idx n i j k : Nat)) ∧ w = w' := by
  have HL := Lib.hid (idx_last (n := n) h1 h2)
  have HZ := Lib.hid (sB_zero n i)
  have HS := Lib.hid (fun m => sAB_le (n := n) (i := i) (m := m) hn (by omega))
  go_enter Try.func81, Try.ntmps81
  go_wp2
  go_loop [9, 10] (fun at' a => ∃ x : Nat, x ≤ i ∧ a = .int .i64 x ∧ at' = .int .i64 (sA n x : Nat)) (fun _ a => i - (intOf a).toNat)
  case atStart => exact ⟨0, Nat.zero_le _, rfl, rfl⟩
  case round =>
    obtain ⟨x, hx, rfl, rfl⟩ := hrel
    have hx35 := (sA_le0 n (by omega) x (by omega)).1
    by_cases hlt : x < i
    · obtain ⟨q1, q2⟩ := bound_a hn (show x + 2 < n by omega)
      have HE := Lib.hid (sA_succ hn (show x + 2 < n by omega))
      go_wp2
      go_round
      case rel => exact ⟨x + 1, by omega, by go_num, by rw [← HE.out]⟩
      case measure => simp only [intOf]; omega
    · obtain rfl : x = i := by omega
      go_wp2
      go_loop [9, 11] (fun at' b => ∃ y : Nat, x < y ∧ y ≤ j ∧ b = .int .i64 y ∧ at' = .int .i64 (sA n x + sB n x (y - (x + 1)) : Nat)) (fun _ b => j - (intOf b).toNat)
      case atStart => exact ⟨x + 1, by omega, by omega, by go_num, by rw [HZ.out]; rfl⟩
      case round =>
        obtain ⟨y, hy0, hy, rfl, rfl⟩ := hrel
        have hs := (HS.out (y - (x + 1)) (by omega)).2
        by_cases hlt2 : y < j
        · have HE := Lib.hid (sB_succ (n := n) hy0 (by omega) (sA n x))
          generalize sA n x + sB n x (y - (x + 1)) = z at hs HE
          go_wp2
          go_round
          case rel => exact ⟨y + 1, by omega, by omega, by go_num, by rw [← HE.out]⟩
          case measure => simp only [intOf]; omega
        · obtain rfl : y = j := by omega
          have HE := HL
          generalize sA n x + sB n x (y - (x + 1)) = z at hs HE
          go_wp2
          go_ret
          exact ⟨ret_int HE.out, rfl⟩
end Go.Proofs.Ytfjimdmoindepaa.Sg
