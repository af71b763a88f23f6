/- spec.FormatInt gives the decimal numeral of every int. -/
import Derived.Test.YtohihlhkheeemaaDoorProg
import Derived.WalkKit
import Derived.Below
import Derived.Lib.Hide
import Derived.Lib.ItoaNum
import Derived.Laws.IdiomStrings
import Derived.Handy
namespace Go.Proofs.YtohihlhkheeemaaDoor.Fmt
open Go.RowKit

def digs (u : Nat) : List UInt8 := if u = 0 then [] else Lib.decDigits u
theorem digs_step (u : Nat) (h : u ≠ 0) : digs u = digs (u / 10) ++ [UInt8.ofNat (48 + u % 10)] := by
  unfold digs
  rw [if_neg h]
  by_cases h10 : u < 10
  · rw [if_pos (by omega), Lib.decDigits_one h10, Nat.mod_eq_of_lt h10]; rfl
  · rw [if_neg (by omega)]; conv => lhs; rw [Lib.decDigits, dif_neg h10]

theorem tmod_neg (m : Int) (h : m ≤ 0) : m.tmod 10 = -((m.natAbs % 10 : Nat) : Int) := by
  obtain ⟨k, rfl⟩ : ∃ k : Nat, m = -(k : Int) := ⟨m.natAbs, by omega⟩
  rw [Int.neg_tmod, Int.natAbs_neg, Int.natAbs_natCast, Int.tmod_eq_emod_of_nonneg (by omega)]; rfl
theorem tdiv_neg (m : Int) (h : m ≤ 0) : m.tdiv 10 = -((m.natAbs / 10 : Nat) : Int) := by
  obtain ⟨k, rfl⟩ : ∃ k : Nat, m = -(k : Int) := ⟨m.natAbs, by omega⟩
  rw [Int.neg_tdiv, Int.natAbs_neg, Int.natAbs_natCast, Int.tdiv_eq_ediv_of_nonneg (by omega)]; rfl
theorem digs_length (u : Nat) (h : u ≤ 9223372036854775808) : (digs u).length ≤ 20 := by
  unfold digs
  split
  · simp
  · rw [Lib.decDigits_length]
    by_cases h1 : 10 ^ 19 ≤ u
    · omega
    · clear h
      have key : ∀ (k u : Nat), u < 10 ^ (k + 1) → Lib.nDigits u ≤ k + 1 := by
        intro k
        induction k with
        | zero => intro u hu; rw [Lib.nDigits_small (by simpa using hu)]; exact Nat.le_refl _
        | succ k ih =>
          intro u hu
          by_cases h10 : u < 10
          · rw [Lib.nDigits_small h10]; omega
          · rw [Lib.nDigits_big h10]
            have := ih (u / 10) (by rw [Nat.pow_succ] at hu; omega)
            omega
      have := key 18 u (by omega)
      omega
theorem conv_one (w : World) (x : Int) (b : UInt8) (hx : x = (b.toNat : Int)) :
    (convert 42 9 (.slice (some ⟨w.heap.size, 0, none⟩) 1 1)).run Tryd.prog (w.alloc (.cells #[.int .u8 x] 5)) = .ok (.string ⟨#[b]⟩) (w.alloc (.cells #[.int .u8 x] 5)) := by
  subst hx
  exact run_convert_bytes_back (P := Tryd.prog) (w.alloc (.cells #[.int .u8 (b.toNat : Int)] 5)) 42 9 5 ⟨w.heap.size, 0, none⟩ 1 [b] Tryd.underlying42 Tryd.underlying5 Tryd.underlying9 (fun j hj => by
    have hj0 : j = 0 := by simpa using hj
    subst hj0
    rw [show Addr.add ⟨w.heap.size, 0, none⟩ 0 = ⟨w.heap.size, 0, none⟩ from rfl, World.cell?_alloc_new]
    rfl)
set_option maxHeartbeats 400000 in
set_option maxRecDepth 100000 in
theorem spec_any (n : Int) (h0 : -9223372036854775808 ≤ n) (h1 : n ≤ 9223372036854775807) (w : World) :
    Calls Tryd.prog 13 #[.int .i64 n] w fun e w' => e = .returned (.string ⟨(Lib.itoa n).toArray⟩) ∧ Below w.heap.size w w' := by
  by_cases hz : n = 0
  · subst hz
    go_enter Tryd.func13, Tryd.ntmps13
    go_wp2
    go_ret
    exact ⟨by rw [show Lib.itoa 0 = [48] from by decide +kernel]; rfl, Below.refl _ _⟩
  · have t1 : (n == 0) = false := by simpa using hz
    by_cases hneg : n < 0
    · have t2 : decide (n < 0) = true := by simpa using hneg
      go_enter Tryd.func13, Tryd.ntmps13
      go_wp2
      go_loopw [0, 4] (fun mv o wr => ∃ (m : Int) (l : List UInt8), -9223372036854775808 ≤ m ∧ m ≤ 0 ∧ mv = .int .i64 m ∧ o = .string ⟨l.toArray⟩ ∧ Hid (digs n.natAbs = digs m.natAbs ++ l) ∧ Below w.heap.size w wr) (fun m _ _ => (intOf m).natAbs)
      case atStart => exact ⟨n, [], by omega, by omega, rfl, rfl, Lib.hid (by simp), Below.refl _ _⟩
      case round =>
        obtain ⟨m, l, hm0, hm1, rfl, rfl, hd, hb⟩ := hrel
        have hl : l.length ≤ 20 := by
          have := digs_length n.natAbs (by omega)
          rw [hd.out] at this; simp at this; omega
        by_cases hk0 : m = 0
        · subst hk0
          have t3 : ((0 : Int) != 0) = false := rfl
          go_wp2
          go_ret
          refine ⟨?_, hb⟩
          have hd := hd.out
          unfold Lib.itoa
          rw [if_pos hneg]
          unfold digs at hd
          rw [if_neg (by omega)] at hd
          rw [hd]
          rfl
        · have t3 : (m != 0) = true := by simpa using hk0
          obtain ⟨r, hr⟩ : ∃ r : Nat, r = m.natAbs % 10 := ⟨_, rfl⟩
          have hr10 : r < 10 := by omega
          have hm : m.tmod 10 = -(r : Int) := by subst hr; exact tmod_neg m (by omega)
          have hq : m.tdiv 10 = -((m.natAbs / 10 : Nat) : Int) := tdiv_neg m (by omega)
          have hd' : digs n.natAbs = digs (m.natAbs / 10) ++ (UInt8.ofNat (48 + r) :: l) := by
            rw [hd.out, digs_step m.natAbs (by omega), ← hr]; simp
          have Hd := Lib.hid hd'
          have Hq := Lib.hid hq
          clear hr hd' hd hq
          by_cases hr0 : r = 0
          · subst hr0
            have hcv := conv_one wr 48 48 rfl
            go_wp2
            have hq := Hq.out
            exact ⟨⟨m.tdiv 10, 48 :: l, by omega, by omega, rfl, rfl, Lib.hid (by rw [hq, Int.natAbs_neg, Int.natAbs_natCast]; exact Hd.out), by go_grown; exact hb.size⟩, by simp only [intOf]; omega⟩
          · have hcv := conv_one wr (48 + (r : Int)) (UInt8.ofNat (48 + r)) (by simp; omega)
            go_wp2
            have hq := Hq.out
            exact ⟨⟨m.tdiv 10, UInt8.ofNat (48 + r) :: l, by omega, by omega, rfl, by simp; rfl, Lib.hid (by rw [hq, Int.natAbs_neg, Int.natAbs_natCast]; exact Hd.out), by go_grown; exact hb.size⟩, by simp only [intOf]; omega⟩
    · have t2 : decide (n < 0) = false := by simpa using hneg
      go_enter Tryd.func13, Tryd.ntmps13
      go_wp2
      go_loopw [0, 4] (fun mv o wr => ∃ (m : Nat) (l : List UInt8), m ≤ 9223372036854775807 ∧ mv = .int .i64 m ∧ o = .string ⟨l.toArray⟩ ∧ Hid (digs n.natAbs = digs m ++ l) ∧ Below w.heap.size w wr) (fun m _ _ => (intOf m).natAbs)
      case atStart => exact ⟨n.natAbs, [], by omega, by congr 1; omega, rfl, Lib.hid (by simp), Below.refl _ _⟩
      case round =>
        obtain ⟨m, l, hm1, rfl, rfl, hd, hb⟩ := hrel
        have hl : l.length ≤ 20 := by
          have := digs_length n.natAbs (by omega)
          rw [hd.out] at this; simp at this; omega
        by_cases hk0 : m = 0
        · subst hk0
          have t3 : ((0 : Int) != 0) = false := rfl
          go_wp2
          go_ret
          refine ⟨?_, hb⟩
          have hd := hd.out
          unfold Lib.itoa
          rw [if_neg (by omega), show n.toNat = n.natAbs from by omega]
          unfold digs at hd
          rw [if_neg (by omega)] at hd
          rw [hd]
          rfl
        · have t3 : ((m : Int) != 0) = true := by simpa using hk0
          obtain ⟨r, hr⟩ : ∃ r : Nat, r = m % 10 := ⟨_, rfl⟩
          have hr10 : r < 10 := by omega
          have hm : (m : Int) % 10 = (r : Int) := by omega
          have hd' : digs n.natAbs = digs (m / 10) ++ (UInt8.ofNat (48 + r) :: l) := by
            rw [hd.out, digs_step m (by omega), ← hr]; simp
          have Hd := Lib.hid hd'
          clear hr hd' hd
          have hcv := conv_one wr (48 + (r : Int)) (UInt8.ofNat (48 + r)) (by simp; omega)
          go_wp2
          exact ⟨⟨m / 10, UInt8.ofNat (48 + r) :: l, by omega, by simp, by simp; rfl, Hd, by go_grown; exact hb.size⟩, by simp only [intOf]; omega⟩
end Go.Proofs.YtohihlhkheeemaaDoor.Fmt
