/- markText, markStringS, heldStringS: a slice of strings is filled with marks, and asked for them. -/
import Derived.Test.YtillgegbkfhpnaaDoorStrs
import Derived.Lib.ItoaNum
import Derived.Laws.IdiomStrings
import Derived.Deep.RegionHeld3
import Derived.Laws.AppendOwn
namespace Go.Proofs.YtillgegbkfhpnaaDoor.Strs
open Go.RowKit

def digs (u : Nat) : List UInt8 := if u = 0 then [] else Lib.decDigits u
theorem digs_step (u : Nat) (h : u ≠ 0) : digs u = digs (u / 10) ++ [UInt8.ofNat (48 + u % 10)] := by
  unfold digs
  rw [if_neg h]
  by_cases h10 : u < 10
  · rw [if_pos (by omega), Lib.decDigits_one h10, Nat.mod_eq_of_lt h10]; rfl
  · rw [if_neg (by omega)]; conv => lhs; rw [Lib.decDigits, dif_neg h10]
theorem digs_length (u : Nat) (h : u ≤ 9223372036854775808) : (digs u).length ≤ 20 := by
  have key : ∀ (k u : Nat), u < 10 ^ (k + 1) → Lib.nDigits u ≤ k + 1 := by
    intro k
    induction k with
    | zero => intro u hu; rw [Lib.nDigits_small (by simpa using hu)]; exact Nat.le_refl _
    | succ k ih =>
      intro u hu
      by_cases h10 : u < 10
      · rw [Lib.nDigits_small h10]; omega
      · rw [Lib.nDigits_big h10]
        have := ih (u / 10) (by rw [Nat.pow_succ] at hu; omega)
        omega
  unfold digs
  split
  · simp
  · rw [Lib.decDigits_length]
    have := key 18 u (by omega)
    omega
theorem conv_one (w : World) (x : Int) (b : UInt8) (hx : x = (b.toNat : Int)) :
    (convert 22 9 (.slice (some ⟨w.heap.size, 0, none⟩) 1 1)).run Tryd.prog (w.alloc (.cells #[.int .u8 x] 5)) = .ok (.string ⟨#[b]⟩) (w.alloc (.cells #[.int .u8 x] 5)) := by
  subst hx
  exact run_convert_bytes_back (P := Tryd.prog) (w.alloc (.cells #[.int .u8 (b.toNat : Int)] 5)) 22 9 5 ⟨w.heap.size, 0, none⟩ 1 [b] Tryd.underlying22 Tryd.underlying5 Tryd.underlying9 (fun j hj => by
    have hj0 : j = 0 := by simpa using hj
    subst hj0
    rw [show Addr.add ⟨w.heap.size, 0, none⟩ 0 = ⟨w.heap.size, 0, none⟩ from rfl, World.cell?_alloc_new]
    rfl)

/-- The mark of k, for k from 1 on. -/
def mark (k : Nat) : ByteArray := ⟨(109 :: digs k).toArray⟩
theorem mark_inj_self (k : Nat) : ((mark k).toList == (mark k).toList) = true := by simp

set_option maxHeartbeats 400000 in
set_option maxRecDepth 100000 in
theorem markText_any (n : Nat) (h1 : 1 ≤ n) (h2 : n ≤ 9223372036854775807) (w : World) :
    Calls Tryd.prog 37 #[.int .i64 n] w fun e w' => e = .returned (.string (mark n)) ∧ Below w.heap.size w w' := by
  have t1 : decide ((n : Int) ≤ 0) = false := by simp; omega
  go_enter Tryd.func37, Tryd.ntmps37
  go_wp2
  go_loopw [0, 3] (fun mv o wr => ∃ (m : Nat) (l : List UInt8), m ≤ 9223372036854775807 ∧ mv = .int .i64 m ∧ o = .string ⟨l.toArray⟩ ∧ Hid (digs n = digs m ++ l) ∧ Below w.heap.size w wr) (fun m _ _ => (intOf m).natAbs)
  case atStart => exact ⟨n, [], h2, rfl, rfl, Lib.hid (by simp), Below.refl _ _⟩
  case round =>
    obtain ⟨m, l, hm1, rfl, rfl, hd, hb⟩ := hrel
    have hl : l.length ≤ 20 := by
      have := digs_length n (by omega)
      rw [hd.out] at this; simp at this; omega
    by_cases hk0 : m ≤ 0
    · have HF : Hid (mark n = ⟨(109 :: l).toArray⟩) := Lib.hid (by
        unfold mark
        rw [hd.out]
        obtain rfl : m = 0 := by omega
        simp [digs])
      go_wp2
      go_ret
      exact ⟨by rw [HF.out]; rfl, hb⟩
    · have hk1 : 0 < m := by omega
      obtain ⟨r, hr⟩ : ∃ r : Nat, r = m % 10 := ⟨_, rfl⟩
      have hr10 : r < 10 := by omega
      have hm : (m : Int) % 10 = (r : Int) := by omega
      have hd' : digs n = digs (m / 10) ++ (UInt8.ofNat (48 + r) :: l) := by
        rw [hd.out, digs_step m (by omega), ← hr]; simp
      have Hd := Lib.hid hd'
      clear hr hd' hd
      have hcv := conv_one wr (48 + (r : Int)) (UInt8.ofNat (48 + r)) (by simp; omega)
      go_wp2
      exact ⟨⟨m / 10, UInt8.ofNat (48 + r) :: l, by omega, by simp, by simp; rfl, Hd, by go_grown; exact hb.size⟩, by simp only [intOf]; omega⟩

/-- Of the cells of a row: the first m bear the marks from k on. -/
def marked (k m : Nat) (f : Nat → Value) (j : Nat) : Value := if j < m then .string (mark (k + j)) else f j
theorem grown_below {w w' w'' : World} {b : Nat} (h : w.grownBy w' (some b)) (hb : Below w'.heap.size w' w'') : w.grownBy w'' (some b) :=
  ⟨hb.os.trans h.os, hb.tape.trans h.tape, hb.output.trans h.output, Nat.le_trans h.size hb.size, fun i hi hn => (hb.block i (Nat.lt_of_lt_of_le hi h.size)).trans (h.block i hi hn)⟩
theorem grown_set {w w' : World} {b : Nat} (h : w.grownBy w' (some b)) (j : Nat) (v : Value) : w.grownBy (w'.setCell ⟨b, j, none⟩ v) (some b) :=
  ⟨h.os, h.tape, h.output, by simpa [World.setCell] using h.size, fun i hi hn => (Below.heap_setCell w' ⟨b, j, none⟩ v i (fun e => hn (by rw [e]))).trans (h.block i hi hn)⟩

set_option maxHeartbeats 400000 in
set_option maxRecDepth 100000 in
theorem mark_any (b n c k0 : Nat) (t : TypeId) (f : Nat → Value) (hf : ∀ j, ∃ s, f j = .string s) (hn : n ≤ 2000000) (hk0 : 1 ≤ k0) (hk1 : k0 ≤ 1000000) (w : World) (hrow : w.rowIs b t n f) :
    Calls Tryd.prog 23 #[.slice (some ⟨b, 0, none⟩) n c, .int .i64 k0] w fun e w' => e = .returned (.int .i64 (k0 + n : Nat)) ∧ w'.rowIs b t n (marked k0 n f) ∧ w.grownBy w' (some b) := by
  have HR0 := Lib.hid (hrow.congr (g := marked k0 0 f) (fun i hi => by simp [marked]))
  have HG0 : Hid (w.grownBy w (some b)) := Lib.hid ⟨rfl, rfl, rfl, Nat.le_refl _, fun _ _ _ => rfl⟩
  clear hrow
  go_enter Tryd.func23, Tryd.ntmps23
  go_wp2
  go_loopw [1, 5] (fun kv i wr => ∃ k : Nat, k ≤ n ∧ i = .int .i64 k ∧ kv = .int .i64 (k0 + k : Nat) ∧ wr.rowIs b t n (marked k0 k f) ∧ w.grownBy wr (some b)) (fun _ i _ => n - (intOf i).toNat)
  case atStart => exact ⟨0, Nat.zero_le _, rfl, rfl, HR0.out, HG0.out⟩
  case round =>
    obtain ⟨k, hk, rfl, rfl, hrow, hg⟩ := hrel
    by_cases hlt : k < n
    · have HM := Lib.hid (markText_any (k0 + k) (by omega) (by omega))
      have HR := Lib.hid hrow
      clear hrow
      go_wp2_with fail
      refine (HM.out wr).mono ?_
      rintro e w1 ⟨rfl, hb1⟩
      have hrow1 := HR.out.of_block (hb1.block b HR.out.lt)
      have hcell := hrow1.cell hlt
      have hfz := hrow1.frozen k
      obtain ⟨s0, hs0⟩ := hf k
      have hcell' : w1.cell? ⟨b, k, none⟩ = some (.string s0) := by rw [hcell]; unfold marked; rw [if_neg (by omega), hs0]
      have HR1 := Lib.hid ((hrow1.set k (.string (mark (k0 + k)))).congr (g := marked k0 (k + 1) f) (fun i hi => by
        unfold marked
        by_cases e : i = k
        · subst e; rw [if_pos rfl, if_pos (by omega)]
        · rw [if_neg e]
          by_cases h2 : i < k
          · rw [if_pos h2, if_pos (by omega)]
          · rw [if_neg h2, if_neg (by omega)]))
      have HG1 := Lib.hid (grown_set (grown_below hg hb1) k (.string (mark (k0 + k))))
      clear hcell hrow1 hs0
      go_wp2
      exact ⟨⟨k + 1, by omega, by go_num, by go_num, HR1.out, HG1.out⟩, by simp only [intOf]; omega⟩
    · obtain rfl : k = n := by omega
      have HR := Lib.hid hrow
      clear hrow
      go_wp2
      go_ret
      exact ⟨rfl, HR.out, hg⟩

theorem held_text (b k n : Nat) (h1 : 1 ≤ n) (h2 : n ≤ 9223372036854775807) (w : World) (hbw : b < w.heap.size) {v : Value} (W : World) (hc : W.cell? ⟨b, k, none⟩ = some v) (hb : Below w.heap.size w W) :
    Calls Tryd.prog 37 #[.int .i64 n] W fun e w' => e = .returned (.string (mark n)) ∧ w'.cell? ⟨b, k, none⟩ = some v ∧ Below w.heap.size w w' :=
  (markText_any n h1 h2 W).mono fun _ _ ⟨he, hb1⟩ => ⟨he, by rw [hb1.cell (Nat.lt_of_lt_of_le hbw hb.size)]; exact hc, hb.trans (hb1.mono hb.size)⟩

set_option maxHeartbeats 400000 in
set_option maxRecDepth 100000 in
theorem held_any (b n c k0 : Nat) (t : TypeId) (f : Nat → Value) (hn : n ≤ 2000000) (hk0 : 1 ≤ k0) (hk1 : k0 ≤ 1000000) (w : World) (hrow : w.rowIs b t n (marked k0 n f)) :
    Calls Tryd.prog 24 #[.slice (some ⟨b, 0, none⟩) n c, .int .i64 k0] w fun e w' => e = .returned (.int .i64 (k0 + n : Nat)) ∧ Below w.heap.size w w' := by
  have hbw := hrow.lt
  have HR0 := Lib.hid hrow
  clear hrow
  go_enter Tryd.func24, Tryd.ntmps24
  go_wp2
  go_loopw [1, 5] (fun kv i wr => ∃ k : Nat, k ≤ n ∧ i = .int .i64 k ∧ kv = .int .i64 (k0 + k : Nat) ∧ Below w.heap.size w wr) (fun _ i _ => n - (intOf i).toNat)
  case atStart => exact ⟨0, Nat.zero_le _, rfl, rfl, Below.refl _ _⟩
  case round =>
    obtain ⟨k, hk, rfl, rfl, hb⟩ := hrel
    by_cases hlt : k < n
    · have HM := Lib.hid (held_text b k (k0 + k) (by omega) (by omega) w hbw (v := .string (mark (k0 + k))))
      have hrow1 := HR0.out.of_block (hb.block b hbw)
      have hcell : wr.cell? ⟨b, k, none⟩ = some (.string (mark (k0 + k))) := by have := hrow1.cell hlt; unfold marked at this; rwa [if_pos hlt] at this
      have hself := mark_inj_self (k0 + k)
      clear hrow1
      go_wp2
      go_region_held3 (fun w' => w'.cell? ⟨b, k, none⟩ = some (.string (mark (k0 + k))) ∧ Below w.heap.size w w') (first | exact ⟨hcell, hb⟩ | exact ⟨hcell, hb.drew⟩ | (constructor <;> assumption))
        (first | (go_at_call 37; refine (HM.out _ ?_ ?_).mono ?_; (first | exact hcell | assumption); (first | exact hb | exact hb.drew | assumption); rintro e w' ⟨rfl, hc2, hb2⟩))
      go_wp2
      exact ⟨⟨k + 1, by omega, by go_num, by go_num, by assumption⟩, by simp only [intOf]; omega⟩
    · obtain rfl : k = n := by omega
      go_wp2
      go_ret
      exact ⟨rfl, hb⟩
end Go.Proofs.YtillgegbkfhpnaaDoor.Strs
