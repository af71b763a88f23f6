/- Both sets of a circuit and the inner element, as spec tells them: l5Split, l5Inner; SplitOf, InnerOf. -/
import Derived.Test.YtfjimdmoindepaaQuSplit
import Derived.Test.YtfjimdmoindepaaQuCount
import Derived.Test.YtfjimdmoindepaaRuCircSpec
namespace Go.Proofs.Ytfjimdmoindepaa.Sg
open Go.RowKit Pt NewI
def sg1 (p : Bool) : Int := if p then 1 else -1
def by1 (p : Bool) : UInt8 := if p then 43 else 45
/-- Both sets of a circuit by its signs. -/
theorem sets4_of (p q r : Bool) (a b c d : Int) : sets4 (1, sg1 p, sg1 q, sg1 r) a b c d = (pw a + (if p then pw b else 0) + (if q then pw c else 0) + (if r then pw d else 0), 0 + (if p then 0 else pw b) + (if q then 0 else pw c) + (if r then 0 else pw d)) := by
  unfold sets4
  have hf : full (1, sg1 p, sg1 q, sg1 r) = true := by cases p <;> cases q <;> cases r <;> rfl
  rw [if_pos hf]
  have h1 : ∀ x : Bool, (sg1 x = 1) = (x = true) := fun x => by cases x <;> simp [sg1]
  simp only [h1, if_true]
theorem cirT_of (p q r : Bool) : cirT (1, sg1 p, sg1 q, sg1 r) = [43, by1 p, by1 q, by1 r] := by cases p <;> cases q <;> cases r <;> rfl
/-- Different elements of signs have a full circuit. -/
theorem full_dif {n a b c d : Nat} {s : List UInt8} (h : arB n s = true) (ha : a < n) (hb : b < n) (hc : c < n) (hd : d < n) (d1 : a ≠ b) (d2 : a ≠ c) (d3 : a ≠ d) (d4 : b ≠ c) (d5 : b ≠ d) (d6 : c ≠ d) : full (cir (sgnF (lookS n s)) a b c d) = true := by
  have s0 := sgn_one h hb hc hd d4 d6 d5
  have s1 := sgn_one h ha hc hd d2 d6 d3
  have s2 := sgn_one h ha hb hd d1 d5 d3
  have s3 := sgn_one h ha hb hc d1 d4 d2
  exact full_iff.2 ⟨by omega, by omega, by omega, by omega⟩
theorem lookS_bd (n : Int) (s : List UInt8) (a b c : Int) : -1 ≤ lookS n s a b c ∧ lookS n s a b c ≤ 1 := by
  unfold lookS
  split
  · exact look_bd _ _ _ _ _
  · omega
/-- The circuit of different elements. -/
theorem cir_form {n a b c d : Nat} {s : List UInt8} (h : arB n s = true) (ha : a < n) (hb : b < n) (hc : c < n) (hd : d < n) (d1 : a ≠ b) (d2 : a ≠ c) (d3 : a ≠ d) (d4 : b ≠ c) (d5 : b ≠ d) (d6 : c ≠ d) :
    ∃ p q r : Bool, cir (sgnF (lookS n s)) a b c d = (1, sg1 p, sg1 q, sg1 r) :=
  full_form (sgnF_bd (lookS_bd n s)) (full_dif h ha hb hc hd d1 d2 d3 d4 d5 d6)
theorem pow_bd {a : Nat} (h : a < 7) : 0 ≤ (2 : Int) ^ a ∧ (2 : Int) ^ a ≤ 64 := by
  rcases (by omega : a = 0 ∨ a = 1 ∨ a = 2 ∨ a = 3 ∨ a = 4 ∨ a = 5 ∨ a = 6) with rfl | rfl | rfl | rfl | rfl | rfl | rfl <;> decide
theorem pw_nat (a : Nat) : pw (a : Int) = (2 : Int) ^ a := by unfold pw; rw [Int.toNat_natCast]; push_cast; rfl
theorem ret_two {x y x' y' : Int} (h : (x', y') = (x, y)) : Ending.returned (.tuple #[.int .i64 x, .int .i64 y]) = Ending.returned (.tuple #[.int .i64 x', .int .i64 y']) := by
  obtain ⟨rfl, rfl⟩ := Prod.mk.inj h
  rfl
/-- The list's four cells, the box and the frame. -/
def S4 (w : World) (n : Int) (s : ByteArray) (g : Nat) (a b c d : Int) (W : World) : Prop := (W.cell? ⟨w.heap.size, 0, none⟩ = some (.int .i64 n) ∧ W.cell? ⟨w.heap.size, 1, none⟩ = some (.string s)) ∧ (W.cell? ⟨g, 0, none⟩ = some (.int .i64 a) ∧ W.cell? ⟨g, 1, none⟩ = some (.int .i64 b) ∧ W.cell? ⟨g, 2, none⟩ = some (.int .i64 c) ∧ W.cell? ⟨g, 3, none⟩ = some (.int .i64 d))
set_option maxHeartbeats 3200000 in
set_option maxRecDepth 100000 in
theorem l5Split_any (n : Nat) (s : ByteArray) (a b c d : Nat) (h : arB n s.data.toList = true) (ha : a < n) (hb : b < n) (hc : c < n) (hd : d < n) (d1 : a ≠ b) (d2 : a ≠ c) (d3 : a ≠ d) (d4 : b ≠ c) (d5 : b ≠ d) (d6 : c ≠ d) (g cp : Nat) (w : World) (hg : Cells w g 4 (zc [(a : Int), (b : Int), (c : Int), (d : Int)])) :
    Calls Try.prog 32 #[sg n s, .slice (some ⟨g, 0, none⟩) 4 cp] w fun e w' => e = .returned (.tuple #[.int .i64 (sets4 (cir (sgnF (lookS n s.data.toList)) a b c d) a b c d).1, .int .i64 (sets4 (cir (sgnF (lookS n s.data.toList)) a b c d) a b c d).2]) ∧ Below w.heap.size w w' := by
  obtain ⟨_, h7, -, -⟩ := arB_yes h
  have h7 : n ≤ 7 := by omega
  obtain ⟨p, q, r, hx⟩ := cir_form h ha hb hc hd d1 d2 d3 d4 d5 d6
  have HCI := Lib.hid (fun W => l4Circuit_any n s a b c d h ha hb hc hd d1 d2 d3 d4 d5 d6 W)
  rw [hx, cirT_of] at HCI
  rw [hx, sets4_of, pw_nat, pw_nat, pw_nat, pw_nat]
  have ba := pow_bd (a := a) (by omega)
  have bb := pow_bd (a := b) (by omega)
  have bc := pow_bd (a := c) (by omega)
  have bd := pow_bd (a := d) (by omega)
  obtain ⟨A, hA⟩ : ∃ x, x = (2 : Int) ^ a := ⟨_, rfl⟩
  obtain ⟨B, hB⟩ : ∃ x, x = (2 : Int) ^ b := ⟨_, rfl⟩
  obtain ⟨C, hC⟩ : ∃ x, x = (2 : Int) ^ c := ⟨_, rfl⟩
  obtain ⟨D, hD⟩ : ∃ x, x = (2 : Int) ^ d := ⟨_, rfl⟩
  have wa : IntKind.i64.wrap ((2 : Int) ^ a) = A := by rw [hA]; exact IntWalk.i64_in _ (by omega)
  have wb : IntKind.i64.wrap ((2 : Int) ^ b) = B := by rw [hB]; exact IntWalk.i64_in _ (by omega)
  have wc : IntKind.i64.wrap ((2 : Int) ^ c) = C := by rw [hC]; exact IntWalk.i64_in _ (by omega)
  have wd : IntKind.i64.wrap ((2 : Int) ^ d) = D := by rw [hD]; exact IntWalk.i64_in _ (by omega)
  rw [← hA] at ba; rw [← hB] at bb; rw [← hC] at bc; rw [← hD] at bd
  rw [← hA, ← hB, ← hC, ← hD]
  have HG := Lib.hid hg
  have hgw := hg.lt
  have HS := Lib.hid (box_made w n s 25)
  have HGL : Hid (∀ W, Below w.heap.size w W → W.cell? ⟨g, 0, none⟩ = some (.int .i64 a) ∧ W.cell? ⟨g, 1, none⟩ = some (.int .i64 b) ∧ W.cell? ⟨g, 2, none⟩ = some (.int .i64 c) ∧ W.cell? ⟨g, 3, none⟩ = some (.int .i64 d)) := Lib.hid (fun W hW => by
    have hh := hg.on hW
    exact ⟨hh.cell 0 (by omega), hh.cell 1 (by omega), hh.cell 2 (by omega), hh.cell 3 (by omega)⟩)
  clear h hx hA hB hC hD hg
  obtain ⟨x0, x1, X2⟩ := HS.out
  obtain ⟨y0, y1, y2, y3⟩ := HGL.out _ X2
  have HCC : Hid (∀ W, (W.cell? ⟨w.heap.size, 0, none⟩ = some (.int .i64 n) ∧ W.cell? ⟨w.heap.size, 1, none⟩ = some (.string s) ∧ W.cell? ⟨g, 0, none⟩ = some (.int .i64 a) ∧ W.cell? ⟨g, 1, none⟩ = some (.int .i64 b) ∧ W.cell? ⟨g, 2, none⟩ = some (.int .i64 c) ∧ W.cell? ⟨g, 3, none⟩ = some (.int .i64 d) ∧ Below w.heap.size w W) → Calls Try.prog 57 #[sg n s, .int .i64 a, .int .i64 b, .int .i64 c, .int .i64 d] W fun e w' => e = .returned (.string ⟨#[43, by1 p, by1 q, by1 r]⟩) ∧ w'.cell? ⟨w.heap.size, 0, none⟩ = some (.int .i64 n) ∧ w'.cell? ⟨w.heap.size, 1, none⟩ = some (.string s) ∧ w'.cell? ⟨g, 0, none⟩ = some (.int .i64 a) ∧ w'.cell? ⟨g, 1, none⟩ = some (.int .i64 b) ∧ w'.cell? ⟨g, 2, none⟩ = some (.int .i64 c) ∧ w'.cell? ⟨g, 3, none⟩ = some (.int .i64 d) ∧ Below w.heap.size w w') := Lib.hid (fun W hW => (HCI.out W).mono fun e w' ⟨he, hb⟩ => by
      have hbx : Box w n s w' := Box.on ⟨hW.1, hW.2.1, hW.2.2.2.2.2.2⟩ hb
      obtain ⟨k0, k1, k2, k3⟩ := HGL.out _ hbx.2.2
      exact ⟨he, hbx.1, hbx.2.1, k0, k1, k2, k3, hbx.2.2⟩)
  clear HCI
  go_enter Try.func32, Try.ntmps32
  go_wp2
  go_region_held3 (fun W => W.cell? ⟨w.heap.size, 0, none⟩ = some (.int .i64 n) ∧ W.cell? ⟨w.heap.size, 1, none⟩ = some (.string s) ∧ W.cell? ⟨g, 0, none⟩ = some (.int .i64 a) ∧ W.cell? ⟨g, 1, none⟩ = some (.int .i64 b) ∧ W.cell? ⟨g, 2, none⟩ = some (.int .i64 c) ∧ W.cell? ⟨g, 3, none⟩ = some (.int .i64 d) ∧ Below w.heap.size w W)
    (first | exact ⟨by assumption, by assumption, by assumption, by assumption, by assumption, by assumption, by assumption⟩ | exact ⟨by assumption, by assumption, by assumption, by assumption, by assumption, by assumption, Below.drew (by assumption)⟩)
    (first | (go_at_call 57; refine (HCC.out _ ?_).mono ?_; (first | exact ⟨by assumption, by assumption, by assumption, by assumption, by assumption, by assumption, by assumption⟩ | exact ⟨by assumption, by assumption, by assumption, by assumption, by assumption, by assumption, Below.drew (by assumption)⟩); rintro e' w' ⟨rfl, c1, c2, c3, c4, c5, c6, c7⟩))
  all_goals
    have HB := Lib.hid c7
    clear c1 c2 c7 x0 x1 y0 y1 y2 y3 HG HGL HS HCC X2
    go_wp2
    refine wp_loop_rounds 5 ?_
    rw [rounds_succ]
    go_wp2
    rw [rounds_succ]
    cases p
    · go_wp2
      rw [rounds_succ]
      cases q
      · go_wp2
        rw [rounds_succ]
        cases r
        · go_wp2
          rw [rounds_succ]
          go_wp2
          go_ret2
          exact ⟨ret_two (by simp <;> omega), HB.out⟩
        · go_wp2
          rw [rounds_succ]
          go_wp2
          go_ret2
          exact ⟨ret_two (by simp <;> omega), HB.out⟩
      · go_wp2
        rw [rounds_succ]
        cases r
        · go_wp2
          rw [rounds_succ]
          go_wp2
          go_ret2
          exact ⟨ret_two (by simp <;> omega), HB.out⟩
        · go_wp2
          rw [rounds_succ]
          go_wp2
          go_ret2
          exact ⟨ret_two (by simp <;> omega), HB.out⟩
    · go_wp2
      rw [rounds_succ]
      cases q
      · go_wp2
        rw [rounds_succ]
        cases r
        · go_wp2
          rw [rounds_succ]
          go_wp2
          go_ret2
          exact ⟨ret_two (by simp <;> omega), HB.out⟩
        · go_wp2
          rw [rounds_succ]
          go_wp2
          go_ret2
          exact ⟨ret_two (by simp <;> omega), HB.out⟩
      · go_wp2
        rw [rounds_succ]
        cases r
        · go_wp2
          rw [rounds_succ]
          go_wp2
          go_ret2
          exact ⟨ret_two (by simp <;> omega), HB.out⟩
        · go_wp2
          rw [rounds_succ]
          go_wp2
          go_ret2
          exact ⟨ret_two (by simp <;> omega), HB.out⟩
/-- A slice of four numbers just made. -/
theorem cells4_made (w : World) (a b c d : Int) (t : TypeId) : Cells (w.alloc (.cells #[.int .i64 a, .int .i64 b, .int .i64 c, .int .i64 d] t)) w.heap.size 4 (zc [a, b, c, d]) := by
  obtain ⟨h0, h1, h2, h3⟩ := box4_made w a b c d t
  refine ⟨fun j hj => ?_, fun j => by go_simp, by simp⟩
  rcases (by omega : j = 0 ∨ j = 1 ∨ j = 2 ∨ j = 3) with rfl | rfl | rfl | rfl
  · exact h0
  · exact h1
  · exact h2
  · exact h3
/-- The inner one of different elements, told by spec. -/
theorem inner_max {n a b c d : Nat} {s : List UInt8} (h : arB n s = true) (ha : a < n) (hb : b < n) (hc : c < n) (hd : d < n) (d1 : a ≠ b) (d2 : a ≠ c) (d3 : a ≠ d) (d4 : b ≠ c) (d5 : b ≠ d) (d6 : c ≠ d) :
    max (only (sets4 (cir (sgnF (lookS n s)) a b c d) a b c d).1) (only (sets4 (cir (sgnF (lookS n s)) a b c d) a b c d).2) = inn4 (cir (sgnF (lookS n s)) a b c d) a b c d := by
  obtain ⟨_, h7, -, -⟩ := arB_yes h
  exact max_only (sgnF_bd (lookS_bd n s)) fun _ => ⟨by omega, by omega, by omega, by omega, by omega, by omega, by omega, by omega, by omega, by omega⟩
set_option maxHeartbeats 1600000 in
set_option maxRecDepth 100000 in
theorem l5Inner_any (n : Nat) (s : ByteArray) (a b c d : Nat) (h : arB n s.data.toList = true) (ha : a < n) (hb : b < n) (hc : c < n) (hd : d < n) (d1 : a ≠ b) (d2 : a ≠ c) (d3 : a ≠ d) (d4 : b ≠ c) (d5 : b ≠ d) (d6 : c ≠ d) (g cp : Nat) (w : World) (hg : Cells w g 4 (zc [(a : Int), (b : Int), (c : Int), (d : Int)])) :
    Calls Try.prog 40 #[sg n s, .slice (some ⟨g, 0, none⟩) 4 cp] w fun e w' => e = .returned (.int .i64 (inn4 (cir (sgnF (lookS n s.data.toList)) a b c d) a b c d)) ∧ Below w.heap.size w w' := by
  have HI := Lib.hid (inner_max h ha hb hc hd d1 d2 d3 d4 d5 d6)
  have HSP : Hid (∀ W, Below w.heap.size w W → Calls Try.prog 32 #[sg n s, .slice (some ⟨g, 0, none⟩) 4 cp] W fun e w' => e = .returned (.tuple #[.int .i64 (sets4 (cir (sgnF (lookS n s.data.toList)) a b c d) a b c d).1, .int .i64 (sets4 (cir (sgnF (lookS n s.data.toList)) a b c d) a b c d).2]) ∧ Below W.heap.size W w') := Lib.hid (fun W hW => l5Split_any n s a b c d h ha hb hc hd d1 d2 d3 d4 d5 d6 g cp W (hg.on hW))
  have HS := Lib.hid (box_made w n s 25)
  rw [← HI.out]
  generalize sets4 (cir (sgnF (lookS n s.data.toList)) a b c d) a b c d = x at HSP ⊢
  obtain ⟨x, y⟩ := x
  clear HI h ha hb hc hd d1 d2 d3 d4 d5 d6 hg
  have HB0 := Lib.hid HS.out.2.2
  go_enter Try.func40, Try.ntmps40
  go_wp2_with fail
  refine (HSP.out _ HB0.out).mono ?_
  rintro e w1 ⟨rfl, hb1⟩
  have HB1 := Lib.hid (HB0.out.trans (hb1.mono HB0.out.size))
  clear hb1
  go_wp2_with fail
  refine (l5Only_any _ _).mono ?_
  rintro e w' ⟨rfl, rfl⟩
  go_wp2_with fail
  refine (l5Only_any _ _).mono ?_
  rintro e w' ⟨rfl, rfl⟩
  go_wp2_with fail
  refine (maxI_any _ _ _).mono ?_
  rintro e w' ⟨rfl, rfl⟩
  go_wp2
  go_ret
  exact ⟨rfl, HB1.out⟩
/-- Without order signs there are no sets. -/
theorem full_no {n : Int} {s : List UInt8} (h : aciB n s = false) (a b c d : Int) : full (cir (sgnF (ordF n s)) a b c d) = false := by
  cases hf : full (cir (sgnF (ordF n s)) a b c d)
  · rfl
  · exact absurd (sgnO_no h b c d) (full_iff.1 hf).1
/-- A full circuit has different elements. -/
theorem dif_of_full {n : Nat} {s : List UInt8} (h : arB n s = true) {a b c d : Int} (hf : full (cir (sgnF (lookS n s)) a b c d) = true) : difB n [a, b, c, d] = true := by
  obtain ⟨h0, h1, h2, h3⟩ := full_iff.1 hf
  have g0 := Classical.byContradiction fun hb => h0 (sgnF_bad h hb)
  have g1 := Classical.byContradiction fun hb => h1 (sgnF_bad h hb)
  have g2 := Classical.byContradiction fun hb => h2 (sgnF_bad h hb)
  have g3 := Classical.byContradiction fun hb => h3 (sgnF_bad h hb)
  exact difB4.2 ⟨by omega, by omega, by omega, by omega, by omega, by omega, by omega, by omega, by omega, by omega⟩
/-- What SplitOf answers. -/
def splitZ (n : Int) (s : List UInt8) (a b c d : Int) : Int × Int := sets4 (cir (sgnF (ordF n s)) a b c d) a b c d
theorem splitZ_no {n : Int} {s : List UInt8} (h : aciB n s = false) (a b c d : Int) : splitZ n s a b c d = (0, 0) := sets4_no (full_no h a b c d) _ _ _ _
theorem splitZ_same {n : Nat} {s : List UInt8} (h : aciB n s = true) {a b c d : Int} (hd : difB n [a, b, c, d] = false) : splitZ n s a b c d = (0, 0) := by
  unfold splitZ
  rw [ordF_yes h]
  refine sets4_no ?_ _ _ _ _
  cases hf : full (cir (sgnF (lookS n s)) a b c d)
  · rfl
  · rw [dif_of_full (matB_ar (aciB_mat h)) hf] at hd; cases hd
theorem ordF_is {n : Int} {s : List UInt8} (h : aciB n s = true) (a b c d : Int) : cir (sgnF (ordF n s)) a b c d = cir (sgnF (lookS n s)) a b c d := by rw [ordF_yes h]
set_option maxHeartbeats 3200000 in
set_option maxRecDepth 100000 in
theorem specSplit (n : Int) (s : ByteArray) (a b c d : Int) (hs : s.size ≤ 9223372036854775807) (w : World) :
    Calls Try.prog 8 #[sg n s, .int .i64 a, .int .i64 b, .int .i64 c, .int .i64 d] w fun e w' => e = .returned (.tuple #[.int .i64 (splitZ n s.data.toList a b c d).1, .int .i64 (splitZ n s.data.toList a b c d).2]) ∧ Below w.heap.size w w' := by
  have HA := Lib.hid (fun W => specAci n s hs W)
  have HS := Lib.hid ((box_made w n s 25).alloc (.cells #[.int .i64 a, .int .i64 b, .int .i64 c, .int .i64 d] 3))
  obtain ⟨x0, x1, -⟩ := HS.out
  cases h : aciB n s.data.toList
  · have HE := Lib.hid (splitZ_no h a b c d)
    rw [h] at HA
    clear h
    go_enter Try.func8, Try.ntmps8
    go_wp2_with fail
    refine (HA.out _).mono ?_
    rintro e w1 ⟨rfl, hb1⟩
    have B1 := Lib.hid (HS.out.on hb1).2.2
    clear hb1 x0 x1
    go_wp2
    go_ret2
    exact ⟨ret_two HE.out, B1.out⟩
  · obtain ⟨h3, h7⟩ := aciB_n h
    obtain ⟨m, rfl⟩ : ∃ m : Nat, n = m := ⟨n.toNat, by omega⟩
    have HG := Lib.hid (cells4_made (w.alloc (.cells #[.int .i64 m, .string s] 25)) a b c d 3)
    have hsz : (w.alloc (.cells #[.int .i64 m, .string s] 25)).heap.size = w.heap.size + 1 := by simp
    rw [hsz] at HG
    have HD : Hid (∀ W, Cells W (w.heap.size + 1) 4 (zc [a, b, c, d]) → Calls Try.prog 31 #[.int .i64 m, .slice (some ⟨w.heap.size + 1, 0, none⟩) 4 4] W fun e w' => e = .returned (.bool (difB m [a, b, c, d])) ∧ Below W.heap.size W w') := Lib.hid (fun W hW => l5Different_any m (by omega) [a, b, c, d] (by simp) (w.heap.size + 1) 4 W hW)
    cases hdf : difB m [a, b, c, d]
    · have HE := Lib.hid (splitZ_same h hdf)
      rw [h] at HA
      rw [hdf] at HD
      clear h hdf
      go_enter Try.func8, Try.ntmps8
      go_wp2_with fail
      refine (HA.out _).mono ?_
      rintro e w1 ⟨rfl, hb1⟩
      have X1 := Lib.hid (HS.out.on hb1)
      have G1 := Lib.hid (HG.out.on hb1)
      clear hb1 x0 x1
      obtain ⟨x0, x1, B1⟩ := X1.out
      go_wp2_with fail
      refine (HD.out _ G1.out).mono ?_
      rintro e w2 ⟨rfl, hb2⟩
      have B2 := Lib.hid (B1.trans (hb2.mono B1.size))
      clear hb2 x0 x1
      go_wp2
      go_ret2
      exact ⟨ret_two HE.out, B2.out⟩
    · have har := matB_ar (aciB_mat h)
      obtain ⟨ga, gb, gc, gd, n1, n2, n3, n4, n5, n6⟩ := difB4.1 hdf
      obtain ⟨a, rfl⟩ : ∃ x : Nat, a = x := ⟨a.toNat, by omega⟩
      obtain ⟨b, rfl⟩ : ∃ x : Nat, b = x := ⟨b.toNat, by omega⟩
      obtain ⟨c, rfl⟩ : ∃ x : Nat, c = x := ⟨c.toNat, by omega⟩
      obtain ⟨d, rfl⟩ : ∃ x : Nat, d = x := ⟨d.toNat, by omega⟩
      have HE := Lib.hid (ordF_is h a b c d)
      have HSP : Hid (∀ W, Cells W (w.heap.size + 1) 4 (zc [(a : Int), (b : Int), (c : Int), (d : Int)]) → Calls Try.prog 32 #[sg m s, .slice (some ⟨w.heap.size + 1, 0, none⟩) 4 4] W fun e w' => e = .returned (.tuple #[.int .i64 (sets4 (cir (sgnF (lookS m s.data.toList)) a b c d) a b c d).1, .int .i64 (sets4 (cir (sgnF (lookS m s.data.toList)) a b c d) a b c d).2]) ∧ Below W.heap.size W w') := Lib.hid (fun W hW => l5Split_any m s a b c d har (by omega) (by omega) (by omega) (by omega) (by omega) (by omega) (by omega) (by omega) (by omega) (by omega) _ 4 W hW)
      unfold splitZ
      rw [HE.out]
      generalize sets4 (cir (sgnF (lookS m s.data.toList)) a b c d) a b c d = x at HSP ⊢
      obtain ⟨x, y⟩ := x
      rw [h] at HA
      rw [hdf] at HD
      clear h hdf har HE n1 n2 n3 n4 n5 n6
      go_enter Try.func8, Try.ntmps8
      go_wp2_with fail
      refine (HA.out _).mono ?_
      rintro e w1 ⟨rfl, hb1⟩
      have X1 := Lib.hid (HS.out.on hb1)
      have G1 := Lib.hid (HG.out.on hb1)
      clear hb1 x0 x1
      obtain ⟨x0, x1, B1⟩ := X1.out
      go_wp2_with fail
      refine (HD.out _ G1.out).mono ?_
      rintro e w2 ⟨rfl, hb2⟩
      have X2 := Lib.hid (X1.out.on hb2)
      have G2 := Lib.hid (G1.out.on hb2)
      clear hb2 x0 x1 B1
      obtain ⟨x0, x1, B2⟩ := X2.out
      go_wp2_with fail
      refine (HSP.out _ G2.out).mono ?_
      rintro e w3 ⟨rfl, hb3⟩
      have B3 := Lib.hid (B2.trans (hb3.mono B2.size))
      clear hb3 x0 x1
      go_wp2
      go_ret2
      exact ⟨rfl, B3.out⟩
/-- What InnerOf answers is what both sets' only elements tell. -/
theorem inner_split (n : Int) (s : List UInt8) (a b c d : Int) : max (only (splitZ n s a b c d).1) (only (splitZ n s a b c d).2) = inn4 (cir (sgnF (ordF n s)) a b c d) a b c d := by
  refine max_only (sgnO_bd n s) fun hf => ?_
  cases h : aciB n s
  · rw [full_no h] at hf; cases hf
  · obtain ⟨h3, h7⟩ := aciB_n h
    obtain ⟨m, rfl⟩ : ∃ m : Nat, n = m := ⟨n.toNat, by omega⟩
    rw [ordF_is h] at hf
    obtain ⟨g0, g1, g2, g3, q⟩ := difB4.1 (dif_of_full (matB_ar (aciB_mat h)) hf)
    exact ⟨by omega, by omega, by omega, by omega, q⟩
set_option maxHeartbeats 1600000 in
set_option maxRecDepth 100000 in
theorem specInner (n : Int) (s : ByteArray) (a b c d : Int) (hs : s.size ≤ 9223372036854775807) (w : World) :
    Calls Try.prog 13 #[sg n s, .int .i64 a, .int .i64 b, .int .i64 c, .int .i64 d] w fun e w' => e = .returned (.int .i64 (inn4 (cir (sgnF (ordF n s.data.toList)) a b c d) a b c d)) ∧ Below w.heap.size w w' := by
  have HSP := Lib.hid (fun W => specSplit n s a b c d hs W)
  have HI := Lib.hid (inner_split n s.data.toList a b c d)
  have HS := Lib.hid (box_made w n s 25)
  rw [← HI.out]
  generalize splitZ n s.data.toList a b c d = x at HSP ⊢
  obtain ⟨x, y⟩ := x
  clear HI
  have HB0 := Lib.hid HS.out.2.2
  go_enter Try.func13, Try.ntmps13
  go_wp2_with fail
  refine (HSP.out _).mono ?_
  rintro e w1 ⟨rfl, hb1⟩
  have HB1 := Lib.hid (HB0.out.trans (hb1.mono HB0.out.size))
  clear hb1
  go_wp2_with fail
  refine (l5Only_any _ _).mono ?_
  rintro e w' ⟨rfl, rfl⟩
  go_wp2_with fail
  refine (l5Only_any _ _).mono ?_
  rintro e w' ⟨rfl, rfl⟩
  go_wp2_with fail
  refine (maxI_any _ _ _).mono ?_
  rintro e w' ⟨rfl, rfl⟩
  go_wp2
  go_ret
  exact ⟨rfl, HB1.out⟩
end Go.Proofs.Ytfjimdmoindepaa.Sg
