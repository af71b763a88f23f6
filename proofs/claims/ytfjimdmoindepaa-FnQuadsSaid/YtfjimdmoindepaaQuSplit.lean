/- Both sets of a circuit and the inner element, as spec tells them: l5Different, l5Only, l5Split, l5Inner; SplitOf, InnerOf. -/
import Derived.Test.YtfjimdmoindepaaQuOrd
import Derived.Test.YtfjimdmoindepaaNewI
namespace Go.Proofs.Ytfjimdmoindepaa.Sg
open Go.RowKit Pt NewI
/-- Are all ahead of number k elements, and different? -/
def DifTo (n : Int) (zs : List Int) (k : Nat) : Prop := ∀ i, i < k → (0 ≤ zs.getD i 0 ∧ zs.getD i 0 < n) ∧ ∀ j, j < i → zs.getD i 0 ≠ zs.getD j 0
instance (n : Int) (zs : List Int) (k : Nat) : Decidable (DifTo n zs k) := by unfold DifTo; infer_instance
/-- Are these different elements? -/
def difB (n : Int) (zs : List Int) : Bool := decide (DifTo n zs zs.length)
theorem difTo_zero (n : Int) (zs : List Int) : DifTo n zs 0 := fun i hi => by omega
theorem difTo_step {n : Int} {zs : List Int} {k : Nat} (h : DifTo n zs k) (h1 : 0 ≤ zs.getD k 0 ∧ zs.getD k 0 < n) (h2 : ∀ j, j < k → zs.getD k 0 ≠ zs.getD j 0) : DifTo n zs (k + 1) := fun i hi => by
  by_cases e : i = k
  · subst e; exact ⟨h1, h2⟩
  · exact h i (by omega)
theorem difB_out {n : Int} {zs : List Int} {k : Nat} (hk : k < zs.length) (h : ¬ (0 ≤ zs.getD k 0 ∧ zs.getD k 0 < n)) : difB n zs = false := by
  unfold difB
  exact decide_eq_false fun hd => h (hd k hk).1
theorem difB_same {n : Int} {zs : List Int} {k j : Nat} (hk : k < zs.length) (hj : j < k) (h : zs.getD k 0 = zs.getD j 0) : difB n zs = false := by
  unfold difB
  exact decide_eq_false fun hd => (hd k hk).2 j hj h
theorem difB4 {n a b c d : Int} : difB n [a, b, c, d] = true ↔ (0 ≤ a ∧ a < n) ∧ (0 ≤ b ∧ b < n) ∧ (0 ≤ c ∧ c < n) ∧ (0 ≤ d ∧ d < n) ∧ a ≠ b ∧ a ≠ c ∧ a ≠ d ∧ b ≠ c ∧ b ≠ d ∧ c ≠ d := by
  unfold difB
  rw [decide_eq_true_eq]
  constructor
  · intro h
    have h0 := h 0 (by simp)
    have h1 := h 1 (by simp)
    have h2 := h 2 (by simp)
    have h3 := h 3 (by simp)
    have e10 := h1.2 0 (by omega)
    have e20 := h2.2 0 (by omega)
    have e21 := h2.2 1 (by omega)
    have e30 := h3.2 0 (by omega)
    have e31 := h3.2 1 (by omega)
    have e32 := h3.2 2 (by omega)
    have q0 := h0.1
    have q1 := h1.1
    have q2 := h2.1
    have q3 := h3.1
    simp at q0 q1 q2 q3 e10 e20 e21 e30 e31 e32
    exact ⟨q0, q1, q2, q3, fun e => e10 e.symm, fun e => e20 e.symm, fun e => e30 e.symm, fun e => e21 e.symm, fun e => e31 e.symm, fun e => e32 e.symm⟩
  · rintro ⟨h0, h1, h2, h3, n1, n2, n3, n4, n5, n6⟩
    intro i hi
    simp only [List.length_cons, List.length_nil] at hi
    have hi4 : i < 4 := by omega
    rcases (by omega : i = 0 ∨ i = 1 ∨ i = 2 ∨ i = 3) with rfl | rfl | rfl | rfl
    · exact ⟨h0, fun j hj => by omega⟩
    · refine ⟨h1, fun j hj => ?_⟩
      obtain rfl : j = 0 := by omega
      exact fun e => n1 e.symm
    · refine ⟨h2, fun j hj => ?_⟩
      rcases (by omega : j = 0 ∨ j = 1) with rfl | rfl
      · exact fun e => n2 e.symm
      · exact fun e => n4 e.symm
    · refine ⟨h3, fun j hj => ?_⟩
      rcases (by omega : j = 0 ∨ j = 1 ∨ j = 2) with rfl | rfl | rfl
      · exact fun e => n3 e.symm
      · exact fun e => n5 e.symm
      · exact fun e => n6 e.symm
theorem difB3 {n a b c : Int} : difB n [a, b, c] = true ↔ (0 ≤ a ∧ a < n) ∧ (0 ≤ b ∧ b < n) ∧ (0 ≤ c ∧ c < n) ∧ a ≠ b ∧ a ≠ c ∧ b ≠ c := by
  unfold difB
  rw [decide_eq_true_eq]
  constructor
  · intro h
    have h0 := h 0 (by simp)
    have h1 := h 1 (by simp)
    have h2 := h 2 (by simp)
    have e10 := h1.2 0 (by omega)
    have e20 := h2.2 0 (by omega)
    have e21 := h2.2 1 (by omega)
    have q0 := h0.1
    have q1 := h1.1
    have q2 := h2.1
    simp at q0 q1 q2 e10 e20 e21
    exact ⟨q0, q1, q2, fun e => e10 e.symm, fun e => e20 e.symm, fun e => e21 e.symm⟩
  · rintro ⟨h0, h1, h2, n1, n2, n4⟩
    intro i hi
    simp only [List.length_cons, List.length_nil] at hi
    have hi4 : i < 3 := by omega
    rcases (by omega : i = 0 ∨ i = 1 ∨ i = 2) with rfl | rfl | rfl
    · exact ⟨h0, fun j hj => by omega⟩
    · refine ⟨h1, fun j hj => ?_⟩
      obtain rfl : j = 0 := by omega
      exact fun e => n1 e.symm
    · refine ⟨h2, fun j hj => ?_⟩
      rcases (by omega : j = 0 ∨ j = 1) with rfl | rfl
      · exact fun e => n2 e.symm
      · exact fun e => n4 e.symm
theorem cell_z {w : World} {b k : Nat} {zs : List Int} (h : Cells w b zs.length (zc zs)) (hk : k < zs.length) : w.cell? ⟨b, k, none⟩ = some (.int .i64 (zs.getD k 0)) := by
  rw [h.cell k hk]; rfl
set_option maxHeartbeats 1600000 in
set_option maxRecDepth 100000 in
theorem l5Different_any (n : Nat) (h7 : n ≤ 7) (zs : List Int) (hl : zs.length ≤ 100) (b c : Nat) (w : World) (hc : Cells w b zs.length (zc zs)) :
    Calls Try.prog 31 #[.int .i64 n, .slice (some ⟨b, 0, none⟩) zs.length c] w fun e w' => e = .returned (.bool (difB n zs)) ∧ Below w.heap.size w w' := by
  have HC := Lib.hid (fun k hk => cell_z (k := k) hc hk)
  clear hc
  go_enter Try.func31, Try.ntmps31
  go_wp2
  go_loopw [5] (fun i wr => ∃ k : Nat, k ≤ zs.length ∧ i = .int .i64 k ∧ Hid (DifTo n zs k) ∧ Hid (∃ q, wr = w.drewN q)) (fun i _ => zs.length - (intOf i).toNat)
  case atStart => exact ⟨0, Nat.zero_le _, rfl, Lib.hid (difTo_zero _ _), Lib.hid ⟨0, rfl⟩⟩
  case round =>
    obtain ⟨k, hk, rfl, HD, hq⟩ := hrel
    obtain ⟨q, rfl⟩ := hq.out
    by_cases hlt : k < zs.length
    · have x1 := HC.out k hlt
      have HO : Hid (inB (zs.getD k 0) 0 ((n : Int) - 1) = false → difB n zs = false) := Lib.hid (fun h => difB_out hlt (inB_norange h))
      have HI : Hid (inB (zs.getD k 0) 0 ((n : Int) - 1) = true → 0 ≤ zs.getD k 0 ∧ zs.getD k 0 < n) := Lib.hid (fun h => inB_range h)
      have HS : Hid (∀ j, j < k → zs.getD k 0 = zs.getD j 0 → difB n zs = false) := Lib.hid (fun j hj e => difB_same hlt hj e)
      have HN : Hid ((0 ≤ zs.getD k 0 ∧ zs.getD k 0 < n) → (∀ j, j < k → zs.getD k 0 ≠ zs.getD j 0) → DifTo n zs (k + 1)) := Lib.hid (fun h1 h2 => difTo_step HD.out h1 h2)
      generalize zs.getD k 0 = z at x1 HO HI HS HN
      cases hin : inB z 0 ((n : Int) - 1)
      · have HF := Lib.hid (HO.out hin)
        go_wp2_with (go_at_call 56; refine (l1In_any _ _ _ _).mono ?_; rintro e w' ⟨rfl, rfl⟩)
        go_ret
        exact ⟨ret_bool HF.out.symm, Sg.drewN_below (Below.refl _ _) _⟩
      · have HR := Lib.hid (HI.out hin)
        go_wp2_with (go_at_call 56; refine (l1In_any _ _ _ _).mono ?_; rintro e w' ⟨rfl, rfl⟩)
        clear hin
        go_loopw [6] (fun i wr => ∃ j : Nat, j ≤ k ∧ i = .int .i64 j ∧ Hid (∀ i, i < j → z ≠ zs.getD i 0) ∧ Hid (∃ q, wr = w.drewN q)) (fun i _ => k - (intOf i).toNat)
        case atStart => exact ⟨0, Nat.zero_le _, rfl, Lib.hid (fun i hi => by omega), Lib.hid ⟨_, rfl⟩⟩
        case round =>
          obtain ⟨j, hj, rfl, HJ, hq⟩ := hrel
          obtain ⟨q2, rfl⟩ := hq.out
          by_cases hlt2 : j < k
          · have x2 := HC.out j (by omega)
            have HSJ := Lib.hid (HS.out j hlt2)
            have HJ2 : Hid (z ≠ zs.getD j 0 → ∀ i, i < j + 1 → z ≠ zs.getD i 0) := Lib.hid (fun h i hi => by
              by_cases e : i = j
              · subst e; exact h
              · exact HJ.out i (by omega))
            generalize zs.getD j 0 = y at x2 HSJ HJ2
            by_cases e : z = y
            · have ht : (z == y) = true := by simpa using e
              have HF := Lib.hid (HSJ.out e)
              clear e
              go_wp2
              go_quiet (fail)
              go_wp2
              go_ret
              exact ⟨ret_bool HF.out.symm, Sg.drewN_below (Sg.drewN_below (Below.refl _ _) _) _⟩
            · have ht : (z == y) = false := by simpa using e
              have HJ3 := Lib.hid (HJ2.out e)
              clear e
              go_wp2
              go_quiet (fail)
              go_wp2
              exact ⟨⟨j + 1, by omega, by go_num, HJ3, Lib.hid ⟨_, rfl⟩⟩, by simp only [intOf]; omega⟩
          · obtain rfl : j = k := by omega
            have HD2 := Lib.hid (HN.out HR.out HJ.out)
            go_wp2
            exact ⟨⟨j + 1, by omega, by go_num, HD2, Lib.hid ⟨_, rfl⟩⟩, by simp only [intOf]; omega⟩
    · obtain rfl : k = zs.length := by omega
      have HF : Hid (difB n zs = true) := Lib.hid (decide_eq_true HD.out)
      go_wp2
      go_ret
      exact ⟨ret_bool HF.out.symm, Sg.drewN_below (Below.refl _ _) _⟩
set_option maxHeartbeats 1600000 in
set_option maxRecDepth 100000 in
theorem l5Only_any (m : Int) (w : World) :
    Calls Try.prog 38 #[.int .i64 m] w fun e w' => e = .returned (.int .i64 (only m)) ∧ w' = w := by
  have HE : Hid (only m = if (m == 1) = true then 0 else if (m == 2) = true then 1 else if (m == 4) = true then 2 else if (m == 8) = true then 3 else if (m == 16) = true then 4 else if (m == 32) = true then 5 else if (m == 64) = true then 6 else -1) := Lib.hid (by unfold only; simp only [beq_iff_eq])
  rw [HE.out]
  clear HE
  go_enter Try.func38, Try.ntmps38
  go_wp2
  refine wp_loop_rounds 8 ?_
  rw [rounds_succ]
  cases e0 : (m == 1)
  · go_wp2
    rw [rounds_succ]
    cases e1 : (m == 2)
    · go_wp2
      rw [rounds_succ]
      cases e2 : (m == 4)
      · go_wp2
        rw [rounds_succ]
        cases e3 : (m == 8)
        · go_wp2
          rw [rounds_succ]
          cases e4 : (m == 16)
          · go_wp2
            rw [rounds_succ]
            cases e5 : (m == 32)
            · go_wp2
              rw [rounds_succ]
              cases e6 : (m == 64)
              · go_wp2
                rw [rounds_succ]
                go_wp2
                go_ret
                exact ⟨rfl, rfl⟩
              · go_wp2
                go_ret
                exact ⟨rfl, rfl⟩
            · go_wp2
              go_ret
              exact ⟨rfl, rfl⟩
          · go_wp2
            go_ret
            exact ⟨rfl, rfl⟩
        · go_wp2
          go_ret
          exact ⟨rfl, rfl⟩
      · go_wp2
        go_ret
        exact ⟨rfl, rfl⟩
    · go_wp2
      go_ret
      exact ⟨rfl, rfl⟩
  · go_wp2
    go_ret
    exact ⟨rfl, rfl⟩
set_option maxRecDepth 100000 in
theorem maxI_any (x y : Int) (w : World) :
    Calls Try.prog 37 #[.int .i64 x, .int .i64 y] w fun e w' => e = .returned (.int .i64 (max x y)) ∧ w' = w := by
  by_cases h : y < x
  · have HE : Hid (max x y = x) := Lib.hid (by omega)
    go_enter Try.func37, Try.ntmps37
    go_wp2
    go_ret
    exact ⟨ret_int HE.out.symm, rfl⟩
  · have HE : Hid (max x y = y) := Lib.hid (by omega)
    go_enter Try.func37, Try.ntmps37
    go_wp2
    go_ret
    exact ⟨ret_int HE.out.symm, rfl⟩
end Go.Proofs.Ytfjimdmoindepaa.Sg
