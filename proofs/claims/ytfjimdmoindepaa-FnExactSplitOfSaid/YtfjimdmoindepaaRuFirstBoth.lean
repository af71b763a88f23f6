/- The first five that break the rule: impl and spec answer them alike. -/
import Derived.Test.YtfjimdmoindepaaRuFirstSpec
namespace Go.Proofs.Ytfjimdmoindepaa.Sg
open Go.RowKit Pt NewI
theorem isF_exists {f : Int → Int → Int → Int} {n : Nat} (hn : n ≤ 7) : ∃ zs, IsF f n zs := by
  have key : ∀ k a b c d e : Nat, (((a * 8 + b) * 8 + c) * 8 + d) * 8 + e = k → Val n a b c d e → brk f a b c d e = true → ∃ zs, IsF f n zs := by
    intro k
    induction k using Nat.strongRecOn with
    | ind k ih =>
      intro a b c d e hk v hb
      by_cases hno : NoB f n a b c d e
      · exact ⟨_, Or.inr ⟨a, b, c, d, e, rfl, v, hb, hno⟩⟩
      · unfold NoB at hno
        simp only [Classical.not_forall] at hno
        obtain ⟨a', b', c', d', e', v', hl, hb'⟩ := hno
        have hb' : brk f a' b' c' d' e' = true := by simpa using hb'
        obtain ⟨h1, h2, h3, h4, h5, -⟩ := v
        obtain ⟨i1, i2, i3, i4, i5, i6⟩ := v'
        refine ih _ ?_ a' b' c' d' e' rfl ⟨i1, i2, i3, i4, i5, i6⟩ hb'
        unfold Lt4 at hl
        omega
  by_cases h : ∀ a b c d e, Val n a b c d e → brk f a b c d e = false
  · exact ⟨[], Or.inl ⟨rfl, fun a b c d e v _ => h a b c d e v⟩⟩
  · simp only [Classical.not_forall] at h
    obtain ⟨a, b, c, d, e, v, hb⟩ := h
    exact key _ a b c d e rfl v (by simpa using hb)
theorem isF_length {f : Int → Int → Int → Int} {n : Nat} {zs : List Int} (h : IsF f n zs) : zs.length ≤ 5 := by
  rcases h with ⟨rfl, -⟩ | ⟨a, b, c, d, e, rfl, -⟩ <;> simp
open Classical in
/-- What FirstBreak answers. -/
noncomputable def firstZ (n : Int) (s : List UInt8) : List Int := if h : arB n s = true then Classical.choose (isF_exists (f := sgnF (lookS n s)) (n := n.toNat) (by have := (arB_yes h).2.1; omega)) else []
theorem firstZ_no {n : Int} {s : List UInt8} (h : arB n s = false) : firstZ n s = [] := by unfold firstZ; rw [dif_neg (by rw [h]; simp)]
theorem firstZ_yes {n : Int} {s : List UInt8} (h : arB n s = true) : IsF (sgnF (lookS n s)) n.toNat (firstZ n s) := by
  unfold firstZ
  rw [dif_pos h]
  exact Classical.choose_spec _
theorem firstZ_length (n : Int) (s : List UInt8) : (firstZ n s).length ≤ 5 := by
  cases h : arB n s
  · rw [firstZ_no h]; simp
  · exact isF_length (firstZ_yes h)
/-- Is the rule kept? -/
def matB (n : Int) (s : List UInt8) : Bool := arB n s && okB (sgnF (lookS n s)) n.toNat
theorem matB_first (n : Int) (s : List UInt8) : matB n s = (arB n s && (firstZ n s).isEmpty) := by
  unfold matB
  cases h : arB n s
  · rfl
  · rw [(firstZ_yes h).ok (by have := (arB_yes h).2.1; omega)]
theorem specFirst (n : Int) (s : ByteArray) (hs : s.size ≤ 9223372036854775807) (w : World) :
    Calls Try.prog 64 #[sg n s] w fun e w' => Got w.heap.size (firstZ n s.data.toList) e w' ∧ Below w.heap.size w w' := by
  cases h : arB n s.data.toList
  · rw [firstZ_no h]
    exact (specFirst_no n s hs h w).mono fun e w' ⟨⟨a, c, he⟩, hb⟩ => ⟨⟨a, c, he, Or.inl rfl⟩, hb⟩
  · obtain ⟨h3, -⟩ := arB_yes h
    obtain ⟨m, rfl⟩ : ∃ m : Nat, n = m := ⟨n.toNat, by omega⟩
    refine (specFirst_yes m s h w).mono fun e w' ⟨⟨zs, a, c, hz, he, hn⟩, hb⟩ => ?_
    obtain rfl := hz.unique (firstZ_yes h)
    exact ⟨⟨a, c, he, hn⟩, hb⟩
theorem implFirstN (n : Int) (s : ByteArray) (hs : s.size ≤ 9223372036854775807) (w : World) :
    Calls Try.prog 79 #[sg n s] w fun e w' => (∃ a c, e = .returned (.slice a (firstZ n s.data.toList).length c) ∧ New w' w.heap.size w'.heap.size a (firstZ n s.data.toList).length (zc (firstZ n s.data.toList)) ∧ a.isNone = (firstZ n s.data.toList).isEmpty) ∧ Below w.heap.size w w' := by
  cases h : arB n s.data.toList
  · rw [firstZ_no h]
    exact (implFirst_no n s hs h w).mono fun e w' ⟨he, hb⟩ => ⟨⟨none, 0, he, Or.inl rfl, rfl⟩, hb⟩
  · obtain ⟨h3, -⟩ := arB_yes h
    obtain ⟨m, rfl⟩ : ∃ m : Nat, n = m := ⟨n.toNat, by omega⟩
    refine (implFirst_yes m s h w).mono fun e w' ⟨⟨zs, a, c, hz, he, hn, hnn⟩, hb⟩ => ?_
    obtain rfl := hz.unique (firstZ_yes h)
    exact ⟨⟨a, c, he, hn, hnn⟩, hb⟩
theorem implFirst (n : Int) (s : ByteArray) (hs : s.size ≤ 9223372036854775807) (w : World) :
    Calls Try.prog 79 #[sg n s] w fun e w' => Got w.heap.size (firstZ n s.data.toList) e w' ∧ Below w.heap.size w w' :=
  (implFirstN n s hs w).mono fun _e _w' ⟨⟨a, c, he, hn, _⟩, hb⟩ => ⟨⟨a, c, he, hn⟩, hb⟩
theorem bothFirstBreak (n : Int) (s : ByteArray) (hs : s.size ≤ 9223372036854775807) : ∃ ys : List Int, ys.length ≤ 1000 ∧
    (∀ W, Calls Try.prog 64 #[sg n s] W fun e w' => Got W.heap.size ys e w' ∧ Below W.heap.size W w') ∧
    (∀ W, Calls Try.prog 79 #[sg n s] W fun e w' => Got W.heap.size ys e w' ∧ Below W.heap.size W w') :=
  ⟨firstZ n s.data.toList, by have := firstZ_length n s.data.toList; omega, fun W => specFirst n s hs W, fun W => implFirst n s hs W⟩
end Go.Proofs.Ytfjimdmoindepaa.Sg
