/- Wirings: the pairs that are exchanged, and the word that is found from them. Plain mathematics. -/
import Derived.Test.YtfpbehnpaedpmaaWiLink
namespace Go.Proofs.Ytfpbehnpaedpmaa.Sg
open Go.RowKit Pt NewI Wi
/-- What SwapsOf answers. -/
def swZ (n : Int) (zs : List Int) : List (List Int) := if wiB n zs = true then swL (List.range n.toNat) (zs.map Int.toNat) else []
/-- What WiringFrom answers. -/
def wfZ (n : Int) (S : List (List Int)) : Option (List Nat) := if inB n 3 6 = true ∧ S.length = n.toNat * (n.toNat - 1) / 2 then wf (List.range n.toNat) S else none
theorem wl_toNat (u : List Nat) : (wl u).map Int.toNat = u := by
  unfold wl
  rw [List.map_map]
  conv => rhs; rw [← List.map_id u]
  exact List.map_congr_left (fun x _ => Int.toNat_natCast x)
theorem wfZ_some {n : Int} {S : List (List Int)} {u : List Nat} (h : wfZ n S = some u) : wiB n (wl u) = true ∧ swZ n (wl u) = S := by
  unfold wfZ at h
  split at h
  · rename_i hc
    obtain ⟨h1, h2⟩ := wf_some h
    obtain ⟨a, b⟩ := inB_mem hc.1
    obtain ⟨m, rfl⟩ : ∃ m : Nat, n = m := ⟨n.toNat, by omega⟩
    rw [Int.toNat_natCast] at h1 h2 hc
    have hl : u.length = m * (m - 1) / 2 := by rw [← swL_len (List.range m) u, h1, hc.2]
    have hw := fine_wiB (m := m) (u := u) (by omega) (by omega) ⟨hl, h2⟩
    refine ⟨hw, ?_⟩
    unfold swZ
    rw [if_pos hw, Int.toNat_natCast, wl_toNat, h1]
  · simp at h
/-- One pair's place. -/
def wf1 (L : List Nat) (s : List Int) : Option Nat :=
  if s.length = 2 ∧ s.getD 0 0 < s.getD 1 0 then
    match L.findIdx? (fun a : Nat => decide ((a : Int) = s.getD 0 0)) with
    | some p => if p + 1 < L.length ∧ (L.getD (p + 1) 0 : Int) = s.getD 1 0 then some p else none
    | none => none
  else none
theorem wf_cons (L : List Nat) (s : List Int) (S : List (List Int)) : wf L (s :: S) = (wf1 L s).bind fun p => (wf (swp L p) S).map (p :: ·) := by
  simp only [wf, wf1]
  split
  · cases L.findIdx? (fun a : Nat => decide ((a : Int) = s.getD 0 0)) with
    | none => rfl
    | some p =>
      simp only []
      split <;> rfl
  · rfl
theorem wf_snoc (L : List Nat) (S : List (List Int)) (s : List Int) : wf L (S ++ [s]) = (wf L S).bind fun u => (wf1 (act L u) s).map fun p => u ++ [p] := by
  induction S generalizing L with
  | nil =>
    rw [List.nil_append, wf_cons]
    simp only [wf, act, Option.bind_some, Option.map_some, List.nil_append]
    cases wf1 L s <;> rfl
  | cons t S ih =>
    rw [List.cons_append, wf_cons, wf_cons]
    cases wf1 L t with
    | none => rfl
    | some p =>
      simp only [Option.bind_some]
      rw [ih]
      cases wf (swp L p) S with
      | none => rfl
      | some u =>
        simp only [Option.bind_some, Option.map_some, act]
        cases wf1 (act (swp L p) u) s <;> rfl
theorem wf_none (L : List Nat) (A B : List (List Int)) (h : wf L A = none) : wf L (A ++ B) = none := by
  induction A generalizing L with
  | nil => simp [wf] at h
  | cons t A ih =>
    rw [List.cons_append, wf_cons]
    rw [wf_cons] at h
    cases e : wf1 L t with
    | none => rfl
    | some p =>
      rw [e] at h
      simp only [Option.bind_some, Option.map_eq_none_iff] at h ⊢
      exact ih _ h
end Go.Proofs.Ytfpbehnpaedpmaa.Sg
