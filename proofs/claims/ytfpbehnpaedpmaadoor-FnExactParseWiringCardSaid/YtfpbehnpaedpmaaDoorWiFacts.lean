/- What FnWirings asks of wirings: lengths, texts read back, turned and flipped ones. -/
import Derived.Test.YtfpbehnpaedpmaaDoorMgWd
import Derived.Test.YtfpbehnpaedpmaaDoorWiLens
namespace Go.Proofs.YtfpbehnpaedpmaaDoor.Sg
open Go.RowKit Pt NewI Wi
theorem wpZ_some {s : ByteArray} {n : Int} {zs : List Int} (h : wpZ s = some (n, zs)) : wiB n zs = true := by
  unfold wpZ at h
  split at h
  · split at h
    · split at h
      · rename_i hw
        simp only [Option.some.injEq, Prod.mk.injEq] at h
        rw [← h.1, ← h.2]
        exact hw
      · simp at h
    · simp at h
  · simp at h
theorem par_len (s : ByteArray) : (parV (wpZ s)).2.1.length ≤ 15 := by
  cases h : wpZ s with
  | none => simp [parV]
  | some p =>
    obtain ⟨n, zs⟩ := p
    exact (wiB_len (wpZ_some h)).2.2.2
theorem par_text {n : Int} {zs : List Int} : parV (wpZ (wtZ n zs)) = if wiB n zs = true then (n, zs, true) else (0, [], false) := by
  split
  · rename_i h; rw [wp_read h]; rfl
  · rename_i h
    have e : wtZ n zs = ⟨#[]⟩ := by unfold wtZ; rw [if_neg h]
    rw [e]
    have e2 : wpZ ⟨#[]⟩ = none := by
      unfold wpZ
      rw [if_neg]
      decide
    rw [e2]
    rfl
/-- All that is asked of a wiring. -/
theorem wi_all {m : Nat} {zs : List Int} (h : wiB m zs = true) : wiFlip m (wiFlip m zs) = zs ∧ wiB m (wiFlip m zs) = true ∧ wiB m (wiTurn m zs) = true ∧ wfA (wfZ m (swZ m zs)) = zs ∧ (wfZ m (swZ m zs)).isSome = true ∧ wl (wiAft m zs zs.length) = wl (down m) := by
  obtain ⟨h1, h2⟩ := flip_fact h
  have e1 : wiFlip m zs = flW m zs := by unfold wiFlip; rw [if_pos h]
  have e2 : wiTurn m zs = tuW m zs := by unfold wiTurn; rw [if_pos h]
  obtain ⟨u, hu, hz⟩ := wfZ_swZ h
  refine ⟨?_, by rw [e1]; exact h1, by rw [e2]; exact turn_fact h, by rw [hu]; exact hz, by rw [hu]; rfl, by rw [last_fact h, Int.toNat_natCast]⟩
  rw [e1]
  unfold wiFlip
  rw [if_pos h1, h2]
theorem from_back {n : Int} {S : List (List Int)} (h : (wfZ n S).isSome = true) : swZ n (wfA (wfZ n S)) = S := by
  obtain ⟨u, hu⟩ := Option.isSome_iff_exists.1 h
  rw [hu]
  exact (wfZ_some hu).2
end Go.Proofs.YtfpbehnpaedpmaaDoor.Sg
