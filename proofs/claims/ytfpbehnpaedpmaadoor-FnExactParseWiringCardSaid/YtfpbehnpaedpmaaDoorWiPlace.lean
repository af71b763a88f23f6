/- Wirings, as spec tells them: l12Place. -/
import Derived.Test.YtfpbehnpaedpmaaDoorMgWb
namespace Go.Proofs.YtfpbehnpaedpmaaDoor.Sg
open Go.RowKit Pt NewI Wi
/-- The place of a number; -1 if there is none. -/
def plZ (L : List Nat) (x : Int) : Int := match L.findIdx? (fun a : Nat => decide ((a : Int) = x)) with
  | some p => (p : Int)
  | none => -1
theorem plZ_some {L : List Nat} {x : Int} {k : Nat} (hk : k < L.length) (h : ((L.getD k 0 : Nat) : Int) = x) (hn : ∀ j, j < k → ((L.getD j 0 : Nat) : Int) ≠ x) : plZ L x = (k : Int) := by
  have e : ∀ j, ∀ hj : j < L.length, L.getD j 0 = L[j] := fun j hj => by rw [List.getD_eq_getElem?_getD, List.getElem?_eq_getElem hj]; rfl
  have : L.findIdx? (fun a : Nat => decide ((a : Int) = x)) = some k := by
    rw [List.findIdx?_eq_some_iff_getElem]
    refine ⟨hk, by rw [← e k hk]; exact decide_eq_true h, fun j hj => ?_⟩
    have := hn j hj
    rw [e j (by omega)] at this
    simpa using this
  unfold plZ
  rw [this]
theorem plZ_none {L : List Nat} {x : Int} (hn : ∀ j, j < L.length → ((L.getD j 0 : Nat) : Int) ≠ x) : plZ L x = -1 := by
  have : L.findIdx? (fun a : Nat => decide ((a : Int) = x)) = none := by
    rw [List.findIdx?_eq_none_iff]
    intro a ha
    obtain ⟨j, hj, rfl⟩ := List.getElem_of_mem ha
    have := hn j hj
    rw [List.getD_eq_getElem?_getD, List.getElem?_eq_getElem hj] at this
    exact decide_eq_false this
  unfold plZ
  rw [this]
set_option maxHeartbeats 1600000 in
set_option maxRecDepth 100000 in
theorem l12Place_any (b m c : Nat) (L : List Nat) (x : Int) (hm : L.length = m) (hm1 : m ≤ 100) (W : World) (h : Cells W b m (zc (wl L))) :
    Calls Tryd.prog 47 #[.slice (some ⟨b, 0, none⟩) m c, .int .i64 x] W fun e w' => e = .returned (.int .i64 (plZ L x)) ∧ W = w' := by
  have HC : Hid (∀ k, k < m → W.cell? ⟨b, k, none⟩ = some (.int .i64 ((L.getD k 0 : Nat) : Int))) := Lib.hid (fun k hk => by rw [h.cell k hk, zc_wl])
  have HS := Lib.hid (fun k (hk : k < m) h1 h2 => plZ_some (L := L) (x := x) (k := k) (by omega) h1 h2)
  have HN := Lib.hid (fun (h1 : ∀ j, j < m → ((L.getD j 0 : Nat) : Int) ≠ x) => plZ_none (L := L) (x := x) (by rw [hm]; exact h1))
  generalize plZ L x = r at HS HN ⊢
  clear h
  go_enter Tryd.func47, Tryd.ntmps47
  go_wp2
  go_loop [5] (fun i => ∃ k : Nat, k ≤ m ∧ i = .int .i64 k ∧ ∀ j, j < k → ((L.getD j 0 : Nat) : Int) ≠ x) (fun i => m - (intOf i).toNat)
  case atStart => exact ⟨0, Nat.zero_le _, rfl, fun j hj => by omega⟩
  case round =>
    obtain ⟨k, hk, rfl, hne⟩ := hrel
    by_cases hlt : k < m
    · have hc := HC.out k hlt
      by_cases hx : ((L.getD k 0 : Nat) : Int) = x
      · obtain rfl : r = (k : Int) := HS.out k hlt hx hne
        rw [hx] at hc
        have e0 : (x == x) = true := by simp
        clear hne HS HN
        go_wp2
        go_ret
        exact ⟨rfl, rfl⟩
      · have hne2 : Hid (∀ j, j < k + 1 → ((L.getD j 0 : Nat) : Int) ≠ x) := Lib.hid (fun j hj => by
          by_cases e : j = k
          · rw [e]; exact hx
          · exact hne j (by omega))
        have e0 : (((L.getD k 0 : Nat) : Int) == x) = false := by simpa using hx
        generalize ((L.getD k 0 : Nat) : Int) = y at hc e0
        clear hne hx
        go_wp2
        go_round
        case rel => exact ⟨k + 1, by omega, by go_num, hne2.out⟩
        case measure => simp [intOf]; omega
    · obtain rfl : k = m := by omega
      obtain rfl : r = -1 := HN.out hne
      clear hne HS HN
      go_wp2
      go_ret
      exact ⟨rfl, rfl⟩
end Go.Proofs.YtfpbehnpaedpmaaDoor.Sg
