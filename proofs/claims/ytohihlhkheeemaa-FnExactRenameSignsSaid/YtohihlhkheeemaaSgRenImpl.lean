/- RenameSigns, as impl answers it: nothing, or too few names. -/
import Derived.Test.YtohihlhkheeemaaSgRename
namespace Go.Proofs.Ytohihlhkheeemaa.Sg
open Go.RowKit Pt
/-- The elements so far. -/
def elCell (zs : List Int) (k j : Nat) : Value := if j < k then .int .i64 (Lib.idxOf zs (j : Int)) else .int .i64 0
theorem elCell_step (zs : List Int) (k i : Nat) : (if i = k then Value.int .i64 (Lib.idxOf zs (k : Int)) else elCell zs k i) = elCell zs (k + 1) i := by
  unfold elCell
  by_cases e : i = k
  · subst e; rw [if_pos rfl, if_pos (by omega)]
  · rw [if_neg e]
    by_cases h2 : i < k
    · rw [if_pos h2, if_pos (by omega)]
    · rw [if_neg h2, if_neg (by omega)]
theorem idx_bound (zs : List Int) (x : Int) : -1 ≤ Lib.idxOf zs x ∧ Lib.idxOf zs x ≤ zs.length ∧ (0 ≤ Lib.idxOf zs x → x ∈ zs) ∧ (Lib.idxOf zs x < 0 → x ∉ zs) := by
  rcases idx_cases zs x with ⟨h1, h2⟩ | ⟨k, h1, h2, -⟩
  · rw [h1]; exact ⟨by omega, by omega, fun h => by omega, fun _ => h2⟩
  · have := (List.getElem?_eq_some_iff.1 h2).1
    rw [h1]; exact ⟨by omega, by omega, fun _ => List.mem_of_getElem? h2, fun h => by omega⟩
set_option maxHeartbeats 1600000 in
set_option maxRecDepth 100000 in
theorem implRen_none (n : Int) (s : ByteArray) (b c : Nat) (zs : List Int) (hs : s.size ≤ 9223372036854775807) (h : arB n s.data.toList = false) (w : World) :
    Calls Try.prog 25 #[sg n s, .slice (some ⟨b, 0, none⟩) zs.length c] w fun e w' => e = .returned (.tuple #[sg 0 ⟨#[]⟩, .bool false]) ∧ Below w.heap.size w w' := by
  have HA := Lib.hid (fun W => implAre_sg n s hs W)
  rw [h] at HA
  have HM := Lib.hid (wAt_made w n s 26)
  clear h
  go_enter Try.func25, Try.ntmps25
  go_wp2_with fail
  refine (HA.out _).mono ?_
  rintro e w1 ⟨rfl, hb1⟩
  obtain ⟨x0, x1, e0, e1, z0, z1, B⟩ := HM.out.on hb1
  obtain ⟨g0, g1⟩ := ret_sg e0 e1 (.int .i64 0) (.string ⟨#[]⟩)
  clear hb1
  go_wp2
  exact bodyPost_ret (v := .tuple #[.agg #[.int .i64 0, .string ⟨#[]⟩], .bool false]) (by simp [results, Try.results25, go_sem, g0, g1]) rfl ⟨rfl, (B.setCell (by simp) _).setCell (by simp) _⟩
set_option maxHeartbeats 1600000 in
set_option maxRecDepth 100000 in
theorem implRen_len (n : Nat) (s : ByteArray) (b c : Nat) (zs : List Int) (hx : zs.length ≤ 1048576) (h : arB n s.data.toList = true) (hl : zs.length ≠ n) (w : World) :
    Calls Try.prog 25 #[sg n s, .slice (some ⟨b, 0, none⟩) zs.length c] w fun e w' => e = .returned (renV n s zs) ∧ Below w.heap.size w w' := by
  obtain ⟨h3, h7, hsl, -⟩ := arB_yes h
  have h7 : n ≤ 7 := by omega
  have hs35 : s.size ≤ 35 := by have := cnt_le h7; have : s.size = cnt n := by simpa using hsl
                                omega
  have HA := Lib.hid (fun W => implAre_sg n s (by omega) W)
  rw [h] at HA
  have HM := Lib.hid (wAt_made w n s 26)
  have HR := Lib.hid (renV_no (s := s) (namesB_no (n := n) (zs := zs) (fun hk => hl hk.1)))
  have hne : ((zs.length : Int) != (n : Int)) = true := by simp; omega
  clear h hsl
  go_enter Try.func25, Try.ntmps25
  go_wp2_with fail
  refine (HA.out _).mono ?_
  rintro e w1 ⟨rfl, hb1⟩
  obtain ⟨x0, x1, e0, e1, z0, z1, B⟩ := HM.out.on hb1
  obtain ⟨g0, g1⟩ := ret_sg e0 e1 (.int .i64 0) (.string ⟨#[]⟩)
  clear hb1
  go_wp2
  exact bodyPost_ret (v := .tuple #[.agg #[.int .i64 0, .string ⟨#[]⟩], .bool false]) (by simp [results, Try.results25, go_sem, g0, g1]) rfl ⟨ret_v HR.out.symm, (B.setCell (by simp) _).setCell (by simp) _⟩
end Go.Proofs.Ytohihlhkheeemaa.Sg
