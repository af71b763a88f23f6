/- OppositeSigns, as impl answers it. -/
import Derived.Test.YtfjimdmoindepaaSgBy
import Derived.Test.YtfjimdmoindepaaSgAt
import Derived.Shelf.Abstract
namespace Go.Proofs.Ytfjimdmoindepaa.Sg
open Go.RowKit Pt
theorem srt_asc {i j k : Int} (h1 : i < j) (h2 : j < k) : srt i j k = (i, j, k, 1) := by
  unfold srt
  have a : ¬ j < i := by omega
  have b : ¬ k < j := by omega
  simp [a, b]
theorem sgnF_asc {n p : Nat} {s : List UInt8} (h : arB n s = true) {t : T3} (ht : (threes n)[p]? = some t) : sgnF (lookS n s) t.1 t.2.1 t.2.2 = sgn1 (s.getD p 0) := by
  obtain ⟨_, h7, -, -⟩ := arB_yes h
  have h7 : n ≤ 7 := by omega
  obtain ⟨h1, h2, h3⟩ := threes_mem h7 (List.mem_of_getElem? ht)
  rw [sgnF_of (srt_asc (i := t.1) (j := t.2.1) (k := t.2.2) (by omega) (by omega)), lookS_yes h]
  unfold look
  simp only [Int.toNat_natCast]
  rw [if_pos (by omega), get_idx h7 ht]
  simp
/-- The other sign. -/
def flip1 (b : UInt8) : UInt8 := byteOf (if b = 45 then 1 else 0)
theorem text_opp {n : Nat} {s : List UInt8} (h : arB n s = true) : text3 n (fun i j k => -(sgnF (lookS n s) i j k)) = s.map flip1 := by
  obtain ⟨_, h7, hl, hall⟩ := arB_yes h
  have h7 : n ≤ 7 := by omega
  have hl : s.length = cnt n := by simpa using hl
  refine List.ext_getElem? fun p => ?_
  unfold text3
  rw [List.getElem?_map, List.getElem?_map]
  by_cases hp : p < cnt n
  · obtain ⟨t, ht⟩ : ∃ t, (threes n)[p]? = some t := ⟨_, List.getElem?_eq_getElem (by rw [threes_length h7]; exact hp)⟩
    have hs : s[p]? = some (s[p]'(by omega)) := List.getElem?_eq_getElem (by omega)
    rw [ht, hs]
    simp only [Option.map_some]
    rw [sgnF_asc h ht, List.getD_eq_getElem?_getD, hs]
    simp only [Option.getD_some]
    rcases hall _ (List.getElem_mem (show p < s.length by omega)) with e | e <;> rw [e] <;> rfl
  · rw [List.getElem?_eq_none (by rw [threes_length h7]; omega), List.getElem?_eq_none (by omega)]; rfl
/-- What OppositeSigns answers. -/
def oppV (n : Int) (s : ByteArray) : Value := if arB n s.data.toList = true then .tuple #[sg n ⟨(s.data.toList.map flip1).toArray⟩, .bool true] else .tuple #[sg 0 ⟨#[]⟩, .bool false]
theorem oppV_no {n : Int} {s : ByteArray} (h : arB n s.data.toList = false) : oppV n s = .tuple #[sg 0 ⟨#[]⟩, .bool false] := by unfold oppV; rw [h]; rfl
theorem oppV_yes {n : Int} {s : ByteArray} (h : arB n s.data.toList = true) : oppV n s = .tuple #[sg n ⟨(s.data.toList.map flip1).toArray⟩, .bool true] := by unfold oppV; rw [if_pos h]
theorem ret_v {a b : Value} (h : a = b) : Ending.returned a = .returned b := by rw [h]
theorem enters (g : Nat) (fn : Func) (c : Code) (hf : Try.prog.funcs[g]? = some fn) (hname : (fn.name == "runtime.NumGoroutine") = false) (hb : fn.body = some c) : ∀ args w, (callFunc g args).run Try.prog w = .ok (.enter g args) w := enters_of hf hname hb
end Go.Proofs.Ytfjimdmoindepaa.Sg
