/- FnExactParsePoints: for every text impl.ParsePoints and spec.ParsePoints answer alike, in memory of their own. Condition: the listed variables read as their initialisers lay them (the card ties them). -/
import Derived.Test.YticekiniljemeaaDoorPtParseAll
import Derived.Test.YticekiniljemeaaDoorKit
namespace Go.Proofs.YticekiniljemeaaDoor.PtParse
open Go.RowKit Pt
set_option maxRecDepth 100000 in
set_option maxHeartbeats 1600000 in
theorem walkParse_in (s : ByteArray) (hs : s.size ≤ 1048576) (w : World) (a1 a2 a3 : Addr) (tp : TypeId) (mm : Int) (HE : Hid (Env a1 a2 a3 tp mm w)) :
    Calls Tryd.prog 4 #[.string s] w fun e w' => e = .returned (.bool true) ∧ Below w.heap.size w w' := by
  obtain ⟨xs, hxs⟩ : ∃ xs, xs = Split.pieces 32 s.data.toList := ⟨_, rfl⟩
  obtain ⟨ys, hys⟩ : ∃ ys, ys = parseR xs := ⟨_, rfl⟩
  obtain ⟨z, hz⟩ : ∃ z, z = parseB xs := ⟨_, rfl⟩
  have hle : xs.length ≤ 1048577 := by
    rw [hxs]
    have h1 := Split.pieces_le 32 s.data.toList
    have h2 : s.data.toList.length = s.size := by simp
    omega
  have hyl : ys.length ≤ 1048577 := by rw [hys]; exact Nat.le_trans (parseR_length xs) hle
  have HS : Hid (∀ W, Calls Tryd.prog 10 #[.string s] W fun e w' => Got W.heap.size ys z e w' ∧ Below W.heap.size W w') := Lib.hid (fun W => by rw [hys, hz]; exact specParse s hs W xs hxs)
  have HI : Hid (∀ W, Below w.heap.size w W → Calls Tryd.prog 11 #[.string s] W fun e w' => Got W.heap.size ys z e w' ∧ Below W.heap.size W w') := Lib.hid (fun W hW => by rw [hys, hz]; exact implParse s hs W a1 a2 a3 tp mm (Lib.hid (HE.out.on hW)) xs hxs)
  have hself : (z != z) = false := by simp
  have hself2 : (((1 + ys.length * 2 : Nat) : Int) != ((1 + ys.length * 2 : Nat) : Int)) = false := by simp
  clear hys hz hxs HE hle
  go_enter Tryd.func4, Tryd.ntmps4
  go_wp2_with fail
  refine (HS.out _).mono ?_
  rintro e w2 ⟨⟨a2', c2, rfl, hn2⟩, B2⟩
  have S2 := Lib.hid hn2
  clear hn2
  go_wp2_with fail
  refine (HI.out _ B2).mono ?_
  rintro e w4 ⟨⟨a4, c4, rfl, hn4⟩, hb4⟩
  have B4 := B2.trans (hb4.mono B2.size)
  have S4 := Lib.hid (S2.out.on hb4)
  have G4 := Lib.hid hn4
  clear hn4
  go_wp2_with fail
  refine (eq_new _ _ _ _ _ _ _ _ ys (by omega) _ G4.out S4.out).mono ?_
  rintro e w9 ⟨rfl, hb9⟩
  have B9 := B4.trans (hb9.mono B4.size)
  have S9 := Lib.hid (S4.out.on hb9)
  have G9 := Lib.hid (G4.out.on hb9)
  go_wp2_with fail
  refine (mark_new _ _ _ _ _ _ (ptCell_int ys) (by omega) _ G9.out).mono ?_
  rintro e w10 ⟨rfl, hn10, ho10⟩
  have B10 := B9.trans (ho10.below B2.size B9.size)
  have S10 := Lib.hid (S9.out.far ho10 (.inl (Nat.le_refl _)))
  have G10 := Lib.hid hn10
  clear hn10 ho10
  go_wp2_with fail
  refine (held_new _ _ _ _ _ _ (by omega) _ G10.out).mono ?_
  rintro e w' ⟨rfl, rfl⟩
  go_wp2_with fail
  refine (HI.out _ B10).mono ?_
  rintro e w12 ⟨⟨a12, c12, rfl, hn12⟩, hb12⟩
  have B12 := B10.trans (hb12.mono B10.size)
  have S12 := Lib.hid (S10.out.on hb12)
  have G12 := Lib.hid (G10.out.on hb12)
  have H12 := Lib.hid hn12
  clear hn12
  go_wp2_with fail
  refine (eq_new _ _ _ _ _ _ _ _ ys (by omega) _ H12.out S12.out).mono ?_
  rintro e w13 ⟨rfl, hb13⟩
  have B13 := B12.trans (hb13.mono B12.size)
  have G13 := Lib.hid (G12.out.on hb13)
  go_wp2_with fail
  refine (held_new _ _ _ _ _ _ (by omega) _ G13.out).mono ?_
  rintro e w' ⟨rfl, rfl⟩
  go_wp2
  go_ret
  exact ⟨rfl, B13⟩
set_option maxRecDepth 100000 in
theorem walkParse (s : ByteArray) (hs0 : s.size ≤ maxLen) (w : World) (a1 a2 a3 : Addr) (tp : TypeId) (mm : Int) (H : Parse.Held w.heap.size w a1 a2 a3 tp) (hm : w.cell? ⟨2, 0, none⟩ = some (.int .i64 mm)) :
    Calls Tryd.prog 4 #[.string s] w fun e w' => e = .returned (.bool true) ∧ Below w.heap.size w w' := by
  by_cases hs : s.size ≤ 1048576
  · exact walkParse_in s hs w a1 a2 a3 tp mm (Lib.hid ⟨H, hm⟩)
  · have hs' : 1048576 < s.size := by omega
    unfold maxLen at hs0
    clear H hm
    go_enter Tryd.func4, Tryd.ntmps4
    go_wp2
    go_ret
    exact ⟨rfl, Below.refl _ _⟩
end Go.Proofs.YticekiniljemeaaDoor.PtParse
