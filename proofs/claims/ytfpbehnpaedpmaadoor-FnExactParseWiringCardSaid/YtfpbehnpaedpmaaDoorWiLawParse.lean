/- FnExactParseWiring: for every text impl.ParseWiring and spec.ParseWiring answer alike, in memory of their own. -/
import Derived.Test.YtfpbehnpaedpmaaDoorWjParse
import Derived.Test.YtfpbehnpaedpmaaDoorWiFacts
namespace Go.Proofs.YtfpbehnpaedpmaaDoor.Sg
open Go.RowKit Pt NewI Wi
set_option maxRecDepth 100000 in
set_option maxHeartbeats 1600000 in
theorem walkParseW_in (s : ByteArray) (hs : s.size ≤ 1048576) (w : World) (a1 a2 a3 : Addr) (tp : TypeId) (mm : Int) (HE : Hid (SgParse.Env a1 a2 a3 tp mm w)) :
    Calls Tryd.prog 5 #[.string s] w fun e w' => e = .returned (.bool true) ∧ Below w.heap.size w w' := by
  have HS : Hid (∀ W, Calls Tryd.prog 15 #[.string s] W fun e w' => Got3 W.heap.size (parV (wpZ s)) e w' ∧ Below W.heap.size W w') := Lib.hid (fun W => specParseWiring s hs W)
  have HI : Hid (∀ W, Below w.heap.size w W → Calls Tryd.prog 14 #[.string s] W fun e w' => Got3 W.heap.size (parV (wpZ s)) e w' ∧ Below W.heap.size W w') := Lib.hid (fun W hW => implParseWiring s hs W a1 a2 a3 tp mm (Lib.hid (HE.out.on hW)))
  have hyl := par_len s
  generalize parV (wpZ s) = r at HS HI hyl
  obtain ⟨x, ys, z⟩ := r
  have hyl : ys.length ≤ 15 := hyl
  have HS : Hid (∀ W, Calls Tryd.prog 15 #[.string s] W fun e w' => (∃ a c, e = .returned (.tuple #[.int .i64 x, .slice a ys.length c, .bool z]) ∧ NewI.New w' W.heap.size w'.heap.size a ys.length (zc ys)) ∧ Below W.heap.size W w') := HS
  have HI : Hid (∀ W, Below w.heap.size w W → Calls Tryd.prog 14 #[.string s] W fun e w' => (∃ a c, e = .returned (.tuple #[.int .i64 x, .slice a ys.length c, .bool z]) ∧ NewI.New w' W.heap.size w'.heap.size a ys.length (zc ys)) ∧ Below W.heap.size W w') := HI
  have hself0 : (x != x) = false := by simp
  have hself1 : (z != z) = false := by simp
  have hself2 : (((1 + ys.length : Nat) : Int) != ((1 + ys.length : Nat) : Int)) = false := by simp
  clear HE
  go_enter Tryd.func5, Tryd.ntmps5
  go_wp2_with fail
  refine (HS.out _).mono ?_
  rintro e w2 ⟨⟨a2', c2, rfl, hn2⟩, B2⟩
  have S2 := Lib.hid hn2
  clear hn2
  go_wp2_with fail
  refine (HI.out _ B2).mono ?_
  rintro e w4 ⟨⟨a4, c4, rfl, hn4⟩, hb4⟩
  have B4 := B2.trans (hb4.mono B2.size)
  have S4 := Lib.hid (S2.out.on hb4)
  have G4 := Lib.hid hn4
  clear hn4
  go_wp2_with fail
  refine (NewI.eq_new _ _ _ _ _ _ _ _ ys (by omega) _ G4.out S4.out).mono ?_
  rintro e w9 ⟨rfl, hb9⟩
  have B9 := B4.trans (hb9.mono B4.size)
  have S9 := Lib.hid (S4.out.on hb9)
  have G9 := Lib.hid (G4.out.on hb9)
  go_wp2_with fail
  refine (NewI.mark_new _ _ _ _ _ _ (zc_int ys) (by omega) _ G9.out).mono ?_
  rintro e w10 ⟨rfl, hn10, ho10⟩
  have B10 := B9.trans (ho10.below B2.size B9.size)
  have S10 := Lib.hid (S9.out.far ho10 (.inl (Nat.le_refl _)))
  have G10 := Lib.hid hn10
  clear hn10 ho10
  go_wp2_with fail
  refine (NewI.held_new _ _ _ _ _ _ (by omega) _ G10.out).mono ?_
  rintro e w' ⟨rfl, rfl⟩
  go_wp2_with fail
  refine (HI.out _ B10).mono ?_
  rintro e w12 ⟨⟨a12, c12, rfl, hn12⟩, hb12⟩
  have B12 := B10.trans (hb12.mono B10.size)
  have S12 := Lib.hid (S10.out.on hb12)
  have G12 := Lib.hid (G10.out.on hb12)
  have H12 := Lib.hid hn12
  clear hn12
  go_wp2_with fail
  refine (NewI.eq_new _ _ _ _ _ _ _ _ ys (by omega) _ H12.out S12.out).mono ?_
  rintro e w13 ⟨rfl, hb13⟩
  have B13 := B12.trans (hb13.mono B12.size)
  have G13 := Lib.hid (G12.out.on hb13)
  go_wp2_with fail
  refine (NewI.held_new _ _ _ _ _ _ (by omega) _ G13.out).mono ?_
  rintro e w' ⟨rfl, rfl⟩
  go_wp2
  go_ret
  exact ⟨rfl, B13⟩
set_option maxRecDepth 100000 in
theorem walkParseWiring (s : ByteArray) (hs0 : s.size ≤ maxLen) (w : World) (a1 a2 a3 : Addr) (tp : TypeId) (mm : Int) (HE : SgParse.Env a1 a2 a3 tp mm w) :
    Calls Tryd.prog 5 #[.string s] w fun e w' => e = .returned (.bool true) ∧ Below w.heap.size w w' := by
  by_cases hs : s.size ≤ 1048576
  · exact walkParseW_in s hs w a1 a2 a3 tp mm (Lib.hid HE)
  · have hs' : 1048576 < s.size := by omega
    unfold maxLen at hs0
    clear HE
    go_enter Tryd.func5, Tryd.ntmps5
    go_wp2
    go_ret
    exact ⟨rfl, Below.refl _ _⟩
end Go.Proofs.YtfpbehnpaedpmaaDoor.Sg
