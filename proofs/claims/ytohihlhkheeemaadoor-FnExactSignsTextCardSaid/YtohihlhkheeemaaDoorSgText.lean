/- SignsText, as impl and spec write it; the law. -/
import Derived.Test.YtohihlhkheeemaaDoorSgAreImpl
import Derived.Test.YtohihlhkheeemaaDoorFmt
import Derived.Test.YtohihlhkheeemaaDoorFmtImpl
import Derived.Laws.Strings
namespace Go.Proofs.YtohihlhkheeemaaDoor.Sg
open Go.RowKit Pt
theorem itoa_short {n : Int} (h3 : 3 ≤ n) (h7 : n ≤ 7) : (Lib.itoa n).length ≤ 31 := by
  rcases (by omega : n = 3 ∨ n = 4 ∨ n = 5 ∨ n = 6 ∨ n = 7) with rfl | rfl | rfl | rfl | rfl <;> decide +kernel
/-- The text of signs. -/
def textOf (n : Int) (s : ByteArray) : ByteArray := if arB n s.data.toList = true then (⟨(Lib.itoa n).toArray⟩ : ByteArray) ++ ⟨#[58]⟩ ++ s else ⟨#[]⟩
theorem textOf_no {n : Int} {s : ByteArray} (h : arB n s.data.toList = false) : textOf n s = ⟨#[]⟩ := by unfold textOf; rw [h]; rfl
theorem textOf_yes {n : Int} {s : ByteArray} (h : arB n s.data.toList = true) : textOf n s = (⟨(Lib.itoa n).toArray⟩ : ByteArray) ++ ⟨#[58]⟩ ++ s := by unfold textOf; rw [if_pos h]
theorem call_box {w0 : World} {n : Int} {s : ByteArray} {f : FuncId} {args : Array Value} {W : World} {v : Value} (h : Calls Tryd.prog f args W fun e w' => e = .returned v ∧ Below W.heap.size W w') (hB : Box w0 n s W) :
    Calls Tryd.prog f args W fun e w' => e = .returned v ∧ w'.cell? ⟨w0.heap.size, 0, none⟩ = some (.int .i64 n) ∧ w'.cell? ⟨w0.heap.size, 1, none⟩ = some (.string s) ∧ Below w0.heap.size w0 w' :=
  h.mono fun _ _ ⟨he, hb⟩ => ⟨he, hB.on hb⟩
theorem ret_bytes {a b : ByteArray} (h : a = b) : Ending.returned (.string a) = .returned (.string b) := by rw [h]
set_option maxHeartbeats 800000 in
set_option maxRecDepth 100000 in
theorem specText (n : Int) (hn : -9223372036854775808 ≤ n ∧ n ≤ 9223372036854775807) (s : ByteArray) (hs : s.size ≤ 9223372036854775807) (w : World) :
    Calls Tryd.prog 6 #[sg n s] w fun e w' => e = .returned (.string (textOf n s)) ∧ Below w.heap.size w w' := by
  have HS := Lib.hid (fun t => box_made w n s t)
  have HA := Lib.hid (fun W => specAre_sg n s hs W)
  cases h : arB n s.data.toList
  · rw [h] at HA
    have HR := Lib.hid (textOf_no h)
    clear h
    go_enter Tryd.func6, Tryd.ntmps6
    go_wp2_with fail
    refine (HA.out _).mono ?_
    rintro e w1 ⟨rfl, hb1⟩
    have B1 := ((HS.out _).on hb1).2.2
    go_wp2
    go_ret
    exact ⟨ret_bytes HR.out.symm, B1⟩
  · rw [h] at HA
    have HR := Lib.hid (textOf_yes h)
    obtain ⟨h3, h7, hl, -⟩ := arB_yes h
    have hA : (Lib.itoa n).length ≤ 31 := itoa_short h3 h7
    have hsz : s.size ≤ 35 := by have := cnt_le (n := n.toNat) (by omega); have : s.size = cnt n.toNat := by simpa using hl
                                 omega
    have HF := Lib.hid (fun W => Fmt.spec_any n (by omega) (by omega) W)
    obtain ⟨A, hAe⟩ : ∃ A : ByteArray, A = ⟨(Lib.itoa n).toArray⟩ := ⟨_, rfl⟩
    have hAs : A.size ≤ 31 := by rw [hAe]; exact hA
    rw [← hAe] at HF HR
    have hr1 : ∀ W, (Op.stringOp .add A ⟨#[58]⟩).run Tryd.prog W = .ok (.string (A ++ ⟨#[58]⟩)) W := fun W => run_string_add_sum W _ _ (by show A.size + 1 ≤ _; omega)
    have hAs2 : (A ++ ⟨#[58]⟩ : ByteArray).size ≤ 32 := by rw [ByteArray.size_append]; show A.size + 1 ≤ 32; omega
    have hr2 : ∀ W, (Op.stringOp .add (A ++ ⟨#[58]⟩) s).run Tryd.prog W = .ok (.string (A ++ ⟨#[58]⟩ ++ s)) W := fun W => run_string_add_sum W _ _ (by omega)
    clear h hl hAe hA
    go_enter Tryd.func6, Tryd.ntmps6
    go_wp2_with fail
    refine (HA.out _).mono ?_
    rintro e w1 ⟨rfl, hb1⟩
    obtain ⟨x0, x1, B1⟩ := (HS.out _).on hb1
    go_wp2
    go_region_held3 (fun W => W.cell? ⟨w.heap.size, 0, none⟩ = some (.int .i64 n) ∧ W.cell? ⟨w.heap.size, 1, none⟩ = some (.string s) ∧ Below w.heap.size w W) (first | exact ⟨x0, x1, B1⟩ | exact ⟨x0, x1, B1.drew⟩ | exact ⟨by assumption, by assumption, by assumption⟩)
      (first | (go_at_call 13; refine (call_box (w0 := w) (n := n) (s := s) (HF.out _) ?_).mono ?_; (first | exact ⟨x0, x1, B1⟩ | exact ⟨x0, x1, B1.drew⟩ | exact ⟨by assumption, by assumption, by assumption⟩); rintro e w' ⟨rfl, c1, c2, c3⟩))
    all_goals go_wp2
    all_goals go_ret
    all_goals exact ⟨ret_bytes HR.out.symm, by assumption⟩
set_option maxHeartbeats 800000 in
set_option maxRecDepth 100000 in
theorem implText (n : Int) (hn : -9223372036854775808 ≤ n ∧ n ≤ 9223372036854775807) (s : ByteArray) (hs : s.size ≤ 9223372036854775807) (w : World) (HT : Lib.TabBelow Tryd.prog w.heap.size w "internal/strconv.uint64pow10" .u64 Lib.pow10Tab) :
    Calls Tryd.prog 8 #[sg n s] w fun e w' => e = .returned (.string (textOf n s)) ∧ Below w.heap.size w w' := by
  have HS := Lib.hid (fun t => box_made w n s t)
  have HA := Lib.hid (fun W => implAre_sg n s hs W)
  cases h : arB n s.data.toList
  · rw [h] at HA
    have HR := Lib.hid (textOf_no h)
    clear h
    go_enter Tryd.func8, Tryd.ntmps8
    go_wp2_with fail
    refine (HA.out _).mono ?_
    rintro e w1 ⟨rfl, hb1⟩
    have B1 := ((HS.out _).on hb1).2.2
    go_wp2
    go_ret
    exact ⟨ret_bytes HR.out.symm, B1⟩
  · rw [h] at HA
    have HR := Lib.hid (textOf_yes h)
    obtain ⟨h3, h7, hl, -⟩ := arB_yes h
    have hA : (Lib.itoa n).length ≤ 31 := itoa_short h3 h7
    have hsz : s.size ≤ 35 := by have := cnt_le (n := n.toNat) (by omega); have : s.size = cnt n.toNat := by simpa using hl
                                 omega
    have HF : Hid (∀ W, Below w.heap.size w W → Calls Tryd.prog 15 #[.int .i64 n] W fun e w' => e = .returned (.string ⟨(Lib.itoa n).toArray⟩) ∧ Below W.heap.size W w') := Lib.hid (fun W hb => FmtImpl.impl_any n (by omega) (by omega) W (HT W hb))
    obtain ⟨A, hAe⟩ : ∃ A : ByteArray, A = ⟨(Lib.itoa n).toArray⟩ := ⟨_, rfl⟩
    have hAs : A.size ≤ 31 := by rw [hAe]; exact hA
    rw [← hAe] at HF HR
    have hr1 : ∀ W, (Op.stringOp .add A ⟨#[58]⟩).run Tryd.prog W = .ok (.string (A ++ ⟨#[58]⟩)) W := fun W => run_string_add_sum W _ _ (by show A.size + 1 ≤ _; omega)
    have hAs2 : (A ++ ⟨#[58]⟩ : ByteArray).size ≤ 32 := by rw [ByteArray.size_append]; show A.size + 1 ≤ 32; omega
    have hr2 : ∀ W, (Op.stringOp .add (A ++ ⟨#[58]⟩) s).run Tryd.prog W = .ok (.string (A ++ ⟨#[58]⟩ ++ s)) W := fun W => run_string_add_sum W _ _ (by omega)
    clear h hl hAe hA
    go_enter Tryd.func8, Tryd.ntmps8
    go_wp2_with fail
    refine (HA.out _).mono ?_
    rintro e w1 ⟨rfl, hb1⟩
    obtain ⟨x0, x1, B1⟩ := (HS.out _).on hb1
    go_wp2
    go_region_held3 (fun W => W.cell? ⟨w.heap.size, 0, none⟩ = some (.int .i64 n) ∧ W.cell? ⟨w.heap.size, 1, none⟩ = some (.string s) ∧ Below w.heap.size w W) (first | exact ⟨x0, x1, B1⟩ | exact ⟨x0, x1, B1.drew⟩ | exact ⟨by assumption, by assumption, by assumption⟩)
      (first | (go_at_call 15; refine (call_box (w0 := w) (n := n) (s := s) (HF.out _ ?_) ?_).mono ?_; (first | exact B1 | exact B1.drew | assumption); (first | exact ⟨x0, x1, B1⟩ | exact ⟨x0, x1, B1.drew⟩ | exact ⟨by assumption, by assumption, by assumption⟩); rintro e w' ⟨rfl, c1, c2, c3⟩))
    all_goals go_wp2
    all_goals go_ret
    all_goals exact ⟨ret_bytes HR.out.symm, by assumption⟩
set_option maxHeartbeats 800000 in
set_option maxRecDepth 100000 in
theorem walkSignsText (n : Int) (hn : -9223372036854775808 ≤ n ∧ n ≤ 9223372036854775807) (s : ByteArray) (hs : s.size ≤ 9223372036854775807) (w : World) (htab : Lib.TabIs Tryd.prog w "internal/strconv.uint64pow10" .u64 Lib.pow10Tab) :
    Calls Tryd.prog 3 #[sg n s] w fun e w' => e = .returned (.bool true) ∧ Below w.heap.size w w' := by
  have HS := Lib.hid (fun t => box_made w n s t)
  by_cases hz : (1048576 : Int) - s.size < 0
  · have z1 := left_neg (left := 1048576) hz
    clear htab
    go_enter Tryd.func3, Tryd.ntmps3
    go_wp2_with fail
    refine (sz_sg n s _ (by omega) (by omega) hs _).mono ?_
    rintro e w1 ⟨rfl, hb1⟩
    have B1 := ((HS.out _).on hb1).2.2
    go_wp2
    go_ret
    exact ⟨rfl, B1⟩
  · have z1 := left_pos (left := 1048576) (s := s) (by omega)
    have HT := Lib.hid (Lib.tabBelow_of_tabIs htab)
    have HA := Lib.hid (fun W => specText n hn s hs W)
    have HI := Lib.hid (fun W hT => implText n hn s hs W hT)
    generalize textOf n s = x at HA HI
    have hself : (x.toList != x.toList) = false := by simp
    clear htab
    go_enter Tryd.func3, Tryd.ntmps3
    go_wp2_with fail
    refine (sz_sg n s _ (by omega) (by omega) hs _).mono ?_
    rintro e w1 ⟨rfl, hb1⟩
    obtain ⟨c1, c2, B1⟩ := (HS.out _).on hb1
    go_wp2_with fail
    refine (to_sg n s _).mono ?_
    rintro e w2 ⟨rfl, hb2⟩
    have X2 := Box.on ⟨c1, c2, B1⟩ hb2
    clear c1 c2
    obtain ⟨c1, c2, B2⟩ := X2
    go_wp2_with fail
    refine (HA.out _).mono ?_
    rintro e w3 ⟨rfl, hb3⟩
    have X3 := Box.on ⟨c1, c2, B2⟩ hb3
    clear c1 c2
    obtain ⟨c1, c2, B3⟩ := X3
    go_wp2_with fail
    refine (to_sg n s _).mono ?_
    rintro e w4 ⟨rfl, hb4⟩
    have X4 := Box.on ⟨c1, c2, B3⟩ hb4
    clear c1 c2
    obtain ⟨c1, c2, B4⟩ := X4
    go_wp2_with fail
    refine (HI.out _ (fun W hb => HT.out W (B4.trans (hb.mono B4.size)))).mono ?_
    rintro e w5 ⟨rfl, hb5⟩
    have B5 := B4.trans (hb5.mono B4.size)
    go_wp2
    go_ret
    exact ⟨rfl, B5⟩
end Go.Proofs.YtohihlhkheeemaaDoor.Sg
