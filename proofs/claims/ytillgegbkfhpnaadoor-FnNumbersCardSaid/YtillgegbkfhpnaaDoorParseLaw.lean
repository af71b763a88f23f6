/- FnExactParseInt and FnExactParseNumber: for every string, impl's and spec's answers are the same. Condition: the listed variables read as their initialisers lay them (the card ties them). -/
import Derived.Test.YtillgegbkfhpnaaDoorParse
namespace Go.Proofs.YtillgegbkfhpnaaDoor.ParseLaw
open Go.RowKit Parse

theorem pow12 : (10 : Int) ^ (11 + 1) - 1 = 999999999999 := by decide
theorem pow6 : (10 : Int) ^ (5 + 1) - 1 = 999999 := by decide
theorem int_same (l : List UInt8) : Num.readI (-999999999999) 999999999999 l = Num.readS l 12 := by
  apply Option.ext
  intro n
  have := Num.read_same 11 (by omega) l n
  rw [pow12] at this
  exact this
def pos : Option Int → Option Int
  | some n => if n < 0 then none else some n
  | none => none
theorem number_same (l : List UInt8) : Num.readI 0 999999 l = pos (Num.readS l 6) := by
  apply Option.ext
  intro n
  have := Num.read_same_pos 5 (by omega) l n
  rw [pow6] at this
  rw [this]
  cases Num.readS l 6 with
  | none => simp [pos]
  | some m =>
    unfold pos
    by_cases h : m < 0
    · simp [h]; rintro rfl; exact h
    · simp [h]; rintro rfl; omega

set_option maxRecDepth 100000 in
theorem specInt (s : ByteArray) (hs : s.size ≤ 1048576) (w : World) :
    Calls Tryd.prog 21 #[.string s] w fun e w' => e = .returned (Read.pair (Num.readS s.data.toList 12)) ∧ Below w.heap.size w w' := by
  have hc := Read.l1Read_any s 12 (by omega) hs w
  revert hc
  cases Num.readS s.data.toList 12 with
  | some n =>
    intro hc
    unfold Read.pair at hc
    have HC := Lib.hid hc
    clear hc
    go_enter Tryd.func21, Tryd.ntmps21
    go_wp2_with fail
    refine HC.out.mono ?_
    rintro e w1 ⟨rfl, hb⟩
    go_wp2
    go_ret2
    exact ⟨rfl, hb⟩
  | none =>
    intro hc
    unfold Read.pair at hc
    have HC := Lib.hid hc
    clear hc
    go_enter Tryd.func21, Tryd.ntmps21
    go_wp2_with fail
    refine HC.out.mono ?_
    rintro e w1 ⟨rfl, hb⟩
    go_wp2
    go_ret2
    exact ⟨rfl, hb⟩
set_option maxRecDepth 100000 in
theorem specNumber (s : ByteArray) (hs : s.size ≤ 1048576) (w : World) :
    Calls Tryd.prog 16 #[.string s] w fun e w' => e = .returned (Read.pair (pos (Num.readS s.data.toList 6))) ∧ Below w.heap.size w w' := by
  have hc := Read.l1Read_any s 6 (by omega) hs w
  revert hc
  cases Num.readS s.data.toList 6 with
  | some n =>
    intro hc
    unfold Read.pair at hc
    have HC := Lib.hid hc
    clear hc
    by_cases h : n < 0
    · rw [show pos (some n) = none from if_pos h]
      go_enter Tryd.func16, Tryd.ntmps16
      go_wp2_with fail
      refine HC.out.mono ?_
      rintro e w1 ⟨rfl, hb⟩
      go_wp2
      go_ret2
      exact ⟨rfl, hb⟩
    · rw [show pos (some n) = some n from if_neg h]
      go_enter Tryd.func16, Tryd.ntmps16
      go_wp2_with fail
      refine HC.out.mono ?_
      rintro e w1 ⟨rfl, hb⟩
      go_wp2
      go_ret2
      exact ⟨rfl, hb⟩
  | none =>
    intro hc
    unfold Read.pair at hc
    have HC := Lib.hid hc
    clear hc
    go_enter Tryd.func16, Tryd.ntmps16
    go_wp2_with fail
    refine HC.out.mono ?_
    rintro e w1 ⟨rfl, hb⟩
    go_wp2
    go_ret2
    exact ⟨rfl, hb⟩
set_option maxRecDepth 100000 in
theorem walkInt (s : ByteArray) (_ : s.size ≤ maxLen) (w : World) (a1 a2 a3 : Addr) (tp : TypeId) (H : Held w.heap.size w a1 a2 a3 tp) :
    Calls Tryd.prog 7 #[.string s] w fun e w' => e = .returned (.bool true) ∧ Below w.heap.size w w' := by
  by_cases hs : s.size ≤ 1048576
  · have HS := Lib.hid (specInt s hs w)
    have HI : Hid (∀ w1, Below w.heap.size w w1 → Calls Tryd.prog 12 #[.string s] w1 fun e w' => e = .returned (Read.pair (Num.readS s.data.toList 12)) ∧ Below w1.heap.size w1 w') := by
      refine Lib.hid fun w1 hb1 => ?_
      have hi := parseInt_any s hs w1 a1 a2 a3 tp (H.up hb1)
      rw [int_same] at hi
      exact hi
    revert HS HI
    cases Num.readS s.data.toList 12 with
    | some n =>
      intro HS HI
      unfold Read.pair at HS HI
      go_enter Tryd.func7, Tryd.ntmps7
      go_wp2_with fail
      refine HS.out.mono ?_
      rintro e w1 ⟨rfl, hb1⟩
      go_wp2_with fail
      refine (HI.out w1 hb1).mono ?_
      rintro e w2 ⟨rfl, hb2⟩
      go_wp2
      go_ret
      exact ⟨rfl, hb1.trans (hb2.mono hb1.size)⟩
    | none =>
      intro HS HI
      unfold Read.pair at HS HI
      go_enter Tryd.func7, Tryd.ntmps7
      go_wp2_with fail
      refine HS.out.mono ?_
      rintro e w1 ⟨rfl, hb1⟩
      go_wp2_with fail
      refine (HI.out w1 hb1).mono ?_
      rintro e w2 ⟨rfl, hb2⟩
      go_wp2
      go_ret
      exact ⟨rfl, hb1.trans (hb2.mono hb1.size)⟩
  · have hs' : 1048576 < s.size := by omega
    go_enter Tryd.func7, Tryd.ntmps7
    go_wp2
    go_ret
    exact ⟨rfl, Below.refl _ _⟩
set_option maxRecDepth 100000 in
theorem walkNumber (s : ByteArray) (_ : s.size ≤ maxLen) (w : World) (a1 a2 a3 : Addr) (tp : TypeId) (H : Held w.heap.size w a1 a2 a3 tp) :
    Calls Tryd.prog 6 #[.string s] w fun e w' => e = .returned (.bool true) ∧ Below w.heap.size w w' := by
  by_cases hs : s.size ≤ 1048576
  · have HS := Lib.hid (specNumber s hs w)
    have HI : Hid (∀ w1, Below w.heap.size w w1 → Calls Tryd.prog 15 #[.string s] w1 fun e w' => e = .returned (Read.pair (pos (Num.readS s.data.toList 6))) ∧ Below w1.heap.size w1 w') := by
      refine Lib.hid fun w1 hb1 => ?_
      have hi := parseNumber_any s hs w1 a1 a2 a3 tp (H.up hb1)
      rw [number_same] at hi
      exact hi
    revert HS HI
    cases pos (Num.readS s.data.toList 6) with
    | some n =>
      intro HS HI
      unfold Read.pair at HS HI
      go_enter Tryd.func6, Tryd.ntmps6
      go_wp2_with fail
      refine HS.out.mono ?_
      rintro e w1 ⟨rfl, hb1⟩
      go_wp2_with fail
      refine (HI.out w1 hb1).mono ?_
      rintro e w2 ⟨rfl, hb2⟩
      go_wp2
      go_ret
      exact ⟨rfl, hb1.trans (hb2.mono hb1.size)⟩
    | none =>
      intro HS HI
      unfold Read.pair at HS HI
      go_enter Tryd.func6, Tryd.ntmps6
      go_wp2_with fail
      refine HS.out.mono ?_
      rintro e w1 ⟨rfl, hb1⟩
      go_wp2_with fail
      refine (HI.out w1 hb1).mono ?_
      rintro e w2 ⟨rfl, hb2⟩
      go_wp2
      go_ret
      exact ⟨rfl, hb1.trans (hb2.mono hb1.size)⟩
  · have hs' : 1048576 < s.size := by omega
    go_enter Tryd.func6, Tryd.ntmps6
    go_wp2
    go_ret
    exact ⟨rfl, Below.refl _ _⟩
end Go.Proofs.YtillgegbkfhpnaaDoor.ParseLaw
