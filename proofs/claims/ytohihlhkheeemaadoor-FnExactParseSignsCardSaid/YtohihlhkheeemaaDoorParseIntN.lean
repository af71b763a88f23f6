/- spec.ParseInt and impl.ParseInt answer alike. -/
import Derived.Test.YtohihlhkheeemaaDoorParseN
namespace Go.Proofs.YtohihlhkheeemaaDoor.ParseInt
open Go.RowKit Parse
theorem pow12 : (10 : Int) ^ (11 + 1) - 1 = 999999999999 := by decide
theorem int_same (l : List UInt8) : Num.readI (-999999999999) 999999999999 l = Num.readS l 12 := by
  apply Option.ext
  intro n
  have := Num.read_same 11 (by omega) l n
  rw [pow12] at this
  exact this
set_option maxRecDepth 100000 in
theorem specInt (s : ByteArray) (hs : s.size ≤ 1048576) (w : World) :
    Calls Tryd.prog 17 #[.string s] w fun e w' => e = .returned (Read.pair (Num.readS s.data.toList 12)) ∧ Below w.heap.size w w' := by
  have hc := Read.l1Read_any s 12 (by omega) hs w
  revert hc
  cases Num.readS s.data.toList 12 with
  | some n =>
    intro hc
    unfold Read.pair at hc
    have HC := Lib.hid hc
    clear hc
    go_enter Tryd.func17, Tryd.ntmps17
    go_wp2_with fail
    refine HC.out.mono ?_
    rintro e w1 ⟨rfl, hb⟩
    go_wp2
    go_ret2
    exact ⟨rfl, hb⟩
  | none =>
    intro hc
    unfold Read.pair at hc
    have HC := Lib.hid hc
    clear hc
    go_enter Tryd.func17, Tryd.ntmps17
    go_wp2_with fail
    refine HC.out.mono ?_
    rintro e w1 ⟨rfl, hb⟩
    go_wp2
    go_ret2
    exact ⟨rfl, hb⟩
end Go.Proofs.YtohihlhkheeemaaDoor.ParseInt
