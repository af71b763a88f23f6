/- spec.ParseInt and impl.ParseInt answer alike. -/
import Derived.Test.YtfpbehnpaedpmaaDoorParseN
namespace Go.Proofs.YtfpbehnpaedpmaaDoor.ParseInt
open Go.RowKit Parse
theorem pow12 : (10 : Int) ^ (11 + 1) - 1 = 999999999999 := by decide
theorem int_same (l : List UInt8) : Num.readI (-999999999999) 999999999999 l = Num.readS l 12 := by
  apply Option.ext
  intro n
  have := Num.read_same 11 (by omega) l n
  rw [pow12] at this
  exact this
end Go.Proofs.YtfpbehnpaedpmaaDoor.ParseInt
