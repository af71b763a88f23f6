/- impl.Join by the plain 'J'. -/
import Derived.Test.YticekiniljemeaaDoorJoinMath
import Derived.Test.YticekiniljemeaaDoorShelf
namespace Go.Proofs.YticekiniljemeaaDoor.Join
open Go.RowKit Strs

set_option maxRecDepth 100000 in
theorem impl_any (b o c : Nat) (xs : List ByteArray) (sep : ByteArray) (hx : xs.length ≤ 1048576) (hcap : xs.length ≤ c) (hs : sep.size ≤ 1048576) (ht : tot xs ≤ 1048576) (w : World) (hc : At w b o xs) (hbw : b < w.heap.size) :
    Calls Tryd.prog 20 #[.slice (some ⟨b, o, none⟩) xs.length c, .string sep] w fun e w' => e = .returned (.string ⟨(J xs sep xs.length).toArray⟩) ∧ Below w.heap.size w w' := by
  have hl : (Lib.join (xs.map (·.data.toList)) sep.data.toList).length ≤ 140737488355328 := by
    have h1 := J_length xs sep xs.length
    have h2 := Nat.mul_le_mul hs hx
    rw [J, List.take_length] at h1
    exact Nat.le_trans h1 (by omega)
  have HC := Lib.hid (Tryd.strings_Join b o c xs sep w hc hbw (by omega) hcap hl)
  have HJ : Hid (Lib.join (xs.map (·.data.toList)) sep.data.toList = J xs sep xs.length) := Lib.hid (by rw [J, List.take_length]; rfl)
  clear hl
  go_enter Tryd.func20, Tryd.ntmps20
  go_wp2_with fail
  refine HC.out.mono ?_
  rintro e w1 ⟨rfl, hb⟩
  go_wp2
  go_ret
  exact ⟨ret_str HJ.out, hb⟩
set_option maxRecDepth 100000 in
theorem impl_none (a : Option Addr) (c : Nat) (sep : ByteArray) (w : World) :
    Calls Tryd.prog 20 #[.slice a 0 c, .string sep] w fun e w' => e = .returned (.string ⟨#[]⟩) ∧ w' = w := by
  go_enter Tryd.func20, Tryd.ntmps20
  go_wp2_with fail
  refine (Tryd.strings_Join_none a c sep _).mono ?_
  rintro e w1 ⟨rfl, rfl⟩
  go_wp2
  go_ret
  exact ⟨rfl, rfl⟩

end Go.Proofs.YticekiniljemeaaDoor.Join
