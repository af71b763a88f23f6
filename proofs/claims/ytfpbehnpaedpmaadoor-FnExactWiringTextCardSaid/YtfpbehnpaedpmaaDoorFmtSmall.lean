/- impl.FormatInt at small numbers: no table is read. -/
import Derived.Test.YtfpbehnpaedpmaaDoorNewI
namespace Go.Proofs.YtfpbehnpaedpmaaDoor.TrText
open Go.RowKit NewI
theorem ret_strD {s t : ByteArray} (h : s = t) : Ending.returned (.string s) = Ending.returned (.string t) := by rw [h]
set_option maxHeartbeats 1600000 in
set_option maxRecDepth 100000 in
theorem fmt_small (k : Nat) (hk : k ≤ 7) (w : World) :
    Calls Tryd.prog 54 #[.int .i64 k] w fun e w' => e = .returned (.string ⟨(Lib.itoa (k : Nat)).toArray⟩) ∧ w = w' := by
  have key : ∀ (x : Int), x = 0 ∨ x = 1 ∨ x = 2 ∨ x = 3 ∨ x = 4 ∨ x = 5 ∨ x = 6 ∨ x = 7 → Calls Tryd.prog 82 #[.int .i64 x] w fun e w' => e = .returned (.string ⟨(Lib.itoa x).toArray⟩) ∧ w = w' := by
    intro x hx
    rcases hx with rfl | rfl | rfl | rfl | rfl | rfl | rfl | rfl <;>
    · go_enter Tryd.func82, Tryd.ntmps82
      go_wp2
      go_ret
      exact ⟨ret_strD (by decide +kernel), rfl⟩
  have HK := Lib.hid (key (k : Int) (by omega))
  obtain ⟨A, hA⟩ : ∃ A : ByteArray, A = ⟨(Lib.itoa (k : Nat)).toArray⟩ := ⟨_, rfl⟩
  rw [← hA] at HK ⊢
  clear key hA
  have H1 : Hid (Calls Tryd.prog 74 #[.int .i64 k, .int .i64 10] w fun e w' => e = .returned (.string A) ∧ w = w') := Lib.hid (by
    go_enter Tryd.func74, Tryd.ntmps74
    go_wp2_with fail
    refine HK.out.mono ?_
    rintro e w' ⟨rfl, rfl⟩
    go_wp2
    go_ret
    exact ⟨rfl, rfl⟩)
  clear HK
  have H2 : Hid (Calls Tryd.prog 67 #[.int .i64 k] w fun e w' => e = .returned (.string A) ∧ w = w') := Lib.hid (by
    go_enter Tryd.func67, Tryd.ntmps67
    go_wp2_with fail
    refine H1.out.mono ?_
    rintro e w' ⟨rfl, rfl⟩
    go_wp2
    go_ret
    exact ⟨rfl, rfl⟩)
  clear H1
  have H3 : Hid (Calls Tryd.prog 64 #[.int .i64 k] w fun e w' => e = .returned (.string A) ∧ w = w') := Lib.hid (by
    go_enter Tryd.func64, Tryd.ntmps64
    go_wp2_with fail
    refine H2.out.mono ?_
    rintro e w' ⟨rfl, rfl⟩
    go_wp2
    go_ret
    exact ⟨rfl, rfl⟩)
  clear H2
  go_enter Tryd.func54, Tryd.ntmps54
  go_wp2_with fail
  refine H3.out.mono ?_
  rintro e w' ⟨rfl, rfl⟩
  go_wp2
  go_ret
  exact ⟨rfl, rfl⟩
end Go.Proofs.YtfpbehnpaedpmaaDoor.TrText
