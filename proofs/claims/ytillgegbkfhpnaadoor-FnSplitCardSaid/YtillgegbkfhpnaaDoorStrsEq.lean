/- eqStringS of two lists that read alike. -/
import Derived.Test.YtillgegbkfhpnaaDoorStrs
namespace Go.Proofs.YtillgegbkfhpnaaDoor.Strs
open Go.RowKit
set_option maxHeartbeats 400000 in
set_option maxRecDepth 100000 in
theorem eq_same (b o c b2 o2 c2 : Nat) (xs : List ByteArray) (hx : xs.length ≤ 9223372036854775807) (w : World) (hc : At w b o xs) (hc2 : At w b2 o2 xs) :
    Calls Tryd.prog 22 #[.slice (some ⟨b, o, none⟩) xs.length c, .slice (some ⟨b2, o2, none⟩) xs.length c2] w fun e w' => e = .returned (.bool true) ∧ ∃ n, w' = w.drewN n := by
  have hne : ((xs.length : Int) != (xs.length : Int)) = false := by simp
  go_enter Tryd.func22, Tryd.ntmps22
  go_wp2
  go_loopw [5] (fun i wr => ∃ k : Nat, k ≤ xs.length ∧ i = .int .i64 k ∧ Hid (∃ n, wr = w.drewN n)) (fun i _ => xs.length - (intOf i).toNat)
  case atStart => exact ⟨0, Nat.zero_le _, rfl, Lib.hid ⟨0, rfl⟩⟩
  case round =>
    obtain ⟨k, hk, rfl, hn⟩ := hrel
    obtain ⟨n, rfl⟩ := hn.out
    by_cases hlt : k < xs.length
    · have hcell := hc.get k hlt
      have hcell2 := hc2.get k hlt
      have hs1 : (xs[k].toList == xs[k].toList) = true := by simp
      go_wp2
      go_quiet (fail)
      go_wp2
      exact ⟨⟨k + 1, by omega, by go_num, Lib.hid ⟨_, rfl⟩⟩, by simp only [intOf]; omega⟩
    · go_wp2
      go_ret
      exact ⟨rfl, n, rfl⟩
set_option maxRecDepth 100000 in
theorem eq_none (a a2 : Option Addr) (c c2 : Nat) (w : World) :
    Calls Tryd.prog 22 #[.slice a 0 c, .slice a2 0 c2] w fun e w' => e = .returned (.bool true) ∧ w' = w := by
  go_enter Tryd.func22, Tryd.ntmps22
  go_wp2
  refine wp_loop_rounds 1 ?_
  rw [rounds_succ]
  go_wp2
  go_ret
  exact ⟨rfl, rfl⟩
end Go.Proofs.YtillgegbkfhpnaaDoor.Strs
