/- szStringS. -/
import Derived.Test.YtillgegbkfhpnaaStrs
namespace Go.Proofs.Ytillgegbkfhpnaa.Strs
open Go.RowKit
set_option maxHeartbeats 400000 in
set_option maxRecDepth 100000 in
theorem sz_any (b o c : Nat) (xs : List ByteArray) (left : Int) (h0 : 0 ≤ left) (h1 : left ≤ 1048576) (hx : xs.length ≤ 9223372036854775807) (hsz : ∀ x ∈ xs, x.size ≤ 9223372036854775807) (w : World) (hc : At w b o xs) :
    Calls Try.prog 4 #[.slice (some ⟨b, o, none⟩) xs.length c, .int .i64 left] w fun e w' => e = .returned (.int .i64 (sz left xs)) ∧ w' = w := by
  by_cases hs : left - xs.length < 0
  · have HE : Hid (sz left xs = -1) := Lib.hid (by unfold sz; rw [if_pos hs])
    go_enter Try.func4, Try.ntmps4
    go_wp2
    go_ret
    exact ⟨ret_int (by rw [HE.out]), rfl⟩
  · have HE : Hid (sz left xs = szTo (left - xs.length) xs) := Lib.hid (by unfold sz; rw [if_neg hs])
    go_enter Try.func4, Try.ntmps4
    go_wp2
    go_loop [1, 5] (fun l i => ∃ (k : Nat) (m : Int), k ≤ xs.length ∧ i = .int .i64 k ∧ l = .int .i64 m ∧ 0 ≤ m ∧ m ≤ 1048576 ∧ Hid (szTo (left - xs.length) xs = szTo m (xs.drop k))) (fun _ i => xs.length - (intOf i).toNat)
    case atStart => exact ⟨0, left - xs.length, Nat.zero_le _, rfl, rfl, by omega, by omega, Lib.hid rfl⟩
    case round =>
      obtain ⟨k, m, hk, rfl, rfl, hm0, hm1, hr⟩ := hrel
      by_cases hlt : k < xs.length
      · have hcell := hc.get k hlt
        have hz1 : xs[k].size ≤ 9223372036854775807 := hsz _ (List.getElem_mem hlt)
        by_cases hneg : m - xs[k].size < 0
        · have HR : Hid (sz left xs = -1) := Lib.hid (by rw [HE.out, hr.out, szTo_drop xs k hlt, if_pos hneg])
          go_wp2
          go_ret
          exact ⟨ret_int (by rw [HR.out]), rfl⟩
        · have HR : Hid (szTo (left - xs.length) xs = szTo (m - xs[k].size) (xs.drop (k + 1))) := Lib.hid (by rw [hr.out, szTo_drop xs k hlt, if_neg hneg])
          go_wp2
          exact ⟨⟨k + 1, m - xs[k].size, by omega, by go_num, rfl, by omega, by omega, HR⟩, by simp only [intOf]; omega⟩
      · have HR : Hid (sz left xs = m) := Lib.hid (by rw [HE.out, hr.out, List.drop_eq_nil_of_le (by omega)]; rfl)
        go_wp2
        go_ret
        exact ⟨ret_int (by rw [HR.out]), rfl⟩
set_option maxRecDepth 100000 in
theorem sz_none (a : Option Addr) (c : Nat) (left : Int) (h0 : 0 ≤ left) (h1 : left ≤ 1048576) (w : World) :
    Calls Try.prog 4 #[.slice a 0 c, .int .i64 left] w fun e w' => e = .returned (.int .i64 left) ∧ w' = w := by
  go_enter Try.func4, Try.ntmps4
  go_wp2
  refine wp_loop_rounds 1 ?_
  rw [rounds_succ]
  go_wp2
  go_ret
  exact ⟨rfl, rfl⟩
end Go.Proofs.Ytillgegbkfhpnaa.Strs
