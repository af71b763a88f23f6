/- l1New, l1Pick, l1PickInt, l1Once: what the draws begin with and choose from. -/
import Derived.Test.YtfpbehnpaedpmaaDoorCur
import Derived.Test.YtfpbehnpaedpmaaDoorMgN
namespace Go.Proofs.YtfpbehnpaedpmaaDoor.Cur
open Go.RowKit

theorem andMask (E : Int) (m : Nat) (hm : m < 9223372036854775808) : ∃ x : Nat, x ≤ m ∧ bits BinOp.and IntKind.i64 E (m : Int) = (x : Int) := by
  have hle : (BitVec.ofInt 64 E).toNat &&& m ≤ m := Nat.and_le_right
  refine ⟨(BitVec.ofInt 64 E).toNat &&& m, hle, ?_⟩
  have e : bits BinOp.and IntKind.i64 E (m : Int) = IntKind.i64.wrap (((BitVec.ofInt 64 E).toNat &&& m : Nat) : Int) := by
    show IntKind.i64.wrap ((BitVec.ofInt 64 E &&& BitVec.ofInt 64 (m : Int)).toNat : Int) = _
    rw [BitVec.toNat_and, BitVec.ofInt_natCast, BitVec.toNat_ofNat, Nat.mod_eq_of_lt (by omega)]
  rw [e, IntKind.wrap_i64]
  omega
theorem andMask30 (E : Int) : ∃ x : Nat, x ≤ 1073741823 ∧ bits BinOp.and IntKind.i64 E 1073741823 = (x : Int) := andMask E 1073741823 (by omega)

theorem new_at {w : World} {v : Value} {n : Nat} (hv : Bytes w v n w.heap.size) (h : Nat) (hh : h ≤ 9223372036854775807) :
    Bytes (w.alloc (.cells #[v, .int .i64 0, .int .i64 h] 69)) v n w.heap.size ∧ At (w.alloc (.cells #[v, .int .i64 0, .int .i64 h] 69)) w.heap.size v n ∧ Below w.heap.size w (w.alloc (.cells #[v, .int .i64 0, .int .i64 h] 69)) := by
  have hb : Below w.heap.size w (w.alloc (.cells #[v, .int .i64 0, .int .i64 h] 69)) := (Below.refl _ _).alloc (Nat.le_refl _) _
  refine ⟨?_, ⟨0, h, Nat.zero_le _, by omega, Go.Deep.blk_alloc_new _ _⟩, hb⟩
  obtain ⟨a, c, rfl, hn, h0 | ⟨cb, co, rfl, hcb, hby⟩⟩ := hv
  · exact ⟨a, c, rfl, hn, Or.inl h0⟩
  · refine ⟨_, c, rfl, hn, Or.inr ⟨cb, co, rfl, hcb, fun j hj => ?_⟩⟩
    obtain ⟨x, hx, hc⟩ := hby j hj
    exact ⟨x, hx, by rw [hb.cell (by exact hcb)]; exact hc⟩

set_option maxHeartbeats 400000 in
set_option maxRecDepth 100000 in
theorem new_any (v : Value) (n : Nat) (hn : n ≤ 9223372036854700000) (w : World) (hv : Bytes w v n w.heap.size) :
    Calls Tryd.prog 34 #[v] w fun e w' => ∃ b : Nat, e = .returned (.pointer (some ⟨b, 0, none⟩)) ∧ w.heap.size ≤ b ∧ Bytes w' v n b ∧ At w' b v n ∧ Below w.heap.size w w' := by
  have hv' := hv
  obtain ⟨a, c, rfl, hn', hby⟩ := hv
  have HV := Lib.hid hv'
  clear hv'
  go_enter Tryd.func34, Tryd.ntmps34
  go_wp2
  go_loop [3, 4] (fun hv i => ∃ (h k : Nat), k ≤ n ∧ h ≤ 9223372036854775807 ∧ i = .int .i64 k ∧ hv = .int .i64 h) (fun _ i => n - (intOf i).toNat)
  case atStart => exact ⟨26583 + n, 0, Nat.zero_le _, by omega, rfl, by congr 1⟩
  case round =>
    obtain ⟨h, k, hk, hh, rfl, rfl⟩ := hrel
    by_cases hlt : k < n
    · by_cases h4 : k < 4000
      · obtain ⟨cb, co, rfl, hcb, hb⟩ : ∃ cb co, a = some ⟨cb, co, none⟩ ∧ cb < w.heap.size ∧ ∀ j, j < n → ∃ x : Nat, x ≤ 255 ∧ w.cell? ⟨cb, co + j, none⟩ = some (.int .u8 x) := by
          rcases hby with h0 | h0
          · omega
          · exact h0
        obtain ⟨x, hx, hcell⟩ := hb k hlt
        clear hb hby
        obtain ⟨y, hy, hye⟩ := andMask30 (wrap64 (wrap64 (wrap64 ((h : Int) * 131) + (x : Int)) + 7))
        have HY := Lib.hid hye
        clear hye
        go_wp2
        rw [HY.out]
        exact ⟨⟨y, k + 1, by omega, by omega, by go_num, rfl⟩, by simp only [intOf]; omega⟩
      · have HA := Lib.hid (new_at HV.out h hh)
        go_wp2
        go_ret
        exact ⟨_, rfl, Nat.le_refl _, HA.out.1, HA.out.2.1, HA.out.2.2⟩
    · have HA := Lib.hid (new_at HV.out h hh)
      go_wp2
      go_ret
      exact ⟨_, rfl, Nat.le_refl _, HA.out.1, HA.out.2.1, HA.out.2.2⟩

set_option maxRecDepth 100000 in
theorem once_any (b : Nat) (v : Value) (n m : Nat) (hm : m ≤ 2147483648) (w : World) (hv : Bytes w v n b) (hc : At w b v n) :
    Calls Tryd.prog 38 #[.pointer (some ⟨b, 0, none⟩), .int .i64 m] w fun e w' => ∃ r : Bool, e = .returned (.bool r) ∧ Leaves b v n w w' := by
  go_enter Tryd.func38, Tryd.ntmps38
  go_wp2_with fail
  refine (below_any b v n m hm _ hv hc).mono ?_
  rintro e w1 ⟨r, hr, rfl, hl⟩
  go_wp2
  go_ret
  exact ⟨_, rfl, hl⟩

set_option maxHeartbeats 400000 in
set_option maxRecDepth 100000 in
theorem pick_any (b lb cap : Nat) (v : Value) (n : Nat) (xs : List ByteArray) (h1 : 1 ≤ xs.length) (h2 : xs.length ≤ 256) (w : World) (hv : Bytes w v n b) (hc : At w b v n) (hx : Strs.At w lb 0 xs) (hne : lb ≠ b) :
    Calls Tryd.prog 59 #[.pointer (some ⟨b, 0, none⟩), .slice (some ⟨lb, 0, none⟩) xs.length cap] w fun e w' => ∃ x ∈ xs, e = .returned (.string x) ∧ Leaves b v n w w' := by
  go_enter Tryd.func59, Tryd.ntmps59
  go_wp2_with fail
  refine (below_any b v n xs.length (by omega) _ hv hc).mono ?_
  rintro e w1 ⟨r, hr, rfl, hl⟩
  have hr1 : r < xs.length := by omega
  have hcell : w1.cell? ⟨lb, r, none⟩ = some (.string xs[r]) := by
    have := hx.get r hr1
    rw [Nat.zero_add] at this
    exact hl.2.2.cell this (fun e => hne (Option.some.inj e))
  go_wp2
  go_ret
  exact ⟨_, List.getElem_mem hr1, rfl, hl⟩

set_option maxHeartbeats 400000 in
set_option maxRecDepth 100000 in
theorem pickInt_any (b lb cap : Nat) (v : Value) (n : Nat) (xs : List Int) (h1 : 1 ≤ xs.length) (h2 : xs.length ≤ 256) (w : World) (hv : Bytes w v n b) (hc : At w b v n) (hx : ∀ (j : Nat) x, xs[j]? = some x → w.cell? ⟨lb, j, none⟩ = some (.int .i64 x)) (hne : lb ≠ b) :
    Calls Tryd.prog 56 #[.pointer (some ⟨b, 0, none⟩), .slice (some ⟨lb, 0, none⟩) xs.length cap] w fun e w' => ∃ x ∈ xs, e = .returned (.int .i64 x) ∧ Leaves b v n w w' := by
  go_enter Tryd.func56, Tryd.ntmps56
  go_wp2_with fail
  refine (below_any b v n xs.length (by omega) _ hv hc).mono ?_
  rintro e w1 ⟨r, hr, rfl, hl⟩
  have hr1 : r < xs.length := by omega
  have hcell : w1.cell? ⟨lb, r, none⟩ = some (.int .i64 xs[r]) := hl.2.2.cell (hx r _ (List.getElem?_eq_getElem hr1)) (fun e => hne (Option.some.inj e))
  go_wp2
  go_ret
  exact ⟨_, List.getElem_mem hr1, rfl, hl⟩
end Go.Proofs.YtfpbehnpaedpmaaDoor.Cur
