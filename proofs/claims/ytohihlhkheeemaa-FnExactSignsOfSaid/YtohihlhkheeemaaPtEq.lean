/- eqPointS of two slices that read alike; markPointS and heldPointS. -/
import Derived.Test.YtohihlhkheeemaaPtList
namespace Go.Proofs.Ytohihlhkheeemaa.Pt
open Go.RowKit
theorem lt_of_cell {w : World} {a : Addr} {v : Value} (h : w.cell? a = some v) : a.block < w.heap.size := by
  rcases Nat.lt_or_ge a.block w.heap.size with h1 | h1
  · exact h1
  · simp [World.cell?, Array.getElem?_eq_none h1] at h
/-- A call beside which four cells are read. -/
theorem held4 (w0 : World) (a1 a2 a3 a4 : Addr) (v1 v2 v3 v4 : Value) {f : FuncId} {args : Array Value} {W : World} {v : Value} (h : Calls Try.prog f args W fun e w' => e = .returned v ∧ Below W.heap.size W w')
    (hS : W.cell? a1 = some v1 ∧ W.cell? a2 = some v2 ∧ W.cell? a3 = some v3 ∧ W.cell? a4 = some v4 ∧ Below w0.heap.size w0 W) :
    Calls Try.prog f args W fun e w' => e = .returned v ∧ w'.cell? a1 = some v1 ∧ w'.cell? a2 = some v2 ∧ w'.cell? a3 = some v3 ∧ w'.cell? a4 = some v4 ∧ Below w0.heap.size w0 w' :=
  h.mono fun _ _ ⟨he, hb⟩ => ⟨he, by rw [hb.cell (lt_of_cell hS.1)]; exact hS.1, by rw [hb.cell (lt_of_cell hS.2.1)]; exact hS.2.1, by rw [hb.cell (lt_of_cell hS.2.2.1)]; exact hS.2.2.1, by rw [hb.cell (lt_of_cell hS.2.2.2.1)]; exact hS.2.2.2.1, hS.2.2.2.2.trans (hb.mono hS.2.2.2.2.size)⟩

set_option maxHeartbeats 800000 in
set_option maxRecDepth 100000 in
theorem eq_same (b o c b2 o2 c2 : Nat) (xs : List P2) (hx : xs.length ≤ 9223372036854775807) (w : World) (hc : AtP w b o xs) (hc2 : AtP w b2 o2 xs) (hbw : b < w.heap.size) (hbw2 : b2 < w.heap.size) :
    Calls Try.prog 20 #[.slice (some ⟨b, o, none⟩) xs.length c, .slice (some ⟨b2, o2, none⟩) xs.length c2] w fun e w' => e = .returned (.bool true) ∧ Below w.heap.size w w' := by
  have hne : ((xs.length : Int) != (xs.length : Int)) = false := by simp
  go_enter Try.func20, Try.ntmps20
  go_wp2
  go_loopw [5] (fun i wr => ∃ k : Nat, k ≤ xs.length ∧ i = .int .i64 k ∧ Below w.heap.size w wr) (fun i _ => xs.length - (intOf i).toNat)
  case atStart => exact ⟨0, Nat.zero_le _, rfl, Below.refl _ _⟩
  case round =>
    obtain ⟨k, hk, rfl, hb⟩ := hrel
    by_cases hlt : k < xs.length
    · obtain ⟨x0, y0⟩ := (hc.on hb hbw).get k hlt
      obtain ⟨x1, y1⟩ := (hc2.on hb hbw2).get k hlt
      generalize xs[k].1 = x at x0 x1
      generalize xs[k].2 = y at y0 y1
      go_wp2
      go_region_held3 (fun W => W.cell? ⟨b, o + k * 2, none⟩ = some (.int .i64 x) ∧ W.cell? ⟨b, o + k * 2 + 1, none⟩ = some (.int .i64 y) ∧ W.cell? ⟨b2, o2 + k * 2, none⟩ = some (.int .i64 x) ∧ W.cell? ⟨b2, o2 + k * 2 + 1, none⟩ = some (.int .i64 y) ∧ Below w.heap.size w W) (first | exact ⟨x0, y0, x1, y1, hb⟩ | exact ⟨x0, y0, x1, y1, hb.drew⟩ | (refine ⟨?_, ?_, ?_, ?_, ?_⟩ <;> assumption))
        (first | (go_at_call 43; refine (held4 w ⟨b, o + k * 2, none⟩ ⟨b, o + k * 2 + 1, none⟩ ⟨b2, o2 + k * 2, none⟩ ⟨b2, o2 + k * 2 + 1, none⟩ (.int .i64 x) (.int .i64 y) (.int .i64 x) (.int .i64 y) (eqPt_same x y _) ?_).mono ?_; (first | exact ⟨x0, y0, x1, y1, hb⟩ | exact ⟨x0, y0, x1, y1, hb.drew⟩ | (refine ⟨?_, ?_, ?_, ?_, ?_⟩ <;> assumption)); rintro e w' ⟨rfl, c1, c2, c3, c4, c5⟩))
      go_wp2
      exact ⟨⟨k + 1, by omega, by go_num, by assumption⟩, by simp only [intOf]; omega⟩
    · go_wp2
      go_ret
      exact ⟨rfl, hb⟩
set_option maxRecDepth 100000 in
theorem eq_none (a a2 : Option Addr) (c c2 : Nat) (w : World) :
    Calls Try.prog 20 #[.slice a 0 c, .slice a2 0 c2] w fun e w' => e = .returned (.bool true) ∧ w = w' := by
  go_enter Try.func20, Try.ntmps20
  go_wp2
  refine wp_loop_rounds 1 ?_
  rw [rounds_succ]
  go_wp2
  go_ret
  exact ⟨rfl, rfl⟩
end Go.Proofs.Ytohihlhkheeemaa.Pt
