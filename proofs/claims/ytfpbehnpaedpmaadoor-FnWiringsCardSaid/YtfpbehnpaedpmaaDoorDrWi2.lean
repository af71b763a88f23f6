/- The draws of wirings: DrawIsWiring, DrawWiresAfter. -/
import Derived.Test.YtfpbehnpaedpmaaDoorDrWi
namespace Go.Proofs.YtfpbehnpaedpmaaDoor.Cur
open Go.RowKit Pt NewI Wi Sg
theorem leaves_belowW {b n : Nat} {v : Value} {w w1 wr : World} (h : Leaves b v n w1 wr) (hb : w.heap.size ≤ b) (hB : Below w.heap.size w w1) : Below w.heap.size w wr :=
  hB.trans ⟨h.2.2.os, h.2.2.tape, h.2.2.output, h.2.2.size, fun i hi => h.2.2.block i (by have := hB.size; omega) (fun e => by injection e; omega)⟩
theorem BentW.low {B B' : Nat} {e : Ending} {w' : World} (h : BentW B e w') (hB : B' ≤ B) : BentW B' e w' := by
  obtain ⟨m, zs, g, c, h1, h2, h3, h4, h5, h6, h7, h8, h9⟩ := h
  exact ⟨m, zs, g, c, h1, h2, h3, h4, h5, h6, h7, by omega, h9⟩
theorem bitW_any (b : Bool) (w : World) : Calls Tryd.prog 37 #[.bool b] w fun e w' => e = .returned (.int .i64 (if b = true then 1 else 0)) ∧ w = w' := by
  cases b
  · go_enter Tryd.func37, Tryd.ntmps37
    go_wp2
    go_ret
    exact ⟨rfl, rfl⟩
  · go_enter Tryd.func37, Tryd.ntmps37
    go_wp2
    go_ret
    exact ⟨rfl, rfl⟩
set_option maxHeartbeats 800000 in
set_option maxRecDepth 100000 in
theorem drawIsW_any (v : Value) (n : Nat) (hn : n ≤ 9223372036854700000) (w : World) (hv : Bytes w v n w.heap.size) :
    Calls Tryd.prog 7 #[v] w fun e w' => BentW w.heap.size e w' ∧ Below w.heap.size w w' := by
  go_enter Tryd.func7, Tryd.ntmps7
  go_wp2_with fail
  refine (new_any v n hn _ hv).mono ?_
  rintro e w1 ⟨b, rfl, hb, hv1, hc1, hb1⟩
  have B1 := Lib.hid hb1
  have HD := Lib.hid (l12Bent_any b v n w1 hv1 hc1)
  clear hb1 hv1 hc1
  go_wp2_with fail
  refine HD.out.mono ?_
  rintro e w2 ⟨⟨m, zs, g, c, rfl, h2, h7, h3, h15, hcz, hcm, hBg, hbd, hC⟩, hl⟩
  have HB := Lib.hid (leaves_belowW hl hb B1.out)
  have HC := Lib.hid hC
  have HBD := Lib.hid hbd
  have hs1 := B1.out.size
  clear hC hl hbd
  go_wp2
  go_ret2
  exact ⟨⟨m, zs, g, c, rfl, h2, h7, h3, h15, hcz, hcm, by omega, HBD.out, HC.out⟩, HB.out⟩
set_option maxHeartbeats 1600000 in
set_option maxRecDepth 100000 in
theorem drawAfterW_any (v : Value) (n : Nat) (hn : n ≤ 9223372036854700000) (w : World) (hv : Bytes w v n w.heap.size) :
    Calls Tryd.prog 9 #[v] w fun e w' => (∃ (m : Nat) (zs : List Int) (g c : Nat) (k : Int), e = .returned (.tuple #[.int .i64 m, .slice (some ⟨g, 0, none⟩) zs.length c, .int .i64 k]) ∧ 2 ≤ m ∧ m ≤ 7 ∧ 3 ≤ zs.length ∧ zs.length ≤ 15 ∧ (-1 ≤ k ∧ k ≤ 20) ∧ w.heap.size ≤ g ∧ Cells w' g zs.length (zc zs)) ∧ Below w.heap.size w w' := by
  go_enter Tryd.func9, Tryd.ntmps9
  go_wp2_with fail
  refine (new_any v n hn _ hv).mono ?_
  rintro e w1 ⟨b, rfl, hb, hv1, hc1, hb1⟩
  have B1 := Lib.hid hb1
  have HD := Lib.hid (l12Bent_any b v n w1 hv1 hc1)
  have HBW := Lib.hid (fun (m : Nat) (hm : m ≤ 2147483648) W (hl : Leaves b v n w1 W) => (below_any b v n m hm W hl.1 hl.2.1))
  have HON := Lib.hid (fun (m : Nat) (hm : m ≤ 2147483648) W (hl : Leaves b v n w1 W) => (once_any b v n m hm W hl.1 hl.2.1))
  have hb1l := hc1.ltW
  clear hb1 hv1 hc1
  go_wp2_with fail
  refine HD.out.mono ?_
  rintro e w2 ⟨⟨m, zs, g, c, rfl, h2, h7, h3, h15, hcz, hcm, hBg, hbd, hC⟩, hl2⟩
  have L2 := Lib.hid hl2
  have HC2 := Lib.hid hC
  have hg0 : g ≠ b := by omega
  have hs1 := B1.out.size
  have v0 : IntKind.i64.wrap ((zs.length : Int) + 2) = ((zs.length + 2 : Nat) : Int) := by rw [IntWalk.i64_in _ (by omega)]; omega
  clear hC hl2 hbd HD
  go_wp2_with fail
  refine (HBW.out (zs.length + 2) (by omega) _ L2.out).mono ?_
  rintro e w3 ⟨r, hr, rfl, hl3⟩
  have hr17 : r ≤ 17 := by omega
  have L3 := Lib.hid (L2.out.trans hl3)
  have HC3 := Lib.hid (cells_leaves HC2.out hl3 hg0)
  clear hl3
  go_wp2_with fail
  refine (HON.out 14 (by omega) _ L3.out).mono ?_
  rintro e w4 ⟨q, rfl, hl4⟩
  have L4 := Lib.hid (L3.out.trans hl4)
  have HC4 := Lib.hid (cells_leaves HC3.out hl4 hg0)
  have HF := Lib.hid (leaves_belowW L4.out hb B1.out)
  clear hl4
  have HBT := Lib.hid (bitW_any q w4)
  have hq : (if q = true then (1 : Int) else 0) = 0 ∨ (if q = true then (1 : Int) else 0) = 1 := by cases q <;> simp
  generalize (if q = true then (1 : Int) else 0) = y at HBT hq
  have e2 : IntKind.i64.wrap ((r : Int) - y) = (r : Int) - y := IntWalk.i64_in _ (by omega)
  go_wp2_with fail
  refine HBT.out.mono ?_
  rintro e w' ⟨rfl, rfl⟩
  go_wp2
  exact bodyPost_ret (v := .tuple #[.int .i64 m, .slice (some ⟨g, 0, none⟩) zs.length c, .int .i64 ((r : Int) - y)]) (by simp [results, Tryd.results9, go_sem]) rfl ⟨⟨m, zs, g, c, _, rfl, h2, h7, h3, h15, by omega, by omega, HC4.out⟩, HF.out⟩
end Go.Proofs.YtfpbehnpaedpmaaDoor.Cur
