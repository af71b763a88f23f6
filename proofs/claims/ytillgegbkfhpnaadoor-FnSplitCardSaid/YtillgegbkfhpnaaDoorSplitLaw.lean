/- FnExactSplitByte: for every text and byte, impl.SplitByte and spec.SplitByte answer alike, in memory of their own. -/
import Derived.Test.YtillgegbkfhpnaaDoorSplitWalk
import Derived.Test.YtillgegbkfhpnaaDoorStrsEq
import Derived.Test.YtillgegbkfhpnaaDoorKit
import Derived.Test.YtillgegbkfhpnaaDoorMark
namespace Go.Proofs.YtillgegbkfhpnaaDoor.Split
open Go.RowKit Strs

theorem strAt_str (xs : List ByteArray) (j : Nat) : ∃ s, strAt xs j = .string s := ⟨_, rfl⟩
theorem grown_cell {w w' : World} {b : Nat} (h : w.grownBy w' (some b)) {a : Addr} (hlt : a.block < w.heap.size) (hne : a.block ≠ b) : w'.cell? a = w.cell? a :=
  World.cell?_of_block (h.block a.block hlt (fun e => hne (Option.some.inj e)))
theorem below_of_grown {B : Nat} {w w' : World} {b : Nat} (h : w.grownBy w' (some b)) (hB : B ≤ b) (hBw : B ≤ w.heap.size) : Below B w w' :=
  ⟨h.os, h.tape, h.output, h.size, fun i hi => h.block i (by omega) (fun e => by have := Option.some.inj e; omega)⟩

set_option maxRecDepth 100000 in
set_option maxHeartbeats 800000 in
theorem walk (s : ByteArray) (hs0 : s.size ≤ maxLen) (x : Int) (hx : (Lit.int .u8 x).wf = true) (w : World) (m : Int) (hm : w.cell? ⟨4, 0, none⟩ = some (.int .i64 m)) :
    Calls Tryd.prog 8 #[.string s, .int .u8 x] w fun e w' => e = .returned (.bool true) ∧ Below w.heap.size w w' := by
  have hbx := bounds_u8 hx
  obtain ⟨c, rfl⟩ : ∃ c : UInt8, x = (c.toNat : Int) := ⟨UInt8.ofNat x.toNat, by simp; omega⟩
  have hG : 4 < w.heap.size := Kit.cell_lt hm
  by_cases hs : s.size ≤ 1048576
  · obtain ⟨xs, hxs⟩ : ∃ xs, xs = pieces c s.data.toList := ⟨_, rfl⟩
    have hpos : 0 < xs.length := by rw [hxs]; exact pieces_pos _ _
    have hle : xs.length ≤ 1048577 := by
      rw [hxs]
      have h1 := pieces_le c s.data.toList
      have h2 : s.data.toList.length = s.size := by simp
      omega
    have HS := Lib.hid (spec_any s c hs w)
    have HI := Lib.hid (fun W m h1 h2 => impl_any s c hs W m h1 h2)
    rw [← hxs] at HS HI
    clear hxs hx hbx
    go_enter Tryd.func8, Tryd.ntmps8
    go_wp2_with fail
    refine HS.out.mono ?_
    rintro e w1 ⟨v, rfl, hown, hb1⟩
    obtain ⟨b0, c0, rfl, hb0, hl0, hA0⟩ := owns_row hown hpos
    have hm1 : w1.cell? ⟨4, 0, none⟩ = some (.int .i64 m) := by rw [hb1.cell hG]; exact hm
    have HA0 := Lib.hid hA0
    clear hown hA0
    go_wp2_with fail
    refine (HI.out w1 m hm1 (Nat.lt_of_lt_of_le hG hb1.size)).mono ?_
    rintro e w2 ⟨b1, rfl, hbb1, hrow1, hb2⟩
    have B2 := hb1.trans (hb2.mono hb1.size)
    have HA2 := Lib.hid (HA0.out.on hb2 hl0)
    have hl1 := hrow1.lt
    have HR1 := Lib.hid hrow1
    clear hrow1
    go_wp2_with fail
    refine (eq_same b1 0 _ b0 0 _ xs (by omega) _ (At.of_row HR1.out) HA2.out).mono ?_
    rintro e w3 ⟨rfl, n, rfl⟩
    have HR3 : Hid ((w2.drewN n).rowIs b1 9 xs.length (strAt xs)) := Lib.hid (HR1.out.of_block rfl)
    have HA3 : Hid (At (w2.drewN n) b0 0 xs) := Lib.hid (fun j y hy => HA2.out j y hy)
    have hB3 : Below w.heap.size w (w2.drewN n) := ⟨B2.os, B2.tape, B2.output, B2.size, B2.block⟩
    have hsz3 : (w2.drewN n).heap.size = w2.heap.size := rfl
    go_wp2_with fail
    refine (mark_any b1 xs.length xs.length 1 9 (strAt xs) (strAt_str xs) (by omega) (by omega) (by omega) _ HR3.out).mono ?_
    rintro e w4 ⟨rfl, hrow4, hg4⟩
    have hne : b0 ≠ b1 := by omega
    have hl03 : b0 < (w2.drewN n).heap.size := by show b0 < w2.heap.size; have := hb2.size; omega
    have HA4 : Hid (At w4 b0 0 xs) := Lib.hid (fun j y hy => by rw [grown_cell hg4 hl03 hne]; exact HA3.out j y hy)
    have B4 : Below w.heap.size w w4 := hB3.trans (below_of_grown hg4 (by have := hb1.size; omega) hB3.size)
    have HR4 := Lib.hid hrow4
    clear hrow4
    go_wp2_with fail
    refine (held_any b1 xs.length xs.length 1 9 (strAt xs) (by omega) (by omega) (by omega) _ HR4.out).mono ?_
    rintro e w5 ⟨rfl, hb5⟩
    have B5 := B4.trans (hb5.mono B4.size)
    have hl04 : b0 < w4.heap.size := Nat.lt_of_lt_of_le hl03 hg4.size
    have HA5 := Lib.hid (HA4.out.on hb5 hl04)
    have hl15 := HR4.out.lt
    have HR5 := Lib.hid (HR4.out.of_block (hb5.block b1 hl15))
    have hm5 : w5.cell? ⟨4, 0, none⟩ = some (.int .i64 m) := by rw [B5.cell hG]; exact hm
    have hl05 : b0 < w5.heap.size := Nat.lt_of_lt_of_le hl04 hb5.size
    have hG5 := Nat.lt_of_lt_of_le hG B5.size
    have hself : (((1 + xs.length : Nat) : Int) != ((1 + xs.length : Nat) : Int)) = false := by simp
    go_wp2_with fail
    refine (HI.out w5 m hm5 hG5).mono ?_
    rintro e w6 ⟨b6, rfl, hbb6, hrow6, hb6⟩
    have B6 := B5.trans (hb6.mono B5.size)
    have HA6 := Lib.hid (HA5.out.on hb6 hl05)
    have HR6 := Lib.hid (HR5.out.of_block (hb6.block b1 (Nat.lt_of_lt_of_le hl15 hb5.size)))
    have HN6 := Lib.hid hrow6
    clear hrow6
    go_wp2_with fail
    refine (eq_same b6 0 _ b0 0 _ xs (by omega) _ (At.of_row HN6.out) HA6.out).mono ?_
    rintro e w7 ⟨rfl, n7, rfl⟩
    have HR7 : Hid ((w6.drewN n7).rowIs b1 9 xs.length (marked 1 xs.length (strAt xs))) := Lib.hid (HR6.out.of_block rfl)
    have B7 : Below w.heap.size w (w6.drewN n7) := ⟨B6.os, B6.tape, B6.output, B6.size, B6.block⟩
    go_wp2_with fail
    refine (held_any b1 xs.length xs.length 1 9 (strAt xs) (by omega) (by omega) (by omega) _ HR7.out).mono ?_
    rintro e w8 ⟨rfl, hb8⟩
    have B8 := B7.trans (hb8.mono B7.size)
    go_wp2
    go_ret
    exact ⟨rfl, B8⟩
  · have hs' : 1048576 < s.size := by omega
    unfold maxLen at hs0
    go_enter Tryd.func8, Tryd.ntmps8
    go_wp2
    go_ret
    exact ⟨rfl, Below.refl _ _⟩
end Go.Proofs.YtillgegbkfhpnaaDoor.Split
