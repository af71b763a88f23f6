/- The cursor of the draws: whatever the code, a draw ends and answers within its bounds. -/
import Derived.Test.YtfpbehnpaedpmaaDoorProg
import Derived.Test.YtfpbehnpaedpmaaDoorKit
import Derived.WalkKit
import Derived.Below
import Derived.Lib.Hide
import Derived.Handy
import Derived.Deep.OwnRows
import Derived.Deep.QuietTactic
import Derived.BigQuiet
import Derived.RegionTactic
import Derived.ChangeAlike
import Derived.Outline
namespace Go.Proofs.YtfpbehnpaedpmaaDoor.Cur
open Go.RowKit

/-- The bytes of a code, whatever they are. -/
def Bytes (w : World) (v : Value) (n B : Nat) : Prop := ∃ (a : Option Addr) (c : Nat), v = .slice a n c ∧ n ≤ 9223372036854775807 ∧
  (n = 0 ∨ ∃ b o, a = some ⟨b, o, none⟩ ∧ b < B ∧ ∀ j, j < n → ∃ x : Nat, x ≤ 255 ∧ w.cell? ⟨b, o + j, none⟩ = some (.int .u8 x))
theorem open_bytes {H : Type} {enc : TypeId × Value → H} {P : Program} {w : World} {base : Nat} {sp : Nat → Bool} {held : Bool} {r : Reach} {b0 : Nat} {t e : TypeId} {v : Value} {d : DataW H} {ps : List MemPlace} (ht : P.underlying t = some (.slice e)) (he : P.underlying e = some (.int .u8)) (hc : P.cellsOf e = 1)
    (hval : Value.okWide P w r b0 t v) (h : DataW.Trod enc P w base sp held t v d ps) : ∃ n, Bytes w v n w.heap.size := by
  obtain ⟨a0, len0, cap0, rfl⟩ := WideShapes.okWide_slice ht hval
  obtain ⟨fuel, hf⟩ := h
  have hM : (maxLen : Nat) = 9223372036854775807 := by decide
  rcases Go.ChangeShapes.open_ints ht he hc hf with ⟨hcs, _⟩ | ⟨a, len, cap, zs, hcs, _, hlc, hcm, hss, _, hcell, hwf⟩
  · simp [Value.cells] at hcs
    obtain ⟨rfl, rfl, rfl⟩ := hcs
    exact ⟨0, none, 0, rfl, by simp, Or.inl rfl⟩
  · simp [Value.cells] at hcs
    obtain ⟨rfl, rfl, rfl⟩ := hcs
    have hlen : len0 ≤ zs.length := by rw [hss]; split <;> omega
    refine ⟨len0, some a, cap0, rfl, by omega, ?_⟩
    by_cases h0 : len0 = 0
    · exact Or.inl h0
    · right
      have hc0 := hcell 0 (by omega)
      obtain ⟨b, off, spot⟩ := a
      have hspot : spot = none := by simpa [Addr.add] using World.cell?_spot hc0
      subst hspot
      refine ⟨b, off, rfl, by simpa [Addr.add] using Kit.cell_lt hc0, fun j hj => ?_⟩
      have hcj := hcell j (by omega)
      rw [WideShapes.add_plain] at hcj
      have hm : zs.getD j 0 ∈ zs := by rw [List.getD_eq_getElem?_getD, List.getElem?_eq_getElem (by omega)]; exact List.getElem_mem _
      have hb := bounds_u8 (hwf _ hm)
      exact ⟨(zs.getD j 0).toNat, by omega, by rw [hcj]; congr 2; omega⟩

/-- A cursor over them, at block b. -/
def At (w : World) (b : Nat) (v : Value) (n : Nat) : Prop := ∃ (i : Nat) (h : Int), i ≤ n ∧ (-9223372036854775808 ≤ h ∧ h ≤ 9223372036854775807) ∧
  w.heap[b]? = some (.cells #[v, .int .i64 i, .int .i64 h] 69 (0, 0))

theorem and255 (E : Int) : ∃ x : Nat, x ≤ 255 ∧ bits BinOp.and IntKind.i64 E 255 = (x : Int) := by
  have hle : (BitVec.ofInt 64 E).toNat &&& 255 ≤ 255 := Nat.and_le_right
  refine ⟨(BitVec.ofInt 64 E).toNat &&& 255, hle, ?_⟩
  have h255 : (BitVec.ofInt 64 255).toNat = 255 := by decide
  have e : bits BinOp.and IntKind.i64 E 255 = IntKind.i64.wrap (((BitVec.ofInt 64 E).toNat &&& 255 : Nat) : Int) := by
    show IntKind.i64.wrap ((BitVec.ofInt 64 E &&& BitVec.ofInt 64 255).toNat : Int) = _
    rw [BitVec.toNat_and, h255]
  rw [e, IntKind.wrap_i64]
  omega
theorem at_set2 {w : World} {b : Nat} {v : Value} {i : Nat} {h : Int} (hb : w.heap[b]? = some (.cells #[v, .int .i64 i, .int .i64 h] 69 (0, 0))) (h2 : Int) :
    (w.setCell ⟨b, 2, none⟩ (.int .i64 h2)).heap[b]? = some (.cells #[v, .int .i64 i, .int .i64 h2] 69 (0, 0)) := by
  simp [World.setCell, Array.getElem?_modify, hb]
theorem at_set1 {w : World} {b : Nat} {v : Value} {i : Int} {h : Int} (hb : w.heap[b]? = some (.cells #[v, .int .i64 i, .int .i64 h] 69 (0, 0))) (j : Int) :
    (w.setCell ⟨b, 1, none⟩ (.int .i64 j)).heap[b]? = some (.cells #[v, .int .i64 j, .int .i64 h] 69 (0, 0)) := by
  simp [World.setCell, Array.getElem?_modify, hb]
theorem grown_set {w w' : World} {b : Nat} (h : w.grownBy w' (some b)) (j : Nat) (v : Value) : w.grownBy (w'.setCell ⟨b, j, none⟩ v) (some b) :=
  ⟨h.os, h.tape, h.output, by simpa [World.setCell] using h.size, fun i hi hn => (Below.heap_setCell w' ⟨b, j, none⟩ v i (fun e => hn (by rw [e]))).trans (h.block i hi hn)⟩
theorem grown_refl (w : World) (r : Option Nat) : w.grownBy w r := ⟨rfl, rfl, rfl, Nat.le_refl _, fun _ _ _ => rfl⟩
theorem grown_drewN {w w' : World} {r : Option Nat} (h : w.grownBy w' r) (n : Nat) : w.grownBy (w'.drewN n) r := ⟨h.os, h.tape, h.output, h.size, h.block⟩
theorem wrap64_bd (E : Int) : -9223372036854775808 ≤ wrap64 E ∧ wrap64 E ≤ 9223372036854775807 := by unfold wrap64; omega

set_option maxHeartbeats 400000 in
set_option maxRecDepth 100000 in
theorem byte_any (b : Nat) (v : Value) (n : Nat) (w : World) (hv : Bytes w v n b) (hc : At w b v n) :
    Calls Tryd.prog 57 #[.pointer (some ⟨b, 0, none⟩)] w fun e w' => ∃ x : Nat, x ≤ 255 ∧ e = .returned (.int .i64 x) ∧ At w' b v n ∧ w.grownBy w' (some b) := by
  obtain ⟨i, h, hi, hh, hb⟩ := hc
  obtain ⟨a, c, rfl, hn, hbs⟩ := hv
  have c0 : w.cell? ⟨b, 0, none⟩ = some (.slice a n c) := by simp [World.cell?, hb]
  have c1 : w.cell? ⟨b, 1, none⟩ = some (.int .i64 i) := by simp [World.cell?, hb]
  have c2 : w.cell? ⟨b, 2, none⟩ = some (.int .i64 h) := by simp [World.cell?, hb]
  have f0 : w.frozen? ⟨b, 1, none⟩ = false := by simp [World.frozen?, hb]
  have f2 : w.frozen? ⟨b, 2, none⟩ = false := by simp [World.frozen?, hb]
  have HB := Lib.hid hb
  clear hb
  by_cases hlt : i < n
  · obtain ⟨cb, co, rfl, hcb, hbytes⟩ : ∃ cb co, a = some ⟨cb, co, none⟩ ∧ cb < b ∧ ∀ j, j < n → ∃ x : Nat, x ≤ 255 ∧ w.cell? ⟨cb, co + j, none⟩ = some (.int .u8 x) := by
      rcases hbs with h0 | h0
      · omega
      · exact h0
    obtain ⟨y, hy, hcy⟩ := hbytes i hlt
    have hcbn : b ≠ cb := by omega
    clear hbytes hbs
    go_enter Tryd.func57, Tryd.ntmps57
    go_wp2
    generalize hh2 : wrap64 (wrap64 (h * 6364136223846793005) + 1442695040888963407) = h2
    have hbd : -9223372036854775808 ≤ h2 ∧ h2 ≤ 9223372036854775807 := by rw [← hh2]; exact wrap64_bd _
    clear hh2
    have hb2 := at_set2 HB.out h2
    have hg2 := grown_set (grown_refl w (some b)) 2 (.int .i64 h2)
    generalize hw1 : w.setCell ⟨b, 2, none⟩ (.int .i64 h2) = w1 at *
    have hcy' : w1.cell? ⟨cb, co + i, none⟩ = some (.int .u8 y) := by rw [← hw1, World.cell?_setCell_other _ _ _ _ (fun e => hcbn (congrArg Addr.block e))]; exact hcy
    have c2' : w1.cell? ⟨b, 2, none⟩ = some (.int .i64 h2) := by simp [World.cell?, hb2]
    have c1' : w1.cell? ⟨b, 1, none⟩ = some (.int .i64 i) := by simp [World.cell?, hb2]
    have c0' : w1.cell? ⟨b, 0, none⟩ = some (.slice (some ⟨cb, co, none⟩) n c) := by simp [World.cell?, hb2]
    have HG2 := Lib.hid hg2
    have HB2 := Lib.hid hb2
    have HW := Lib.hid hw1
    have F1 : w1.frozen? ⟨b, 1, none⟩ = false := by simp [World.frozen?, hb2]
    clear hw1 hb2 hg2
    go_quiet (fail)
    go_wp2
    generalize hE : bits BinOp.xor IntKind.i64 (h2 / 8589934592) (h2 / 35184372088832) = E
    obtain ⟨x, hx, hxe⟩ := and255 E
    rw [hxe]
    clear hE hxe
    go_quiet (fail)
    go_wp2
    go_quiet (fail)
    go_wp2
    obtain ⟨z, hz, hze⟩ := and255 ((x : Int) + (y : Int))
    rw [hze]
    clear hze
    go_wp2
    go_ret
    refine ⟨z, hz, rfl, ⟨i + 1, h2, by omega, hbd, ?_⟩, grown_set (grown_drewN HG2.out _) 1 _⟩
    rw [show ((i + 1 : Nat) : Int) = (i : Int) + 1 by omega]
    exact at_set1 (w := w1.drewN _) HB2.out ((i : Int) + 1)
  · go_enter Tryd.func57, Tryd.ntmps57
    go_wp2
    generalize hh2 : wrap64 (wrap64 (h * 6364136223846793005) + 1442695040888963407) = h2
    have hbd : -9223372036854775808 ≤ h2 ∧ h2 ≤ 9223372036854775807 := by rw [← hh2]; exact wrap64_bd _
    clear hh2
    have hb2 := at_set2 HB.out h2
    have hg2 := grown_set (grown_refl w (some b)) 2 (.int .i64 h2)
    generalize hw1 : w.setCell ⟨b, 2, none⟩ (.int .i64 h2) = w1 at *
    have c2' : w1.cell? ⟨b, 2, none⟩ = some (.int .i64 h2) := by simp [World.cell?, hb2]
    have c1' : w1.cell? ⟨b, 1, none⟩ = some (.int .i64 i) := by simp [World.cell?, hb2]
    have c0' : w1.cell? ⟨b, 0, none⟩ = some (.slice a n c) := by simp [World.cell?, hb2]
    have HG2 := Lib.hid hg2
    have HB2 := Lib.hid hb2
    have HW := Lib.hid hw1
    clear hw1 hb2 hg2
    go_quiet (fail)
    go_wp2
    generalize hE : bits BinOp.xor IntKind.i64 (h2 / 8589934592) (h2 / 35184372088832) = E
    obtain ⟨x, hx, hxe⟩ := and255 E
    rw [hxe]
    clear hE hxe
    go_quiet (fail)
    go_wp2
    go_ret
    exact ⟨x, hx, rfl, ⟨i, h2, hi, hbd, HB2.out⟩, grown_drewN (grown_drewN HG2.out _) _⟩
theorem Bytes.on {w w' : World} {v : Value} {n b : Nat} (h : Bytes w v n b) (hg : w.grownBy w' (some b)) : Bytes w' v n b := by
  obtain ⟨a, c, rfl, hn, h0 | ⟨cb, co, rfl, hcb, hby⟩⟩ := h
  · exact ⟨a, c, rfl, hn, Or.inl h0⟩
  · refine ⟨_, c, rfl, hn, Or.inr ⟨cb, co, rfl, hcb, fun j hj => ?_⟩⟩
    obtain ⟨x, hx, hc⟩ := hby j hj
    exact ⟨x, hx, hg.cell hc (fun e => by have := Option.some.inj e; simp at this; omega)⟩
theorem grown_trans {w w' w'' : World} {b : Nat} (h : w.grownBy w' (some b)) (k : w'.grownBy w'' (some b)) : w.grownBy w'' (some b) :=
  ⟨k.os.trans h.os, k.tape.trans h.tape, k.output.trans h.output, Nat.le_trans h.size k.size, fun i hi hn => (k.block i (Nat.lt_of_lt_of_le hi h.size) hn).trans (h.block i hi hn)⟩

/-- What a draw leaves: the cursor goes on, all else stands. -/
def Leaves (b : Nat) (v : Value) (n : Nat) (w w' : World) : Prop := Bytes w' v n b ∧ At w' b v n ∧ w.grownBy w' (some b)
theorem Leaves.trans {b n : Nat} {v : Value} {w w' w'' : World} (h : Leaves b v n w w') (k : Leaves b v n w' w'') : Leaves b v n w w'' := ⟨k.1, k.2.1, grown_trans h.2.2 k.2.2⟩
theorem byte_leaves (b : Nat) (v : Value) (n : Nat) (w : World) (hv : Bytes w v n b) (hc : At w b v n) :
    Calls Tryd.prog 57 #[.pointer (some ⟨b, 0, none⟩)] w fun e w' => ∃ x : Nat, x ≤ 255 ∧ e = .returned (.int .i64 x) ∧ Leaves b v n w w' :=
  (byte_any b v n w hv hc).mono fun _ _ ⟨x, hx, he, ha, hg⟩ => ⟨x, hx, he, hv.on hg, ha, hg⟩

set_option maxHeartbeats 400000 in
set_option maxRecDepth 100000 in
/-- l1Below: within the bound; 0 where there is none. -/
theorem below_any (b : Nat) (v : Value) (n m : Nat) (hm : m ≤ 2147483648) (w : World) (hv : Bytes w v n b) (hc : At w b v n) :
    Calls Tryd.prog 36 #[.pointer (some ⟨b, 0, none⟩), .int .i64 m] w fun e w' => ∃ r : Nat, (r < m ∨ r = 0) ∧ e = .returned (.int .i64 r) ∧ Leaves b v n w w' := by
  by_cases h0 : m = 0
  · subst h0
    go_enter Tryd.func36, Tryd.ntmps36
    go_wp2
    go_ret
    exact ⟨0, Or.inr rfl, rfl, hv, hc, grown_refl _ _⟩
  · have hm1 : 1 ≤ m := by omega
    clear h0
    by_cases h256 : m ≤ 256
    · go_enter Tryd.func36, Tryd.ntmps36
      go_wp2_with fail
      refine (byte_leaves b v n _ hv hc).mono ?_
      rintro e w1 ⟨x, hx, rfl, hl⟩
      go_wp2
      go_ret
      exact ⟨x % m, Or.inl (Nat.mod_lt _ hm1), by simp, hl⟩
    · have h256' : 256 < m := by omega
      go_enter Tryd.func36, Tryd.ntmps36
      go_wp2_with fail
      refine (byte_leaves b v n _ hv hc).mono ?_
      rintro e w1 ⟨x1, hx1, rfl, hl1⟩
      go_wp2_with fail
      refine (byte_leaves b v n _ hl1.1 hl1.2.1).mono ?_
      rintro e w2 ⟨x2, hx2, rfl, hl2⟩
      go_wp2_with fail
      refine (byte_leaves b v n _ hl2.1 hl2.2.1).mono ?_
      rintro e w3 ⟨x3, hx3, rfl, hl3⟩
      go_wp2_with fail
      refine (byte_leaves b v n _ hl3.1 hl3.2.1).mono ?_
      rintro e w4 ⟨x4, hx4, rfl, hl4⟩
      go_wp2
      go_ret
      exact ⟨(x1 * 16777216 + x2 * 65536 + x3 * 256 + x4) % m, Or.inl (Nat.mod_lt _ hm1), by simp, hl1.trans (hl2.trans (hl3.trans hl4))⟩
end Go.Proofs.YtfpbehnpaedpmaaDoor.Cur
