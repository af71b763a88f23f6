/- Several texts in one: Cur, Strs, Draw, DrPts, DrSigns. -/
import Derived.Test.YtinlnafkmoabbaaGreatDoorProg
import Derived.Test.YtinlnafkmoabbaaGreatDoorKit
import Derived.WalkKit
import Derived.Below
import Derived.Lib.Hide
import Derived.Handy
import Derived.Deep.OwnRows
import Derived.Deep.QuietTactic
import Derived.BigQuiet
import Derived.RegionTactic
import Derived.ChangeAlike
import Derived.Outline
import Derived.OwnWalk
import Derived.Test.YtinlnafkmoabbaaGreatDoorMgT
import Derived.Test.YtinlnafkmoabbaaGreatDoorMgR
import Derived.Test.YtinlnafkmoabbaaGreatDoorRuCount
/- The cursor of the draws: whatever the code, a draw ends and answers within its bounds. -/
namespace Go.Proofs.YtinlnafkmoabbaaGreatDoor.Cur
open Go.RowKit

/-- The bytes of a code, whatever they are. -/
def Bytes (w : World) (v : Value) (n B : Nat) : Prop := ∃ (a : Option Addr) (c : Nat), v = .slice a n c ∧ n ≤ 9223372036854775807 ∧
  (n = 0 ∨ ∃ b o, a = some ⟨b, o, none⟩ ∧ b < B ∧ ∀ j, j < n → ∃ x : Nat, x ≤ 255 ∧ w.cell? ⟨b, o + j, none⟩ = some (.int .u8 x))
theorem open_bytes {H : Type} {enc : TypeId × Value → H} {P : Program} {w : World} {base : Nat} {sp : Nat → Bool} {held : Bool} {r : Reach} {b0 : Nat} {t e : TypeId} {v : Value} {d : DataW H} {ps : List MemPlace} (ht : P.underlying t = some (.slice e)) (he : P.underlying e = some (.int .u8)) (hc : P.cellsOf e = 1)
    (hval : Value.okWide P w r b0 t v) (h : DataW.Trod enc P w base sp held t v d ps) : ∃ n, Bytes w v n w.heap.size := by
  obtain ⟨a0, len0, cap0, rfl⟩ := WideShapes.okWide_slice ht hval
  obtain ⟨fuel, hf⟩ := h
  have hM : (maxLen : Nat) = 9223372036854775807 := by decide
  rcases Go.ChangeShapes.open_ints ht he hc hf with ⟨hcs, _⟩ | ⟨a, len, cap, zs, hcs, _, hlc, hcm, hss, _, hcell, hwf⟩
  · simp [Value.cells] at hcs
    obtain ⟨rfl, rfl, rfl⟩ := hcs
    exact ⟨0, none, 0, rfl, by simp, Or.inl rfl⟩
  · simp [Value.cells] at hcs
    obtain ⟨rfl, rfl, rfl⟩ := hcs
    have hlen : len0 ≤ zs.length := by rw [hss]; split <;> omega
    refine ⟨len0, some a, cap0, rfl, by omega, ?_⟩
    by_cases h0 : len0 = 0
    · exact Or.inl h0
    · right
      have hc0 := hcell 0 (by omega)
      obtain ⟨b, off, spot⟩ := a
      have hspot : spot = none := by simpa [Addr.add] using World.cell?_spot hc0
      subst hspot
      refine ⟨b, off, rfl, by simpa [Addr.add] using Kit.cell_lt hc0, fun j hj => ?_⟩
      have hcj := hcell j (by omega)
      rw [WideShapes.add_plain] at hcj
      have hm : zs.getD j 0 ∈ zs := by rw [List.getD_eq_getElem?_getD, List.getElem?_eq_getElem (by omega)]; exact List.getElem_mem _
      have hb := bounds_u8 (hwf _ hm)
      exact ⟨(zs.getD j 0).toNat, by omega, by rw [hcj]; congr 2; omega⟩

/-- A cursor over them, at block b. -/
def At (w : World) (b : Nat) (v : Value) (n : Nat) : Prop := ∃ (i : Nat) (h : Int), i ≤ n ∧ (-9223372036854775808 ≤ h ∧ h ≤ 9223372036854775807) ∧
  w.heap[b]? = some (.cells #[v, .int .i64 i, .int .i64 h] 107 (0, 0))

theorem and255 (E : Int) : ∃ x : Nat, x ≤ 255 ∧ bits BinOp.and IntKind.i64 E 255 = (x : Int) := by
  have hle : (BitVec.ofInt 64 E).toNat &&& 255 ≤ 255 := Nat.and_le_right
  refine ⟨(BitVec.ofInt 64 E).toNat &&& 255, hle, ?_⟩
  have h255 : (BitVec.ofInt 64 255).toNat = 255 := by decide
  have e : bits BinOp.and IntKind.i64 E 255 = IntKind.i64.wrap (((BitVec.ofInt 64 E).toNat &&& 255 : Nat) : Int) := by
    show IntKind.i64.wrap ((BitVec.ofInt 64 E &&& BitVec.ofInt 64 255).toNat : Int) = _
    rw [BitVec.toNat_and, h255]
  rw [e, IntKind.wrap_i64]
  omega
theorem at_set2 {w : World} {b : Nat} {v : Value} {i : Nat} {h : Int} (hb : w.heap[b]? = some (.cells #[v, .int .i64 i, .int .i64 h] 107 (0, 0))) (h2 : Int) :
    (w.setCell ⟨b, 2, none⟩ (.int .i64 h2)).heap[b]? = some (.cells #[v, .int .i64 i, .int .i64 h2] 107 (0, 0)) := by
  simp [World.setCell, Array.getElem?_modify, hb]
theorem at_set1 {w : World} {b : Nat} {v : Value} {i : Int} {h : Int} (hb : w.heap[b]? = some (.cells #[v, .int .i64 i, .int .i64 h] 107 (0, 0))) (j : Int) :
    (w.setCell ⟨b, 1, none⟩ (.int .i64 j)).heap[b]? = some (.cells #[v, .int .i64 j, .int .i64 h] 107 (0, 0)) := by
  simp [World.setCell, Array.getElem?_modify, hb]
theorem grown_set {w w' : World} {b : Nat} (h : w.grownBy w' (some b)) (j : Nat) (v : Value) : w.grownBy (w'.setCell ⟨b, j, none⟩ v) (some b) :=
  ⟨h.os, h.tape, h.output, by simpa [World.setCell] using h.size, fun i hi hn => (Below.heap_setCell w' ⟨b, j, none⟩ v i (fun e => hn (by rw [e]))).trans (h.block i hi hn)⟩
theorem grown_refl (w : World) (r : Option Nat) : w.grownBy w r := ⟨rfl, rfl, rfl, Nat.le_refl _, fun _ _ _ => rfl⟩
theorem grown_drewN {w w' : World} {r : Option Nat} (h : w.grownBy w' r) (n : Nat) : w.grownBy (w'.drewN n) r := ⟨h.os, h.tape, h.output, h.size, h.block⟩
theorem wrap64_bd (E : Int) : -9223372036854775808 ≤ wrap64 E ∧ wrap64 E ≤ 9223372036854775807 := by unfold wrap64; omega

set_option maxHeartbeats 400000 in
set_option maxRecDepth 100000 in
theorem byte_any (b : Nat) (v : Value) (n : Nat) (w : World) (hv : Bytes w v n b) (hc : At w b v n) :
    Calls Tryz.prog 133 #[.pointer (some ⟨b, 0, none⟩)] w fun e w' => ∃ x : Nat, x ≤ 255 ∧ e = .returned (.int .i64 x) ∧ At w' b v n ∧ w.grownBy w' (some b) := by
  obtain ⟨i, h, hi, hh, hb⟩ := hc
  obtain ⟨a, c, rfl, hn, hbs⟩ := hv
  have c0 : w.cell? ⟨b, 0, none⟩ = some (.slice a n c) := by simp [World.cell?, hb]
  have c1 : w.cell? ⟨b, 1, none⟩ = some (.int .i64 i) := by simp [World.cell?, hb]
  have c2 : w.cell? ⟨b, 2, none⟩ = some (.int .i64 h) := by simp [World.cell?, hb]
  have f0 : w.frozen? ⟨b, 1, none⟩ = false := by simp [World.frozen?, hb]
  have f2 : w.frozen? ⟨b, 2, none⟩ = false := by simp [World.frozen?, hb]
  have HB := Lib.hid hb
  clear hb
  by_cases hlt : i < n
  · obtain ⟨cb, co, rfl, hcb, hbytes⟩ : ∃ cb co, a = some ⟨cb, co, none⟩ ∧ cb < b ∧ ∀ j, j < n → ∃ x : Nat, x ≤ 255 ∧ w.cell? ⟨cb, co + j, none⟩ = some (.int .u8 x) := by
      rcases hbs with h0 | h0
      · omega
      · exact h0
    obtain ⟨y, hy, hcy⟩ := hbytes i hlt
    have hcbn : b ≠ cb := by omega
    clear hbytes hbs
    go_enter Tryz.func133, Tryz.ntmps133
    go_wp2
    generalize hh2 : wrap64 (wrap64 (h * 6364136223846793005) + 1442695040888963407) = h2
    have hbd : -9223372036854775808 ≤ h2 ∧ h2 ≤ 9223372036854775807 := by rw [← hh2]; exact wrap64_bd _
    clear hh2
    have hb2 := at_set2 HB.out h2
    have hg2 := grown_set (grown_refl w (some b)) 2 (.int .i64 h2)
    generalize hw1 : w.setCell ⟨b, 2, none⟩ (.int .i64 h2) = w1 at *
    have hcy' : w1.cell? ⟨cb, co + i, none⟩ = some (.int .u8 y) := by rw [← hw1, World.cell?_setCell_other _ _ _ _ (fun e => hcbn (congrArg Addr.block e))]; exact hcy
    have c2' : w1.cell? ⟨b, 2, none⟩ = some (.int .i64 h2) := by simp [World.cell?, hb2]
    have c1' : w1.cell? ⟨b, 1, none⟩ = some (.int .i64 i) := by simp [World.cell?, hb2]
    have c0' : w1.cell? ⟨b, 0, none⟩ = some (.slice (some ⟨cb, co, none⟩) n c) := by simp [World.cell?, hb2]
    have HG2 := Lib.hid hg2
    have HB2 := Lib.hid hb2
    have HW := Lib.hid hw1
    have F1 : w1.frozen? ⟨b, 1, none⟩ = false := by simp [World.frozen?, hb2]
    clear hw1 hb2 hg2
    go_quiet (fail)
    go_wp2
    generalize hE : bits BinOp.xor IntKind.i64 (h2 / 8589934592) (h2 / 35184372088832) = E
    obtain ⟨x, hx, hxe⟩ := and255 E
    rw [hxe]
    clear hE hxe
    go_quiet (fail)
    go_wp2
    go_quiet (fail)
    go_wp2
    obtain ⟨z, hz, hze⟩ := and255 ((x : Int) + (y : Int))
    rw [hze]
    clear hze
    go_wp2
    go_ret
    refine ⟨z, hz, rfl, ⟨i + 1, h2, by omega, hbd, ?_⟩, grown_set (grown_drewN HG2.out _) 1 _⟩
    rw [show ((i + 1 : Nat) : Int) = (i : Int) + 1 by omega]
    exact at_set1 (w := w1.drewN _) HB2.out ((i : Int) + 1)
  · go_enter Tryz.func133, Tryz.ntmps133
    go_wp2
    generalize hh2 : wrap64 (wrap64 (h * 6364136223846793005) + 1442695040888963407) = h2
    have hbd : -9223372036854775808 ≤ h2 ∧ h2 ≤ 9223372036854775807 := by rw [← hh2]; exact wrap64_bd _
    clear hh2
    have hb2 := at_set2 HB.out h2
    have hg2 := grown_set (grown_refl w (some b)) 2 (.int .i64 h2)
    generalize hw1 : w.setCell ⟨b, 2, none⟩ (.int .i64 h2) = w1 at *
    have c2' : w1.cell? ⟨b, 2, none⟩ = some (.int .i64 h2) := by simp [World.cell?, hb2]
    have c1' : w1.cell? ⟨b, 1, none⟩ = some (.int .i64 i) := by simp [World.cell?, hb2]
    have c0' : w1.cell? ⟨b, 0, none⟩ = some (.slice a n c) := by simp [World.cell?, hb2]
    have HG2 := Lib.hid hg2
    have HB2 := Lib.hid hb2
    have HW := Lib.hid hw1
    clear hw1 hb2 hg2
    go_quiet (fail)
    go_wp2
    generalize hE : bits BinOp.xor IntKind.i64 (h2 / 8589934592) (h2 / 35184372088832) = E
    obtain ⟨x, hx, hxe⟩ := and255 E
    rw [hxe]
    clear hE hxe
    go_quiet (fail)
    go_wp2
    go_ret
    exact ⟨x, hx, rfl, ⟨i, h2, hi, hbd, HB2.out⟩, grown_drewN (grown_drewN HG2.out _) _⟩
theorem Bytes.on {w w' : World} {v : Value} {n b : Nat} (h : Bytes w v n b) (hg : w.grownBy w' (some b)) : Bytes w' v n b := by
  obtain ⟨a, c, rfl, hn, h0 | ⟨cb, co, rfl, hcb, hby⟩⟩ := h
  · exact ⟨a, c, rfl, hn, Or.inl h0⟩
  · refine ⟨_, c, rfl, hn, Or.inr ⟨cb, co, rfl, hcb, fun j hj => ?_⟩⟩
    obtain ⟨x, hx, hc⟩ := hby j hj
    exact ⟨x, hx, hg.cell hc (fun e => by have := Option.some.inj e; simp at this; omega)⟩
theorem grown_trans {w w' w'' : World} {b : Nat} (h : w.grownBy w' (some b)) (k : w'.grownBy w'' (some b)) : w.grownBy w'' (some b) :=
  ⟨k.os.trans h.os, k.tape.trans h.tape, k.output.trans h.output, Nat.le_trans h.size k.size, fun i hi hn => (k.block i (Nat.lt_of_lt_of_le hi h.size) hn).trans (h.block i hi hn)⟩

/-- What a draw leaves: the cursor goes on, all else stands. -/
def Leaves (b : Nat) (v : Value) (n : Nat) (w w' : World) : Prop := Bytes w' v n b ∧ At w' b v n ∧ w.grownBy w' (some b)
theorem Leaves.trans {b n : Nat} {v : Value} {w w' w'' : World} (h : Leaves b v n w w') (k : Leaves b v n w' w'') : Leaves b v n w w'' := ⟨k.1, k.2.1, grown_trans h.2.2 k.2.2⟩
theorem byte_leaves (b : Nat) (v : Value) (n : Nat) (w : World) (hv : Bytes w v n b) (hc : At w b v n) :
    Calls Tryz.prog 133 #[.pointer (some ⟨b, 0, none⟩)] w fun e w' => ∃ x : Nat, x ≤ 255 ∧ e = .returned (.int .i64 x) ∧ Leaves b v n w w' :=
  (byte_any b v n w hv hc).mono fun _ _ ⟨x, hx, he, ha, hg⟩ => ⟨x, hx, he, hv.on hg, ha, hg⟩

set_option maxHeartbeats 400000 in
set_option maxRecDepth 100000 in
/-- l1Below: within the bound; 0 where there is none. -/
theorem below_any (b : Nat) (v : Value) (n m : Nat) (hm : m ≤ 2147483648) (w : World) (hv : Bytes w v n b) (hc : At w b v n) :
    Calls Tryz.prog 81 #[.pointer (some ⟨b, 0, none⟩), .int .i64 m] w fun e w' => ∃ r : Nat, (r < m ∨ r = 0) ∧ e = .returned (.int .i64 r) ∧ Leaves b v n w w' := by
  by_cases h0 : m = 0
  · subst h0
    go_enter Tryz.func81, Tryz.ntmps81
    go_wp2
    go_ret
    exact ⟨0, Or.inr rfl, rfl, hv, hc, grown_refl _ _⟩
  · have hm1 : 1 ≤ m := by omega
    clear h0
    by_cases h256 : m ≤ 256
    · go_enter Tryz.func81, Tryz.ntmps81
      go_wp2_with fail
      refine (byte_leaves b v n _ hv hc).mono ?_
      rintro e w1 ⟨x, hx, rfl, hl⟩
      go_wp2
      go_ret
      exact ⟨x % m, Or.inl (Nat.mod_lt _ hm1), by simp, hl⟩
    · have h256' : 256 < m := by omega
      go_enter Tryz.func81, Tryz.ntmps81
      go_wp2_with fail
      refine (byte_leaves b v n _ hv hc).mono ?_
      rintro e w1 ⟨x1, hx1, rfl, hl1⟩
      go_wp2_with fail
      refine (byte_leaves b v n _ hl1.1 hl1.2.1).mono ?_
      rintro e w2 ⟨x2, hx2, rfl, hl2⟩
      go_wp2_with fail
      refine (byte_leaves b v n _ hl2.1 hl2.2.1).mono ?_
      rintro e w3 ⟨x3, hx3, rfl, hl3⟩
      go_wp2_with fail
      refine (byte_leaves b v n _ hl3.1 hl3.2.1).mono ?_
      rintro e w4 ⟨x4, hx4, rfl, hl4⟩
      go_wp2
      go_ret
      exact ⟨(x1 * 16777216 + x2 * 65536 + x3 * 256 + x4) % m, Or.inl (Nat.mod_lt _ hm1), by simp, hl1.trans (hl2.trans (hl3.trans hl4))⟩
end Go.Proofs.YtinlnafkmoabbaaGreatDoor.Cur
/- Slices of strings: what the laws' helpers make of them. -/
namespace Go.Proofs.YtinlnafkmoabbaaGreatDoor.Strs
open Go.RowKit

theorem ret_int {k : IntKind} {a b : Int} (h : a = b) : Ending.returned (.int k a) = .returned (.int k b) := by rw [h]
theorem ret_bool {a b : Bool} (h : a = b) : Ending.returned (.bool a) = .returned (.bool b) := by rw [h]
/-- The cells from offset o of block b on hold the strings xs. -/
def At (w : World) (b o : Nat) (xs : List ByteArray) : Prop := ∀ (j : Nat) x, xs[j]? = some x → w.cell? ⟨b, o + j, none⟩ = some (.string x)
theorem At.get {w : World} {b o : Nat} {xs : List ByteArray} (h : At w b o xs) (k : Nat) (hk : k < xs.length) : w.cell? ⟨b, o + k, none⟩ = some (.string xs[k]) := h k _ (List.getElem?_eq_getElem hk)
theorem At.on {w w' : World} {B b o : Nat} {xs : List ByteArray} (h : At w b o xs) (hb : Below B w w') (hB : b < B) : At w' b o xs := fun j x hx => by rw [hb.cell hB]; exact h j x hx

def tot (xs : List ByteArray) : Nat := (xs.map (·.size)).sum
def strAt (xs : List ByteArray) (j : Nat) : Value := .string (xs.getD j ⟨#[]⟩)
theorem strAt_lt (xs : List ByteArray) (j : Nat) (h : j < xs.length) : strAt xs j = .string xs[j] := by unfold strAt; rw [List.getD_eq_getElem?_getD, List.getElem?_eq_getElem h]; rfl
theorem At.of_row {w : World} {b : Nat} {t : TypeId} {xs : List ByteArray} (h : w.rowIs b t xs.length (strAt xs)) : At w b 0 xs := fun j x hx => by
  obtain ⟨hj, rfl⟩ := List.getElem?_eq_some_iff.1 hx
  have := h.cell hj
  rw [strAt_lt xs j hj] at this
  simpa using this
theorem row_on {w w' : World} {B b : Nat} {t : TypeId} {n : Nat} {f : Nat → Value} (h : w.rowIs b t n f) (hb : Below B w w') (hB : b < B) : w'.rowIs b t n f := h.of_block (hb.block b hB)
end Go.Proofs.YtinlnafkmoabbaaGreatDoor.Strs
/- l1New, l1Pick, l1PickInt, l1Once: what the draws begin with and choose from. -/
namespace Go.Proofs.YtinlnafkmoabbaaGreatDoor.Cur
open Go.RowKit

theorem andMask (E : Int) (m : Nat) (hm : m < 9223372036854775808) : ∃ x : Nat, x ≤ m ∧ bits BinOp.and IntKind.i64 E (m : Int) = (x : Int) := by
  have hle : (BitVec.ofInt 64 E).toNat &&& m ≤ m := Nat.and_le_right
  refine ⟨(BitVec.ofInt 64 E).toNat &&& m, hle, ?_⟩
  have e : bits BinOp.and IntKind.i64 E (m : Int) = IntKind.i64.wrap (((BitVec.ofInt 64 E).toNat &&& m : Nat) : Int) := by
    show IntKind.i64.wrap ((BitVec.ofInt 64 E &&& BitVec.ofInt 64 (m : Int)).toNat : Int) = _
    rw [BitVec.toNat_and, BitVec.ofInt_natCast, BitVec.toNat_ofNat, Nat.mod_eq_of_lt (by omega)]
  rw [e, IntKind.wrap_i64]
  omega
theorem andMask30 (E : Int) : ∃ x : Nat, x ≤ 1073741823 ∧ bits BinOp.and IntKind.i64 E 1073741823 = (x : Int) := andMask E 1073741823 (by omega)

theorem new_at {w : World} {v : Value} {n : Nat} (hv : Bytes w v n w.heap.size) (h : Nat) (hh : h ≤ 9223372036854775807) :
    Bytes (w.alloc (.cells #[v, .int .i64 0, .int .i64 h] 107)) v n w.heap.size ∧ At (w.alloc (.cells #[v, .int .i64 0, .int .i64 h] 107)) w.heap.size v n ∧ Below w.heap.size w (w.alloc (.cells #[v, .int .i64 0, .int .i64 h] 107)) := by
  have hb : Below w.heap.size w (w.alloc (.cells #[v, .int .i64 0, .int .i64 h] 107)) := (Below.refl _ _).alloc (Nat.le_refl _) _
  refine ⟨?_, ⟨0, h, Nat.zero_le _, by omega, Go.Deep.blk_alloc_new _ _⟩, hb⟩
  obtain ⟨a, c, rfl, hn, h0 | ⟨cb, co, rfl, hcb, hby⟩⟩ := hv
  · exact ⟨a, c, rfl, hn, Or.inl h0⟩
  · refine ⟨_, c, rfl, hn, Or.inr ⟨cb, co, rfl, hcb, fun j hj => ?_⟩⟩
    obtain ⟨x, hx, hc⟩ := hby j hj
    exact ⟨x, hx, by rw [hb.cell (by exact hcb)]; exact hc⟩

set_option maxHeartbeats 400000 in
set_option maxRecDepth 100000 in
theorem new_any (v : Value) (n : Nat) (hn : n ≤ 9223372036854700000) (w : World) (hv : Bytes w v n w.heap.size) :
    Calls Tryz.prog 70 #[v] w fun e w' => ∃ b : Nat, e = .returned (.pointer (some ⟨b, 0, none⟩)) ∧ w.heap.size ≤ b ∧ Bytes w' v n b ∧ At w' b v n ∧ Below w.heap.size w w' := by
  have hv' := hv
  obtain ⟨a, c, rfl, hn', hby⟩ := hv
  have HV := Lib.hid hv'
  clear hv'
  go_enter Tryz.func70, Tryz.ntmps70
  go_wp2
  go_loop [3, 4] (fun hv i => ∃ (h k : Nat), k ≤ n ∧ h ≤ 9223372036854775807 ∧ i = .int .i64 k ∧ hv = .int .i64 h) (fun _ i => n - (intOf i).toNat)
  case atStart => exact ⟨26583 + n, 0, Nat.zero_le _, by omega, rfl, by congr 1⟩
  case round =>
    obtain ⟨h, k, hk, hh, rfl, rfl⟩ := hrel
    by_cases hlt : k < n
    · by_cases h4 : k < 4000
      · obtain ⟨cb, co, rfl, hcb, hb⟩ : ∃ cb co, a = some ⟨cb, co, none⟩ ∧ cb < w.heap.size ∧ ∀ j, j < n → ∃ x : Nat, x ≤ 255 ∧ w.cell? ⟨cb, co + j, none⟩ = some (.int .u8 x) := by
          rcases hby with h0 | h0
          · omega
          · exact h0
        obtain ⟨x, hx, hcell⟩ := hb k hlt
        clear hb hby
        obtain ⟨y, hy, hye⟩ := andMask30 (wrap64 (wrap64 (wrap64 ((h : Int) * 131) + (x : Int)) + 7))
        have HY := Lib.hid hye
        clear hye
        go_wp2
        rw [HY.out]
        exact ⟨⟨y, k + 1, by omega, by omega, by go_num, rfl⟩, by simp only [intOf]; omega⟩
      · have HA := Lib.hid (new_at HV.out h hh)
        go_wp2
        go_ret
        exact ⟨_, rfl, Nat.le_refl _, HA.out.1, HA.out.2.1, HA.out.2.2⟩
    · have HA := Lib.hid (new_at HV.out h hh)
      go_wp2
      go_ret
      exact ⟨_, rfl, Nat.le_refl _, HA.out.1, HA.out.2.1, HA.out.2.2⟩

set_option maxRecDepth 100000 in
theorem once_any (b : Nat) (v : Value) (n m : Nat) (hm : m ≤ 2147483648) (w : World) (hv : Bytes w v n b) (hc : At w b v n) :
    Calls Tryz.prog 80 #[.pointer (some ⟨b, 0, none⟩), .int .i64 m] w fun e w' => ∃ r : Bool, e = .returned (.bool r) ∧ Leaves b v n w w' := by
  go_enter Tryz.func80, Tryz.ntmps80
  go_wp2_with fail
  refine (below_any b v n m hm _ hv hc).mono ?_
  rintro e w1 ⟨r, hr, rfl, hl⟩
  go_wp2
  go_ret
  exact ⟨_, rfl, hl⟩

set_option maxHeartbeats 400000 in
set_option maxRecDepth 100000 in
theorem pick_any (b lb cap : Nat) (v : Value) (n : Nat) (xs : List ByteArray) (h1 : 1 ≤ xs.length) (h2 : xs.length ≤ 256) (w : World) (hv : Bytes w v n b) (hc : At w b v n) (hx : Strs.At w lb 0 xs) (hne : lb ≠ b) :
    Calls Tryz.prog 183 #[.pointer (some ⟨b, 0, none⟩), .slice (some ⟨lb, 0, none⟩) xs.length cap] w fun e w' => ∃ x ∈ xs, e = .returned (.string x) ∧ Leaves b v n w w' := by
  go_enter Tryz.func183, Tryz.ntmps183
  go_wp2_with fail
  refine (below_any b v n xs.length (by omega) _ hv hc).mono ?_
  rintro e w1 ⟨r, hr, rfl, hl⟩
  have hr1 : r < xs.length := by omega
  have hcell : w1.cell? ⟨lb, r, none⟩ = some (.string xs[r]) := by
    have := hx.get r hr1
    rw [Nat.zero_add] at this
    exact hl.2.2.cell this (fun e => hne (Option.some.inj e))
  go_wp2
  go_ret
  exact ⟨_, List.getElem_mem hr1, rfl, hl⟩

set_option maxHeartbeats 400000 in
set_option maxRecDepth 100000 in
theorem pickInt_any (b lb cap : Nat) (v : Value) (n : Nat) (xs : List Int) (h1 : 1 ≤ xs.length) (h2 : xs.length ≤ 256) (w : World) (hv : Bytes w v n b) (hc : At w b v n) (hx : ∀ (j : Nat) x, xs[j]? = some x → w.cell? ⟨lb, j, none⟩ = some (.int .i64 x)) (hne : lb ≠ b) :
    Calls Tryz.prog 142 #[.pointer (some ⟨b, 0, none⟩), .slice (some ⟨lb, 0, none⟩) xs.length cap] w fun e w' => ∃ x ∈ xs, e = .returned (.int .i64 x) ∧ Leaves b v n w w' := by
  go_enter Tryz.func142, Tryz.ntmps142
  go_wp2_with fail
  refine (below_any b v n xs.length (by omega) _ hv hc).mono ?_
  rintro e w1 ⟨r, hr, rfl, hl⟩
  have hr1 : r < xs.length := by omega
  have hcell : w1.cell? ⟨lb, r, none⟩ = some (.int .i64 xs[r]) := hl.2.2.cell (hx r _ (List.getElem?_eq_getElem hr1)) (fun e => hne (Option.some.inj e))
  go_wp2
  go_ret
  exact ⟨_, List.getElem_mem hr1, rfl, hl⟩
end Go.Proofs.YtinlnafkmoabbaaGreatDoor.Cur
/- The draws of points: spec.l2Draw ends and answers three to six points in memory of its own. -/
namespace Go.Proofs.YtinlnafkmoabbaaGreatDoor.Cur
open Go.RowKit Pt
theorem Leaves.ext {b n : Nat} {v : Value} {w wr w' : World} (h : Leaves b v n w wr) (hx : Below w.heap.size wr w') (hb : b < w.heap.size) : Leaves b v n w w' := by
  obtain ⟨h1, ⟨i, q, hi, hq, hh⟩, hg⟩ := h
  refine ⟨?_, ⟨i, q, hi, hq, (hx.block b hb).trans hh⟩, ⟨hx.os.trans hg.os, hx.tape.trans hg.tape, hx.output.trans hg.output, Nat.le_trans hg.size hx.size, fun k hk hne => (hx.block k hk).trans (hg.block k hk hne)⟩⟩
  obtain ⟨a, c, rfl, hn, h0 | ⟨cb, co, rfl, hcb, hby⟩⟩ := h1
  · exact ⟨a, c, rfl, hn, Or.inl h0⟩
  · refine ⟨_, c, rfl, hn, Or.inr ⟨cb, co, rfl, hcb, fun j hj => ?_⟩⟩
    obtain ⟨x, hx1, hc⟩ := hby j hj
    exact ⟨x, hx1, by rw [hx.cell (show cb < w.heap.size by omega)]; exact hc⟩
theorem Leaves.refl {b n : Nat} {v : Value} {w : World} (hv : Bytes w v n b) (hc : At w b v n) : Leaves b v n w w := ⟨hv, hc, grown_refl _ _⟩
theorem At.lt {b n : Nat} {v : Value} {w : World} (h : At w b v n) : b < w.heap.size := by
  obtain ⟨i, q, -, -, hh⟩ := h
  exact (Array.getElem?_eq_some_iff.1 hh).1
theorem owns_leaves {b n B : Nat} {v vv : Value} {w wr : World} {xs : List P2} (h : Owns w B vv xs) (hl : Leaves b v n w wr) (hb : b < B) : Owns wr B vv xs :=
  World.ownsRow.kept h hl.2.2 (by
    cases ho : vv.ownBlock with
    | none => exact .inl rfl
    | some g => refine .inr (fun e => ?_); have := (World.ownsRow.lt h g ho).1; injection e with e; omega)
theorem owns_below {B : Nat} {vv : Value} {w wr : World} {xs : List P2} (h : Owns w B vv xs) (hl : Below w.heap.size w wr) : Owns wr B vv xs :=
  World.ownsRow.kept h (row := none) ⟨hl.os, hl.tape, hl.output, hl.size, fun k hk _ => hl.block k hk⟩ (by cases vv.ownBlock <;> simp)
theorem owns_at {B g c : Nat} {w : World} {xs : List P2} (h : Owns w B (.slice (some ⟨g, 0, none⟩) xs.length c) xs) : AtP w g 0 xs ∧ B ≤ g ∧ g < w.heap.size := by
  obtain ⟨h1, h2⟩ := World.ownsRow.lt h g rfl
  refine ⟨fun j x hx => ?_, h1, h2⟩
  obtain ⟨hj, rfl⟩ := List.getElem?_eq_some_iff.1 hx
  have c0 := World.ownsRow.cells h (g := g) rfl (j * 2) _ (ptCells_get xs (j * 2) (by omega))
  have c1 := World.ownsRow.cells h (g := g) rfl (j * 2 + 1) _ (ptCells_get xs (j * 2 + 1) (by omega))
  rw [WideShapes.add_plain, Nat.zero_add] at c0 c1
  rw [ptCell_even xs j hj] at c0
  rw [ptCell_odd xs j hj] at c1
  exact ⟨by simpa using c0, by simpa using c1⟩
theorem owns_snocP {w : World} {B : Nat} {vv : Value} {xs : List P2} {p : P2} (h : w.ownsRow B 127 2 vv (xs.length + 1) (ptCells xs ++ [.int .i64 p.1, .int .i64 p.2])) : Owns w B vv (xs ++ [p]) := by
  unfold Owns
  rw [ptCells_append, List.length_append]
  exact h
set_option maxRecDepth 100000 in
theorem infoP : (Tryz.prog.info? 127).map (fun i => (i.zero, i.size, i.bytes)) = some (some (.agg #[.int .i64 0, .int .i64 0]), 2, 16) := by kernel_rfl
theorem boxP_made (w : World) (x y : Int) (t : TypeId) : (w.alloc (.cells #[.int .i64 x, .int .i64 y] t)).cell? ⟨w.heap.size, 0, none⟩ = some (.int .i64 x) ∧ (w.alloc (.cells #[.int .i64 x, .int .i64 y] t)).cell? ⟨w.heap.size, 1, none⟩ = some (.int .i64 y) := by
  refine ⟨?_, ?_⟩ <;> go_simp
/-- Beside a call that writes nothing of what was there six cells stand. -/
theorem heldP (w0 : World) (a1 a2 a3 a4 a5 a6 : Addr) (v1 v2 v3 v4 v5 v6 : Value) {f : FuncId} {args : Array Value} {W : World} {v : Value} (h : Calls Tryz.prog f args W fun e w' => e = .returned v ∧ Below W.heap.size W w')
    (hS : W.cell? a1 = some v1 ∧ W.cell? a2 = some v2 ∧ W.cell? a3 = some v3 ∧ W.cell? a4 = some v4 ∧ W.cell? a5 = some v5 ∧ W.cell? a6 = some v6 ∧ Below w0.heap.size w0 W) :
    Calls Tryz.prog f args W fun e w' => e = .returned v ∧ w'.cell? a1 = some v1 ∧ w'.cell? a2 = some v2 ∧ w'.cell? a3 = some v3 ∧ w'.cell? a4 = some v4 ∧ w'.cell? a5 = some v5 ∧ w'.cell? a6 = some v6 ∧ Below w0.heap.size w0 w' := by
  obtain ⟨c1, c2, c3, c4, c5, c6, hB⟩ := hS
  exact h.mono fun _ _ ⟨he, hb⟩ => ⟨he, by rw [hb.cell (Kit.cell_lt c1)]; exact c1, by rw [hb.cell (Kit.cell_lt c2)]; exact c2, by rw [hb.cell (Kit.cell_lt c3)]; exact c3, by rw [hb.cell (Kit.cell_lt c4)]; exact c4, by rw [hb.cell (Kit.cell_lt c5)]; exact c5, by rw [hb.cell (Kit.cell_lt c6)]; exact c6, hB.trans (hb.mono hB.size)⟩
def Small (p : P2) : Prop := (-6 ≤ p.1 ∧ p.1 ≤ 6) ∧ -6 ≤ p.2 ∧ p.2 ≤ 6
theorem Small.fit {p : P2} (h : Small p) : fitB p.1 p.2 1000 = true := by
  obtain ⟨⟨h1, h2⟩, h3, h4⟩ := h
  unfold fitB
  rw [inB_yes (by omega) (by omega), inB_yes (by omega) (by omega)]
  rfl
set_option maxHeartbeats 3200000 in
set_option maxRecDepth 100000 in
theorem l2Draw_own (b : Nat) (v : Value) (n : Nat) (w : World) (hv : Bytes w v n b) (hc : At w b v n) :
    Calls Tryz.prog 129 #[.pointer (some ⟨b, 0, none⟩)] w fun e w' => ∃ (g c : Nat) (xs : List P2), e = .returned (.slice (some ⟨g, 0, none⟩) xs.length c) ∧ (3 ≤ xs.length ∧ xs.length ≤ 6) ∧ Owns w' w.heap.size (.slice (some ⟨g, 0, none⟩) xs.length c) xs ∧ Leaves b v n w w' := by
  have hbw := hc.lt
  have HBW := Lib.hid (fun (m : Nat) (hm : m ≤ 2147483648) W (hl : Leaves b v n w W) => (below_any b v n m hm W hl.1 hl.2.1))
  have L0 := Lib.hid (Leaves.refl hv hc)
  clear hv hc
  go_enter Tryz.func129, Tryz.ntmps129
  go_wp2_with fail
  refine (HBW.out 4 (by omega) _ L0.out).mono ?_
  rintro e w1 ⟨r, hr, rfl, hl1⟩
  have L1 := Lib.hid (L0.out.trans hl1)
  have hr3 : r ≤ 3 := by omega
  have hle1 := L1.out.2.2.size
  have O1 : Hid (Owns (w1.alloc (.cells #[] 127)) w.heap.size (.slice (some ⟨w1.heap.size, 0, none⟩) 0 0) []) := Lib.hid (World.ownsRow_made (size := 2) w1 #[] 0 hle1 (by decide) rfl)
  have L1' := Lib.hid (L1.out.ext (((Below.refl w1.heap.size w1).alloc (Nat.le_refl _) (.cells #[] 127)).mono hle1) hbw)
  clear hr hl1
  go_wp2
  go_loopw [4, 5] (fun vv c wr => ∃ (k g cap : Nat) (xs : List P2), k ≤ 12 ∧ xs.length ≤ 3 + r ∧ c = .int .i64 k ∧ vv = .slice (some ⟨g, 0, none⟩) xs.length cap ∧ Hid (Owns wr w.heap.size vv xs ∧ ∀ p ∈ xs, Small p) ∧ Hid (Leaves b v n w wr)) (fun _ c _ => 12 - (intOf c).toNat)
  case atStart => exact ⟨0, _, 0, [], by omega, by simp, rfl, rfl, Lib.hid ⟨O1.out, by simp⟩, L1'⟩
  case round =>
    obtain ⟨k, g, cap, xs, hk, hxl, rfl, rfl, HO, HL⟩ := hrel
    by_cases hgo : k < 12 ∧ xs.length < 3 + r
    · obtain ⟨hk12, hlt⟩ := hgo
      have hs2 : decide ((xs.length : Int) < 3 + r) = true := by simp; omega
      go_wp2_with fail
      refine (HBW.out 13 (by omega) _ HL.out).mono ?_
      rintro e w2 ⟨x, hx, rfl, hl2⟩
      have L2 := Lib.hid (HL.out.trans hl2)
      have O2 := Lib.hid (⟨owns_leaves HO.out.1 hl2 hbw, HO.out.2⟩ : _ ∧ _)
      clear hl2
      go_wp2_with fail
      refine (HBW.out 13 (by omega) _ L2.out).mono ?_
      rintro e w3 ⟨y, hy, rfl, hl3⟩
      have L3 := Lib.hid (L2.out.trans hl3)
      have O3 := Lib.hid (⟨owns_leaves O2.out.1 hl3 hbw, O2.out.2⟩ : _ ∧ _)
      clear hl3
      have hx12 : x ≤ 12 := by omega
      have hy12 : y ≤ 12 := by omega
      clear hx hy
      have HSP : Hid (Small ((x : Int) - 6, (y : Int) - 6)) := Lib.hid (by unfold Small; simp only; omega)
      have HZ := Lib.hid (boxP_made w3 ((x : Int) - 6) ((y : Int) - 6) 127)
      have HBX := Lib.hid ((Below.refl w3.heap.size w3).alloc (Nat.le_refl _) (.cells #[.int .i64 ((x : Int) - 6), .int .i64 ((y : Int) - 6)] 127))
      obtain ⟨hat, hgB, hgl3⟩ := owns_at O3.out.1
      have HAT := Lib.hid hat
      have HO3 := O3
      have hxs6 : xs.length ≤ 6 := by omega
      clear hat O3 hs2
      go_wp2
      generalize (x : Int) - 6 = px at HSP HZ HBX ⊢
      generalize (y : Int) - 6 = py at HSP HZ HBX ⊢
      go_loopw [7, 8] (fun fv jv wr => ∃ (f : Bool) (j : Nat), fv = .bool f ∧ j ≤ xs.length ∧ jv = .int .i64 j ∧ Hid (Below w3.heap.size w3 wr ∧ wr.cell? ⟨w3.heap.size, 0, none⟩ = some (.int .i64 px) ∧ wr.cell? ⟨w3.heap.size, 1, none⟩ = some (.int .i64 py))) (fun _ jv _ => xs.length - (intOf jv).toNat)
      case atStart => exact ⟨true, 0, rfl, Nat.zero_le _, rfl, Lib.hid ⟨HBX.out, HZ.out.1, HZ.out.2⟩⟩
      case round =>
        obtain ⟨f, j, rfl, hj, rfl, HI⟩ := hrel
        have hwl : w.heap.size ≤ wr.heap.size := by have := HI.out.1.size; have := L3.out.2.2.size; omega
        have LX := Lib.hid (L3.out.ext (HI.out.1.mono L3.out.2.2.size) hbw)
        have OX := Lib.hid (owns_below HO3.out.1 HI.out.1)
        obtain ⟨z0, z1⟩ := HI.out.2
        by_cases hjl : j < xs.length
        · cases f
          · go_wp2
            exact ⟨⟨k + 1, g, cap, xs, by omega, by omega, by go_num, rfl, Lib.hid ⟨OX.out, HO3.out.2⟩, LX⟩, by simp only [intOf]; omega⟩
          · obtain ⟨c0, c1⟩ := (HAT.out.on HI.out.1 hgl3).get j hjl
            simp only [Nat.zero_add] at c0 c1
            generalize hp2 : xs[j] = p2 at c0 c1
            have h3 : ((p2.1 == px) = true ∧ (p2.1 != px) = false ∧ (p2.2 == py) = true ∧ (p2.2 != py) = false) ∨ ((p2.1 == px) = false ∧ (p2.1 != px) = true) ∨ ((p2.1 == px) = true ∧ (p2.1 != px) = false ∧ (p2.2 == py) = false ∧ (p2.2 != py) = true) := by
              have a1 : (p2.1 != px) = !(p2.1 == px) := rfl
              have a2 : (p2.2 != py) = !(p2.2 == py) := rfl
              rw [a1, a2]
              cases (p2.1 == px) <;> cases (p2.2 == py) <;> simp
            have HP2 := Lib.hid hp2
            clear hp2
            rcases h3 with ⟨e1, e2, e3, e4⟩ | ⟨e1, e2⟩ | ⟨e1, e2, e3, e4⟩
            all_goals
              go_wp2
              go_quiet (fail)
              go_wp2
              go_loopw [7, 9] (fun fv iv wr => ∃ (f : Bool) (i : Nat), fv = .bool f ∧ i ≤ j ∧ iv = .int .i64 i ∧ Hid (Below w3.heap.size w3 wr ∧ wr.cell? ⟨w3.heap.size, 0, none⟩ = some (.int .i64 px) ∧ wr.cell? ⟨w3.heap.size, 1, none⟩ = some (.int .i64 py))) (fun _ iv _ => j - (intOf iv).toNat)
              case atStart => exact ⟨_, 0, rfl, Nat.zero_le _, rfl, Lib.hid ⟨Sg.drewN_below HI.out.1 _, HI.out.2⟩⟩
              case round =>
                obtain ⟨f2, i, rfl, hi, rfl, HI⟩ := hrel
                cases f2
                · cases hij : decide ((i : Int) < j)
                  all_goals go_wp2
                  all_goals exact ⟨⟨_, j + 1, rfl, by omega, by go_num, HI⟩, by simp only [intOf]; omega⟩
                · by_cases hij : i < j
                  · have hat3 := HAT.out.on HI.out.1 hgl3
                    obtain ⟨a0, a1⟩ := hat3.get i (by omega)
                    obtain ⟨c0, c1⟩ := hat3.get j hjl
                    simp only [Nat.zero_add] at a0 a1 c0 c1
                    obtain ⟨z0, z1⟩ := HI.out.2
                    have hfi := (HO3.out.2 _ (List.getElem_mem (show i < xs.length by omega))).fit
                    have hfj := (HO3.out.2 _ (List.getElem_mem hjl)).fit
                    have hil : i < xs.length := by omega
                    have hil2 : (0 : Int) ≤ (i : Int) ∧ (i : Int) < (xs.length : Int) := by omega
                    have HC := Lib.hid (fun W => l2Area_any xs[i].1 xs[i].2 xs[j].1 xs[j].2 px py hfi hfj HSP.out.fit W)
                    generalize crs xs[i].1 xs[i].2 xs[j].1 xs[j].2 px py = ar at HC
                    generalize xs[i] = p1 at a0 a1 HC
                    generalize xs[j] = p2 at c0 c1 HC
                    have hS0 := (⟨a0, a1, c0, c1, z0, z1, (Below.refl wr.heap.size wr).drew⟩ : wr.drew.cell? ⟨g, i * 2, none⟩ = some (.int .i64 p1.1) ∧ wr.drew.cell? ⟨g, i * 2 + 1, none⟩ = some (.int .i64 p1.2) ∧ wr.drew.cell? ⟨g, j * 2, none⟩ = some (.int .i64 p2.1) ∧ wr.drew.cell? ⟨g, j * 2 + 1, none⟩ = some (.int .i64 p2.2) ∧ wr.drew.cell? ⟨w3.heap.size, 0, none⟩ = some (.int .i64 px) ∧ wr.drew.cell? ⟨w3.heap.size, 1, none⟩ = some (.int .i64 py) ∧ Below wr.heap.size wr wr.drew)
                    clear a0 a1 c0 c1 z0 z1 hat3 hfi hfj
                    go_wp2
                    go_region_held3 (fun W => W.cell? ⟨g, i * 2, none⟩ = some (.int .i64 p1.1) ∧ W.cell? ⟨g, i * 2 + 1, none⟩ = some (.int .i64 p1.2) ∧ W.cell? ⟨g, j * 2, none⟩ = some (.int .i64 p2.1) ∧ W.cell? ⟨g, j * 2 + 1, none⟩ = some (.int .i64 p2.2) ∧ W.cell? ⟨w3.heap.size, 0, none⟩ = some (.int .i64 px) ∧ W.cell? ⟨w3.heap.size, 1, none⟩ = some (.int .i64 py) ∧ Below wr.heap.size wr W)
                      (first | exact hS0 | exact ⟨by assumption, by assumption, by assumption, by assumption, by assumption, by assumption, by assumption⟩)
                      (first | (go_at_call 162; refine (heldP wr ⟨g, i * 2, none⟩ ⟨g, i * 2 + 1, none⟩ ⟨g, j * 2, none⟩ ⟨g, j * 2 + 1, none⟩ ⟨w3.heap.size, 0, none⟩ ⟨w3.heap.size, 1, none⟩ (.int .i64 p1.1) (.int .i64 p1.2) (.int .i64 p2.1) (.int .i64 p2.2) (.int .i64 px) (.int .i64 py) (HC.out _) hS0).mono ?_; rintro e' w' ⟨rfl, k1, k2, k3, k4, k5, k6, k7⟩))
                    have HI2 := Lib.hid (⟨HI.out.1.trans (k7.mono (by have := HI.out.1.size; omega)), k5, k6⟩ : _ ∧ _ ∧ _)
                    go_wp2
                    exact ⟨⟨_, i + 1, rfl, by omega, by go_num, HI2⟩, by simp only [intOf]; omega⟩
                  · go_wp2
                    exact ⟨⟨_, j + 1, rfl, by omega, by go_num, HI⟩, by simp only [intOf]; omega⟩
        · cases f
          · go_wp2
            exact ⟨⟨k + 1, g, cap, xs, by omega, by omega, by go_num, rfl, Lib.hid ⟨OX.out, HO3.out.2⟩, LX⟩, by simp only [intOf]; omega⟩
          · obtain ⟨i0, hi, hz0, hz1, hz2⟩ := info_parts infoP
            go_wp2_with (at_builtin; refine wpList_append_own _ rfl (.tmp 66) (.tmp 68) 104 rfl w.heap.size 127 i0 _ 2 16 Tryz.underlying104 hi hz0 hz1 hz2 rfl (by decide) _ _ _ rfl (World.ownsRow.alloc OX.out _) ⟨_, 0, none⟩ 1 1 [.int .i64 px, .int .i64 py] rfl rfl ?_ ?_ ?_ ?_ ?_ ?_)
            · intro q u hu
              obtain ⟨y0, y1⟩ := boxP_made wr px py 127
              rw [WideShapes.add_plain, Nat.zero_add]
              rcases q with _ | _ | q
              · simp only [List.getElem?_cons_zero, Option.some.injEq] at hu; subst hu; exact y0
              · simp only [List.getElem?_cons_succ, List.getElem?_cons_zero, Option.some.injEq] at hu; subst hu; exact y1
              · simp at hu
            · intro u hu
              simp only [List.mem_cons, List.not_mem_nil, or_false] at hu
              rcases hu with rfl | rfl <;> rfl
            · simp only [maxLen]; omega
            · omega
            · simp; omega
            intro v1 w5 hown hg _
            obtain ⟨g5, cap5, rfl, hg5, hg5l⟩ := World.ownsRow.form hown (by omega)
            have O5 : Hid (Owns w5 w.heap.size (.slice (some ⟨g5, 0, none⟩) (xs.length + 1) cap5) (xs ++ [(px, py)]) ∧ ∀ p ∈ xs ++ [(px, py)], Small p) := Lib.hid ⟨owns_snocP (p := (px, py)) hown, fun p hp => by
              rcases List.mem_append.1 hp with hp | hp
              · exact HO3.out.2 p hp
              · simp only [List.mem_singleton] at hp; subst hp; exact HSP.out⟩
            have L5 := Lib.hid (LX.out.ext (((Below.refl _ _).alloc hwl (.cells #[.int .i64 px, .int .i64 py] 127)).grown hg (by simp; omega) (fun q hq => (World.ownsRow.lt OX.out q hq).1)) hbw)
            clear hown hg
            go_wp2
            exact ⟨⟨k + 1, g5, cap5, xs ++ [(px, py)], by omega, by simp; omega, by go_num, by simp, by simpa using O5, L5⟩, by simp only [intOf]; omega⟩
    · have hcond : ¬ k < 12 ∨ ¬ xs.length < 3 + r := by
        by_cases h1 : k < 12
        · exact .inr (fun h2 => hgo ⟨h1, h2⟩)
        · exact .inl h1
      have O4 : Hid (Owns (wr.alloc (.cells #[.int .i64 0, .int .i64 0, .int .i64 4, .int .i64 1, .int .i64 1, .int .i64 3, .int .i64 2, .int .i64 2] 127)) w.heap.size (.slice (some ⟨wr.heap.size, 0, none⟩) 4 4) [(0, 0), (4, 1), (1, 3), (2, 2)]) := Lib.hid (World.ownsRow_lit (base := w.heap.size) (e := 127) (size := 2) wr #[.int .i64 0, .int .i64 0, .int .i64 4, .int .i64 1, .int .i64 1, .int .i64 3, .int .i64 2, .int .i64 2] 4 HL.out.2.2.size (by simp only [maxLen]; omega) rfl)
      have L4 := Lib.hid (HL.out.ext ((Below.refl _ _).alloc HL.out.2.2.size (.cells #[.int .i64 0, .int .i64 0, .int .i64 4, .int .i64 1, .int .i64 1, .int .i64 3, .int .i64 2, .int .i64 2] 127)) hbw)
      obtain ⟨q1, q2, q3⟩ := owns_at O4.out
      obtain ⟨p1, p2, p3⟩ := owns_at HO.out.1
      have HP := Lib.hid (⟨p1, p2, p3⟩ : _ ∧ _ ∧ _)
      have HQ := Lib.hid (⟨q1, q2, q3⟩ : _ ∧ _ ∧ _)
      clear p1 p2 p3 q1 q2 q3
      by_cases h12 : k < 12
      · have hcx : decide ((xs.length : Int) < 3 + r) = false := by simp; omega
        have h3l : 3 ≤ xs.length := by omega
        go_wp2
        go_ret
        exact ⟨g, cap, xs, rfl, ⟨h3l, by omega⟩, HO.out.1, HL.out⟩
      · by_cases h3l : xs.length < 3
        · go_wp2
          go_ret
          exact ⟨_, 4, [(0, 0), (4, 1), (1, 3), (2, 2)], rfl, ⟨by simp, by simp⟩, O4.out, L4.out⟩
        · go_wp2
          go_ret
          exact ⟨g, cap, xs, rfl, ⟨by omega, by omega⟩, HO.out.1, HL.out⟩
theorem l2Draw_any (b : Nat) (v : Value) (n : Nat) (w : World) (hv : Bytes w v n b) (hc : At w b v n) :
    Calls Tryz.prog 129 #[.pointer (some ⟨b, 0, none⟩)] w fun e w' => ∃ (g c : Nat) (xs : List P2), e = .returned (.slice (some ⟨g, 0, none⟩) xs.length c) ∧ (3 ≤ xs.length ∧ xs.length ≤ 6) ∧ AtP w' g 0 xs ∧ w.heap.size ≤ g ∧ g < w'.heap.size ∧ Leaves b v n w w' := by
  refine (l2Draw_own b v n w hv hc).mono ?_
  rintro e w' ⟨g, c, xs, rfl, hx, ho, hl⟩
  obtain ⟨h1, h2, h3⟩ := owns_at ho
  exact ⟨g, c, xs, rfl, hx, h1, h2, h3, hl⟩
end Go.Proofs.YtinlnafkmoabbaaGreatDoor.Cur
/- spec.SignsOf over points anywhere in memory; the draws of signs. -/
namespace Go.Proofs.YtinlnafkmoabbaaGreatDoor.Sg
open Go.RowKit Pt
/-- Block b holds these points from its beginning on. -/
def RowA (w : World) (b : Nat) (xs : List P2) : Prop := AtP w b 0 xs ∧ b < w.heap.size
theorem RowA.at {w : World} {b : Nat} {xs : List P2} (h : RowA w b xs) : AtP w b 0 xs := h.1
theorem RowA.lt {w : World} {b : Nat} {xs : List P2} (h : RowA w b xs) : b < w.heap.size := h.2
theorem RowA.on {w w' : World} {b : Nat} {xs : List P2} (h : RowA w b xs) (hb : Below w.heap.size w w') : RowA w' b xs := ⟨h.1.on hb h.2, Nat.lt_of_lt_of_le h.2 hb.size⟩
set_option maxHeartbeats 800000 in
set_option maxRecDepth 100000 in
theorem specPtsA_no (b c : Nat) (xs : List P2) (hx : xs.length ≤ 1048576) (h : Pt.okB xs = false) (w : World) (hr : RowA w b xs) :
    Calls Tryz.prog 128 #[.slice (some ⟨b, 0, none⟩) xs.length c] w fun e w' => e = .returned (ptsV xs) ∧ Below w.heap.size w w' := by
  have HR := Lib.hid (ptsV_no h)
  have HM := Lib.hid (resC_made w 25)
  have HA := Lib.hid (fun W (hW : Below w.heap.size w W) => specAre b 0 c xs (by omega) W (hr.on hW).at (hr.on hW).lt)
  rw [h] at HA
  clear h hr
  go_enter Tryz.func128, Tryz.ntmps128
  go_wp2_with fail
  refine (HA.out _ HM.out.2.2).mono ?_
  rintro e w1 ⟨rfl, hb1⟩
  obtain ⟨⟨e0, e1⟩, ⟨z0, z1⟩, B⟩ := HM.out.on hb1
  obtain ⟨g0, g1⟩ := ret_sg e0 e1 (.int .i64 0) (.string ⟨#[]⟩)
  clear hb1
  go_wp2
  exact bodyPost_ret (v := .tuple #[.agg #[.int .i64 0, .string ⟨#[]⟩], .bool false]) (by simp [results, Tryz.results128, go_sem, g0, g1]) rfl ⟨ret_v HR.out.symm, (B.setCell (by simp) _).setCell (by simp) _⟩
set_option maxHeartbeats 3200000 in
set_option maxRecDepth 100000 in
theorem specPtsA_yes (b c : Nat) (xs : List P2) (h : Pt.okB xs = true) (w : World) (hr : RowA w b xs) :
    Calls Tryz.prog 128 #[.slice (some ⟨b, 0, none⟩) xs.length c] w fun e w' => e = .returned (ptsV xs) ∧ Below w.heap.size w w' := by
  have HR : Hid (ptsV xs = .tuple #[sg xs.length ⟨(text3 xs.length (areaF xs)).toArray⟩, .bool true]) := Lib.hid (by rw [text_points h]; exact ptsV_yes h)
  obtain ⟨⟨h3, hm7⟩, hfit, -⟩ := okB_ok h
  have HM := Lib.hid (resC_made w 25)
  have HA := Lib.hid (fun W (hW : Below w.heap.size w W) => specAre b 0 c xs (by omega) W (hr.on hW).at (hr.on hW).lt)
  rw [h] at HA
  have HL : Hid (∀ (i j k : Nat) (hi : i < xs.length) (hj : j < xs.length) (hk : k < xs.length) (W : World), Calls Tryz.prog 162 #[.agg #[.int .i64 xs[i].1, .int .i64 xs[i].2], .agg #[.int .i64 xs[j].1, .int .i64 xs[j].2], .agg #[.int .i64 xs[k].1, .int .i64 xs[k].2]] W fun e w' => e = .returned (.int .i64 (areaF xs i j k)) ∧ Below W.heap.size W w') := Lib.hid (fun i j k hi hj hk W => by
    have f : ∀ {i : Nat} (hi : i < xs.length), fitB xs[i].1 xs[i].2 1000 = true := fun {i} hi => fit_mono (hfit _ (List.getElem_mem hi)) (by omega)
    unfold areaF
    rw [getD_p hi, getD_p hj, getD_p hk]
    exact l2Area_any _ _ _ _ _ _ (f hi) (f hj) (f hk) W)
  have HRR := Lib.hid hr
  generalize areaF xs = F at HR HL
  clear h hr hfit
  go_enter Tryz.func128, Tryz.ntmps128
  go_wp2_with fail
  refine (HA.out _ HM.out.2.2).mono ?_
  rintro e w1 ⟨rfl, hb1⟩
  have R1 := Lib.hid (HM.out.on hb1)
  have hrl := R1.out.lt
  have P1 := Lib.hid (HRR.out.on R1.out.2.2)
  have hbw1 : b < w1.heap.size := P1.out.lt
  clear hb1
  go_wp2
  have O0 := Lib.hid (outC_made w1 xs.length ⟨#[]⟩ 25)
  have P0 : Hid (PickSt w1.heap.size w1 xs.length (textTo xs.length F 0 (0 + 1) (0 + 2)) (w1.alloc (.cells #[.int .i64 xs.length, .string ⟨#[]⟩] 25))) := Lib.hid ⟨by rw [textTo_zero hm7]; exact O0.out, (Below.refl w1.heap.size w1).alloc (Nat.le_refl _) _⟩
  clear O0
  go_loopw [5] (fun c wr => ∃ i : Nat, i ≤ xs.length ∧ c = .int .i64 i ∧ Hid (PickSt w1.heap.size w1 xs.length (textTo xs.length F i (i + 1) (i + 2)) wr)) (fun c _ => xs.length - (intOf c).toNat)
  case atStart => exact ⟨0, Nat.zero_le _, rfl, P0⟩
  case round =>
    obtain ⟨i, hin, rfl, HP⟩ := hrel
    by_cases hlt : i < xs.length
    · go_wp2
      go_loopw [6] (fun c wr => ∃ j : Nat, i < j ∧ j ≤ xs.length ∧ c = .int .i64 j ∧ Hid (PickSt w1.heap.size w1 xs.length (textTo xs.length F i j (j + 1)) wr)) (fun c _ => xs.length - (intOf c).toNat)
      case atStart => exact ⟨i + 1, by omega, by omega, by go_num, HP⟩
      case round =>
        obtain ⟨j, hij, hjn, rfl, HP⟩ := hrel
        by_cases hltj : j < xs.length
        · go_wp2
          go_loopw [7] (fun c wr => ∃ k : Nat, j < k ∧ k ≤ xs.length ∧ c = .int .i64 k ∧ Hid (PickSt w1.heap.size w1 xs.length (textTo xs.length F i j k) wr)) (fun c _ => xs.length - (intOf c).toNat)
          case atStart => exact ⟨j + 1, by omega, by omega, by go_num, HP⟩
          case round =>
            obtain ⟨k, hjk, hkn, rfl, HP⟩ := hrel
            by_cases hltk : k < xs.length
            · obtain ⟨⟨⟨o0, o1⟩, ⟨f0, f1⟩⟩, hbb⟩ := HP.out
              have hEt := P1.out.at.on hbb hbw1
              obtain ⟨x0, x1⟩ := hEt.get i hlt
              obtain ⟨y0, y1⟩ := hEt.get j hltj
              obtain ⟨z0, z1⟩ := hEt.get k hltk
              simp only [Nat.zero_add] at x0 x1 y0 y1 z0 z1
              have HC := Lib.hid (fun W => HL.out i j k hlt hltj hltk W)
              have hXl := textTo_le hm7 F i j k
              have HST : Hid (textTo xs.length F i j (k + 1) = textTo xs.length F i j k ++ [byteOf (F i j k)]) := Lib.hid (textTo_step hm7 F hij hjk hltk)
              generalize textTo xs.length F i j k = L at hXl HP HST o1
              generalize F i j k = v at HC HST
              have hr1 : ∀ W (x : UInt8), (Op.stringOp .add ⟨L.toArray⟩ ⟨#[x]⟩).run Tryz.prog W = .ok (.string (⟨L.toArray⟩ ++ ⟨#[x]⟩)) W := fun W x => run_string_add_sum W _ _ (by show L.toArray.size + 1 ≤ _; simp; omega)
              generalize xs[i] = p at x0 x1 HC
              generalize xs[j] = q at y0 y1 HC
              generalize xs[k] = r at z0 z1 HC
              clear hEt hbb o0 f0
              go_wp2
              have hS0 := (⟨o1, f1, x0, x1, y0, y1, z0, z1, (Below.refl wr.heap.size wr).drew⟩ : wr.drew.cell? ⟨w1.heap.size, 1, none⟩ = some (.string ⟨L.toArray⟩) ∧ wr.drew.frozen? ⟨w1.heap.size, 1, none⟩ = false ∧ wr.drew.cell? ⟨b, i * 2, none⟩ = some (.int .i64 p.1) ∧ wr.drew.cell? ⟨b, i * 2 + 1, none⟩ = some (.int .i64 p.2) ∧ wr.drew.cell? ⟨b, j * 2, none⟩ = some (.int .i64 q.1) ∧ wr.drew.cell? ⟨b, j * 2 + 1, none⟩ = some (.int .i64 q.2) ∧ wr.drew.cell? ⟨b, k * 2, none⟩ = some (.int .i64 r.1) ∧ wr.drew.cell? ⟨b, k * 2 + 1, none⟩ = some (.int .i64 r.2) ∧ Below wr.heap.size wr wr.drew)
              refine Last.wp_region_last' (S := fun W => W.cell? ⟨w1.heap.size, 1, none⟩ = some (.string ⟨L.toArray⟩) ∧ W.frozen? ⟨w1.heap.size, 1, none⟩ = false ∧ W.cell? ⟨b, i * 2, none⟩ = some (.int .i64 p.1) ∧ W.cell? ⟨b, i * 2 + 1, none⟩ = some (.int .i64 p.2) ∧ W.cell? ⟨b, j * 2, none⟩ = some (.int .i64 q.1) ∧ W.cell? ⟨b, j * 2 + 1, none⟩ = some (.int .i64 q.2) ∧ W.cell? ⟨b, k * 2, none⟩ = some (.int .i64 r.1) ∧ W.cell? ⟨b, k * 2 + 1, none⟩ = some (.int .i64 r.2) ∧ Below wr.heap.size wr W) 18 _ rfl rfl (by kernel_rfl) (by kernel_rfl) hS0 (fun hHeld => ?_)
              clear hS0 o1 f1 x0 x1 y0 y1 z0 z1
              simp only [List.take_succ_cons, List.take_zero]
              (refine wpAnyH_take (i := 0) (v := ?_) rfl (by kernel_rfl) (by kernel_rfl) (by kernel_rfl) (fun _ _ _ h => h) (Or.inl ⟨by rfl, ?_⟩) (by assumption) ?_; rotate_left; (focus (intro w hSw; (try dsimp only at hSw); go_simp; (try with_reducible rfl))); (simp only [Act.put, List.setIfInBounds_toArray]))
              (refine wpAnyH_take (i := 1) (v := ?_) rfl (by kernel_rfl) (by kernel_rfl) (by kernel_rfl) (fun _ _ _ h => h) (Or.inl ⟨by rfl, ?_⟩) (by assumption) ?_; rotate_left; (focus (intro w hSw; (try dsimp only at hSw); go_simp; (try with_reducible rfl))); (simp only [Act.put]))
              (refine wpAnyH_take (i := 2) (v := ?_) rfl (by kernel_rfl) (by kernel_rfl) (by kernel_rfl) (fun _ _ _ h => h) (Or.inl ⟨by rfl, ?_⟩) (by assumption) ?_; rotate_left; (focus (intro w hSw; (try dsimp only at hSw); go_simp; (try with_reducible rfl))); (simp only [Act.put]))
              (refine wpAnyH_take (i := 3) (v := ?_) rfl (by kernel_rfl) (by kernel_rfl) (by kernel_rfl) (fun _ _ _ h => h) (Or.inl ⟨by rfl, ?_⟩) (by assumption) ?_; rotate_left; (focus (intro w hSw; (try dsimp only at hSw); go_simp; (try with_reducible rfl))); (simp only [Act.put]))
              (refine wpAnyH_take (i := 4) (v := ?_) rfl (by kernel_rfl) (by kernel_rfl) (by kernel_rfl) (fun _ _ _ h => h) (Or.inl ⟨by rfl, ?_⟩) (by assumption) ?_; rotate_left; (focus (intro w hSw; (try dsimp only at hSw); go_simp; (try with_reducible rfl))); (simp only [Act.put]))
              (refine wpAnyH_take (i := 5) (v := ?_) rfl (by kernel_rfl) (by kernel_rfl) (by kernel_rfl) (fun _ _ _ h => h) (Or.inl ⟨by rfl, ?_⟩) (by assumption) ?_; rotate_left; (focus (intro w hSw; (try dsimp only at hSw); go_simp; (try with_reducible rfl))); (simp only [Act.put]))
              (refine wpAnyH_take (i := 6) (v := ?_) rfl (by kernel_rfl) (by kernel_rfl) (by kernel_rfl) (fun _ _ _ h => h) (Or.inl ⟨by rfl, ?_⟩) (by assumption) ?_; rotate_left; (focus (intro w hSw; (try dsimp only at hSw); go_simp; (try with_reducible rfl))); (simp only [Act.put]))
              (refine wpAnyH_take (i := 7) (v := ?_) rfl (by kernel_rfl) (by kernel_rfl) (by kernel_rfl) (fun _ _ _ h => h) (Or.inl ⟨by rfl, ?_⟩) (by assumption) ?_; rotate_left; (focus (intro w hSw; (try dsimp only at hSw); go_simp; (try with_reducible rfl))); (simp only [Act.put]))
              (refine wpAnyH_take (i := 8) (v := ?_) rfl (by kernel_rfl) (by kernel_rfl) (by kernel_rfl) (fun _ _ _ h => h) (Or.inl ⟨by rfl, ?_⟩) (by assumption) ?_; rotate_left; (focus (intro w hSw; (try dsimp only at hSw); go_simp; (try with_reducible rfl))); (simp only [Act.put]))
              (refine wpAnyH_take (i := 9) (v := ?_) rfl (by kernel_rfl) (by kernel_rfl) (by kernel_rfl) (fun _ _ _ h => h) (Or.inl ⟨by rfl, ?_⟩) (by assumption) ?_; rotate_left; (focus (intro w hSw; (try dsimp only at hSw); go_simp; (try with_reducible rfl))); (simp only [Act.put]))
              (refine wpAnyH_take (i := 10) (v := ?_) rfl (by kernel_rfl) (by kernel_rfl) (by kernel_rfl) (fun _ _ _ h => h) (Or.inl ⟨by rfl, ?_⟩) (by assumption) ?_; rotate_left; (focus (intro w hSw; (try dsimp only at hSw); go_simp; (try with_reducible rfl))); (simp only [Act.put]))
              (refine wpAnyH_take (i := 11) (v := ?_) rfl (by kernel_rfl) (by kernel_rfl) (by kernel_rfl) (fun _ _ _ h => h) (Or.inl ⟨by rfl, ?_⟩) (by assumption) ?_; rotate_left; (focus (intro w hSw; (try dsimp only at hSw); go_simp; (try with_reducible rfl))); (simp only [Act.put]))
              (refine wpAnyH_take (i := 12) (v := ?_) rfl (by kernel_rfl) (by kernel_rfl) (by kernel_rfl) (fun _ _ _ h => h) (Or.inl ⟨by rfl, ?_⟩) (by assumption) ?_; rotate_left; (focus (intro w hSw; (try dsimp only at hSw); go_simp; (try with_reducible rfl))); (simp only [Act.put]))
              (refine wpAnyH_take (i := 13) (v := ?_) rfl (by kernel_rfl) (by kernel_rfl) (by kernel_rfl) (fun _ _ _ h => h) (Or.inl ⟨by rfl, ?_⟩) (by assumption) ?_; rotate_left; (focus (intro w hSw; (try dsimp only at hSw); go_simp; (try with_reducible rfl))); (simp only [Act.put]))
              refine wpAnyH_ready (rs := [14]) (by kernel_rfl) (by simp) ?_
              refine AllReadyH.cons rfl (fun K hK => ?_) AllReadyH.nil
              go_simp
              refine (held9 wr w1.heap.size ⟨L.toArray⟩ ⟨b, i * 2, none⟩ ⟨b, i * 2 + 1, none⟩ ⟨b, j * 2, none⟩ ⟨b, j * 2 + 1, none⟩ ⟨b, k * 2, none⟩ ⟨b, k * 2 + 1, none⟩ (.int .i64 p.1) (.int .i64 p.2) (.int .i64 q.1) (.int .i64 q.2) (.int .i64 r.1) (.int .i64 r.2) (HC.out _) hHeld).mono ?_
              clear hHeld
              rintro e w' ⟨rfl, hc⟩
              refine hK.out _ _ hc (fun hHeld => ?_)
              clear hK K
              try simp only [Act.put, List.setIfInBounds_toArray, List.set_cons_zero, List.set_cons_succ]
              refine wpAnyH_ready (rs := [15]) (by kernel_rfl) (by simp) ?_
              refine AllReadyH.cons rfl (fun K hK => ?_) AllReadyH.nil
              go_simp
              refine (l3Byte_any _ _).mono ?_
              rintro e w2 ⟨rfl, rfl⟩
              refine hK.out _ _ hHeld (fun hHeld => ?_)
              clear hK K
              try simp only [Act.put, List.setIfInBounds_toArray, List.set_cons_zero, List.set_cons_succ]
              (refine wpAnyH_take (i := 16) (v := ?_) rfl (by kernel_rfl) (by kernel_rfl) (by kernel_rfl) (fun _ _ _ h => h) (Or.inl ⟨by rfl, ?_⟩) (by assumption) ?_; rotate_left; (focus (intro w hSw; (try dsimp only at hSw); go_simp; (try with_reducible rfl))); (simp only [Act.put, List.setIfInBounds_toArray]))
              (refine wpAnyH_take (i := 17) (v := ?_) rfl (by kernel_rfl) (by kernel_rfl) (by kernel_rfl) (fun _ _ _ h => h) (Or.inl ⟨by rfl, ?_⟩) (by assumption) ?_; rotate_left; (focus (intro w hSw; (try dsimp only at hSw); go_simp; (try with_reducible rfl))); (simp only [Act.put]))
              refine wpAnyH_done (by kernel_rfl) ?_ _
              obtain ⟨o1, f1, -, -, -, -, -, -, hbw2⟩ := hHeld
              have HP2 := Lib.hid (HP.out.store hbw2 (byteOf v))
              rw [← HST.out] at HP2
              clear hc
              change wpList _ _ _ [_] _ _
              go_wp2
              exact ⟨⟨k + 1, by omega, by omega, by go_num, HP2⟩, by simp only [intOf]; omega⟩
            · have HP2 : Hid (PickSt w1.heap.size w1 xs.length (textTo xs.length F i (j + 1) (j + 1 + 1)) wr) := Lib.hid (by
                have := HP.out
                rw [show k = xs.length by omega, textTo_inner hm7 F hij hltj] at this
                exact this)
              go_wp2
              exact ⟨⟨j + 1, by omega, by omega, by go_num, HP2⟩, by simp only [intOf]; omega⟩
        · have HP2 : Hid (PickSt w1.heap.size w1 xs.length (textTo xs.length F (i + 1) (i + 1 + 1) (i + 1 + 2)) wr) := Lib.hid (by
            have := HP.out
            rw [show j = xs.length by omega, textTo_mid hm7 F hlt] at this
            exact this)
          go_wp2
          exact ⟨⟨i + 1, by omega, by go_num, HP2⟩, by simp only [intOf]; omega⟩
    · have HP2 : Hid (PickSt w1.heap.size w1 xs.length (text3 xs.length F) wr) := Lib.hid (by
        have := HP.out
        rw [show i = xs.length by omega, textTo_end hm7 F] at this
        exact this)
      obtain ⟨⟨⟨o0, o1⟩, -⟩, hbb⟩ := HP2.out
      obtain ⟨⟨e0, e1⟩, ⟨z0, z1⟩, B⟩ := R1.out.on' hbb hrl (Nat.le_refl _)
      obtain ⟨k0, k1⟩ := ret_sg e0 e1 (.int .i64 xs.length) (.string ⟨(text3 xs.length F).toArray⟩)
      generalize (text3 xs.length F).toArray = T at o1 k0 k1 HR
      clear hbb
      go_wp2
      exact bodyPost_ret (v := .tuple #[.agg #[.int .i64 xs.length, .string ⟨T⟩], .bool true]) (by simp [results, Tryz.results128, go_sem, k0, k1]) rfl ⟨ret_v HR.out.symm, (B.setCell (by simp) _).setCell (by simp) _⟩
theorem specPtsA (b c : Nat) (xs : List P2) (hx : xs.length ≤ 1048576) (w : World) (hr : RowA w b xs) :
    Calls Tryz.prog 128 #[.slice (some ⟨b, 0, none⟩) xs.length c] w fun e w' => e = .returned (ptsV xs) ∧ Below w.heap.size w w' := by
  cases h : Pt.okB xs
  · exact specPtsA_no b c xs hx h w hr
  · exact specPtsA_yes b c xs h w hr
end Go.Proofs.YtinlnafkmoabbaaGreatDoor.Sg
namespace Go.Proofs.YtinlnafkmoabbaaGreatDoor.Cur
open Go.RowKit Pt Sg
theorem Leaves.lt {b n : Nat} {v : Value} {w w' : World} (h : Leaves b v n w w') : b < w'.heap.size := h.2.1.lt
theorem Leaves.alloc {b n : Nat} {v : Value} {w w' : World} (h : Leaves b v n w w') (hb : b < w.heap.size) (o : Obj) : Leaves b v n w (w'.alloc o) := h.ext ((Below.refl _ _).alloc h.2.2.size o) hb
theorem Leaves.drew {b n : Nat} {v : Value} {w w' : World} (h : Leaves b v n w w') : Leaves b v n w w'.drew := ⟨h.1, h.2.1, h.2.2.os, h.2.2.tape, h.2.2.output, h.2.2.size, h.2.2.block⟩
theorem lit_cells (w : World) (xs : List Int) (t : TypeId) : ∀ (j : Nat) x, xs[j]? = some x → (w.alloc (.cells (xs.map (Value.int .i64)).toArray t)).cell? ⟨w.heap.size, j, none⟩ = some (.int .i64 x) := fun j x hx => by
  rw [World.cell?_alloc_new]; simp [hx]
theorem lit_strs (w : World) (xs : List ByteArray) (t : TypeId) : Strs.At (w.alloc (.cells (xs.map Value.string).toArray t)) w.heap.size 0 xs := fun j x hx => by
  rw [World.cell?_alloc_new]; simp [hx]
theorem outC_leaves {b n ro : Nat} {v : Value} {m : Int} {T : ByteArray} {W W' : World} (h : OutC ro m T W) (hl : Leaves b v n W W') (hne : ro ≠ b) : OutC ro m T W' := by
  obtain ⟨⟨h1, h2⟩, h3, h4⟩ := h
  have hlt : ro < W.heap.size := Kit.cell_lt h1
  have hbk := hl.2.2.block ro hlt (fun e => hne (Option.some.inj e))
  exact ⟨⟨by rw [World.cell?_of_block (a := ⟨ro, 0, none⟩) hbk]; exact h1, by rw [World.cell?_of_block (a := ⟨ro, 1, none⟩) hbk]; exact h2⟩, by rw [World.frozen?_of_block (a := ⟨ro, 0, none⟩) hbk]; exact h3, by rw [World.frozen?_of_block (a := ⟨ro, 1, none⟩) hbk]; exact h4⟩
end Go.Proofs.YtinlnafkmoabbaaGreatDoor.Cur
