/- Several texts in one: QuOrd, QuCount, NewII, QuSplit, QuSplitSpec, QuInSpec. -/
import Derived.Test.YtinlnafkmoabbaaGreatDoorMgC
import Derived.Test.YtinlnafkmoabbaaGreatDoorMgR
import Derived.Test.YtinlnafkmoabbaaGreatDoorQuMath
import Derived.Test.YtinlnafkmoabbaaGreatDoorNewI
import Derived.Test.YtinlnafkmoabbaaGreatDoorMgS
/- impl's map of order signs, and what it tells: innerOf, isInside; InnerOf, IsInside, as impl answers them. -/
namespace Go.Proofs.YtinlnafkmoabbaaGreatDoor.Sg
open Go.RowKit Pt Go.Maps
/-- The signs by three numbers in order: none if they are no order signs. -/
def ordF (n : Int) (s : List UInt8) (a b c : Int) : Int := if aciB n s = true then lookS n s a b c else 0
theorem ordF_yes {n : Int} {s : List UInt8} (h : aciB n s = true) : ordF n s = lookS n s := by funext a b c; unfold ordF; rw [if_pos h]
theorem ordF_no {n : Int} {s : List UInt8} (h : aciB n s = false) (a b c : Int) : ordF n s a b c = 0 := by unfold ordF; rw [h]; rfl
theorem aciB_mat {n : Int} {s : List UInt8} (h : aciB n s = true) : matB n s = true := by
  unfold aciB at h
  exact (Bool.and_eq_true_iff.1 h).1
/-- Block b is a map that has f a b c at the key a, b, c, and is empty if z. -/
def MapZ (w : World) (b : Nat) (f : Int → Int → Int → Int) (z : Bool) : Prop :=
  (∃ (m : Nat) (D : DataW Unit), w.ownsMap Tryz.prog 99 (plainElem Tryz.prog 3) b m D ∧ ((Maps.size D : Int) == 0) = z ∧ ∀ x y z : Int, -9223372036854775808 ≤ x ∧ x ≤ 9223372036854775807 → -9223372036854775808 ≤ y ∧ y ≤ 9223372036854775807 → -9223372036854775808 ≤ z ∧ z ≤ 9223372036854775807 → D.atKey (kl x y z) (.lit (.int .i64 0)) = .lit (.int .i64 (f x y z))) ∧
  ∀ x y z, -1 ≤ f x y z ∧ f x y z ≤ 1
theorem MapZ.is {w : World} {b : Nat} {f : Int → Int → Int → Int} {z : Bool} (h : MapZ w b f z) : MapIs w b f := by
  obtain ⟨⟨m, D, h, -, ha⟩, hf⟩ := h
  exact ⟨⟨m, D, h, ha⟩, hf⟩
theorem MapZ.on {w w' : World} {b : Nat} {f : Int → Int → Int → Int} {z : Bool} (h : MapZ w b f z) (hb : Below w.heap.size w w') : MapZ w' b f z := by
  obtain ⟨⟨m, D, h, hz, ha⟩, hf⟩ := h
  exact ⟨⟨m, D, World.ownsMap.kept h (row := none) ⟨hb.os, hb.tape, hb.output, hb.size, fun k hk _ => hb.block k hk⟩ (by simp), hz, ha⟩, hf⟩
/-- A map that has an entry other than 0 is not empty. -/
theorem mapZ_of {w : World} {b : Nat} {f : Int → Int → Int → Int} (h : MapK w b f) (hne : f 0 1 2 ≠ 0) : MapZ w b f false := by
  obtain ⟨⟨m, D, -, ho, ha, -⟩, hf⟩ := h
  refine ⟨⟨m, D, ho, ?_, ha⟩, hf⟩
  cases hz : ((Maps.size D : Int) == 0)
  · rfl
  · exfalso
    obtain ⟨es, rfl⟩ := World.ownsMap.isMap ho
    have hes : es = [] := by
      have h0 : (Maps.size (DataW.map es) : Int) = 0 := by simpa using hz
      rw [Maps.size_eq] at h0
      exact List.eq_nil_of_length_eq_zero (by omega)
    subst hes
    have := ha 0 1 2 (by omega) (by omega) (by omega)
    have e : DataW.atKey (H := Unit) (.map []) (kl 0 1 2) (.lit (.int .i64 0)) = .lit (.int .i64 0) := rfl
    rw [e] at this
    injection this with this
    injection this with _ this
    exact hne this.symm
theorem mapZ_made (w : World) (f : Int → Int → Int → Int) (hf : ∀ x y z, f x y z = 0) : MapZ (w.alloc (.map #[] 0)) w.heap.size f true := by
  refine ⟨⟨0, _, ownsMap_made w, ?_, fun x y z _ _ _ => by rw [hf]; rfl⟩, fun x y z => by rw [hf]; omega⟩
  rw [Maps.size_eq]; rfl
set_option maxHeartbeats 800000 in
set_option maxRecDepth 100000 in
theorem implOrd (n : Int) (s : ByteArray) (hs : s.size ≤ 9223372036854775807) (w : World) :
    Calls Tryz.prog 100 #[sg n s] w fun e w' => ∃ b, e = .returned (.map (some b)) ∧ MapZ w' b (ordF n s.data.toList) (!aciB n s.data.toList) ∧ Below w.heap.size w w' := by
  have HA := Lib.hid (fun W => implAci n s hs W)
  have HS := Lib.hid (box_made w n s 25)
  cases h : aciB n s.data.toList
  · have hmm := @run_makeMap Tryz.prog
    have HF := Lib.hid (ordF_no h)
    rw [h] at HA
    clear h
    go_enter Tryz.func100, Tryz.ntmps100
    go_wp2_with fail
    refine (HA.out _).mono ?_
    rintro e w1 ⟨rfl, hb1⟩
    have B1 := Lib.hid (HS.out.on hb1).2.2
    have HM := Lib.hid (mapZ_made w1 (ordF n s.data.toList) HF.out)
    have HB := Lib.hid (B1.out.alloc B1.out.size (.map #[] 0))
    clear hb1
    go_wp2
    go_ret
    exact ⟨_, rfl, HM.out, HB.out⟩
  · have har := matB_ar (aciB_mat h)
    obtain ⟨h3, -⟩ := arB_yes har
    obtain ⟨m, rfl⟩ : ∃ m : Nat, n = m := ⟨n.toNat, by omega⟩
    have HF := Lib.hid (ordF_yes h)
    have hne : lookS m s.data.toList 0 1 2 ≠ 0 := by
      have h1 := sgn_one har (x := 0) (y := 1) (z := 2) (by omega) (by omega) (by omega) (by omega) (by omega) (by omega)
      rw [sgnF_plain (by omega) (by omega)] at h1
      have e : lookS m s.data.toList ((0 : Nat) : Int) ((1 : Nat) : Int) ((2 : Nat) : Int) = lookS m s.data.toList 0 1 2 := rfl
      rw [e] at h1
      omega
    have HMK := Lib.hid (fun W => mapOf_k m s hs W)
    have HNE := Lib.hid hne
    rw [h] at HA
    clear h har hne
    go_enter Tryz.func100, Tryz.ntmps100
    go_wp2_with fail
    refine (HA.out _).mono ?_
    rintro e w1 ⟨rfl, hb1⟩
    have X1 := Lib.hid (HS.out.on hb1)
    obtain ⟨c0, c1, B1⟩ := X1.out
    clear hb1
    go_wp2_with fail
    refine (HMK.out _).mono ?_
    rintro e w2 ⟨b, rfl, -, hm, hb2⟩
    have HM : Hid (MapZ w2 b (ordF m s.data.toList) (!true)) := Lib.hid (by rw [HF.out]; exact mapZ_of hm HNE.out)
    have HB := Lib.hid (B1.trans (hb2.mono B1.size))
    clear hm hb2 c0 c1
    go_wp2
    go_ret
    exact ⟨_, rfl, HM.out, HB.out⟩
/-- A sign or 0 is equal to a sign or not. -/
theorem tri {x : Int} (h : -1 ≤ x ∧ x ≤ 1) : x = -1 ∨ x = 0 ∨ x = 1 := by omega
set_option maxRecDepth 100000 in
theorem eqlA (x0 x1 x2 x3 : Int) (b0 : -1 ≤ x0 ∧ x0 ≤ 1) (b1 : -1 ≤ x1 ∧ x1 ≤ 1) (b2 : -1 ≤ x2 ∧ x2 ≤ 1) (b3 : -1 ≤ x3 ∧ x3 ≤ 1) (W : World) :
    (binOp .eql 116 (.agg #[.int .i64 x0, .int .i64 x1, .int .i64 x2, .int .i64 x3]) (.agg #[.int .i64 1, .int .i64 (-1), .int .i64 (-1), .int .i64 (-1)])).run Tryz.prog W = .ok (.bool (x0 == 1 && (x1 == -1 && (x2 == -1 && x3 == -1)))) W := by
  rcases tri b0 with rfl | rfl | rfl <;> rcases tri b1 with rfl | rfl | rfl <;> rcases tri b2 with rfl | rfl | rfl <;> rcases tri b3 with rfl | rfl | rfl <;> kernel_rfl
/-- A circuit's four numbers are -1, 0 or 1. -/
theorem cir_bd {f : Int → Int → Int → Int} (hbd : ∀ x y z, -1 ≤ f x y z ∧ f x y z ≤ 1) {a b c d c0 c1 c2 c3 : Int} (hx : cir f a b c d = (c0, c1, c2, c3)) : (-1 ≤ c0 ∧ c0 ≤ 1) ∧ (-1 ≤ c1 ∧ c1 ≤ 1) ∧ (-1 ≤ c2 ∧ c2 ≤ 1) ∧ -1 ≤ c3 ∧ c3 ≤ 1 := by
  unfold cir at hx
  simp only [Prod.mk.injEq] at hx
  obtain ⟨rfl, rfl, rfl, rfl⟩ := hx
  have n1 := hbd a c d
  have n3 := hbd a b c
  exact ⟨mul_bd (hbd _ _ _) (hbd _ _ _), mul_bd (by omega) (hbd _ _ _), mul_bd (hbd _ _ _) (hbd _ _ _), mul_bd (by omega) (hbd _ _ _)⟩
def I64 (x : Int) : Prop := -9223372036854775808 ≤ x ∧ x ≤ 9223372036854775807
set_option maxHeartbeats 800000 in
set_option maxRecDepth 100000 in
theorem isInside_any (B : Nat) (f : Int → Int → Int → Int) (a b c d : Int) (ha : I64 a) (hb : I64 b) (hc : I64 c) (hd : I64 d) (w : World) (hm : MapIs w B f) :
    Calls Tryz.prog 157 #[.map (some B), .int .i64 a, .int .i64 b, .int .i64 c, .int .i64 d] w fun e w' => e = .returned (.bool (isIn (cir (sgnF f) a b c d))) ∧ Below w.heap.size w w' := by
  obtain ⟨c0, c1, c2, c3, hx⟩ : ∃ c0 c1 c2 c3, cir (sgnF f) a b c d = (c0, c1, c2, c3) := ⟨_, _, _, _, rfl⟩
  obtain ⟨b0, b1, b2, b3⟩ := cir_bd (sgnF_bd hm.2) hx
  have HC := Lib.hid (circuitOf_any B f a b c d ha hb hc hd w hm)
  rw [hx] at HC
  have hq := fun W => eqlA c0 c1 c2 c3 b0 b1 b2 b3 W
  have HE : Hid (isIn (cir (sgnF f) a b c d) = (c0 == 1 && (c1 == -1 && (c2 == -1 && c3 == -1)))) := Lib.hid (by rw [hx]; rfl)
  generalize (c0 == 1 && (c1 == -1 && (c2 == -1 && c3 == -1))) = q at hq HE
  clear hx hm b0 b1 b2 b3 ha hb hc hd
  go_enter Tryz.func157, Tryz.ntmps157
  go_wp2_with fail
  refine HC.out.mono ?_
  rintro e w1 ⟨rfl, hb1⟩
  go_wp2
  go_ret
  exact ⟨ret_bool HE.out.symm, hb1⟩
end Go.Proofs.YtinlnafkmoabbaaGreatDoor.Sg
/- The elements inside a triangle and the empty triangles, as impl tells them: countInside, CountInside, EmptyTriangles. -/
namespace Go.Proofs.YtinlnafkmoabbaaGreatDoor.Sg
open Go.RowKit Pt Go.Maps
theorem i64_nat {x : Nat} (h : x ≤ 1000) : I64 (x : Int) := by unfold I64; omega
set_option maxHeartbeats 1600000 in
set_option maxRecDepth 100000 in
theorem countInside_any (B : Nat) (f : Int → Int → Int → Int) (n : Nat) (h7 : n ≤ 7) (a b c : Int) (ha : I64 a) (hb : I64 b) (hc : I64 c) (w : World) (hm : MapIs w B f) :
    Calls Tryz.prog 125 #[.map (some B), .int .i64 n, .int .i64 a, .int .i64 b, .int .i64 c] w fun e w' => e = .returned (.int .i64 (cntI (sgnF f) a b c n)) ∧ Below w.heap.size w w' := by
  have HI : Hid (∀ p : Nat, p < n → ∀ W, Below w.heap.size w W → Calls Tryz.prog 157 #[.map (some B), .int .i64 p, .int .i64 a, .int .i64 b, .int .i64 c] W fun e w' => e = .returned (.bool (isIn (cir (sgnF f) p a b c))) ∧ Below W.heap.size W w') := Lib.hid (fun p hp W hW => isInside_any B f p a b c (i64_nat (by omega)) ha hb hc W (hm.on hW))
  have HLE := Lib.hid (cntI_le (sgnF f) a b c)
  generalize sgnF f = F at HI HLE ⊢
  clear hm ha hb hc
  go_enter Tryz.func125, Tryz.ntmps125
  go_wp2
  go_loopw [11, 14] (fun cv i wr => ∃ p : Nat, p ≤ n ∧ i = .int .i64 p ∧ cv = .int .i64 (cntI F a b c p : Nat) ∧ Hid (Below w.heap.size w wr)) (fun _ i _ => n - (intOf i).toNat)
  case atStart => exact ⟨0, Nat.zero_le _, rfl, rfl, Lib.hid (Below.refl _ _)⟩
  case round =>
    obtain ⟨p, hp, rfl, rfl, HB⟩ := hrel
    have hle := HLE.out p
    by_cases hlt : p < n
    · have HC := Lib.hid (HI.out p hlt _ HB.out)
      cases hin : isIn (cir F p a b c)
      · have HN := Lib.hid (cntI_miss (p := p) hin)
        rw [hin] at HC
        clear hin
        go_wp2_with fail
        refine HC.out.mono ?_
        rintro e w2 ⟨rfl, hb2⟩
        have HB2 := Lib.hid (HB.out.trans (hb2.mono HB.out.size))
        go_wp2
        exact ⟨⟨p + 1, by omega, by go_num, by rw [HN.out], HB2⟩, by simp only [intOf]; omega⟩
      · have HN := Lib.hid (cntI_hit (p := p) hin)
        rw [hin] at HC
        clear hin
        go_wp2_with fail
        refine HC.out.mono ?_
        rintro e w2 ⟨rfl, hb2⟩
        have HB2 := Lib.hid (HB.out.trans (hb2.mono HB.out.size))
        go_wp2
        exact ⟨⟨p + 1, by omega, by go_num, by rw [HN.out]; go_num, HB2⟩, by simp only [intOf]; omega⟩
    · obtain rfl : p = n := by omega
      go_wp2
      go_ret
      exact ⟨rfl, HB.out⟩
theorem aciB_n {n : Int} {s : List UInt8} (h : aciB n s = true) : 3 ≤ n ∧ n ≤ 7 := by
  obtain ⟨h3, h7, -⟩ := arB_yes (matB_ar (aciB_mat h))
  omega
end Go.Proofs.YtinlnafkmoabbaaGreatDoor.Sg
/- A slice of slices of ints of a call's own: asked, marked, asked again; how it is built row by row. -/
namespace Go.Proofs.YtinlnafkmoabbaaGreatDoor.NewII
open Go.RowKit NewI
/-- A row's value. -/
abbrev rowV (g : Nat × Nat) (n : Nat) : Value := .slice (some ⟨g.1, 0, none⟩) n g.2
def ln (xss : List (List Int)) (j : Nat) : Nat := (xss.getD j []).length
/-- The rows' numbers. -/
def org (xss : List (List Int)) (j : Nat) : Nat → Value := zc (xss.getD j [])
/-- A slice in block b whose rows lie in blocks gs, all from lo on and before hi, each in one of its own; row j holds F j. -/
structure Rows (w : World) (lo hi b : Nat) (gs : List (Nat × Nat)) (xss : List (List Int)) (F : Nat → Nat → Value) : Prop where
  len : gs.length = xss.length
  outer : ∀ (j : Nat) (g : Nat × Nat), gs[j]? = some g → w.cell? ⟨b, j, none⟩ = some (rowV g (ln xss j))
  b1 : lo ≤ b ∧ b < hi
  lt : b < w.heap.size
  row : ∀ (j : Nat) (g : Nat × Nat), gs[j]? = some g → lo ≤ g.1 ∧ g.1 < hi ∧ g.1 ≠ b ∧ Cells w g.1 (ln xss j) (F j)
  apart : ∀ (i j : Nat) (g g' : Nat × Nat), gs[i]? = some g → gs[j]? = some g' → i ≠ j → g.1 ≠ g'.1
section
variable {w w' : World} {lo hi b : Nat} {gs : List (Nat × Nat)} {xss : List (List Int)} {F G : Nat → Nat → Value}
theorem Rows.congr (h : Rows w lo hi b gs xss F) (e : ∀ j, F j = G j) : Rows w lo hi b gs xss G := by
  have : F = G := funext e
  rw [← this]; exact h
theorem Rows.on (h : Rows w lo hi b gs xss F) (hb : Below w.heap.size w w') : Rows w' lo hi b gs xss F :=
  ⟨h.len, fun j g hj => by rw [hb.cell h.lt]; exact h.outer j g hj, h.b1, Nat.lt_of_lt_of_le h.lt hb.size, fun j g hj => ⟨(h.row j g hj).1, (h.row j g hj).2.1, (h.row j g hj).2.2.1, (h.row j g hj).2.2.2.on hb⟩, h.apart⟩
theorem Rows.far {lo' hi' : Nat} (h : Rows w lo hi b gs xss F) (ho : Out lo' hi' w w') (hd : hi ≤ lo' ∨ hi' ≤ lo) : Rows w' lo hi b gs xss F := by
  have hb := h.b1
  have hbb := ho.block b h.lt (by omega)
  refine ⟨h.len, fun j g hj => by rw [World.cell?_of_block (a := ⟨b, j, none⟩) hbb]; exact h.outer j g hj, h.b1, Nat.lt_of_lt_of_le h.lt ho.size, fun j g hj => ?_, h.apart⟩
  obtain ⟨h1, h2, h3, h4⟩ := h.row j g hj
  exact ⟨h1, h2, h3, h4.block (ho.block g.1 h4.lt (by omega)) ho.size⟩
end
/-- No rows, or rows. -/
def Lists (w : World) (lo hi : Nat) (a : Option Addr) (xss : List (List Int)) (F : Nat → Nat → Value) : Prop := xss = [] ∨ ∃ b gs, a = some ⟨b, 0, none⟩ ∧ Rows w lo hi b gs xss F
theorem Lists.on {w w' : World} {lo hi : Nat} {a : Option Addr} {xss : List (List Int)} {F : Nat → Nat → Value} (h : Lists w lo hi a xss F) (hb : Below w.heap.size w w') : Lists w' lo hi a xss F := by
  rcases h with h | ⟨b, gs, h1, h2⟩
  · exact .inl h
  · exact .inr ⟨b, gs, h1, h2.on hb⟩
theorem Lists.far {w w' : World} {lo hi lo' hi' : Nat} {a : Option Addr} {xss : List (List Int)} {F : Nat → Nat → Value} (h : Lists w lo hi a xss F) (ho : Out lo' hi' w w') (hd : hi ≤ lo' ∨ hi' ≤ lo) : Lists w' lo hi a xss F := by
  rcases h with h | ⟨b, gs, h1, h2⟩
  · exact .inl h
  · exact .inr ⟨b, gs, h1, h2.far ho hd⟩
theorem Lists.low {w : World} {lo lo' hi : Nat} {a : Option Addr} {xss : List (List Int)} {F : Nat → Nat → Value} (h : Lists w lo hi a xss F) (hl : lo' ≤ lo) : Lists w lo' hi a xss F := by
  rcases h with h | ⟨b, gs, h1, h2⟩
  · exact .inl h
  · exact .inr ⟨b, gs, h1, h2.len, h2.outer, ⟨Nat.le_trans hl h2.b1.1, h2.b1.2⟩, h2.lt, fun j g hj => ⟨Nat.le_trans hl (h2.row j g hj).1, (h2.row j g hj).2⟩, h2.apart⟩
/-- Rows being built: a value that owns them, each in a block of ints ahead of block m, later rows in later blocks. -/
def OwnL (w : World) (B m : Nat) (v : Value) (xss : List (List Int)) : Prop := ∃ gs : List (Nat × Nat), gs.length = xss.length ∧ w.ownsRow B 27 1 v gs.length (List.zipWith (fun g (zs : List Int) => rowV g zs.length) gs xss) ∧
  (∀ (j : Nat) (g : Nat × Nat), gs[j]? = some g → B ≤ g.1 ∧ g.1 < m ∧ (∃ cs, w.heap[g.1]? = some (.cells cs 3)) ∧ Cells w g.1 (ln xss j) (org xss j)) ∧ ∀ (i j : Nat) (g g' : Nat × Nat), gs[i]? = some g → gs[j]? = some g' → i < j → g.1 < g'.1
theorem OwnL.nil (w : World) (B m : Nat) : OwnL w B m (.slice none 0 0) [] := ⟨[], rfl, World.ownsRow_nil _ _ _ _, fun j g h => by simp at h, fun i j g g' h => by simp at h⟩
theorem OwnL.made (w : World) (B m : Nat) (hB : B ≤ w.heap.size) : OwnL (w.alloc (.cells #[] 27)) B m (.slice (some ⟨w.heap.size, 0, none⟩) 0 0) [] :=
  ⟨[], rfl, World.ownsRow_made w #[] 0 hB (by decide) rfl, fun j g h => by simp at h, fun i j g g' h => by simp at h⟩
theorem OwnL.on {w w' : World} {B m : Nat} {v : Value} {xss : List (List Int)} (h : OwnL w B m v xss) (hb : Below w.heap.size w w') : OwnL w' B m v xss := by
  obtain ⟨gs, h1, h2, h3, h4⟩ := h
  refine ⟨gs, h1, World.ownsRow.kept h2 (row := none) ⟨hb.os, hb.tape, hb.output, hb.size, fun k hk _ => hb.block k hk⟩ (by cases v.ownBlock <;> simp), fun j g hj => ?_, h4⟩
  obtain ⟨r1, r0, ⟨cs, r2⟩, r3⟩ := h3 j g hj
  exact ⟨r1, r0, ⟨cs, by rw [hb.block g.1 r3.lt]; exact r2⟩, r3.on hb⟩
/-- The value's own cells alone. -/
theorem OwnL.row {w : World} {B m : Nat} {v : Value} {xss : List (List Int)} (h : OwnL w B m v xss) : ∃ L : List Value, w.ownsRow B 27 1 v xss.length L := by
  obtain ⟨gs, h1, h2, -, -⟩ := h
  rw [h1] at h2
  exact ⟨_, h2⟩
theorem zip_length {gs : List (Nat × Nat)} {xss : List (List Int)} (h : gs.length = xss.length) : (List.zipWith (fun g (zs : List Int) => rowV g zs.length) gs xss).length = gs.length := by
  rw [List.length_zipWith, h]; omega
/-- A finished slice of rows. -/
theorem Lists.of_own {w : World} {B m : Nat} {v : Value} {xss : List (List Int)} (h : OwnL w B m v xss) : ∃ a c, v = .slice a xss.length c ∧ Lists w B w.heap.size a xss (org xss) := by
  obtain ⟨gs, h1, h2, h3, h4⟩ := h
  have hlt := World.ownsRow.lt h2
  have hzl := zip_length h1
  obtain ⟨-, ⟨rfl, h0⟩ | ⟨g, cap, cur, rfl, hB, hh, hr⟩⟩ := id h2
  · have e : xss = [] := List.eq_nil_of_length_eq_zero (by omega)
    subst e
    exact ⟨none, 0, rfl, .inl rfl⟩
  · refine ⟨some ⟨g, 0, none⟩, cap, by rw [h1], .inr ⟨g, gs, rfl, h1, fun j g' hj => ?_, ⟨hB, (hlt g rfl).2⟩, (hlt g rfl).2, fun j g' hj => ?_, fun i j gi gj hi hj hij => ?_⟩⟩
    · have hjl : j < gs.length := (List.getElem?_eq_some_iff.1 hj).1
      have hx : (List.zipWith (fun g (zs : List Int) => rowV g zs.length) gs xss)[j]? = some (rowV g' (ln xss j)) := by
        rw [List.getElem?_zipWith, hj, List.getElem?_eq_getElem (by omega)]
        simp only [Option.some.injEq]
        unfold ln
        rw [List.getD_eq_getElem?_getD, List.getElem?_eq_getElem (by omega)]
        rfl
      have := World.ownsRow.cells h2 (g := g) rfl j _ hx
      rwa [WideShapes.add_plain, Nat.zero_add] at this
    · obtain ⟨r1, -, ⟨cs, r2⟩, r3⟩ := h3 j g' hj
      refine ⟨r1, r3.lt, fun e => ?_, r3⟩
      rw [e, hh] at r2
      injection r2 with r2
      injection r2 with _ ht
      exact absurd ht (by decide)
    · rcases Nat.lt_or_gt_of_ne hij with h | h
      · have := h4 i j gi gj hi hj h; omega
      · have := h4 j i gj gi hj hi h; omega
end Go.Proofs.YtinlnafkmoabbaaGreatDoor.NewII
/- Both sets of a circuit and the inner element, as spec tells them: l5Different, l5Only, l5Split, l5Inner; SplitOf, InnerOf. -/
namespace Go.Proofs.YtinlnafkmoabbaaGreatDoor.Sg
open Go.RowKit Pt NewI
/-- Are all ahead of number k elements, and different? -/
def DifTo (n : Int) (zs : List Int) (k : Nat) : Prop := ∀ i, i < k → (0 ≤ zs.getD i 0 ∧ zs.getD i 0 < n) ∧ ∀ j, j < i → zs.getD i 0 ≠ zs.getD j 0
instance (n : Int) (zs : List Int) (k : Nat) : Decidable (DifTo n zs k) := by unfold DifTo; infer_instance
/-- Are these different elements? -/
def difB (n : Int) (zs : List Int) : Bool := decide (DifTo n zs zs.length)
theorem difB4 {n a b c d : Int} : difB n [a, b, c, d] = true ↔ (0 ≤ a ∧ a < n) ∧ (0 ≤ b ∧ b < n) ∧ (0 ≤ c ∧ c < n) ∧ (0 ≤ d ∧ d < n) ∧ a ≠ b ∧ a ≠ c ∧ a ≠ d ∧ b ≠ c ∧ b ≠ d ∧ c ≠ d := by
  unfold difB
  rw [decide_eq_true_eq]
  constructor
  · intro h
    have h0 := h 0 (by simp)
    have h1 := h 1 (by simp)
    have h2 := h 2 (by simp)
    have h3 := h 3 (by simp)
    have e10 := h1.2 0 (by omega)
    have e20 := h2.2 0 (by omega)
    have e21 := h2.2 1 (by omega)
    have e30 := h3.2 0 (by omega)
    have e31 := h3.2 1 (by omega)
    have e32 := h3.2 2 (by omega)
    have q0 := h0.1
    have q1 := h1.1
    have q2 := h2.1
    have q3 := h3.1
    simp at q0 q1 q2 q3 e10 e20 e21 e30 e31 e32
    exact ⟨q0, q1, q2, q3, fun e => e10 e.symm, fun e => e20 e.symm, fun e => e30 e.symm, fun e => e21 e.symm, fun e => e31 e.symm, fun e => e32 e.symm⟩
  · rintro ⟨h0, h1, h2, h3, n1, n2, n3, n4, n5, n6⟩
    intro i hi
    simp only [List.length_cons, List.length_nil] at hi
    have hi4 : i < 4 := by omega
    rcases (by omega : i = 0 ∨ i = 1 ∨ i = 2 ∨ i = 3) with rfl | rfl | rfl | rfl
    · exact ⟨h0, fun j hj => by omega⟩
    · refine ⟨h1, fun j hj => ?_⟩
      obtain rfl : j = 0 := by omega
      exact fun e => n1 e.symm
    · refine ⟨h2, fun j hj => ?_⟩
      rcases (by omega : j = 0 ∨ j = 1) with rfl | rfl
      · exact fun e => n2 e.symm
      · exact fun e => n4 e.symm
    · refine ⟨h3, fun j hj => ?_⟩
      rcases (by omega : j = 0 ∨ j = 1 ∨ j = 2) with rfl | rfl | rfl
      · exact fun e => n3 e.symm
      · exact fun e => n5 e.symm
      · exact fun e => n6 e.symm
set_option maxHeartbeats 1600000 in
set_option maxRecDepth 100000 in
theorem l5Only_any (m : Int) (w : World) :
    Calls Tryz.prog 174 #[.int .i64 m] w fun e w' => e = .returned (.int .i64 (only m)) ∧ w' = w := by
  have HE : Hid (only m = if (m == 1) = true then 0 else if (m == 2) = true then 1 else if (m == 4) = true then 2 else if (m == 8) = true then 3 else if (m == 16) = true then 4 else if (m == 32) = true then 5 else if (m == 64) = true then 6 else -1) := Lib.hid (by unfold only; simp only [beq_iff_eq])
  rw [HE.out]
  clear HE
  go_enter Tryz.func174, Tryz.ntmps174
  go_wp2
  refine wp_loop_rounds 8 ?_
  rw [rounds_succ]
  cases e0 : (m == 1)
  · go_wp2
    rw [rounds_succ]
    cases e1 : (m == 2)
    · go_wp2
      rw [rounds_succ]
      cases e2 : (m == 4)
      · go_wp2
        rw [rounds_succ]
        cases e3 : (m == 8)
        · go_wp2
          rw [rounds_succ]
          cases e4 : (m == 16)
          · go_wp2
            rw [rounds_succ]
            cases e5 : (m == 32)
            · go_wp2
              rw [rounds_succ]
              cases e6 : (m == 64)
              · go_wp2
                rw [rounds_succ]
                go_wp2
                go_ret
                exact ⟨rfl, rfl⟩
              · go_wp2
                go_ret
                exact ⟨rfl, rfl⟩
            · go_wp2
              go_ret
              exact ⟨rfl, rfl⟩
          · go_wp2
            go_ret
            exact ⟨rfl, rfl⟩
        · go_wp2
          go_ret
          exact ⟨rfl, rfl⟩
      · go_wp2
        go_ret
        exact ⟨rfl, rfl⟩
    · go_wp2
      go_ret
      exact ⟨rfl, rfl⟩
  · go_wp2
    go_ret
    exact ⟨rfl, rfl⟩
set_option maxRecDepth 100000 in
theorem maxI_any (x y : Int) (w : World) :
    Calls Tryz.prog 141 #[.int .i64 x, .int .i64 y] w fun e w' => e = .returned (.int .i64 (max x y)) ∧ w' = w := by
  by_cases h : y < x
  · have HE : Hid (max x y = x) := Lib.hid (by omega)
    go_enter Tryz.func141, Tryz.ntmps141
    go_wp2
    go_ret
    exact ⟨ret_int HE.out.symm, rfl⟩
  · have HE : Hid (max x y = y) := Lib.hid (by omega)
    go_enter Tryz.func141, Tryz.ntmps141
    go_wp2
    go_ret
    exact ⟨ret_int HE.out.symm, rfl⟩
end Go.Proofs.YtinlnafkmoabbaaGreatDoor.Sg
/- Both sets of a circuit and the inner element, as spec tells them: l5Split, l5Inner; SplitOf, InnerOf. -/
namespace Go.Proofs.YtinlnafkmoabbaaGreatDoor.Sg
open Go.RowKit Pt NewI
def sg1 (p : Bool) : Int := if p then 1 else -1
def by1 (p : Bool) : UInt8 := if p then 43 else 45
/-- Both sets of a circuit by its signs. -/
theorem sets4_of (p q r : Bool) (a b c d : Int) : sets4 (1, sg1 p, sg1 q, sg1 r) a b c d = (pw a + (if p then pw b else 0) + (if q then pw c else 0) + (if r then pw d else 0), 0 + (if p then 0 else pw b) + (if q then 0 else pw c) + (if r then 0 else pw d)) := by
  unfold sets4
  have hf : full (1, sg1 p, sg1 q, sg1 r) = true := by cases p <;> cases q <;> cases r <;> rfl
  rw [if_pos hf]
  have h1 : ∀ x : Bool, (sg1 x = 1) = (x = true) := fun x => by cases x <;> simp [sg1]
  simp only [h1, if_true]
theorem cirT_of (p q r : Bool) : cirT (1, sg1 p, sg1 q, sg1 r) = [43, by1 p, by1 q, by1 r] := by cases p <;> cases q <;> cases r <;> rfl
/-- Different elements of signs have a full circuit. -/
theorem full_dif {n a b c d : Nat} {s : List UInt8} (h : arB n s = true) (ha : a < n) (hb : b < n) (hc : c < n) (hd : d < n) (d1 : a ≠ b) (d2 : a ≠ c) (d3 : a ≠ d) (d4 : b ≠ c) (d5 : b ≠ d) (d6 : c ≠ d) : full (cir (sgnF (lookS n s)) a b c d) = true := by
  have s0 := sgn_one h hb hc hd d4 d6 d5
  have s1 := sgn_one h ha hc hd d2 d6 d3
  have s2 := sgn_one h ha hb hd d1 d5 d3
  have s3 := sgn_one h ha hb hc d1 d4 d2
  exact full_iff.2 ⟨by omega, by omega, by omega, by omega⟩
theorem lookS_bd (n : Int) (s : List UInt8) (a b c : Int) : -1 ≤ lookS n s a b c ∧ lookS n s a b c ≤ 1 := by
  unfold lookS
  split
  · exact look_bd _ _ _ _ _
  · omega
/-- The circuit of different elements. -/
theorem cir_form {n a b c d : Nat} {s : List UInt8} (h : arB n s = true) (ha : a < n) (hb : b < n) (hc : c < n) (hd : d < n) (d1 : a ≠ b) (d2 : a ≠ c) (d3 : a ≠ d) (d4 : b ≠ c) (d5 : b ≠ d) (d6 : c ≠ d) :
    ∃ p q r : Bool, cir (sgnF (lookS n s)) a b c d = (1, sg1 p, sg1 q, sg1 r) :=
  full_form (sgnF_bd (lookS_bd n s)) (full_dif h ha hb hc hd d1 d2 d3 d4 d5 d6)
theorem pow_bd {a : Nat} (h : a < 7) : 0 ≤ (2 : Int) ^ a ∧ (2 : Int) ^ a ≤ 64 := by
  rcases (by omega : a = 0 ∨ a = 1 ∨ a = 2 ∨ a = 3 ∨ a = 4 ∨ a = 5 ∨ a = 6) with rfl | rfl | rfl | rfl | rfl | rfl | rfl <;> decide
theorem pw_nat (a : Nat) : pw (a : Int) = (2 : Int) ^ a := by unfold pw; rw [Int.toNat_natCast]; push_cast; rfl
theorem ret_two {x y x' y' : Int} (h : (x', y') = (x, y)) : Ending.returned (.tuple #[.int .i64 x, .int .i64 y]) = Ending.returned (.tuple #[.int .i64 x', .int .i64 y']) := by
  obtain ⟨rfl, rfl⟩ := Prod.mk.inj h
  rfl
/-- The list's four cells, the box and the frame. -/
def S4 (w : World) (n : Int) (s : ByteArray) (g : Nat) (a b c d : Int) (W : World) : Prop := (W.cell? ⟨w.heap.size, 0, none⟩ = some (.int .i64 n) ∧ W.cell? ⟨w.heap.size, 1, none⟩ = some (.string s)) ∧ (W.cell? ⟨g, 0, none⟩ = some (.int .i64 a) ∧ W.cell? ⟨g, 1, none⟩ = some (.int .i64 b) ∧ W.cell? ⟨g, 2, none⟩ = some (.int .i64 c) ∧ W.cell? ⟨g, 3, none⟩ = some (.int .i64 d))
set_option maxHeartbeats 3200000 in
set_option maxRecDepth 100000 in
theorem l5Split_any (n : Nat) (s : ByteArray) (a b c d : Nat) (h : arB n s.data.toList = true) (ha : a < n) (hb : b < n) (hc : c < n) (hd : d < n) (d1 : a ≠ b) (d2 : a ≠ c) (d3 : a ≠ d) (d4 : b ≠ c) (d5 : b ≠ d) (d6 : c ≠ d) (g cp : Nat) (w : World) (hg : Cells w g 4 (zc [(a : Int), (b : Int), (c : Int), (d : Int)])) :
    Calls Tryz.prog 145 #[sg n s, .slice (some ⟨g, 0, none⟩) 4 cp] w fun e w' => e = .returned (.tuple #[.int .i64 (sets4 (cir (sgnF (lookS n s.data.toList)) a b c d) a b c d).1, .int .i64 (sets4 (cir (sgnF (lookS n s.data.toList)) a b c d) a b c d).2]) ∧ Below w.heap.size w w' := by
  obtain ⟨_, h7, -, -⟩ := arB_yes h
  have h7 : n ≤ 7 := by omega
  obtain ⟨p, q, r, hx⟩ := cir_form h ha hb hc hd d1 d2 d3 d4 d5 d6
  have HCI := Lib.hid (fun W => l4Circuit_any n s a b c d h ha hb hc hd d1 d2 d3 d4 d5 d6 W)
  rw [hx, cirT_of] at HCI
  rw [hx, sets4_of, pw_nat, pw_nat, pw_nat, pw_nat]
  have ba := pow_bd (a := a) (by omega)
  have bb := pow_bd (a := b) (by omega)
  have bc := pow_bd (a := c) (by omega)
  have bd := pow_bd (a := d) (by omega)
  obtain ⟨A, hA⟩ : ∃ x, x = (2 : Int) ^ a := ⟨_, rfl⟩
  obtain ⟨B, hB⟩ : ∃ x, x = (2 : Int) ^ b := ⟨_, rfl⟩
  obtain ⟨C, hC⟩ : ∃ x, x = (2 : Int) ^ c := ⟨_, rfl⟩
  obtain ⟨D, hD⟩ : ∃ x, x = (2 : Int) ^ d := ⟨_, rfl⟩
  have wa : IntKind.i64.wrap ((2 : Int) ^ a) = A := by rw [hA]; exact IntWalk.i64_in _ (by omega)
  have wb : IntKind.i64.wrap ((2 : Int) ^ b) = B := by rw [hB]; exact IntWalk.i64_in _ (by omega)
  have wc : IntKind.i64.wrap ((2 : Int) ^ c) = C := by rw [hC]; exact IntWalk.i64_in _ (by omega)
  have wd : IntKind.i64.wrap ((2 : Int) ^ d) = D := by rw [hD]; exact IntWalk.i64_in _ (by omega)
  rw [← hA] at ba; rw [← hB] at bb; rw [← hC] at bc; rw [← hD] at bd
  rw [← hA, ← hB, ← hC, ← hD]
  have HG := Lib.hid hg
  have hgw := hg.lt
  have HS := Lib.hid (box_made w n s 25)
  have HGL : Hid (∀ W, Below w.heap.size w W → W.cell? ⟨g, 0, none⟩ = some (.int .i64 a) ∧ W.cell? ⟨g, 1, none⟩ = some (.int .i64 b) ∧ W.cell? ⟨g, 2, none⟩ = some (.int .i64 c) ∧ W.cell? ⟨g, 3, none⟩ = some (.int .i64 d)) := Lib.hid (fun W hW => by
    have hh := hg.on hW
    exact ⟨hh.cell 0 (by omega), hh.cell 1 (by omega), hh.cell 2 (by omega), hh.cell 3 (by omega)⟩)
  clear h hx hA hB hC hD hg
  obtain ⟨x0, x1, X2⟩ := HS.out
  obtain ⟨y0, y1, y2, y3⟩ := HGL.out _ X2
  have HCC : Hid (∀ W, (W.cell? ⟨w.heap.size, 0, none⟩ = some (.int .i64 n) ∧ W.cell? ⟨w.heap.size, 1, none⟩ = some (.string s) ∧ W.cell? ⟨g, 0, none⟩ = some (.int .i64 a) ∧ W.cell? ⟨g, 1, none⟩ = some (.int .i64 b) ∧ W.cell? ⟨g, 2, none⟩ = some (.int .i64 c) ∧ W.cell? ⟨g, 3, none⟩ = some (.int .i64 d) ∧ Below w.heap.size w W) → Calls Tryz.prog 139 #[sg n s, .int .i64 a, .int .i64 b, .int .i64 c, .int .i64 d] W fun e w' => e = .returned (.string ⟨#[43, by1 p, by1 q, by1 r]⟩) ∧ w'.cell? ⟨w.heap.size, 0, none⟩ = some (.int .i64 n) ∧ w'.cell? ⟨w.heap.size, 1, none⟩ = some (.string s) ∧ w'.cell? ⟨g, 0, none⟩ = some (.int .i64 a) ∧ w'.cell? ⟨g, 1, none⟩ = some (.int .i64 b) ∧ w'.cell? ⟨g, 2, none⟩ = some (.int .i64 c) ∧ w'.cell? ⟨g, 3, none⟩ = some (.int .i64 d) ∧ Below w.heap.size w w') := Lib.hid (fun W hW => (HCI.out W).mono fun e w' ⟨he, hb⟩ => by
      have hbx : Box w n s w' := Box.on ⟨hW.1, hW.2.1, hW.2.2.2.2.2.2⟩ hb
      obtain ⟨k0, k1, k2, k3⟩ := HGL.out _ hbx.2.2
      exact ⟨he, hbx.1, hbx.2.1, k0, k1, k2, k3, hbx.2.2⟩)
  clear HCI
  go_enter Tryz.func145, Tryz.ntmps145
  go_wp2
  go_region_held3 (fun W => W.cell? ⟨w.heap.size, 0, none⟩ = some (.int .i64 n) ∧ W.cell? ⟨w.heap.size, 1, none⟩ = some (.string s) ∧ W.cell? ⟨g, 0, none⟩ = some (.int .i64 a) ∧ W.cell? ⟨g, 1, none⟩ = some (.int .i64 b) ∧ W.cell? ⟨g, 2, none⟩ = some (.int .i64 c) ∧ W.cell? ⟨g, 3, none⟩ = some (.int .i64 d) ∧ Below w.heap.size w W)
    (first | exact ⟨by assumption, by assumption, by assumption, by assumption, by assumption, by assumption, by assumption⟩ | exact ⟨by assumption, by assumption, by assumption, by assumption, by assumption, by assumption, Below.drew (by assumption)⟩)
    (first | (go_at_call 139; refine (HCC.out _ ?_).mono ?_; (first | exact ⟨by assumption, by assumption, by assumption, by assumption, by assumption, by assumption, by assumption⟩ | exact ⟨by assumption, by assumption, by assumption, by assumption, by assumption, by assumption, Below.drew (by assumption)⟩); rintro e' w' ⟨rfl, c1, c2, c3, c4, c5, c6, c7⟩))
  all_goals
    have HB := Lib.hid c7
    clear c1 c2 c7 x0 x1 y0 y1 y2 y3 HG HGL HS HCC X2
    go_wp2
    refine wp_loop_rounds 5 ?_
    rw [rounds_succ]
    go_wp2
    rw [rounds_succ]
    cases p
    · go_wp2
      rw [rounds_succ]
      cases q
      · go_wp2
        rw [rounds_succ]
        cases r
        · go_wp2
          rw [rounds_succ]
          go_wp2
          go_ret2
          exact ⟨ret_two (by simp <;> omega), HB.out⟩
        · go_wp2
          rw [rounds_succ]
          go_wp2
          go_ret2
          exact ⟨ret_two (by simp <;> omega), HB.out⟩
      · go_wp2
        rw [rounds_succ]
        cases r
        · go_wp2
          rw [rounds_succ]
          go_wp2
          go_ret2
          exact ⟨ret_two (by simp <;> omega), HB.out⟩
        · go_wp2
          rw [rounds_succ]
          go_wp2
          go_ret2
          exact ⟨ret_two (by simp <;> omega), HB.out⟩
    · go_wp2
      rw [rounds_succ]
      cases q
      · go_wp2
        rw [rounds_succ]
        cases r
        · go_wp2
          rw [rounds_succ]
          go_wp2
          go_ret2
          exact ⟨ret_two (by simp <;> omega), HB.out⟩
        · go_wp2
          rw [rounds_succ]
          go_wp2
          go_ret2
          exact ⟨ret_two (by simp <;> omega), HB.out⟩
      · go_wp2
        rw [rounds_succ]
        cases r
        · go_wp2
          rw [rounds_succ]
          go_wp2
          go_ret2
          exact ⟨ret_two (by simp <;> omega), HB.out⟩
        · go_wp2
          rw [rounds_succ]
          go_wp2
          go_ret2
          exact ⟨ret_two (by simp <;> omega), HB.out⟩
/-- A slice of four numbers just made. -/
theorem cells4_made (w : World) (a b c d : Int) (t : TypeId) : Cells (w.alloc (.cells #[.int .i64 a, .int .i64 b, .int .i64 c, .int .i64 d] t)) w.heap.size 4 (zc [a, b, c, d]) := by
  obtain ⟨h0, h1, h2, h3⟩ := box4_made w a b c d t
  refine ⟨fun j hj => ?_, fun j => by go_simp, by simp⟩
  rcases (by omega : j = 0 ∨ j = 1 ∨ j = 2 ∨ j = 3) with rfl | rfl | rfl | rfl
  · exact h0
  · exact h1
  · exact h2
  · exact h3
/-- The inner one of different elements, told by spec. -/
theorem inner_max {n a b c d : Nat} {s : List UInt8} (h : arB n s = true) (ha : a < n) (hb : b < n) (hc : c < n) (hd : d < n) (d1 : a ≠ b) (d2 : a ≠ c) (d3 : a ≠ d) (d4 : b ≠ c) (d5 : b ≠ d) (d6 : c ≠ d) :
    max (only (sets4 (cir (sgnF (lookS n s)) a b c d) a b c d).1) (only (sets4 (cir (sgnF (lookS n s)) a b c d) a b c d).2) = inn4 (cir (sgnF (lookS n s)) a b c d) a b c d := by
  obtain ⟨_, h7, -, -⟩ := arB_yes h
  exact max_only (sgnF_bd (lookS_bd n s)) fun _ => ⟨by omega, by omega, by omega, by omega, by omega, by omega, by omega, by omega, by omega, by omega⟩
set_option maxHeartbeats 1600000 in
set_option maxRecDepth 100000 in
theorem l5Inner_any (n : Nat) (s : ByteArray) (a b c d : Nat) (h : arB n s.data.toList = true) (ha : a < n) (hb : b < n) (hc : c < n) (hd : d < n) (d1 : a ≠ b) (d2 : a ≠ c) (d3 : a ≠ d) (d4 : b ≠ c) (d5 : b ≠ d) (d6 : c ≠ d) (g cp : Nat) (w : World) (hg : Cells w g 4 (zc [(a : Int), (b : Int), (c : Int), (d : Int)])) :
    Calls Tryz.prog 148 #[sg n s, .slice (some ⟨g, 0, none⟩) 4 cp] w fun e w' => e = .returned (.int .i64 (inn4 (cir (sgnF (lookS n s.data.toList)) a b c d) a b c d)) ∧ Below w.heap.size w w' := by
  have HI := Lib.hid (inner_max h ha hb hc hd d1 d2 d3 d4 d5 d6)
  have HSP : Hid (∀ W, Below w.heap.size w W → Calls Tryz.prog 145 #[sg n s, .slice (some ⟨g, 0, none⟩) 4 cp] W fun e w' => e = .returned (.tuple #[.int .i64 (sets4 (cir (sgnF (lookS n s.data.toList)) a b c d) a b c d).1, .int .i64 (sets4 (cir (sgnF (lookS n s.data.toList)) a b c d) a b c d).2]) ∧ Below W.heap.size W w') := Lib.hid (fun W hW => l5Split_any n s a b c d h ha hb hc hd d1 d2 d3 d4 d5 d6 g cp W (hg.on hW))
  have HS := Lib.hid (box_made w n s 25)
  rw [← HI.out]
  generalize sets4 (cir (sgnF (lookS n s.data.toList)) a b c d) a b c d = x at HSP ⊢
  obtain ⟨x, y⟩ := x
  clear HI h ha hb hc hd d1 d2 d3 d4 d5 d6 hg
  have HB0 := Lib.hid HS.out.2.2
  go_enter Tryz.func148, Tryz.ntmps148
  go_wp2_with fail
  refine (HSP.out _ HB0.out).mono ?_
  rintro e w1 ⟨rfl, hb1⟩
  have HB1 := Lib.hid (HB0.out.trans (hb1.mono HB0.out.size))
  clear hb1
  go_wp2_with fail
  refine (l5Only_any _ _).mono ?_
  rintro e w' ⟨rfl, rfl⟩
  go_wp2_with fail
  refine (l5Only_any _ _).mono ?_
  rintro e w' ⟨rfl, rfl⟩
  go_wp2_with fail
  refine (maxI_any _ _ _).mono ?_
  rintro e w' ⟨rfl, rfl⟩
  go_wp2
  go_ret
  exact ⟨rfl, HB1.out⟩
/-- A full circuit has different elements. -/
theorem dif_of_full {n : Nat} {s : List UInt8} (h : arB n s = true) {a b c d : Int} (hf : full (cir (sgnF (lookS n s)) a b c d) = true) : difB n [a, b, c, d] = true := by
  obtain ⟨h0, h1, h2, h3⟩ := full_iff.1 hf
  have g0 := Classical.byContradiction fun hb => h0 (sgnF_bad h hb)
  have g1 := Classical.byContradiction fun hb => h1 (sgnF_bad h hb)
  have g2 := Classical.byContradiction fun hb => h2 (sgnF_bad h hb)
  have g3 := Classical.byContradiction fun hb => h3 (sgnF_bad h hb)
  exact difB4.2 ⟨by omega, by omega, by omega, by omega, by omega, by omega, by omega, by omega, by omega, by omega⟩
end Go.Proofs.YtinlnafkmoabbaaGreatDoor.Sg
/- The elements inside a triangle and the empty triangles, as spec tells them: IsInside, l5Inside, CountInside, EmptyTriangles. -/
namespace Go.Proofs.YtinlnafkmoabbaaGreatDoor.Sg
open Go.RowKit Pt NewI
/-- A circuit that is not full has no inner element. -/
theorem isIn_no {x : Int × Int × Int × Int} (h : full x = false) : isIn x = false := by
  cases hi : isIn x
  · rfl
  · exfalso
    obtain ⟨x0, x1, x2, x3⟩ := x
    unfold isIn at hi
    simp only [Bool.and_eq_true, beq_iff_eq] at hi
    obtain ⟨rfl, rfl, rfl, rfl⟩ := hi
    exact absurd h (by decide)
/-- A circuit with an element twice has no inner one. -/
theorem isIn_twice {n : Nat} {s : List UInt8} (h : arB n s = true) {p a b c : Int} (hp : p = a ∨ p = b ∨ p = c) : isIn (cir (sgnF (lookS n s)) p a b c) = false := by
  refine isIn_no ?_
  cases hf : full (cir (sgnF (lookS n s)) p a b c)
  · rfl
  · obtain ⟨-, -, -, -, n1, n2, n3, -⟩ := difB4.1 (dif_of_full h hf)
    omega
set_option maxHeartbeats 3200000 in
set_option maxRecDepth 100000 in
theorem l5Inside_any (n : Nat) (s : ByteArray) (a b c : Nat) (h : arB n s.data.toList = true) (ha : a < n) (hb : b < n) (hc : c < n) (d1 : a ≠ b) (d2 : a ≠ c) (d3 : b ≠ c) (w : World) :
    Calls Tryz.prog 126 #[sg n s, .int .i64 a, .int .i64 b, .int .i64 c] w fun e w' => e = .returned (.int .i64 (cntI (sgnF (lookS n s.data.toList)) a b c n)) ∧ Below w.heap.size w w' := by
  obtain ⟨_, h7, -, -⟩ := arB_yes h
  have h7 : n ≤ 7 := by omega
  have HS := Lib.hid (box_made w n s 25)
  have HTW : Hid (∀ p : Nat, p = a ∨ p = b ∨ p = c → isIn (cir (sgnF (lookS n s.data.toList)) p a b c) = false) := Lib.hid (fun p hp => isIn_twice h (by omega))
  have HIN : Hid (∀ p : Nat, p < n → p ≠ a → p ≠ b → p ≠ c → ∃ y : Int, (y == (p : Int)) = isIn (cir (sgnF (lookS n s.data.toList)) p a b c) ∧ ∀ g W, Cells W g 4 (zc [(p : Int), (a : Int), (b : Int), (c : Int)]) → Calls Tryz.prog 148 #[sg n s, .slice (some ⟨g, 0, none⟩) 4 4] W fun e w' => e = .returned (.int .i64 y) ∧ Below W.heap.size W w') := Lib.hid (fun p hp n1 n2 n3 =>
    ⟨_, inn4_isIn (by omega) (by omega) (by omega) (by omega), fun g W hW => l5Inner_any n s p a b c h hp ha hb hc n1 n2 n3 d1 d2 d3 g 4 W hW⟩)
  have HLE := Lib.hid (cntI_le (sgnF (lookS n s.data.toList)) a b c)
  generalize sgnF (lookS n s.data.toList) = F at HTW HIN HLE ⊢
  clear h
  go_enter Tryz.func126, Tryz.ntmps126
  go_wp2
  go_loopw [9, 10] (fun cv i wr => ∃ p : Nat, p ≤ n ∧ i = .int .i64 p ∧ cv = .int .i64 (cntI F a b c p : Nat) ∧ Hid (Box w n s wr)) (fun _ i _ => n - (intOf i).toNat)
  case atStart => exact ⟨0, Nat.zero_le _, rfl, rfl, HS⟩
  case round =>
    obtain ⟨p, hp, rfl, rfl, HB⟩ := hrel
    have hle := HLE.out p
    obtain ⟨x0, x1, B0⟩ := HB.out
    by_cases hlt : p < n
    · by_cases e1 : p = a
      · have HN := Lib.hid (cntI_miss (p := p) (HTW.out p (.inl e1)))
        have t1 : ((p : Int) != (a : Int)) = false := by simp; omega
        clear e1
        go_wp2
        exact ⟨⟨p + 1, by omega, by go_num, by rw [HN.out], HB⟩, by simp only [intOf]; omega⟩
      · have t1 : ((p : Int) != (a : Int)) = true := by simp; omega
        by_cases e2 : p = b
        · have HN := Lib.hid (cntI_miss (p := p) (HTW.out p (.inr (.inl e2))))
          have t2 : ((p : Int) != (b : Int)) = false := by simp; omega
          clear e1 e2
          go_wp2
          exact ⟨⟨p + 1, by omega, by go_num, by rw [HN.out], HB⟩, by simp only [intOf]; omega⟩
        · have t2 : ((p : Int) != (b : Int)) = true := by simp; omega
          by_cases e3 : p = c
          · have HN := Lib.hid (cntI_miss (p := p) (HTW.out p (.inr (.inr e3))))
            have t3 : ((p : Int) != (c : Int)) = false := by simp; omega
            clear e1 e2 e3
            go_wp2
            exact ⟨⟨p + 1, by omega, by go_num, by rw [HN.out], HB⟩, by simp only [intOf]; omega⟩
          · have t3 : ((p : Int) != (c : Int)) = true := by simp; omega
            obtain ⟨y, hy, hcall⟩ := HIN.out p hlt e1 e2 e3
            have HCALL := Lib.hid hcall
            have G1 := Lib.hid (cells4_made wr p a b c 3)
            have X1 := Lib.hid (HB.out.alloc (.cells #[.int .i64 p, .int .i64 a, .int .i64 b, .int .i64 c] 3))
            clear hcall e1 e2 e3
            cases hin : isIn (cir F p a b c)
            · have HN := Lib.hid (cntI_miss (p := p) hin)
              rw [hin] at hy
              clear hin
              go_wp2_with fail
              refine (HCALL.out _ _ G1.out).mono ?_
              rintro e w2 ⟨rfl, hb2⟩
              have X2 := Lib.hid (X1.out.on hb2)
              clear hb2
              go_wp2
              exact ⟨⟨p + 1, by omega, by go_num, by rw [HN.out], X2⟩, by simp only [intOf]; omega⟩
            · have HN := Lib.hid (cntI_hit (p := p) hin)
              rw [hin] at hy
              clear hin
              go_wp2_with fail
              refine (HCALL.out _ _ G1.out).mono ?_
              rintro e w2 ⟨rfl, hb2⟩
              have X2 := Lib.hid (X1.out.on hb2)
              clear hb2
              go_wp2
              exact ⟨⟨p + 1, by omega, by go_num, by rw [HN.out]; go_num, X2⟩, by simp only [intOf]; omega⟩
    · obtain rfl : p = n := by omega
      go_wp2
      go_ret
      exact ⟨rfl, B0⟩
set_option maxRecDepth 100000 in
theorem l1Bit_any (b : Bool) (w : World) : Calls Tryz.prog 82 #[.bool b] w fun e w' => e = .returned (.int .i64 (bit b)) ∧ w' = w := by
  cases b
  · go_enter Tryz.func82, Tryz.ntmps82
    go_wp2
    go_ret
    exact ⟨rfl, rfl⟩
  · go_enter Tryz.func82, Tryz.ntmps82
    go_wp2
    go_ret
    exact ⟨rfl, rfl⟩
theorem bit_le (b : Bool) : bit b ≤ 1 := by cases b <;> decide
end Go.Proofs.YtinlnafkmoabbaaGreatDoor.Sg
