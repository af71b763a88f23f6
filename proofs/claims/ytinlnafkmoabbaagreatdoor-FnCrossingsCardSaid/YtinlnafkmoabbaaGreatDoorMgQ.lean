/- Several texts in one: RuCirc, RuAc, SgBy, SgOpp, SgOppSpec, Last, SgPick, SgOthers. -/
import Derived.Test.YtinlnafkmoabbaaGreatDoorMgS
import Derived.Shelf.GgClosure.Gives
import Derived.Laws.IdiomStrings
import Derived.Shelf.Abstract
import Derived.Test.YtinlnafkmoabbaaGreatDoorMgP
import Derived.Laws.Strings
import Derived.Test.YtinlnafkmoabbaaGreatDoorProg
import Derived.WalkKit
import Derived.OrdersHeld
import Derived.Deep.RegionHeld
import Derived.Deep.RegionHeld3
/- Circuits: the four signs, as impl's circuitOf tells them over a map. -/
namespace Go.Proofs.YtinlnafkmoabbaaGreatDoor.Sg
open Go.RowKit Pt
abbrev c4V (x : Int × Int × Int × Int) : Value := .agg #[.int .i64 x.1, .int .i64 x.2.1, .int .i64 x.2.2.1, .int .i64 x.2.2.2]
theorem box44_made (w : World) (x y z u : Int) (t : TypeId) : ((w.alloc (.cells #[.int .i64 x, .int .i64 y, .int .i64 z, .int .i64 u] t)).alloc (.cells #[.int .i64 x, .int .i64 y, .int .i64 z, .int .i64 u] t)).cell? ⟨w.heap.size, 0, none⟩ = some (.int .i64 x) ∧ ((w.alloc (.cells #[.int .i64 x, .int .i64 y, .int .i64 z, .int .i64 u] t)).alloc (.cells #[.int .i64 x, .int .i64 y, .int .i64 z, .int .i64 u] t)).cell? ⟨w.heap.size, 1, none⟩ = some (.int .i64 y) ∧ ((w.alloc (.cells #[.int .i64 x, .int .i64 y, .int .i64 z, .int .i64 u] t)).alloc (.cells #[.int .i64 x, .int .i64 y, .int .i64 z, .int .i64 u] t)).cell? ⟨w.heap.size, 2, none⟩ = some (.int .i64 z) ∧ ((w.alloc (.cells #[.int .i64 x, .int .i64 y, .int .i64 z, .int .i64 u] t)).alloc (.cells #[.int .i64 x, .int .i64 y, .int .i64 z, .int .i64 u] t)).cell? ⟨w.heap.size, 3, none⟩ = some (.int .i64 u) := by
  obtain ⟨h0, h1, h2, h3⟩ := box4_made w x y z u t
  refine ⟨?_, ?_, ?_, ?_⟩
  · rw [World.cell?_alloc_lt _ _ _ (by simp)]; exact h0
  · rw [World.cell?_alloc_lt _ _ _ (by simp)]; exact h1
  · rw [World.cell?_alloc_lt _ _ _ (by simp)]; exact h2
  · rw [World.cell?_alloc_lt _ _ _ (by simp)]; exact h3
set_option maxHeartbeats 3200000 in
set_option maxRecDepth 100000 in
theorem circuitOf_any (B : Nat) (f : Int → Int → Int → Int) (a b c d : Int) (ha : -9223372036854775808 ≤ a ∧ a ≤ 9223372036854775807) (hb : -9223372036854775808 ≤ b ∧ b ≤ 9223372036854775807) (hc : -9223372036854775808 ≤ c ∧ c ≤ 9223372036854775807) (hd : -9223372036854775808 ≤ d ∧ d ≤ 9223372036854775807) (w : World) (hm : MapIs w B f) :
    Calls Tryz.prog 144 #[.map (some B), .int .i64 a, .int .i64 b, .int .i64 c, .int .i64 d] w fun e w' => e = .returned (c4V (cir (sgnF f) a b c d)) ∧ Below w.heap.size w w' := by
  have HM0 := Lib.hid hm
  have hbd := fun x y z => sgnF_bd hm.2 x y z
  obtain ⟨v0, h0⟩ : ∃ v, sgnF f b c d = v := ⟨_, rfl⟩
  obtain ⟨v1, h1⟩ : ∃ v, sgnF f a c d = v := ⟨_, rfl⟩
  obtain ⟨v2, h2⟩ : ∃ v, sgnF f a b d = v := ⟨_, rfl⟩
  obtain ⟨v3, h3⟩ : ∃ v, sgnF f a b c = v := ⟨_, rfl⟩
  have b0 := hbd b c d
  have b1 := hbd a c d
  have b2 := hbd a b d
  have b3 := hbd a b c
  rw [h0] at b0; rw [h1] at b1; rw [h2] at b2; rw [h3] at b3
  have m0 := mul_bd b0 b0
  have m1 := mul_bd (x := -v1) (by omega) b0
  have m2 := mul_bd b2 b0
  have m3 := mul_bd (x := -v3) (by omega) b0
  have hE : cir (sgnF f) a b c d = (v0 * v0, -v1 * v0, v2 * v0, -v3 * v0) := by unfold cir; rw [h0, h1, h2, h3]
  rw [hE]
  have HA0 : Hid (∀ W, Below w.heap.size w W → Calls Tryz.prog 146 #[.map (some B), .int .i64 b, .int .i64 c, .int .i64 d] W fun e w' => e = .returned (.int .i64 v0) ∧ W = w') := Lib.hid (fun W hW => by rw [← h0]; exact at_any B f b c d hb hc hd W (HM0.out.on hW))
  have HA1 : Hid (∀ W, Below w.heap.size w W → Calls Tryz.prog 146 #[.map (some B), .int .i64 a, .int .i64 c, .int .i64 d] W fun e w' => e = .returned (.int .i64 v1) ∧ W = w') := Lib.hid (fun W hW => by rw [← h1]; exact at_any B f a c d ha hc hd W (HM0.out.on hW))
  have HA2 : Hid (∀ W, Below w.heap.size w W → Calls Tryz.prog 146 #[.map (some B), .int .i64 a, .int .i64 b, .int .i64 d] W fun e w' => e = .returned (.int .i64 v2) ∧ W = w') := Lib.hid (fun W hW => by rw [← h2]; exact at_any B f a b d ha hb hd W (HM0.out.on hW))
  have HA3 : Hid (∀ W, Below w.heap.size w W → Calls Tryz.prog 146 #[.map (some B), .int .i64 a, .int .i64 b, .int .i64 c] W fun e w' => e = .returned (.int .i64 v3) ∧ W = w') := Lib.hid (fun W hW => by rw [← h3]; exact at_any B f a b c ha hb hc W (HM0.out.on hW))
  have HB := Lib.hid (fun o => (Below.refl w.heap.size w).alloc (Nat.le_refl _) o)
  have HB2 := Lib.hid (fun o o' => ((Below.refl w.heap.size w).alloc (Nat.le_refl _) o).alloc (by simp) o')
  clear hm hbd h0 h1 h2 h3 hE
  go_enter Tryz.func144, Tryz.ntmps144
  go_wp2_with fail
  refine (HA0.out _ (HB.out _)).mono ?_
  rintro e w' ⟨rfl, rfl⟩
  go_wp2_with fail
  refine (HA1.out _ (HB.out _)).mono ?_
  rintro e w' ⟨rfl, rfl⟩
  go_wp2_with fail
  refine (HA2.out _ (HB.out _)).mono ?_
  rintro e w' ⟨rfl, rfl⟩
  go_wp2_with fail
  refine (HA3.out _ (HB.out _)).mono ?_
  rintro e w' ⟨rfl, rfl⟩
  go_wp2
  refine wp_loop_rounds 5 ?_
  rw [rounds_succ]
  go_wp2
  rw [rounds_succ]
  go_wp2
  rw [rounds_succ]
  go_wp2
  rw [rounds_succ]
  go_wp2
  rw [rounds_succ]
  go_wp2
  obtain ⟨k0, k1, k2, k3⟩ := box44_made w (v0 * v0) (-v1 * v0) (v2 * v0) (-v3 * v0) 116
  exact bodyPost_ret (v := .agg #[.int .i64 (v0 * v0), .int .i64 (-v1 * v0), .int .i64 (v2 * v0), .int .i64 (-v3 * v0)]) (by simp [results, Tryz.results144, go_sem, k0, k1, k2, k3]) rfl ⟨rfl, HB2.out _ _⟩
end Go.Proofs.YtinlnafkmoabbaaGreatDoor.Sg
/- Is no circuit of one kind: impl's isAcyclic over a map and a list of fours. -/
namespace Go.Proofs.YtinlnafkmoabbaaGreatDoor.Sg
open Go.RowKit Pt
set_option maxRecDepth 100000 in
theorem eql4 (x0 x1 x2 x3 : Int) (b0 : -1 ≤ x0 ∧ x0 ≤ 1) (b1 : -1 ≤ x1 ∧ x1 ≤ 1) (b2 : -1 ≤ x2 ∧ x2 ≤ 1) (b3 : -1 ≤ x3 ∧ x3 ≤ 1) (W : World) :
    (binOp .eql 116 (.agg #[.int .i64 x0, .int .i64 x1, .int .i64 x2, .int .i64 x3]) (.agg #[.int .i64 1, .int .i64 1, .int .i64 1, .int .i64 1])).run Tryz.prog W = .ok (.bool (x0 == 1 && (x1 == 1 && (x2 == 1 && x3 == 1)))) W := by
  rcases (by omega : x0 = -1 ∨ x0 = 0 ∨ x0 = 1) with rfl | rfl | rfl <;> rcases (by omega : x1 = -1 ∨ x1 = 0 ∨ x1 = 1) with rfl | rfl | rfl <;> rcases (by omega : x2 = -1 ∨ x2 = 0 ∨ x2 = 1) with rfl | rfl | rfl <;> rcases (by omega : x3 = -1 ∨ x3 = 0 ∨ x3 = 1) with rfl | rfl | rfl <;> kernel_rfl
/-- A slice of these fours. -/
def Row4 (w : World) (a : Option Addr) (xs : List T4) : Prop := xs ≠ [] → ∃ g, a = some ⟨g, 0, none⟩ ∧ g < w.heap.size ∧ At4 w g xs
theorem Row4.on {w w' : World} {a : Option Addr} {xs : List T4} (h : Row4 w a xs) (hb : Below w.heap.size w w') : Row4 w' a xs := fun hne => by
  obtain ⟨g, h1, h2, h3⟩ := h hne
  exact ⟨g, h1, Nat.lt_of_lt_of_le h2 hb.size, h3.on hb h2⟩
def NoQ (f : Int → Int → Int → Int) (n p : Nat) : Prop := ∀ q, q < p → ∀ t, (fours n)[q]? = some t → posC f t.1 t.2.1 t.2.2.1 t.2.2.2 = false
theorem noQ_step {f : Int → Int → Int → Int} {n p : Nat} {t : T4} (h : NoQ f n p) (ht : (fours n)[p]? = some t) (hb : posC f t.1 t.2.1 t.2.2.1 t.2.2.2 = false) : NoQ f n (p + 1) := fun q hq u hu => by
  by_cases e : q = p
  · subst e; rw [ht] at hu; obtain rfl := Option.some.inj hu; exact hb
  · exact h q (by omega) u hu
theorem noQ_all {f : Int → Int → Int → Int} {n : Nat} (h : NoQ f n (fours n).length) : acB f n = true := by
  unfold acB
  simp only [List.all_eq_true, Bool.not_eq_true']
  intro t ht
  obtain ⟨q, hq, rfl⟩ := List.getElem_of_mem ht
  exact h q hq _ (List.getElem?_eq_getElem hq)
theorem acB_hit {f : Int → Int → Int → Int} {n : Nat} {t : T4} (ht : t ∈ fours n) (hp : posC f t.1 t.2.1 t.2.2.1 t.2.2.2 = true) : acB f n = false := by
  cases h : acB f n
  · rfl
  · unfold acB at h
    simp only [List.all_eq_true, Bool.not_eq_true'] at h
    rw [h t ht] at hp; cases hp
set_option maxHeartbeats 1600000 in
set_option maxRecDepth 100000 in
theorem isAcyclic_any (B : Nat) (f : Int → Int → Int → Int) (n : Nat) (h7 : n ≤ 7) (fa : Option Addr) (fc : Nat) (w : World) (hm : MapIs w B f) (hr : Row4 w fa (fours n)) :
    Calls Tryz.prog 171 #[.map (some B), .slice fa (fours n).length fc] w fun e w' => e = .returned (.bool (acB (sgnF f) n)) ∧ Below w.heap.size w w' := by
  have hl4 := fours_len h7
  have HR := Lib.hid hr
  have HM := Lib.hid hm
  clear hm hr
  go_enter Tryz.func171, Tryz.ntmps171
  go_wp2
  go_loopw [9] (fun c wr => ∃ p : Nat, p ≤ (fours n).length ∧ c = .int .i64 p ∧ Hid (NoQ (sgnF f) n p) ∧ Hid (Below w.heap.size w wr)) (fun c _ => (fours n).length - (intOf c).toNat)
  case atStart => exact ⟨0, Nat.zero_le _, rfl, Lib.hid (fun q hq => by omega), Lib.hid (Below.refl _ _)⟩
  case round =>
    obtain ⟨p, hp, rfl, HQ, HB⟩ := hrel
    by_cases hltp : p < (fours n).length
    · obtain ⟨t, ht⟩ : ∃ t, (fours n)[p]? = some t := ⟨_, List.getElem?_eq_getElem hltp⟩
      have hne : fours n ≠ [] := fun e0 => by rw [e0] at hltp; simp at hltp
      obtain ⟨g, rfl, hgl, hat4⟩ := HR.out hne
      obtain ⟨x0, x1, x2, x3⟩ := (hat4.on HB.out hgl) p t ht
      obtain ⟨t1, t2, t3, t4⟩ := fours_mem h7 (List.mem_of_getElem? ht)
      have hbs := HB.out.size
      obtain ⟨z0, z1, z2, z3⟩ := box4_made wr t.1 t.2.1 t.2.2.1 t.2.2.2 152
      have HBa := Lib.hid (HB.out.alloc hbs (.cells #[.int .i64 t.1, .int .i64 t.2.1, .int .i64 t.2.2.1, .int .i64 t.2.2.2] 152))
      have hbd := fun x y z => sgnF_bd HM.out.2 x y z
      obtain ⟨c0, c1, c2, c3, hx⟩ : ∃ c0 c1 c2 c3, cir (sgnF f) t.1 t.2.1 t.2.2.1 t.2.2.2 = (c0, c1, c2, c3) := ⟨_, _, _, _, rfl⟩
      have hb4 : (-1 ≤ c0 ∧ c0 ≤ 1) ∧ (-1 ≤ c1 ∧ c1 ≤ 1) ∧ (-1 ≤ c2 ∧ c2 ≤ 1) ∧ -1 ≤ c3 ∧ c3 ≤ 1 := by
        unfold cir at hx
        simp only [Prod.mk.injEq] at hx
        obtain ⟨rfl, rfl, rfl, rfl⟩ := hx
        have n1 := hbd t.1 t.2.2.1 t.2.2.2
        have n3 := hbd t.1 t.2.1 t.2.2.1
        exact ⟨mul_bd (hbd _ _ _) (hbd _ _ _), mul_bd (by omega) (hbd _ _ _), mul_bd (hbd _ _ _) (hbd _ _ _), mul_bd (by omega) (hbd _ _ _)⟩
      have HCC : Hid (∀ W, Below w.heap.size w W → Calls Tryz.prog 144 #[.map (some B), .int .i64 t.1, .int .i64 t.2.1, .int .i64 t.2.2.1, .int .i64 t.2.2.2] W fun e w' => e = .returned (.agg #[.int .i64 c0, .int .i64 c1, .int .i64 c2, .int .i64 c3]) ∧ Below W.heap.size W w') := Lib.hid (fun W hW => by
        have := circuitOf_any B f t.1 t.2.1 t.2.2.1 t.2.2.2 (by omega) (by omega) (by omega) (by omega) W (HM.out.on hW)
        rw [hx] at this
        exact this)
      have hpos : posC (sgnF f) t.1 t.2.1 t.2.2.1 t.2.2.2 = (c0 == 1 && (c1 == 1 && (c2 == 1 && c3 == 1))) := by unfold posC; rw [hx]
      have heq := fun W => eql4 c0 c1 c2 c3 hb4.1 hb4.2.1 hb4.2.2.1 hb4.2.2.2 W
      rw [← hpos] at heq
      clear hx hbd hb4 hat4 hpos
      cases hpc : posC (sgnF f) t.1 t.2.1 t.2.2.1 t.2.2.2
      · have HQ2 := Lib.hid (noQ_step HQ.out ht hpc)
        rw [hpc] at heq
        clear hpc ht
        go_wp2_with fail
        refine (HCC.out _ HBa.out).mono ?_
        rintro e w5 ⟨rfl, hb5⟩
        have HB5 := Lib.hid (HBa.out.trans (hb5.mono HBa.out.size))
        go_wp2
        exact ⟨⟨p + 1, by omega, by go_num, HQ2, HB5⟩, by simp only [intOf]; omega⟩
      · have HF := Lib.hid (acB_hit (List.mem_of_getElem? ht) hpc)
        rw [hpc] at heq
        clear hpc ht
        go_wp2_with fail
        refine (HCC.out _ HBa.out).mono ?_
        rintro e w5 ⟨rfl, hb5⟩
        have HB5 := Lib.hid (HBa.out.trans (hb5.mono HBa.out.size))
        go_wp2
        go_ret
        exact ⟨ret_bool HF.out.symm, HB5.out⟩
    · obtain rfl : p = (fours n).length := by omega
      have HF := Lib.hid (noQ_all HQ.out)
      go_wp2
      go_ret
      exact ⟨ret_bool HF.out.symm, HB.out⟩
end Go.Proofs.YtinlnafkmoabbaaGreatDoor.Sg
/- impl.signsBy: the signs that a function tells of each three. -/
namespace Go.Proofs.YtinlnafkmoabbaaGreatDoor.Sg
open Go.RowKit Pt
/-- The text of the signs f of n elements. -/
def text3 (n : Nat) (f : Nat → Nat → Nat → Int) : List UInt8 := (threes n).map fun t => byteOf (f t.1 t.2.1 t.2.2)
theorem text3_length {n : Nat} (h7 : n ≤ 7) (f : Nat → Nat → Nat → Int) : (text3 n f).length = cnt n := by unfold text3; rw [List.length_map, threes_length h7]
/-- The result's block: still as it was made. -/
def ResC (w0 W : World) : Prop := (W.cell? ⟨w0.heap.size, 0, none⟩ = some (.int .i64 0) ∧ W.cell? ⟨w0.heap.size, 1, none⟩ = some (.string ⟨#[]⟩)) ∧ (W.frozen? ⟨w0.heap.size, 0, none⟩ = false ∧ W.frozen? ⟨w0.heap.size, 1, none⟩ = false) ∧ Below w0.heap.size w0 W
theorem resC_made (w : World) (t : TypeId) : ResC w (w.alloc (.cells #[.int .i64 0, .string ⟨#[]⟩] t)) := by
  refine ⟨⟨?_, ?_⟩, ⟨?_, ?_⟩, (Below.refl _ _).alloc (Nat.le_refl _) _⟩
  all_goals go_simp
theorem ResC.lt {w0 W : World} (h : ResC w0 W) : w0.heap.size < W.heap.size := Kit.cell_lt h.1.1
theorem ResC.on' {w0 W W' : World} {B : Nat} (h : ResC w0 W) (hb : Below B W W') (hl : w0.heap.size < B) (_hs : B ≤ W.heap.size) : ResC w0 W' := by
  obtain ⟨⟨h1, h2⟩, ⟨h3, h4⟩, h5⟩ := h
  exact ⟨⟨by rw [hb.cell hl]; exact h1, by rw [hb.cell hl]; exact h2⟩, ⟨by rw [hb.frozen hl]; exact h3, by rw [hb.frozen hl]; exact h4⟩, h5.trans (hb.mono (by omega))⟩
theorem ResC.on {w0 W W' : World} (h : ResC w0 W) (hb : Below W.heap.size W W') : ResC w0 W' := h.on' hb h.lt (Nat.le_refl _)
theorem ResC.alloc {w0 W : World} (h : ResC w0 W) (o : Obj) : ResC w0 (W.alloc o) := h.on ((Below.refl _ _).alloc (Nat.le_refl _) o)
theorem ret_sg {w1 : World} {B : Nat} {x0 y0 : Value} (e0 : w1.cell? ⟨B, 0, none⟩ = some x0) (e1 : w1.cell? ⟨B, 1, none⟩ = some y0) (x y : Value) :
    ((w1.setCell ⟨B, 0, none⟩ x).setCell ⟨B, 1, none⟩ y).cell? ⟨B, 0, none⟩ = some x ∧ ((w1.setCell ⟨B, 0, none⟩ x).setCell ⟨B, 1, none⟩ y).cell? ⟨B, 1, none⟩ = some y := by
  constructor
  · rw [World.cell?_setCell_other _ _ _ _ (by simp)]; exact World.cell?_setCell_same _ _ _ e0
  · exact World.cell?_setCell_same _ _ _ (by rw [World.cell?_setCell_other _ _ _ _ (by simp)]; exact e1)
end Go.Proofs.YtinlnafkmoabbaaGreatDoor.Sg
/- OppositeSigns, as impl answers it. -/
namespace Go.Proofs.YtinlnafkmoabbaaGreatDoor.Sg
open Go.RowKit Pt
theorem srt_asc {i j k : Int} (h1 : i < j) (h2 : j < k) : srt i j k = (i, j, k, 1) := by
  unfold srt
  have a : ¬ j < i := by omega
  have b : ¬ k < j := by omega
  simp [a, b]
theorem ret_v {a b : Value} (h : a = b) : Ending.returned a = .returned b := by rw [h]
end Go.Proofs.YtinlnafkmoabbaaGreatDoor.Sg
/- OppositeSigns, as spec answers it; the law. -/
namespace Go.Proofs.YtinlnafkmoabbaaGreatDoor.Sg
open Go.RowKit Pt
set_option maxRecDepth 100000 in
theorem l3Byte_any (x : Int) (w : World) : Calls Tryz.prog 161 #[.int .i64 x] w fun e w' => e = .returned (.string ⟨#[byteOf x]⟩) ∧ w' = w := by
  by_cases h : 0 < x
  · have HE : Hid (byteOf x = 43) := Lib.hid (if_pos h)
    go_enter Tryz.func161, Tryz.ntmps161
    go_wp2
    go_ret
    exact ⟨by rw [HE.out]; rfl, rfl⟩
  · have HE : Hid (byteOf x = 45) := Lib.hid (if_neg h)
    go_enter Tryz.func161, Tryz.ntmps161
    go_wp2
    go_ret
    exact ⟨by rw [HE.out]; rfl, rfl⟩
def bitI (b : Bool) : Int := if b = true then 1 else 0
theorem bit_any (b : Bool) (w : World) : Calls Tryz.prog 82 #[.bool b] w fun e w' => e = .returned (.int .i64 (bitI b)) ∧ w' = w := by
  cases b
  · exact (bit_no w).mono fun _ _ ⟨h, e⟩ => ⟨h, e.symm⟩
  · exact (bit_yes w).mono fun _ _ ⟨h, e⟩ => ⟨h, e.symm⟩
/-- Signs in the making, in block Bo. -/
def OutC (Bo : Nat) (n : Int) (x : ByteArray) (W : World) : Prop := (W.cell? ⟨Bo, 0, none⟩ = some (.int .i64 n) ∧ W.cell? ⟨Bo, 1, none⟩ = some (.string x)) ∧ (W.frozen? ⟨Bo, 0, none⟩ = false ∧ W.frozen? ⟨Bo, 1, none⟩ = false)
theorem outC_made (w : World) (n : Int) (x : ByteArray) (t : TypeId) : OutC w.heap.size n x (w.alloc (.cells #[.int .i64 n, .string x] t)) := by
  refine ⟨⟨?_, ?_⟩, ⟨?_, ?_⟩⟩
  all_goals go_simp
theorem OutC.set {Bo : Nat} {n : Int} {x : ByteArray} {W : World} (h : OutC Bo n x W) (y : ByteArray) : OutC Bo n y (W.setCell ⟨Bo, 1, none⟩ (.string y)) := by
  obtain ⟨⟨h1, h2⟩, ⟨h3, h4⟩⟩ := h
  exact ⟨⟨by rw [World.cell?_setCell_other _ _ _ _ (by simp)]; exact h1, World.cell?_setCell_same _ _ _ h2⟩, ⟨by rw [World.frozen?_setCell]; exact h3, by rw [World.frozen?_setCell]; exact h4⟩⟩
theorem OutC.on {Bo : Nat} {n : Int} {x : ByteArray} {W W' : World} (h : OutC Bo n x W) (hb : Below W.heap.size W W') : OutC Bo n x W' := by
  obtain ⟨⟨h1, h2⟩, ⟨h3, h4⟩⟩ := h
  have hl : Bo < W.heap.size := Kit.cell_lt h1
  exact ⟨⟨by rw [hb.cell hl]; exact h1, by rw [hb.cell hl]; exact h2⟩, ⟨by rw [hb.frozen hl]; exact h3, by rw [hb.frozen hl]; exact h4⟩⟩
theorem Box.on' {w0 : World} {n : Int} {s : ByteArray} {w w' : World} {B : Nat} (h : Box w0 n s w) (hb : Below B w w') (hl : w0.heap.size < B) (_hs : B ≤ w.heap.size) : Box w0 n s w' :=
  ⟨by rw [hb.cell hl]; exact h.1, by rw [hb.cell hl]; exact h.2.1, h.2.2.trans (hb.mono (by omega))⟩
theorem bytes_snoc (l : List UInt8) (b : UInt8) : (⟨l.toArray⟩ : ByteArray) ++ ⟨#[b]⟩ = ⟨(l ++ [b]).toArray⟩ := by
  apply ByteArray.ext
  rw [ByteArray.data_append]
  simp
end Go.Proofs.YtinlnafkmoabbaaGreatDoor.Sg
/- A region that draws its order and ends by one operation that waits for all others (a store into a cell that the region reads): all but the last under a condition on the world, then the last. -/
namespace Go.Proofs.YtinlnafkmoabbaaGreatDoor.Last
open Go
section
variable {P : Program} {Q : Exit → Act → World → Prop}
/-- What is asked behind all operations but the last: the last one. -/
def lastQ (P : Program) (ops : Array Oper) (o : Oper) (Q : Exit → Act → World → Prop) : Exit → Act → World → Prop
  | .normal, a, w => wpList P ops Q [o] a w
  | .panic c, a, w => Q (.panic c) a w
  | .outgrown, a, w => Q .outgrown a w
  | _, _, _ => False
/-- Each operation waits for, and is guarded by, earlier ones alone. -/
def edgesB : Nat → List Oper → Bool
  | _, [] => true
  | k, o :: r => o.after.all (fun e => decide (e.on < k)) && (match o.guard with | some (g, _) => decide (g < k) | none => true) && edgesB (k + 1) r
def lastB (l : List Oper) (o : Oper) : Bool :=
  edgesB 0 l && o.after.all (fun e => decide (e.on < l.length)) && (List.range l.length).all (fun i => o.after.any fun e => Region.binds .any e && e.on == i)
theorem edges_spec : ∀ (l : List Oper) (k : Nat), edgesB k l = true → ∀ (i : Nat) (o : Oper), l[i]? = some o → (∀ e ∈ o.after, e.on < k + i) ∧ ∀ g b, o.guard = some (g, b) → g < k + i
  | [], _, _, i, o, h => by simp at h
  | x :: r, k, hB, 0, o, h => by
    simp only [List.getElem?_cons_zero, Option.some.injEq] at h
    subst h
    simp only [edgesB, Bool.and_eq_true, Array.all_eq_true_iff_forall_mem, decide_eq_true_eq] at hB
    refine ⟨hB.1.1, fun g b hg => ?_⟩
    have h2 := hB.1.2
    rw [hg] at h2
    simpa using h2
  | x :: r, k, hB, i + 1, o, h => by
    simp only [edgesB, Bool.and_eq_true] at hB
    have := edges_spec r (k + 1) hB.2 i o (by simpa using h)
    rw [show k + (i + 1) = k + 1 + i by omega]
    exact this
theorem get_l {l : List Oper} {o : Oper} {i : Nat} (h : i < l.length) : (l ++ [o]).toArray[i]? = l.toArray[i]? := by
  simp [List.getElem?_append_left h]
theorem get_o {l : List Oper} {o : Oper} : (l ++ [o]).toArray[l.length]? = some o := by simp
theorem wanted_same {l : List Oper} {o o' : Oper} (h : ∀ g b, o'.guard = some (g, b) → g < l.length) (t : Array Value) : Region.wanted o' (yielded (l ++ [o]).toArray t) = Region.wanted o' (yielded l.toArray t) := by
  unfold Region.wanted
  cases hg : o'.guard with
  | none => rfl
  | some q =>
    obtain ⟨g, b⟩ := q
    have := h g b hg
    simp only [yielded, get_l this]
theorem upon_last (o' : Oper) (a : Act) (K : Act → World → Prop) (ops : Array Oper) (o : Oper) (r : Result Next) : o'.upon P a K (lastQ P ops o Q) r = o'.upon P a K Q r := by
  cases r with
  | ok n w => cases n <;> rfl
  | halt x w => cases x <;> rfl
theorem wpOp_last {l : List Oper} {o : Oper} {i : Nat} (hi : i < l.length) (hg : ∀ o', l[i]? = some o' → ∀ g b, o'.guard = some (g, b) → g < l.length) {K K' : Act → World → Prop} (hK : ∀ a w, K a w → K' a w) {a : Act} {w : World}
    (h : wpOp P l.toArray (lastQ P (l ++ [o]).toArray o Q) i K a w) : wpOp P (l ++ [o]).toArray Q i K' a w := by
  refine wpOp_mono hK ?_
  unfold wpOp at *
  rw [get_l hi]
  cases ho : l.toArray[i]? with
  | none => rw [ho] at h; exact h
  | some o' =>
    rw [ho] at h
    simp only [] at h ⊢
    rw [wanted_same (hg o' (by simpa using ho))]
    split
    · rename_i hw
      rw [if_pos hw] at h
      unfold Oper.wp at *
      rw [upon_last] at h
      exact h
    · rename_i hw
      rw [if_neg hw] at h
      exact h
theorem getD_push {listed : Array Bool} {i : Nat} (d : Bool) (h : i < listed.size) : (listed.push false).getD i d = listed.getD i d := by
  simp [Array.getD_eq_getD_getElem?, Array.getElem?_push, show i ≠ listed.size by omega]
theorem all_listed {l : List Oper} (hE : edgesB 0 l = true) {listed : Array Bool} (hs : listed.size = l.length) (hr : Region.ready .any l.toArray listed = []) : ∀ i, i < l.length → listed.getD i false = true := by
  intro i
  induction i using Nat.strongRecOn with
  | ind i ih =>
    intro hi
    cases hl : listed.getD i false with
    | true => rfl
    | false =>
      have hl2 : listed.getD i true = false := by
        rw [Array.getD_eq_getD_getElem?] at hl ⊢
        rw [Array.getElem?_eq_getElem (by omega)] at hl ⊢
        simpa using hl
      have ho := List.getElem?_eq_getElem hi
      obtain ⟨h1, -⟩ := edges_spec l 0 hE i _ ho
      have : i ∈ Region.ready .any l.toArray listed := mem_ready.2 ⟨hl2, l[i], by rw [List.getElem?_toArray]; exact ho, fun e he _ => ih e.on (by have := h1 e he; omega) (by have := h1 e he; omega)⟩
      rw [hr] at this
      cases this
theorem any_last {l : List Oper} {o : Oper} (hB : lastB l o = true) :
    ∀ (fuel : Nat) (listed : Array Bool) (a : Act) (w : World), listed.size = l.length → wpAny P .any l.toArray (lastQ P (l ++ [o]).toArray o Q) fuel listed a w → wpAny P .any (l ++ [o]).toArray Q (fuel + 1) (listed.push false) a w := by
  simp only [lastB, Bool.and_eq_true, Array.all_eq_true_iff_forall_mem, decide_eq_true_eq, List.all_eq_true, List.mem_range, Array.any_eq_true', beq_iff_eq] at hB
  obtain ⟨⟨hE, hO⟩, hW⟩ := hB
  have hgd : ∀ (i : Nat) (o' : Oper), l[i]? = some o' → ∀ g b, o'.guard = some (g, b) → g < l.length := fun i o' h g b hg => by
    have := (edges_spec l 0 hE i o' h).2 g b hg
    have := (List.getElem?_eq_some_iff.1 h).1
    omega
  -- where all but the last are listed
  have fin : ∀ (fuel : Nat) (listed : Array Bool) (a : Act) (w : World), listed.size = l.length → (∀ i, i < l.length → listed.getD i false = true) → wpList P (l ++ [o]).toArray Q [o] a w → wpAny P .any (l ++ [o]).toArray Q (fuel + 1) (listed.push false) a w := by
    intro fuel listed a w hs hall h
    have hmem : ∀ j, j ∈ Region.ready .any (l ++ [o]).toArray (listed.push false) → j = l.length := fun j hj => by
      obtain ⟨h1, o', ho', -⟩ := mem_ready.1 hj
      have hj2 : j < l.length + 1 := by have := (Array.getElem?_eq_some_iff.1 ho').1; simpa using this
      rcases Nat.lt_or_ge j l.length with h2 | h2
      · have := hall j h2
        rw [getD_push _ (by omega)] at h1
        rw [Array.getD_eq_getD_getElem?, Array.getElem?_eq_getElem (by omega)] at this h1
        simp at this h1
        rw [this] at h1
        cases h1
      · omega
    have hin : l.length ∈ Region.ready .any (l ++ [o]).toArray (listed.push false) := mem_ready.2 ⟨by rw [Array.getD_eq_getD_getElem?, ← hs, Array.getElem?_push_size]; rfl, o, get_o, fun e he _ => by rw [getD_push _ (by have := hO e he; omega)]; exact hall _ (hO e he)⟩
    have hdone : Region.ready .any (l ++ [o]).toArray ((listed.push false).setIfInBounds l.length true) = [] := by
      refine List.eq_nil_iff_forall_not_mem.2 fun j hj => ?_
      obtain ⟨h1, o', ho', -⟩ := mem_ready.1 hj
      have hj2 : j < l.length + 1 := by have := (Array.getElem?_eq_some_iff.1 ho').1; simpa using this
      rcases Nat.lt_or_ge j l.length with h2 | h2
      · rw [getD_set_ne true (by omega), getD_push _ (by omega)] at h1
        have := hall j h2
        rw [Array.getD_eq_getD_getElem?, Array.getElem?_eq_getElem (by omega)] at this h1
        simp at this h1
        rw [this] at h1
        cases h1
      · obtain rfl : j = l.length := by omega
        rw [Array.getD_eq_getD_getElem?, Array.getElem?_setIfInBounds] at h1
        simp [hs] at h1
    refine ⟨fun h0 => by rw [h0] at hin; (cases hin), fun i hi => ?_⟩
    obtain rfl := hmem i hi
    have hend : ∀ a w, Q .normal a w → wpAny P .any (l ++ [o]).toArray Q fuel ((listed.push false).setIfInBounds l.length true) a w := fun a w hq => by
      cases fuel with
      | zero => exact ⟨hdone, hq⟩
      | succ f => exact ⟨fun _ => hq, fun j hj => by rw [hdone] at hj; cases hj⟩
    refine wpOp_mono hend ?_
    unfold wpOp
    rw [get_o]
    exact h
  intro fuel
  induction fuel with
  | zero =>
    intro listed a w hs h
    exact fin 0 listed a w hs (all_listed hE hs h.1) h.2
  | succ fuel ih =>
    intro listed a w hs h
    by_cases hr : Region.ready .any l.toArray listed = []
    · exact fin (fuel + 1) listed a w hs (all_listed hE hs hr) (h.1 hr)
    · obtain ⟨i0, hi0⟩ : ∃ i0, i0 ∈ Region.ready .any l.toArray listed := List.exists_mem_of_ne_nil _ hr
      obtain ⟨u0, oi, hoi, w0⟩ := mem_ready.1 hi0
      have hl0 : i0 < l.length := by have := (Array.getElem?_eq_some_iff.1 hoi).1; simpa using this
      have key : ∀ j, j ∈ Region.ready .any (l ++ [o]).toArray (listed.push false) → j < l.length ∧ j ∈ Region.ready .any l.toArray listed := fun j hj => by
        obtain ⟨h1, o', ho', h2⟩ := mem_ready.1 hj
        have hj2 : j < l.length + 1 := by have := (Array.getElem?_eq_some_iff.1 ho').1; simpa using this
        rcases Nat.lt_or_ge j l.length with h3 | h3
        · refine ⟨h3, mem_ready.2 ⟨by rw [getD_push _ (by omega)] at h1; exact h1, o', by rw [get_l h3] at ho'; exact ho', fun e he hb => ?_⟩⟩
          have hlt : e.on < l.length := by have := (edges_spec l 0 hE j o' (by rw [get_l h3] at ho'; simpa using ho')).1 e he; omega
          have := h2 e he hb
          rw [getD_push _ (by omega)] at this
          exact this
        · obtain rfl : j = l.length := by omega
          rw [get_o] at ho'
          obtain rfl := Option.some.inj ho'
          obtain ⟨e, he, hb, hon⟩ := hW i0 hl0
          have := h2 e he hb
          rw [hon, getD_push _ (by omega)] at this
          rw [Array.getD_eq_getD_getElem?, Array.getElem?_eq_getElem (by omega)] at this u0
          simp at this u0
          rw [this] at u0
          cases u0
      have hi0L : i0 ∈ Region.ready .any (l ++ [o]).toArray (listed.push false) := mem_ready.2 ⟨by rw [getD_push _ (by omega)]; exact u0, oi, by rw [get_l hl0]; exact hoi, fun e he hb => by
        have hlt : e.on < l.length := by have := (edges_spec l 0 hE i0 oi (by simpa using hoi)).1 e he; omega
        rw [getD_push _ (by omega)]
        exact w0 e he hb⟩
      refine ⟨fun h0 => by rw [h0] at hi0L; (cases hi0L), fun i hi => ?_⟩
      obtain ⟨hil, hir⟩ := key i hi
      refine wpOp_last hil (fun o' ho' => hgd i o' ho') (fun a' w' h' => ?_) (h.2 i hir)
      have := ih (listed.setIfInBounds i true) a' w' (by simpa using hs) h'
      have e : (listed.setIfInBounds i true).push false = (listed.push false).setIfInBounds i true := by
        apply Array.toList_inj.1
        rw [Array.toList_push, Array.toList_setIfInBounds, Array.toList_setIfInBounds, Array.toList_push, List.set_append_left _ _ (by simp; omega)]
      rw [← e]
      exact this
/-- The beginning: all but the last under S, then the last. -/
theorem wp_region_last {S : World → Prop} {id : Nat} {a : Act} {w : World} (l : List Oper) (o : Oper) (hm : P.follows .mixedOrders = true) (hB : lastB l o = true) (hS : S w.drew)
    (h : S w.drew → wpAnyH P .any l.toArray (lastQ P (l ++ [o]).toArray o Q) S l.toArray.size (Array.replicate l.toArray.size false) a w.drew) : (Code.region id (l ++ [o]).toArray true).wp P Q a w := by
  refine wp_region_any hm ?_
  have h1 := any_last hB l.toArray.size (Array.replicate l.toArray.size false) a w.drew (by simp) (wpAny_of_held _ _ _ _ (h hS))
  have e1 : (l ++ [o]).toArray.size = l.toArray.size + 1 := by simp
  have e2 : Array.replicate (l.toArray.size + 1) false = (Array.replicate l.toArray.size false).push false := by
    rw [Array.replicate_succ]
  rw [e1, e2]
  exact h1
theorem wp_region_last' {S : World → Prop} {id : Nat} {a : Act} {w : World} {l : List Oper} (n : Nat) (o : Oper) (hl : l.drop n = [o]) (hn : (l.take n).length = n) (hm : P.follows .mixedOrders = true) (hB : lastB (l.take n) o = true) (hS : S w.drew)
    (h : S w.drew → wpAnyH P .any (l.take n).toArray (lastQ P l.toArray o Q) S n (Array.replicate n false) a w.drew) : (Code.region id l.toArray true).wp P Q a w := by
  have e : l = l.take n ++ [o] := by rw [← hl]; exact (List.take_append_drop n l).symm
  have h2 := wp_region_last (P := P) (Q := Q) (S := S) (id := id) (a := a) (w := w) (l.take n) o hm hB hS (by
    rw [← e]
    have hz : (l.take n).toArray.size = n := by simpa using hn
    rw [hz]
    exact h)
  rwa [← e] at h2
end
end Go.Proofs.YtinlnafkmoabbaaGreatDoor.Last
/- The signs of some elements: spec.l3Pick. -/
namespace Go.Proofs.YtinlnafkmoabbaaGreatDoor.Sg
open Go.RowKit Pt
/-- The cells of a slice of small numbers. -/
def IntsAt (w : World) (b : Nat) (es : List Nat) : Prop := ∀ (j x : Nat), es[j]? = some x → w.cell? ⟨b, j, none⟩ = some (.int .i64 x)
theorem IntsAt.on {w w' : World} {B b : Nat} {es : List Nat} (h : IntsAt w b es) (hb : Below B w w') (hB : b < B) : IntsAt w' b es := fun j x hx => by rw [hb.cell hB]; exact h j x hx
theorem IntsAt.get {w : World} {b : Nat} {es : List Nat} (h : IntsAt w b es) {i : Nat} (hi : i < es.length) : w.cell? ⟨b, i, none⟩ = some (.int .i64 es[i]) := h i _ (List.getElem?_eq_getElem hi)
def textTo (n : Nat) (f : Nat → Nat → Nat → Int) (i j k : Nat) : List UInt8 := (upto n i j k).map fun t => byteOf (f t.1 t.2.1 t.2.2)
theorem textTo_le {n : Nat} (h7 : n ≤ 7) (f : Nat → Nat → Nat → Int) (i j k : Nat) : (textTo n f i j k).length ≤ 35 := by
  unfold textTo
  rw [List.length_map]
  exact Nat.le_trans (upto_length n i j k) (by rw [threes_length h7]; exact cnt_le h7)
theorem textTo_zero {n : Nat} (h7 : n ≤ 7) (f : Nat → Nat → Nat → Int) : textTo n f 0 (0 + 1) (0 + 2) = [] := by unfold textTo; rw [upto_zero n (by omega)]; rfl
theorem textTo_step {n i j k : Nat} (h7 : n ≤ 7) (f : Nat → Nat → Nat → Int) (h1 : i < j) (h2 : j < k) (h3 : k < n) : textTo n f i j (k + 1) = textTo n f i j k ++ [byteOf (f i j k)] := by
  unfold textTo
  rw [upto_step h7 h1 h2 h3, List.map_append]; rfl
theorem textTo_inner {n i j : Nat} (h7 : n ≤ 7) (f : Nat → Nat → Nat → Int) (h1 : i < j) (h2 : j < n) : textTo n f i j n = textTo n f i (j + 1) (j + 1 + 1) := by unfold textTo; rw [upto_inner h7 h1 h2]
theorem textTo_mid {n i : Nat} (h7 : n ≤ 7) (f : Nat → Nat → Nat → Int) (h1 : i < n) : textTo n f i n (n + 1) = textTo n f (i + 1) (i + 1 + 1) (i + 1 + 2) := by unfold textTo; rw [upto_mid h7 h1]
theorem textTo_end {n : Nat} (h7 : n ≤ 7) (f : Nat → Nat → Nat → Int) : textTo n f n (n + 1) (n + 2) = text3 n f := by unfold textTo text3; rw [upto_end h7]
/-- The loops' memory: the text so far in block Bo; below Bo nothing has changed. -/
def PickSt (Bo : Nat) (w1 : World) (m : Nat) (L : List UInt8) (wr : World) : Prop := OutC Bo m ⟨L.toArray⟩ wr ∧ Below Bo w1 wr
theorem PickSt.store {Bo : Nat} {w1 : World} {m : Nat} {L : List UInt8} {wr W : World} (h : PickSt Bo w1 m L wr) (hb : Below wr.heap.size wr W) (b : UInt8) : PickSt Bo w1 m (L ++ [b]) (W.setCell ⟨Bo, 1, none⟩ (.string (⟨L.toArray⟩ ++ ⟨#[b]⟩))) := by
  have hl : Bo < wr.heap.size := Kit.cell_lt h.1.1.1
  rw [bytes_snoc]
  exact ⟨(h.1.on hb).set _, (h.2.trans (hb.mono (by omega))).setCell (p := ⟨Bo, 1, none⟩) (Nat.le_refl _) _⟩
end Go.Proofs.YtinlnafkmoabbaaGreatDoor.Sg
/- The elements other than one, in memory of the call's own (spec.l3Others); what a function that hands back signs and a bool keeps in sight. -/
namespace Go.Proofs.YtinlnafkmoabbaaGreatDoor.Sg
open Go.RowKit Pt
/-- A value that owns just these small numbers. -/
def OwnsI (w : World) (B : Nat) (v : Value) (xs : List Nat) : Prop := w.ownsRow B 3 1 v xs.length (xs.map fun (x : Nat) => Value.int .i64 (x : Int))
theorem ownsI_row {w : World} {B : Nat} {v : Value} {xs : List Nat} (h : OwnsI w B v xs) (h0 : 0 < xs.length) : ∃ b c, v = .slice (some ⟨b, 0, none⟩) xs.length c ∧ B ≤ b ∧ b < w.heap.size ∧ IntsAt w b xs := by
  have hlt := World.ownsRow.lt h
  obtain ⟨hl, ⟨rfl, h1⟩ | ⟨g, cap, cur, hv, hB, hh, hr⟩⟩ := id h
  · omega
  · subst hv
    have hc := World.ownsRow.cells h (g := g) rfl
    refine ⟨g, cap, rfl, hB, (hlt g rfl).2, fun j x hx => ?_⟩
    have := hc j (.int .i64 x) (by rw [List.getElem?_map, hx]; rfl)
    rwa [WideShapes.add_plain, Nat.zero_add] at this
theorem ownsI_snoc {w : World} {B : Nat} {v : Value} {xs : List Nat} {x : Nat} (h : w.ownsRow B 3 1 v (xs.length + 1) ((xs.map fun (x : Nat) => Value.int .i64 (x : Int)) ++ [.int .i64 x])) : OwnsI w B v (xs ++ [x]) := by
  unfold OwnsI
  rw [List.map_append, List.length_append]
  exact h
set_option maxRecDepth 100000 in
theorem infoI : (Tryz.prog.info? 3).map (fun i => (i.zero, i.size, i.bytes)) = some (some (.int .i64 0), 1, 8) := by kernel_rfl
theorem news1 (w : World) (x : Int) (t : TypeId) : ∀ (j : Nat) u, [Value.int .i64 x][j]? = some u → (w.alloc (.cells #[.int .i64 x] t)).cell? (Addr.add ⟨w.heap.size, 0, none⟩ j) = some u
  | 0, u, h => by
    rw [WideShapes.add_plain, Nat.add_zero, World.cell?_alloc_new]
    simpa using h
  | j + 1, u, h => by simp at h
theorem one1 (x : Int) : ∀ u ∈ [Value.int .i64 x], u.oneCell' = true := fun u hu => by
  simp only [List.mem_cons, List.not_mem_nil, or_false] at hu
  subst hu; rfl
/-- The numbers below k other than i. -/
def othersTo (i k : Nat) : List Nat := (List.range k).filter (fun x => x != i)
theorem othersTo_same (i : Nat) : othersTo i (i + 1) = othersTo i i := by unfold othersTo; rw [List.range_succ, List.filter_append]; simp
theorem othersTo_step {i k : Nat} (h : k ≠ i) : othersTo i (k + 1) = othersTo i k ++ [k] := by unfold othersTo; rw [List.range_succ, List.filter_append]; simp [h]
theorem othersTo_le (i k : Nat) : (othersTo i k).length ≤ k := by unfold othersTo; exact Nat.le_trans (List.length_filter_le _ _) (by simp)
theorem othersTo_length {i n : Nat} (h : i < n) : (othersTo i n).length = n - 1 := by
  induction n with
  | zero => omega
  | succ n ih =>
    by_cases e : n = i
    · subst e
      rw [othersTo_same]
      have key : ∀ m, m ≤ n → (othersTo n m).length = m := fun m => by
        induction m with
        | zero => intro _; rfl
        | succ m ihm => intro hm; rw [othersTo_step (by omega), List.length_append, ihm (by omega)]; rfl
      rw [key n (Nat.le_refl _)]; omega
    · rw [othersTo_step e, List.length_append, ih (by omega)]
      simp; omega
set_option maxHeartbeats 800000 in
set_option maxRecDepth 100000 in
theorem l3Others_any (n i : Nat) (hn : n ≤ 7) (hi : i < n) (hn2 : 2 ≤ n) (w : World) :
    Calls Tryz.prog 168 #[.int .i64 n, .int .i64 i] w fun e w' => ∃ b c, e = .returned (.slice (some ⟨b, 0, none⟩) (n - 1) c) ∧ IntsAt w' b (othersTo i n) ∧ b < w'.heap.size ∧ Below w.heap.size w w' := by
  obtain ⟨i0, hi0, hz0, hz1, hz2⟩ := info_parts infoI
  have HO : Hid (OwnsI (w.alloc (.cells #[] 3)) w.heap.size (.slice (some ⟨w.heap.size, 0, none⟩) 0 0) (othersTo i 0)) := Lib.hid (World.ownsRow_made w #[] 0 (Nat.le_refl _) (by decide) rfl)
  have HB0 := Lib.hid ((Below.refl w.heap.size w).alloc (Nat.le_refl _) (.cells #[] 3))
  have HLE := Lib.hid (othersTo_le i)
  have HLN := Lib.hid (othersTo_length hi)
  go_enter Tryz.func168, Tryz.ntmps168
  go_wp2
  go_loopw [5, 6] (fun vv c wr => ∃ k : Nat, k ≤ n ∧ c = .int .i64 k ∧ Hid (OwnsI wr w.heap.size vv (othersTo i k)) ∧ Below w.heap.size w wr) (fun _ c _ => n - (intOf c).toNat)
  case atStart => exact ⟨0, Nat.zero_le _, rfl, HO, HB0.out⟩
  case round =>
    obtain ⟨k, hk, rfl, HV, hb⟩ := hrel
    by_cases hlt : k < n
    · by_cases e : k = i
      · have ht : ((k : Int) != (i : Int)) = false := by simp; omega
        have HV2 : Hid (OwnsI wr w.heap.size u5 (othersTo i (k + 1))) := Lib.hid (by subst e; rw [othersTo_same]; exact HV.out)
        go_wp2
        exact ⟨⟨k + 1, by omega, by go_num, HV2, hb⟩, by simp only [intOf]; omega⟩
      · have ht : ((k : Int) != (i : Int)) = true := by simp; omega
        have HS := Lib.hid (othersTo_step e)
        have hyl := HLE.out k
        generalize othersTo i k = ys at HV HS hyl
        go_wp2_with (at_builtin; refine wpList_append_own _ rfl (.tmp 16) (.tmp 18) 27 rfl w.heap.size 3 i0 _ 1 8 Tryz.underlying27 hi0 hz0 hz1 hz2 rfl (by decide) _ _ _ rfl (World.ownsRow.alloc HV.out _) ⟨wr.heap.size, 0, none⟩ 1 1 [.int .i64 k] rfl rfl ?_ ?_ ?_ ?_ ?_ ?_)
        · exact news1 _ _ _
        · exact one1 _
        · simp only [maxLen]; omega
        · omega
        · have := hb.size; simp; omega
        intro v1 w1 hown1 hg1 _
        have hb1 := ((hb.alloc hb.size (.cells #[.int .i64 k] 3)).grown hg1 (by have := hb.size; simp; omega) (fun q hq => (World.ownsRow.lt HV.out q hq).1))
        have HV1 := Lib.hid (ownsI_snoc hown1)
        rw [← HS.out] at HV1
        clear hown1
        go_wp2
        exact ⟨⟨k + 1, by omega, by go_num, HV1, hb1⟩, by simp only [intOf]; omega⟩
    · obtain rfl : k = n := by omega
      obtain ⟨b, c, hv, -, hbl, hat⟩ := ownsI_row HV.out (by rw [HLN.out]; omega)
      rw [HLN.out] at hv
      subst hv
      have HAT := Lib.hid hat
      clear hat
      go_wp2
      go_ret
      exact ⟨b, c, rfl, HAT.out, hbl, hb⟩
/-- The signs by value and the zero result, in the two blocks that the call makes first. -/
structure WAt (w : World) (n : Int) (s : ByteArray) (W : World) : Prop where
  b0 : W.cell? ⟨w.heap.size, 0, none⟩ = some (.int .i64 n)
  b1 : W.cell? ⟨w.heap.size, 1, none⟩ = some (.string s)
  r0 : W.cell? ⟨w.heap.size + 1, 0, none⟩ = some (.int .i64 0)
  r1 : W.cell? ⟨w.heap.size + 1, 1, none⟩ = some (.string ⟨#[]⟩)
  z0 : W.frozen? ⟨w.heap.size + 1, 0, none⟩ = false
  z1 : W.frozen? ⟨w.heap.size + 1, 1, none⟩ = false
  below : Below w.heap.size w W
theorem WAt.on {w : World} {n : Int} {s : ByteArray} {W W' : World} (h : WAt w n s W) (hb : Below W.heap.size W W') : WAt w n s W' := by
  have l0 : w.heap.size < W.heap.size := Kit.cell_lt h.b0
  have l1 : w.heap.size + 1 < W.heap.size := Kit.cell_lt h.r0
  exact ⟨by rw [hb.cell l0]; exact h.b0, by rw [hb.cell l0]; exact h.b1, by rw [hb.cell l1]; exact h.r0, by rw [hb.cell l1]; exact h.r1, by rw [hb.frozen l1]; exact h.z0, by rw [hb.frozen l1]; exact h.z1, h.below.trans (hb.mono (by omega))⟩
theorem WAt.drew {w : World} {n : Int} {s : ByteArray} {W : World} (h : WAt w n s W) : WAt w n s W.drew := ⟨h.b0, h.b1, h.r0, h.r1, h.z0, h.z1, h.below.drew⟩
end Go.Proofs.YtinlnafkmoabbaaGreatDoor.Sg
