/- Several texts in one: RuCirc, RuAc, SgBy, SgOpp, SgOppSpec, SgPick, SgOthers. -/
import Derived.Test.YtinlnafkmoabbaaDoorMgS
import Derived.Shelf.GgClosure.Gives
import Derived.Laws.IdiomStrings
import Derived.Shelf.Abstract
import Derived.Test.YtinlnafkmoabbaaDoorMgP
import Derived.Laws.Strings
import Derived.Deep.RegionHeld3
import Derived.Test.YtinlnafkmoabbaaDoorProg
import Derived.WalkKit
import Derived.OrdersHeld
import Derived.Deep.RegionHeld
/- Circuits: the four signs, as impl's circuitOf tells them over a map. -/
namespace Go.Proofs.YtinlnafkmoabbaaDoor.Sg
open Go.RowKit Pt
abbrev c4V (x : Int × Int × Int × Int) : Value := .agg #[.int .i64 x.1, .int .i64 x.2.1, .int .i64 x.2.2.1, .int .i64 x.2.2.2]
theorem box44_made (w : World) (x y z u : Int) (t : TypeId) : ((w.alloc (.cells #[.int .i64 x, .int .i64 y, .int .i64 z, .int .i64 u] t)).alloc (.cells #[.int .i64 x, .int .i64 y, .int .i64 z, .int .i64 u] t)).cell? ⟨w.heap.size, 0, none⟩ = some (.int .i64 x) ∧ ((w.alloc (.cells #[.int .i64 x, .int .i64 y, .int .i64 z, .int .i64 u] t)).alloc (.cells #[.int .i64 x, .int .i64 y, .int .i64 z, .int .i64 u] t)).cell? ⟨w.heap.size, 1, none⟩ = some (.int .i64 y) ∧ ((w.alloc (.cells #[.int .i64 x, .int .i64 y, .int .i64 z, .int .i64 u] t)).alloc (.cells #[.int .i64 x, .int .i64 y, .int .i64 z, .int .i64 u] t)).cell? ⟨w.heap.size, 2, none⟩ = some (.int .i64 z) ∧ ((w.alloc (.cells #[.int .i64 x, .int .i64 y, .int .i64 z, .int .i64 u] t)).alloc (.cells #[.int .i64 x, .int .i64 y, .int .i64 z, .int .i64 u] t)).cell? ⟨w.heap.size, 3, none⟩ = some (.int .i64 u) := by
  obtain ⟨h0, h1, h2, h3⟩ := box4_made w x y z u t
  refine ⟨?_, ?_, ?_, ?_⟩
  · rw [World.cell?_alloc_lt _ _ _ (by simp)]; exact h0
  · rw [World.cell?_alloc_lt _ _ _ (by simp)]; exact h1
  · rw [World.cell?_alloc_lt _ _ _ (by simp)]; exact h2
  · rw [World.cell?_alloc_lt _ _ _ (by simp)]; exact h3
set_option maxHeartbeats 3200000 in
set_option maxRecDepth 100000 in
theorem circuitOf_any (B : Nat) (f : Int → Int → Int → Int) (a b c d : Int) (ha : -9223372036854775808 ≤ a ∧ a ≤ 9223372036854775807) (hb : -9223372036854775808 ≤ b ∧ b ≤ 9223372036854775807) (hc : -9223372036854775808 ≤ c ∧ c ≤ 9223372036854775807) (hd : -9223372036854775808 ≤ d ∧ d ≤ 9223372036854775807) (w : World) (hm : MapIs w B f) :
    Calls Tryd.prog 94 #[.map (some B), .int .i64 a, .int .i64 b, .int .i64 c, .int .i64 d] w fun e w' => e = .returned (c4V (cir (sgnF f) a b c d)) ∧ Below w.heap.size w w' := by
  have HM0 := Lib.hid hm
  have hbd := fun x y z => sgnF_bd hm.2 x y z
  obtain ⟨v0, h0⟩ : ∃ v, sgnF f b c d = v := ⟨_, rfl⟩
  obtain ⟨v1, h1⟩ : ∃ v, sgnF f a c d = v := ⟨_, rfl⟩
  obtain ⟨v2, h2⟩ : ∃ v, sgnF f a b d = v := ⟨_, rfl⟩
  obtain ⟨v3, h3⟩ : ∃ v, sgnF f a b c = v := ⟨_, rfl⟩
  have b0 := hbd b c d
  have b1 := hbd a c d
  have b2 := hbd a b d
  have b3 := hbd a b c
  rw [h0] at b0; rw [h1] at b1; rw [h2] at b2; rw [h3] at b3
  have m0 := mul_bd b0 b0
  have m1 := mul_bd (x := -v1) (by omega) b0
  have m2 := mul_bd b2 b0
  have m3 := mul_bd (x := -v3) (by omega) b0
  have hE : cir (sgnF f) a b c d = (v0 * v0, -v1 * v0, v2 * v0, -v3 * v0) := by unfold cir; rw [h0, h1, h2, h3]
  rw [hE]
  have HA0 : Hid (∀ W, Below w.heap.size w W → Calls Tryd.prog 109 #[.map (some B), .int .i64 b, .int .i64 c, .int .i64 d] W fun e w' => e = .returned (.int .i64 v0) ∧ W = w') := Lib.hid (fun W hW => by rw [← h0]; exact at_any B f b c d hb hc hd W (HM0.out.on hW))
  have HA1 : Hid (∀ W, Below w.heap.size w W → Calls Tryd.prog 109 #[.map (some B), .int .i64 a, .int .i64 c, .int .i64 d] W fun e w' => e = .returned (.int .i64 v1) ∧ W = w') := Lib.hid (fun W hW => by rw [← h1]; exact at_any B f a c d ha hc hd W (HM0.out.on hW))
  have HA2 : Hid (∀ W, Below w.heap.size w W → Calls Tryd.prog 109 #[.map (some B), .int .i64 a, .int .i64 b, .int .i64 d] W fun e w' => e = .returned (.int .i64 v2) ∧ W = w') := Lib.hid (fun W hW => by rw [← h2]; exact at_any B f a b d ha hb hd W (HM0.out.on hW))
  have HA3 : Hid (∀ W, Below w.heap.size w W → Calls Tryd.prog 109 #[.map (some B), .int .i64 a, .int .i64 b, .int .i64 c] W fun e w' => e = .returned (.int .i64 v3) ∧ W = w') := Lib.hid (fun W hW => by rw [← h3]; exact at_any B f a b c ha hb hc W (HM0.out.on hW))
  have HB := Lib.hid (fun o => (Below.refl w.heap.size w).alloc (Nat.le_refl _) o)
  have HB2 := Lib.hid (fun o o' => ((Below.refl w.heap.size w).alloc (Nat.le_refl _) o).alloc (by simp) o')
  clear hm hbd h0 h1 h2 h3 hE
  go_enter Tryd.func94, Tryd.ntmps94
  go_wp2_with fail
  refine (HA0.out _ (HB.out _)).mono ?_
  rintro e w' ⟨rfl, rfl⟩
  go_wp2_with fail
  refine (HA1.out _ (HB.out _)).mono ?_
  rintro e w' ⟨rfl, rfl⟩
  go_wp2_with fail
  refine (HA2.out _ (HB.out _)).mono ?_
  rintro e w' ⟨rfl, rfl⟩
  go_wp2_with fail
  refine (HA3.out _ (HB.out _)).mono ?_
  rintro e w' ⟨rfl, rfl⟩
  go_wp2
  refine wp_loop_rounds 5 ?_
  rw [rounds_succ]
  go_wp2
  rw [rounds_succ]
  go_wp2
  rw [rounds_succ]
  go_wp2
  rw [rounds_succ]
  go_wp2
  rw [rounds_succ]
  go_wp2
  obtain ⟨k0, k1, k2, k3⟩ := box44_made w (v0 * v0) (-v1 * v0) (v2 * v0) (-v3 * v0) 74
  exact bodyPost_ret (v := .agg #[.int .i64 (v0 * v0), .int .i64 (-v1 * v0), .int .i64 (v2 * v0), .int .i64 (-v3 * v0)]) (by simp [results, Tryd.results94, go_sem, k0, k1, k2, k3]) rfl ⟨rfl, HB2.out _ _⟩
end Go.Proofs.YtinlnafkmoabbaaDoor.Sg
/- Is no circuit of one kind: impl's isAcyclic over a map and a list of fours. -/
namespace Go.Proofs.YtinlnafkmoabbaaDoor.Sg
open Go.RowKit Pt
set_option maxRecDepth 100000 in
theorem eql4 (x0 x1 x2 x3 : Int) (b0 : -1 ≤ x0 ∧ x0 ≤ 1) (b1 : -1 ≤ x1 ∧ x1 ≤ 1) (b2 : -1 ≤ x2 ∧ x2 ≤ 1) (b3 : -1 ≤ x3 ∧ x3 ≤ 1) (W : World) :
    (binOp .eql 74 (.agg #[.int .i64 x0, .int .i64 x1, .int .i64 x2, .int .i64 x3]) (.agg #[.int .i64 1, .int .i64 1, .int .i64 1, .int .i64 1])).run Tryd.prog W = .ok (.bool (x0 == 1 && (x1 == 1 && (x2 == 1 && x3 == 1)))) W := by
  rcases (by omega : x0 = -1 ∨ x0 = 0 ∨ x0 = 1) with rfl | rfl | rfl <;> rcases (by omega : x1 = -1 ∨ x1 = 0 ∨ x1 = 1) with rfl | rfl | rfl <;> rcases (by omega : x2 = -1 ∨ x2 = 0 ∨ x2 = 1) with rfl | rfl | rfl <;> rcases (by omega : x3 = -1 ∨ x3 = 0 ∨ x3 = 1) with rfl | rfl | rfl <;> kernel_rfl
/-- A slice of these fours. -/
def Row4 (w : World) (a : Option Addr) (xs : List T4) : Prop := xs ≠ [] → ∃ g, a = some ⟨g, 0, none⟩ ∧ g < w.heap.size ∧ At4 w g xs
theorem Row4.on {w w' : World} {a : Option Addr} {xs : List T4} (h : Row4 w a xs) (hb : Below w.heap.size w w') : Row4 w' a xs := fun hne => by
  obtain ⟨g, h1, h2, h3⟩ := h hne
  exact ⟨g, h1, Nat.lt_of_lt_of_le h2 hb.size, h3.on hb h2⟩
def NoQ (f : Int → Int → Int → Int) (n p : Nat) : Prop := ∀ q, q < p → ∀ t, (fours n)[q]? = some t → posC f t.1 t.2.1 t.2.2.1 t.2.2.2 = false
theorem noQ_step {f : Int → Int → Int → Int} {n p : Nat} {t : T4} (h : NoQ f n p) (ht : (fours n)[p]? = some t) (hb : posC f t.1 t.2.1 t.2.2.1 t.2.2.2 = false) : NoQ f n (p + 1) := fun q hq u hu => by
  by_cases e : q = p
  · subst e; rw [ht] at hu; obtain rfl := Option.some.inj hu; exact hb
  · exact h q (by omega) u hu
theorem noQ_all {f : Int → Int → Int → Int} {n : Nat} (h : NoQ f n (fours n).length) : acB f n = true := by
  unfold acB
  simp only [List.all_eq_true, Bool.not_eq_true']
  intro t ht
  obtain ⟨q, hq, rfl⟩ := List.getElem_of_mem ht
  exact h q hq _ (List.getElem?_eq_getElem hq)
theorem acB_hit {f : Int → Int → Int → Int} {n : Nat} {t : T4} (ht : t ∈ fours n) (hp : posC f t.1 t.2.1 t.2.2.1 t.2.2.2 = true) : acB f n = false := by
  cases h : acB f n
  · rfl
  · unfold acB at h
    simp only [List.all_eq_true, Bool.not_eq_true'] at h
    rw [h t ht] at hp; cases hp
set_option maxHeartbeats 1600000 in
set_option maxRecDepth 100000 in
theorem isAcyclic_any (B : Nat) (f : Int → Int → Int → Int) (n : Nat) (h7 : n ≤ 7) (fa : Option Addr) (fc : Nat) (w : World) (hm : MapIs w B f) (hr : Row4 w fa (fours n)) :
    Calls Tryd.prog 104 #[.map (some B), .slice fa (fours n).length fc] w fun e w' => e = .returned (.bool (acB (sgnF f) n)) ∧ Below w.heap.size w w' := by
  have hl4 := fours_len h7
  have HR := Lib.hid hr
  have HM := Lib.hid hm
  clear hm hr
  go_enter Tryd.func104, Tryd.ntmps104
  go_wp2
  go_loopw [9] (fun c wr => ∃ p : Nat, p ≤ (fours n).length ∧ c = .int .i64 p ∧ Hid (NoQ (sgnF f) n p) ∧ Hid (Below w.heap.size w wr)) (fun c _ => (fours n).length - (intOf c).toNat)
  case atStart => exact ⟨0, Nat.zero_le _, rfl, Lib.hid (fun q hq => by omega), Lib.hid (Below.refl _ _)⟩
  case round =>
    obtain ⟨p, hp, rfl, HQ, HB⟩ := hrel
    by_cases hltp : p < (fours n).length
    · obtain ⟨t, ht⟩ : ∃ t, (fours n)[p]? = some t := ⟨_, List.getElem?_eq_getElem hltp⟩
      have hne : fours n ≠ [] := fun e0 => by rw [e0] at hltp; simp at hltp
      obtain ⟨g, rfl, hgl, hat4⟩ := HR.out hne
      obtain ⟨x0, x1, x2, x3⟩ := (hat4.on HB.out hgl) p t ht
      obtain ⟨t1, t2, t3, t4⟩ := fours_mem h7 (List.mem_of_getElem? ht)
      have hbs := HB.out.size
      obtain ⟨z0, z1, z2, z3⟩ := box4_made wr t.1 t.2.1 t.2.2.1 t.2.2.2 100
      have HBa := Lib.hid (HB.out.alloc hbs (.cells #[.int .i64 t.1, .int .i64 t.2.1, .int .i64 t.2.2.1, .int .i64 t.2.2.2] 100))
      have hbd := fun x y z => sgnF_bd HM.out.2 x y z
      obtain ⟨c0, c1, c2, c3, hx⟩ : ∃ c0 c1 c2 c3, cir (sgnF f) t.1 t.2.1 t.2.2.1 t.2.2.2 = (c0, c1, c2, c3) := ⟨_, _, _, _, rfl⟩
      have hb4 : (-1 ≤ c0 ∧ c0 ≤ 1) ∧ (-1 ≤ c1 ∧ c1 ≤ 1) ∧ (-1 ≤ c2 ∧ c2 ≤ 1) ∧ -1 ≤ c3 ∧ c3 ≤ 1 := by
        unfold cir at hx
        simp only [Prod.mk.injEq] at hx
        obtain ⟨rfl, rfl, rfl, rfl⟩ := hx
        have n1 := hbd t.1 t.2.2.1 t.2.2.2
        have n3 := hbd t.1 t.2.1 t.2.2.1
        exact ⟨mul_bd (hbd _ _ _) (hbd _ _ _), mul_bd (by omega) (hbd _ _ _), mul_bd (hbd _ _ _) (hbd _ _ _), mul_bd (by omega) (hbd _ _ _)⟩
      have HCC : Hid (∀ W, Below w.heap.size w W → Calls Tryd.prog 94 #[.map (some B), .int .i64 t.1, .int .i64 t.2.1, .int .i64 t.2.2.1, .int .i64 t.2.2.2] W fun e w' => e = .returned (.agg #[.int .i64 c0, .int .i64 c1, .int .i64 c2, .int .i64 c3]) ∧ Below W.heap.size W w') := Lib.hid (fun W hW => by
        have := circuitOf_any B f t.1 t.2.1 t.2.2.1 t.2.2.2 (by omega) (by omega) (by omega) (by omega) W (HM.out.on hW)
        rw [hx] at this
        exact this)
      have hpos : posC (sgnF f) t.1 t.2.1 t.2.2.1 t.2.2.2 = (c0 == 1 && (c1 == 1 && (c2 == 1 && c3 == 1))) := by unfold posC; rw [hx]
      have heq := fun W => eql4 c0 c1 c2 c3 hb4.1 hb4.2.1 hb4.2.2.1 hb4.2.2.2 W
      rw [← hpos] at heq
      clear hx hbd hb4 hat4 hpos
      cases hpc : posC (sgnF f) t.1 t.2.1 t.2.2.1 t.2.2.2
      · have HQ2 := Lib.hid (noQ_step HQ.out ht hpc)
        rw [hpc] at heq
        clear hpc ht
        go_wp2_with fail
        refine (HCC.out _ HBa.out).mono ?_
        rintro e w5 ⟨rfl, hb5⟩
        have HB5 := Lib.hid (HBa.out.trans (hb5.mono HBa.out.size))
        go_wp2
        exact ⟨⟨p + 1, by omega, by go_num, HQ2, HB5⟩, by simp only [intOf]; omega⟩
      · have HF := Lib.hid (acB_hit (List.mem_of_getElem? ht) hpc)
        rw [hpc] at heq
        clear hpc ht
        go_wp2_with fail
        refine (HCC.out _ HBa.out).mono ?_
        rintro e w5 ⟨rfl, hb5⟩
        have HB5 := Lib.hid (HBa.out.trans (hb5.mono HBa.out.size))
        go_wp2
        go_ret
        exact ⟨ret_bool HF.out.symm, HB5.out⟩
    · obtain rfl : p = (fours n).length := by omega
      have HF := Lib.hid (noQ_all HQ.out)
      go_wp2
      go_ret
      exact ⟨ret_bool HF.out.symm, HB.out⟩
end Go.Proofs.YtinlnafkmoabbaaDoor.Sg
/- impl.signsBy: the signs that a function tells of each three. -/
namespace Go.Proofs.YtinlnafkmoabbaaDoor.Sg
open Go.RowKit Pt
/-- The result's block: still as it was made. -/
def ResC (w0 W : World) : Prop := (W.cell? ⟨w0.heap.size, 0, none⟩ = some (.int .i64 0) ∧ W.cell? ⟨w0.heap.size, 1, none⟩ = some (.string ⟨#[]⟩)) ∧ (W.frozen? ⟨w0.heap.size, 0, none⟩ = false ∧ W.frozen? ⟨w0.heap.size, 1, none⟩ = false) ∧ Below w0.heap.size w0 W
theorem ResC.lt {w0 W : World} (h : ResC w0 W) : w0.heap.size < W.heap.size := Kit.cell_lt h.1.1
theorem ResC.on' {w0 W W' : World} {B : Nat} (h : ResC w0 W) (hb : Below B W W') (hl : w0.heap.size < B) (_hs : B ≤ W.heap.size) : ResC w0 W' := by
  obtain ⟨⟨h1, h2⟩, ⟨h3, h4⟩, h5⟩ := h
  exact ⟨⟨by rw [hb.cell hl]; exact h1, by rw [hb.cell hl]; exact h2⟩, ⟨by rw [hb.frozen hl]; exact h3, by rw [hb.frozen hl]; exact h4⟩, h5.trans (hb.mono (by omega))⟩
theorem ResC.on {w0 W W' : World} (h : ResC w0 W) (hb : Below W.heap.size W W') : ResC w0 W' := h.on' hb h.lt (Nat.le_refl _)
theorem ResC.alloc {w0 W : World} (h : ResC w0 W) (o : Obj) : ResC w0 (W.alloc o) := h.on ((Below.refl _ _).alloc (Nat.le_refl _) o)
end Go.Proofs.YtinlnafkmoabbaaDoor.Sg
/- OppositeSigns, as impl answers it. -/
namespace Go.Proofs.YtinlnafkmoabbaaDoor.Sg
open Go.RowKit Pt
theorem srt_asc {i j k : Int} (h1 : i < j) (h2 : j < k) : srt i j k = (i, j, k, 1) := by
  unfold srt
  have a : ¬ j < i := by omega
  have b : ¬ k < j := by omega
  simp [a, b]
end Go.Proofs.YtinlnafkmoabbaaDoor.Sg
/- OppositeSigns, as spec answers it; the law. -/
namespace Go.Proofs.YtinlnafkmoabbaaDoor.Sg
open Go.RowKit Pt
set_option maxRecDepth 100000 in
theorem l3Byte_any (x : Int) (w : World) : Calls Tryd.prog 102 #[.int .i64 x] w fun e w' => e = .returned (.string ⟨#[byteOf x]⟩) ∧ w' = w := by
  by_cases h : 0 < x
  · have HE : Hid (byteOf x = 43) := Lib.hid (if_pos h)
    go_enter Tryd.func102, Tryd.ntmps102
    go_wp2
    go_ret
    exact ⟨by rw [HE.out]; rfl, rfl⟩
  · have HE : Hid (byteOf x = 45) := Lib.hid (if_neg h)
    go_enter Tryd.func102, Tryd.ntmps102
    go_wp2
    go_ret
    exact ⟨by rw [HE.out]; rfl, rfl⟩
/-- Signs in the making, in block Bo. -/
def OutC (Bo : Nat) (n : Int) (x : ByteArray) (W : World) : Prop := (W.cell? ⟨Bo, 0, none⟩ = some (.int .i64 n) ∧ W.cell? ⟨Bo, 1, none⟩ = some (.string x)) ∧ (W.frozen? ⟨Bo, 0, none⟩ = false ∧ W.frozen? ⟨Bo, 1, none⟩ = false)
theorem OutC.set {Bo : Nat} {n : Int} {x : ByteArray} {W : World} (h : OutC Bo n x W) (y : ByteArray) : OutC Bo n y (W.setCell ⟨Bo, 1, none⟩ (.string y)) := by
  obtain ⟨⟨h1, h2⟩, ⟨h3, h4⟩⟩ := h
  exact ⟨⟨by rw [World.cell?_setCell_other _ _ _ _ (by simp)]; exact h1, World.cell?_setCell_same _ _ _ h2⟩, ⟨by rw [World.frozen?_setCell]; exact h3, by rw [World.frozen?_setCell]; exact h4⟩⟩
theorem OutC.on {Bo : Nat} {n : Int} {x : ByteArray} {W W' : World} (h : OutC Bo n x W) (hb : Below W.heap.size W W') : OutC Bo n x W' := by
  obtain ⟨⟨h1, h2⟩, ⟨h3, h4⟩⟩ := h
  have hl : Bo < W.heap.size := Kit.cell_lt h1
  exact ⟨⟨by rw [hb.cell hl]; exact h1, by rw [hb.cell hl]; exact h2⟩, ⟨by rw [hb.frozen hl]; exact h3, by rw [hb.frozen hl]; exact h4⟩⟩
theorem Box.on' {w0 : World} {n : Int} {s : ByteArray} {w w' : World} {B : Nat} (h : Box w0 n s w) (hb : Below B w w') (hl : w0.heap.size < B) (_hs : B ≤ w.heap.size) : Box w0 n s w' :=
  ⟨by rw [hb.cell hl]; exact h.1, by rw [hb.cell hl]; exact h.2.1, h.2.2.trans (hb.mono (by omega))⟩
end Go.Proofs.YtinlnafkmoabbaaDoor.Sg
/- The signs of some elements: spec.l3Pick. -/
namespace Go.Proofs.YtinlnafkmoabbaaDoor.Sg
open Go.RowKit Pt
/-- The cells of a slice of small numbers. -/
def IntsAt (w : World) (b : Nat) (es : List Nat) : Prop := ∀ (j x : Nat), es[j]? = some x → w.cell? ⟨b, j, none⟩ = some (.int .i64 x)
theorem IntsAt.on {w w' : World} {B b : Nat} {es : List Nat} (h : IntsAt w b es) (hb : Below B w w') (hB : b < B) : IntsAt w' b es := fun j x hx => by rw [hb.cell hB]; exact h j x hx
theorem IntsAt.get {w : World} {b : Nat} {es : List Nat} (h : IntsAt w b es) {i : Nat} (hi : i < es.length) : w.cell? ⟨b, i, none⟩ = some (.int .i64 es[i]) := h i _ (List.getElem?_eq_getElem hi)
end Go.Proofs.YtinlnafkmoabbaaDoor.Sg
/- The elements other than one, in memory of the call's own (spec.l3Others); what a function that hands back signs and a bool keeps in sight. -/
namespace Go.Proofs.YtinlnafkmoabbaaDoor.Sg
open Go.RowKit Pt
/-- A value that owns just these small numbers. -/
def OwnsI (w : World) (B : Nat) (v : Value) (xs : List Nat) : Prop := w.ownsRow B 3 1 v xs.length (xs.map fun (x : Nat) => Value.int .i64 (x : Int))
theorem ownsI_row {w : World} {B : Nat} {v : Value} {xs : List Nat} (h : OwnsI w B v xs) (h0 : 0 < xs.length) : ∃ b c, v = .slice (some ⟨b, 0, none⟩) xs.length c ∧ B ≤ b ∧ b < w.heap.size ∧ IntsAt w b xs := by
  have hlt := World.ownsRow.lt h
  obtain ⟨hl, ⟨rfl, h1⟩ | ⟨g, cap, cur, hv, hB, hh, hr⟩⟩ := id h
  · omega
  · subst hv
    have hc := World.ownsRow.cells h (g := g) rfl
    refine ⟨g, cap, rfl, hB, (hlt g rfl).2, fun j x hx => ?_⟩
    have := hc j (.int .i64 x) (by rw [List.getElem?_map, hx]; rfl)
    rwa [WideShapes.add_plain, Nat.zero_add] at this
theorem ownsI_snoc {w : World} {B : Nat} {v : Value} {xs : List Nat} {x : Nat} (h : w.ownsRow B 3 1 v (xs.length + 1) ((xs.map fun (x : Nat) => Value.int .i64 (x : Int)) ++ [.int .i64 x])) : OwnsI w B v (xs ++ [x]) := by
  unfold OwnsI
  rw [List.map_append, List.length_append]
  exact h
set_option maxRecDepth 100000 in
theorem infoI : (Tryd.prog.info? 3).map (fun i => (i.zero, i.size, i.bytes)) = some (some (.int .i64 0), 1, 8) := by kernel_rfl
theorem news1 (w : World) (x : Int) (t : TypeId) : ∀ (j : Nat) u, [Value.int .i64 x][j]? = some u → (w.alloc (.cells #[.int .i64 x] t)).cell? (Addr.add ⟨w.heap.size, 0, none⟩ j) = some u
  | 0, u, h => by
    rw [WideShapes.add_plain, Nat.add_zero, World.cell?_alloc_new]
    simpa using h
  | j + 1, u, h => by simp at h
theorem one1 (x : Int) : ∀ u ∈ [Value.int .i64 x], u.oneCell' = true := fun u hu => by
  simp only [List.mem_cons, List.not_mem_nil, or_false] at hu
  subst hu; rfl
/-- The numbers below k other than i. -/
def othersTo (i k : Nat) : List Nat := (List.range k).filter (fun x => x != i)
theorem othersTo_same (i : Nat) : othersTo i (i + 1) = othersTo i i := by unfold othersTo; rw [List.range_succ, List.filter_append]; simp
theorem othersTo_step {i k : Nat} (h : k ≠ i) : othersTo i (k + 1) = othersTo i k ++ [k] := by unfold othersTo; rw [List.range_succ, List.filter_append]; simp [h]
theorem othersTo_le (i k : Nat) : (othersTo i k).length ≤ k := by unfold othersTo; exact Nat.le_trans (List.length_filter_le _ _) (by simp)
theorem othersTo_length {i n : Nat} (h : i < n) : (othersTo i n).length = n - 1 := by
  induction n with
  | zero => omega
  | succ n ih =>
    by_cases e : n = i
    · subst e
      rw [othersTo_same]
      have key : ∀ m, m ≤ n → (othersTo n m).length = m := fun m => by
        induction m with
        | zero => intro _; rfl
        | succ m ihm => intro hm; rw [othersTo_step (by omega), List.length_append, ihm (by omega)]; rfl
      rw [key n (Nat.le_refl _)]; omega
    · rw [othersTo_step e, List.length_append, ih (by omega)]
      simp; omega
set_option maxHeartbeats 800000 in
set_option maxRecDepth 100000 in
theorem l3Others_any (n i : Nat) (hn : n ≤ 7) (hi : i < n) (hn2 : 2 ≤ n) (w : World) :
    Calls Tryd.prog 99 #[.int .i64 n, .int .i64 i] w fun e w' => ∃ b c, e = .returned (.slice (some ⟨b, 0, none⟩) (n - 1) c) ∧ IntsAt w' b (othersTo i n) ∧ b < w'.heap.size ∧ Below w.heap.size w w' := by
  obtain ⟨i0, hi0, hz0, hz1, hz2⟩ := info_parts infoI
  have HO : Hid (OwnsI (w.alloc (.cells #[] 3)) w.heap.size (.slice (some ⟨w.heap.size, 0, none⟩) 0 0) (othersTo i 0)) := Lib.hid (World.ownsRow_made w #[] 0 (Nat.le_refl _) (by decide) rfl)
  have HB0 := Lib.hid ((Below.refl w.heap.size w).alloc (Nat.le_refl _) (.cells #[] 3))
  have HLE := Lib.hid (othersTo_le i)
  have HLN := Lib.hid (othersTo_length hi)
  go_enter Tryd.func99, Tryd.ntmps99
  go_wp2
  go_loopw [5, 6] (fun vv c wr => ∃ k : Nat, k ≤ n ∧ c = .int .i64 k ∧ Hid (OwnsI wr w.heap.size vv (othersTo i k)) ∧ Below w.heap.size w wr) (fun _ c _ => n - (intOf c).toNat)
  case atStart => exact ⟨0, Nat.zero_le _, rfl, HO, HB0.out⟩
  case round =>
    obtain ⟨k, hk, rfl, HV, hb⟩ := hrel
    by_cases hlt : k < n
    · by_cases e : k = i
      · have ht : ((k : Int) != (i : Int)) = false := by simp; omega
        have HV2 : Hid (OwnsI wr w.heap.size u5 (othersTo i (k + 1))) := Lib.hid (by subst e; rw [othersTo_same]; exact HV.out)
        go_wp2
        exact ⟨⟨k + 1, by omega, by go_num, HV2, hb⟩, by simp only [intOf]; omega⟩
      · have ht : ((k : Int) != (i : Int)) = true := by simp; omega
        have HS := Lib.hid (othersTo_step e)
        have hyl := HLE.out k
        generalize othersTo i k = ys at HV HS hyl
        go_wp2_with (at_builtin; refine wpList_append_own _ rfl (.tmp 16) (.tmp 18) 22 rfl w.heap.size 3 i0 _ 1 8 Tryd.underlying22 hi0 hz0 hz1 hz2 rfl (by decide) _ _ _ rfl (World.ownsRow.alloc HV.out _) ⟨wr.heap.size, 0, none⟩ 1 1 [.int .i64 k] rfl rfl ?_ ?_ ?_ ?_ ?_ ?_)
        · exact news1 _ _ _
        · exact one1 _
        · simp only [maxLen]; omega
        · omega
        · have := hb.size; simp; omega
        intro v1 w1 hown1 hg1 _
        have hb1 := ((hb.alloc hb.size (.cells #[.int .i64 k] 3)).grown hg1 (by have := hb.size; simp; omega) (fun q hq => (World.ownsRow.lt HV.out q hq).1))
        have HV1 := Lib.hid (ownsI_snoc hown1)
        rw [← HS.out] at HV1
        clear hown1
        go_wp2
        exact ⟨⟨k + 1, by omega, by go_num, HV1, hb1⟩, by simp only [intOf]; omega⟩
    · obtain rfl : k = n := by omega
      obtain ⟨b, c, hv, -, hbl, hat⟩ := ownsI_row HV.out (by rw [HLN.out]; omega)
      rw [HLN.out] at hv
      subst hv
      have HAT := Lib.hid hat
      clear hat
      go_wp2
      go_ret
      exact ⟨b, c, rfl, HAT.out, hbl, hb⟩
/-- The signs by value and the zero result, in the two blocks that the call makes first. -/
structure WAt (w : World) (n : Int) (s : ByteArray) (W : World) : Prop where
  b0 : W.cell? ⟨w.heap.size, 0, none⟩ = some (.int .i64 n)
  b1 : W.cell? ⟨w.heap.size, 1, none⟩ = some (.string s)
  r0 : W.cell? ⟨w.heap.size + 1, 0, none⟩ = some (.int .i64 0)
  r1 : W.cell? ⟨w.heap.size + 1, 1, none⟩ = some (.string ⟨#[]⟩)
  z0 : W.frozen? ⟨w.heap.size + 1, 0, none⟩ = false
  z1 : W.frozen? ⟨w.heap.size + 1, 1, none⟩ = false
  below : Below w.heap.size w W
theorem WAt.on {w : World} {n : Int} {s : ByteArray} {W W' : World} (h : WAt w n s W) (hb : Below W.heap.size W W') : WAt w n s W' := by
  have l0 : w.heap.size < W.heap.size := Kit.cell_lt h.b0
  have l1 : w.heap.size + 1 < W.heap.size := Kit.cell_lt h.r0
  exact ⟨by rw [hb.cell l0]; exact h.b0, by rw [hb.cell l0]; exact h.b1, by rw [hb.cell l1]; exact h.r0, by rw [hb.cell l1]; exact h.r1, by rw [hb.frozen l1]; exact h.z0, by rw [hb.frozen l1]; exact h.z1, h.below.trans (hb.mono (by omega))⟩
theorem WAt.drew {w : World} {n : Int} {s : ByteArray} {W : World} (h : WAt w n s W) : WAt w n s W.drew := ⟨h.b0, h.b1, h.r0, h.r1, h.z0, h.z1, h.below.drew⟩
end Go.Proofs.YtinlnafkmoabbaaDoor.Sg
