/- impl's map of order signs, and what it tells: innerOf, isInside; InnerOf, IsInside, as impl answers them. -/
import Derived.Test.YtfjimdmoindepaaRuAcLaw
import Derived.Test.YtfjimdmoindepaaRuElem
import Derived.Test.YtfjimdmoindepaaQuMath
namespace Go.Proofs.Ytfjimdmoindepaa.Sg
open Go.RowKit Pt Go.Maps
/-- The signs by three numbers in order: none if they are no order signs. -/
def ordF (n : Int) (s : List UInt8) (a b c : Int) : Int := if aciB n s = true then lookS n s a b c else 0
theorem ordF_yes {n : Int} {s : List UInt8} (h : aciB n s = true) : ordF n s = lookS n s := by funext a b c; unfold ordF; rw [if_pos h]
theorem ordF_no {n : Int} {s : List UInt8} (h : aciB n s = false) (a b c : Int) : ordF n s a b c = 0 := by unfold ordF; rw [h]; rfl
theorem aciB_mat {n : Int} {s : List UInt8} (h : aciB n s = true) : matB n s = true := by
  unfold aciB at h
  exact (Bool.and_eq_true_iff.1 h).1
theorem ordF_bd (n : Int) (s : List UInt8) (a b c : Int) : -1 ≤ ordF n s a b c ∧ ordF n s a b c ≤ 1 := by
  unfold ordF lookS
  split
  · split
    · exact look_bd _ _ _ _ _
    · omega
  · omega
theorem sgnO_bd (n : Int) (s : List UInt8) (a b c : Int) : -1 ≤ sgnF (ordF n s) a b c ∧ sgnF (ordF n s) a b c ≤ 1 := sgnF_bd (ordF_bd n s) a b c
theorem sgnO_no {n : Int} {s : List UInt8} (h : aciB n s = false) (a b c : Int) : sgnF (ordF n s) a b c = 0 := by
  unfold sgnF
  rw [ordF_no h]
  simp
/-- Block b is a map that has f a b c at the key a, b, c, and is empty if z. -/
def MapZ (w : World) (b : Nat) (f : Int → Int → Int → Int) (z : Bool) : Prop :=
  (∃ (m : Nat) (D : DataW Unit), w.ownsMap Try.prog 66 (plainElem Try.prog 3) b m D ∧ ((Maps.size D : Int) == 0) = z ∧ ∀ x y z : Int, -9223372036854775808 ≤ x ∧ x ≤ 9223372036854775807 → -9223372036854775808 ≤ y ∧ y ≤ 9223372036854775807 → -9223372036854775808 ≤ z ∧ z ≤ 9223372036854775807 → D.atKey (kl x y z) (.lit (.int .i64 0)) = .lit (.int .i64 (f x y z))) ∧
  ∀ x y z, -1 ≤ f x y z ∧ f x y z ≤ 1
theorem MapZ.is {w : World} {b : Nat} {f : Int → Int → Int → Int} {z : Bool} (h : MapZ w b f z) : MapIs w b f := by
  obtain ⟨⟨m, D, h, -, ha⟩, hf⟩ := h
  exact ⟨⟨m, D, h, ha⟩, hf⟩
theorem MapZ.on {w w' : World} {b : Nat} {f : Int → Int → Int → Int} {z : Bool} (h : MapZ w b f z) (hb : Below w.heap.size w w') : MapZ w' b f z := by
  obtain ⟨⟨m, D, h, hz, ha⟩, hf⟩ := h
  exact ⟨⟨m, D, World.ownsMap.kept h (row := none) ⟨hb.os, hb.tape, hb.output, hb.size, fun k hk _ => hb.block k hk⟩ (by simp), hz, ha⟩, hf⟩
/-- A map that has an entry other than 0 is not empty. -/
theorem mapZ_of {w : World} {b : Nat} {f : Int → Int → Int → Int} (h : MapK w b f) (hne : f 0 1 2 ≠ 0) : MapZ w b f false := by
  obtain ⟨⟨m, D, -, ho, ha, -⟩, hf⟩ := h
  refine ⟨⟨m, D, ho, ?_, ha⟩, hf⟩
  cases hz : ((Maps.size D : Int) == 0)
  · rfl
  · exfalso
    obtain ⟨es, rfl⟩ := World.ownsMap.isMap ho
    have hes : es = [] := by
      have h0 : (Maps.size (DataW.map es) : Int) = 0 := by simpa using hz
      rw [Maps.size_eq] at h0
      exact List.eq_nil_of_length_eq_zero (by omega)
    subst hes
    have := ha 0 1 2 (by omega) (by omega) (by omega)
    have e : DataW.atKey (H := Unit) (.map []) (kl 0 1 2) (.lit (.int .i64 0)) = .lit (.int .i64 0) := rfl
    rw [e] at this
    injection this with this
    injection this with _ this
    exact hne this.symm
theorem mapZ_made (w : World) (f : Int → Int → Int → Int) (hf : ∀ x y z, f x y z = 0) : MapZ (w.alloc (.map #[] 0)) w.heap.size f true := by
  refine ⟨⟨0, _, ownsMap_made w, ?_, fun x y z _ _ _ => by rw [hf]; rfl⟩, fun x y z => by rw [hf]; omega⟩
  rw [Maps.size_eq]; rfl
set_option maxHeartbeats 800000 in
set_option maxRecDepth 100000 in
theorem implOrd (n : Int) (s : ByteArray) (hs : s.size ≤ 9223372036854775807) (w : World) :
    Calls Try.prog 29 #[sg n s] w fun e w' => ∃ b, e = .returned (.map (some b)) ∧ MapZ w' b (ordF n s.data.toList) (!aciB n s.data.toList) ∧ Below w.heap.size w w' := by
  have HA := Lib.hid (fun W => implAci n s hs W)
  have HS := Lib.hid (box_made w n s 25)
  cases h : aciB n s.data.toList
  · have hmm := @run_makeMap Try.prog
    have HF := Lib.hid (ordF_no h)
    rw [h] at HA
    clear h
    go_enter Try.func29, Try.ntmps29
    go_wp2_with fail
    refine (HA.out _).mono ?_
    rintro e w1 ⟨rfl, hb1⟩
    have B1 := Lib.hid (HS.out.on hb1).2.2
    have HM := Lib.hid (mapZ_made w1 (ordF n s.data.toList) HF.out)
    have HB := Lib.hid (B1.out.alloc B1.out.size (.map #[] 0))
    clear hb1
    go_wp2
    go_ret
    exact ⟨_, rfl, HM.out, HB.out⟩
  · have har := matB_ar (aciB_mat h)
    obtain ⟨h3, -⟩ := arB_yes har
    obtain ⟨m, rfl⟩ : ∃ m : Nat, n = m := ⟨n.toNat, by omega⟩
    have HF := Lib.hid (ordF_yes h)
    have hne : lookS m s.data.toList 0 1 2 ≠ 0 := by
      have h1 := sgn_one har (x := 0) (y := 1) (z := 2) (by omega) (by omega) (by omega) (by omega) (by omega) (by omega)
      rw [sgnF_plain (by omega) (by omega)] at h1
      have e : lookS m s.data.toList ((0 : Nat) : Int) ((1 : Nat) : Int) ((2 : Nat) : Int) = lookS m s.data.toList 0 1 2 := rfl
      rw [e] at h1
      omega
    have HMK := Lib.hid (fun W => mapOf_k m s hs W)
    have HNE := Lib.hid hne
    rw [h] at HA
    clear h har hne
    go_enter Try.func29, Try.ntmps29
    go_wp2_with fail
    refine (HA.out _).mono ?_
    rintro e w1 ⟨rfl, hb1⟩
    have X1 := Lib.hid (HS.out.on hb1)
    obtain ⟨c0, c1, B1⟩ := X1.out
    clear hb1
    go_wp2_with fail
    refine (HMK.out _).mono ?_
    rintro e w2 ⟨b, rfl, -, hm, hb2⟩
    have HM : Hid (MapZ w2 b (ordF m s.data.toList) (!true)) := Lib.hid (by rw [HF.out]; exact mapZ_of hm HNE.out)
    have HB := Lib.hid (B1.trans (hb2.mono B1.size))
    clear hm hb2 c0 c1
    go_wp2
    go_ret
    exact ⟨_, rfl, HM.out, HB.out⟩
/-- A sign or 0 is equal to a sign or not. -/
theorem tri {x : Int} (h : -1 ≤ x ∧ x ≤ 1) : x = -1 ∨ x = 0 ∨ x = 1 := by omega
set_option maxRecDepth 100000 in
theorem eqlA (x0 x1 x2 x3 : Int) (b0 : -1 ≤ x0 ∧ x0 ≤ 1) (b1 : -1 ≤ x1 ∧ x1 ≤ 1) (b2 : -1 ≤ x2 ∧ x2 ≤ 1) (b3 : -1 ≤ x3 ∧ x3 ≤ 1) (W : World) :
    (binOp .eql 71 (.agg #[.int .i64 x0, .int .i64 x1, .int .i64 x2, .int .i64 x3]) (.agg #[.int .i64 1, .int .i64 (-1), .int .i64 (-1), .int .i64 (-1)])).run Try.prog W = .ok (.bool (x0 == 1 && (x1 == -1 && (x2 == -1 && x3 == -1)))) W := by
  rcases tri b0 with rfl | rfl | rfl <;> rcases tri b1 with rfl | rfl | rfl <;> rcases tri b2 with rfl | rfl | rfl <;> rcases tri b3 with rfl | rfl | rfl <;> kernel_rfl
set_option maxRecDepth 100000 in
theorem eqlB (x0 x1 x2 x3 : Int) (b0 : -1 ≤ x0 ∧ x0 ≤ 1) (b1 : -1 ≤ x1 ∧ x1 ≤ 1) (b2 : -1 ≤ x2 ∧ x2 ≤ 1) (b3 : -1 ≤ x3 ∧ x3 ≤ 1) (W : World) :
    (binOp .eql 71 (.agg #[.int .i64 x0, .int .i64 x1, .int .i64 x2, .int .i64 x3]) (.agg #[.int .i64 1, .int .i64 (-1), .int .i64 1, .int .i64 1])).run Try.prog W = .ok (.bool (x0 == 1 && (x1 == -1 && (x2 == 1 && x3 == 1)))) W := by
  rcases tri b0 with rfl | rfl | rfl <;> rcases tri b1 with rfl | rfl | rfl <;> rcases tri b2 with rfl | rfl | rfl <;> rcases tri b3 with rfl | rfl | rfl <;> kernel_rfl
set_option maxRecDepth 100000 in
theorem eqlC (x0 x1 x2 x3 : Int) (b0 : -1 ≤ x0 ∧ x0 ≤ 1) (b1 : -1 ≤ x1 ∧ x1 ≤ 1) (b2 : -1 ≤ x2 ∧ x2 ≤ 1) (b3 : -1 ≤ x3 ∧ x3 ≤ 1) (W : World) :
    (binOp .eql 71 (.agg #[.int .i64 x0, .int .i64 x1, .int .i64 x2, .int .i64 x3]) (.agg #[.int .i64 1, .int .i64 1, .int .i64 (-1), .int .i64 1])).run Try.prog W = .ok (.bool (x0 == 1 && (x1 == 1 && (x2 == -1 && x3 == 1)))) W := by
  rcases tri b0 with rfl | rfl | rfl <;> rcases tri b1 with rfl | rfl | rfl <;> rcases tri b2 with rfl | rfl | rfl <;> rcases tri b3 with rfl | rfl | rfl <;> kernel_rfl
set_option maxRecDepth 100000 in
theorem eqlD (x0 x1 x2 x3 : Int) (b0 : -1 ≤ x0 ∧ x0 ≤ 1) (b1 : -1 ≤ x1 ∧ x1 ≤ 1) (b2 : -1 ≤ x2 ∧ x2 ≤ 1) (b3 : -1 ≤ x3 ∧ x3 ≤ 1) (W : World) :
    (binOp .eql 71 (.agg #[.int .i64 x0, .int .i64 x1, .int .i64 x2, .int .i64 x3]) (.agg #[.int .i64 1, .int .i64 1, .int .i64 1, .int .i64 (-1)])).run Try.prog W = .ok (.bool (x0 == 1 && (x1 == 1 && (x2 == 1 && x3 == -1)))) W := by
  rcases tri b0 with rfl | rfl | rfl <;> rcases tri b1 with rfl | rfl | rfl <;> rcases tri b2 with rfl | rfl | rfl <;> rcases tri b3 with rfl | rfl | rfl <;> kernel_rfl
/-- A circuit's four numbers are -1, 0 or 1. -/
theorem cir_bd {f : Int → Int → Int → Int} (hbd : ∀ x y z, -1 ≤ f x y z ∧ f x y z ≤ 1) {a b c d c0 c1 c2 c3 : Int} (hx : cir f a b c d = (c0, c1, c2, c3)) : (-1 ≤ c0 ∧ c0 ≤ 1) ∧ (-1 ≤ c1 ∧ c1 ≤ 1) ∧ (-1 ≤ c2 ∧ c2 ≤ 1) ∧ -1 ≤ c3 ∧ c3 ≤ 1 := by
  unfold cir at hx
  simp only [Prod.mk.injEq] at hx
  obtain ⟨rfl, rfl, rfl, rfl⟩ := hx
  have n1 := hbd a c d
  have n3 := hbd a b c
  exact ⟨mul_bd (hbd _ _ _) (hbd _ _ _), mul_bd (by omega) (hbd _ _ _), mul_bd (hbd _ _ _) (hbd _ _ _), mul_bd (by omega) (hbd _ _ _)⟩
def I64 (x : Int) : Prop := -9223372036854775808 ≤ x ∧ x ≤ 9223372036854775807
set_option maxHeartbeats 800000 in
set_option maxRecDepth 100000 in
theorem isInside_any (B : Nat) (f : Int → Int → Int → Int) (a b c d : Int) (ha : I64 a) (hb : I64 b) (hc : I64 c) (hd : I64 d) (w : World) (hm : MapIs w B f) :
    Calls Try.prog 41 #[.map (some B), .int .i64 a, .int .i64 b, .int .i64 c, .int .i64 d] w fun e w' => e = .returned (.bool (isIn (cir (sgnF f) a b c d))) ∧ Below w.heap.size w w' := by
  obtain ⟨c0, c1, c2, c3, hx⟩ : ∃ c0 c1 c2 c3, cir (sgnF f) a b c d = (c0, c1, c2, c3) := ⟨_, _, _, _, rfl⟩
  obtain ⟨b0, b1, b2, b3⟩ := cir_bd (sgnF_bd hm.2) hx
  have HC := Lib.hid (circuitOf_any B f a b c d ha hb hc hd w hm)
  rw [hx] at HC
  have hq := fun W => eqlA c0 c1 c2 c3 b0 b1 b2 b3 W
  have HE : Hid (isIn (cir (sgnF f) a b c d) = (c0 == 1 && (c1 == -1 && (c2 == -1 && c3 == -1)))) := Lib.hid (by rw [hx]; rfl)
  generalize (c0 == 1 && (c1 == -1 && (c2 == -1 && c3 == -1))) = q at hq HE
  clear hx hm b0 b1 b2 b3 ha hb hc hd
  go_enter Try.func41, Try.ntmps41
  go_wp2_with fail
  refine HC.out.mono ?_
  rintro e w1 ⟨rfl, hb1⟩
  go_wp2
  go_ret
  exact ⟨ret_bool HE.out.symm, hb1⟩
theorem inn4_eq (c0 c1 c2 c3 a b c d : Int) : inn4 (c0, c1, c2, c3) a b c d = if (c0 == 1 && (c1 == -1 && (c2 == -1 && c3 == -1))) = true then a else if (c0 == 1 && (c1 == -1 && (c2 == 1 && c3 == 1))) = true then b else if (c0 == 1 && (c1 == 1 && (c2 == -1 && c3 == 1))) = true then c else if (c0 == 1 && (c1 == 1 && (c2 == 1 && c3 == -1))) = true then d else -1 := by
  unfold inn4
  simp only [Prod.mk.injEq, Bool.and_eq_true, beq_iff_eq]
set_option maxHeartbeats 1600000 in
set_option maxRecDepth 100000 in
theorem innerOf_any (B : Nat) (f : Int → Int → Int → Int) (a b c d : Int) (ha : I64 a) (hb : I64 b) (hc : I64 c) (hd : I64 d) (w : World) (hm : MapIs w B f) :
    Calls Try.prog 36 #[.map (some B), .int .i64 a, .int .i64 b, .int .i64 c, .int .i64 d] w fun e w' => e = .returned (.int .i64 (inn4 (cir (sgnF f) a b c d) a b c d)) ∧ Below w.heap.size w w' := by
  obtain ⟨c0, c1, c2, c3, hx⟩ : ∃ c0 c1 c2 c3, cir (sgnF f) a b c d = (c0, c1, c2, c3) := ⟨_, _, _, _, rfl⟩
  obtain ⟨b0, b1, b2, b3⟩ := cir_bd (sgnF_bd hm.2) hx
  have HC := Lib.hid (circuitOf_any B f a b c d ha hb hc hd w hm)
  rw [hx] at HC
  have hq0 := fun W => eqlA c0 c1 c2 c3 b0 b1 b2 b3 W
  have hq1 := fun W => eqlB c0 c1 c2 c3 b0 b1 b2 b3 W
  have hq2 := fun W => eqlC c0 c1 c2 c3 b0 b1 b2 b3 W
  have hq3 := fun W => eqlD c0 c1 c2 c3 b0 b1 b2 b3 W
  have HE := Lib.hid (inn4_eq c0 c1 c2 c3 a b c d)
  rw [hx]
  generalize (c0 == 1 && (c1 == -1 && (c2 == -1 && c3 == -1))) = q0 at hq0 HE
  generalize (c0 == 1 && (c1 == -1 && (c2 == 1 && c3 == 1))) = q1 at hq1 HE
  generalize (c0 == 1 && (c1 == 1 && (c2 == -1 && c3 == 1))) = q2 at hq2 HE
  generalize (c0 == 1 && (c1 == 1 && (c2 == 1 && c3 == -1))) = q3 at hq3 HE
  rw [HE.out]
  clear HE
  clear hx hm b0 b1 b2 b3 ha hb hc hd
  go_enter Try.func36, Try.ntmps36
  go_wp2_with fail
  refine HC.out.mono ?_
  rintro e w1 ⟨rfl, hb1⟩
  cases q0
  · cases q1
    · cases q2
      · cases q3
        · go_wp2
          go_ret
          exact ⟨rfl, hb1⟩
        · go_wp2
          go_ret
          exact ⟨rfl, hb1⟩
      · go_wp2
        go_ret
        exact ⟨rfl, hb1⟩
    · go_wp2
      go_ret
      exact ⟨rfl, hb1⟩
  · go_wp2
    go_ret
    exact ⟨rfl, hb1⟩
set_option maxHeartbeats 800000 in
set_option maxRecDepth 100000 in
theorem implInner (n : Int) (s : ByteArray) (a b c d : Int) (ha : I64 a) (hb : I64 b) (hc : I64 c) (hd : I64 d) (hs : s.size ≤ 9223372036854775807) (w : World) :
    Calls Try.prog 12 #[sg n s, .int .i64 a, .int .i64 b, .int .i64 c, .int .i64 d] w fun e w' => e = .returned (.int .i64 (inn4 (cir (sgnF (ordF n s.data.toList)) a b c d) a b c d)) ∧ Below w.heap.size w w' := by
  have HO := Lib.hid (fun W => implOrd n s hs W)
  have HI := Lib.hid (fun B W hm => innerOf_any B (ordF n s.data.toList) a b c d ha hb hc hd W hm)
  have HS := Lib.hid (box_made w n s 25)
  clear ha hb hc hd
  go_enter Try.func12, Try.ntmps12
  go_wp2_with fail
  refine (HO.out _).mono ?_
  rintro e w1 ⟨B, rfl, hm, hb1⟩
  have B1 := Lib.hid (HS.out.on hb1).2.2
  have HM := Lib.hid hm.is
  clear hm hb1
  go_wp2_with fail
  refine (HI.out _ _ HM.out).mono ?_
  rintro e w2 ⟨rfl, hb2⟩
  have B2 := Lib.hid (B1.out.trans (hb2.mono B1.out.size))
  clear hb2
  go_wp2
  go_ret
  exact ⟨rfl, B2.out⟩
set_option maxHeartbeats 800000 in
set_option maxRecDepth 100000 in
theorem implIsInside (n : Int) (s : ByteArray) (a b c d : Int) (ha : I64 a) (hb : I64 b) (hc : I64 c) (hd : I64 d) (hs : s.size ≤ 9223372036854775807) (w : World) :
    Calls Try.prog 18 #[sg n s, .int .i64 a, .int .i64 b, .int .i64 c, .int .i64 d] w fun e w' => e = .returned (.bool (isIn (cir (sgnF (ordF n s.data.toList)) a b c d))) ∧ Below w.heap.size w w' := by
  have HO := Lib.hid (fun W => implOrd n s hs W)
  have HI := Lib.hid (fun B W hm => isInside_any B (ordF n s.data.toList) a b c d ha hb hc hd W hm)
  have HS := Lib.hid (box_made w n s 25)
  clear ha hb hc hd
  go_enter Try.func18, Try.ntmps18
  go_wp2_with fail
  refine (HO.out _).mono ?_
  rintro e w1 ⟨B, rfl, hm, hb1⟩
  have B1 := Lib.hid (HS.out.on hb1).2.2
  have HM := Lib.hid hm.is
  clear hm hb1
  go_wp2_with fail
  refine (HI.out _ _ HM.out).mono ?_
  rintro e w2 ⟨rfl, hb2⟩
  have B2 := Lib.hid (B1.out.trans (hb2.mono B1.out.size))
  clear hb2
  go_wp2
  go_ret
  exact ⟨rfl, B2.out⟩
end Go.Proofs.Ytfjimdmoindepaa.Sg
