/- Is no circuit of one kind: impl's isAcyclic over a map and a list of fours. -/
import Derived.Test.YtfjimdmoindepaaRuCirc
import Derived.Test.YtfjimdmoindepaaRuFours
namespace Go.Proofs.Ytfjimdmoindepaa.Sg
open Go.RowKit Pt
set_option maxRecDepth 100000 in
theorem eql4 (x0 x1 x2 x3 : Int) (b0 : -1 ≤ x0 ∧ x0 ≤ 1) (b1 : -1 ≤ x1 ∧ x1 ≤ 1) (b2 : -1 ≤ x2 ∧ x2 ≤ 1) (b3 : -1 ≤ x3 ∧ x3 ≤ 1) (W : World) :
    (binOp .eql 71 (.agg #[.int .i64 x0, .int .i64 x1, .int .i64 x2, .int .i64 x3]) (.agg #[.int .i64 1, .int .i64 1, .int .i64 1, .int .i64 1])).run Try.prog W = .ok (.bool (x0 == 1 && (x1 == 1 && (x2 == 1 && x3 == 1)))) W := by
  rcases (by omega : x0 = -1 ∨ x0 = 0 ∨ x0 = 1) with rfl | rfl | rfl <;> rcases (by omega : x1 = -1 ∨ x1 = 0 ∨ x1 = 1) with rfl | rfl | rfl <;> rcases (by omega : x2 = -1 ∨ x2 = 0 ∨ x2 = 1) with rfl | rfl | rfl <;> rcases (by omega : x3 = -1 ∨ x3 = 0 ∨ x3 = 1) with rfl | rfl | rfl <;> kernel_rfl
/-- A slice of these fours. -/
def Row4 (w : World) (a : Option Addr) (xs : List T4) : Prop := xs ≠ [] → ∃ g, a = some ⟨g, 0, none⟩ ∧ g < w.heap.size ∧ At4 w g xs
theorem Row4.on {w w' : World} {a : Option Addr} {xs : List T4} (h : Row4 w a xs) (hb : Below w.heap.size w w') : Row4 w' a xs := fun hne => by
  obtain ⟨g, h1, h2, h3⟩ := h hne
  exact ⟨g, h1, Nat.lt_of_lt_of_le h2 hb.size, h3.on hb h2⟩
def NoQ (f : Int → Int → Int → Int) (n p : Nat) : Prop := ∀ q, q < p → ∀ t, (fours n)[q]? = some t → posC f t.1 t.2.1 t.2.2.1 t.2.2.2 = false
theorem noQ_step {f : Int → Int → Int → Int} {n p : Nat} {t : T4} (h : NoQ f n p) (ht : (fours n)[p]? = some t) (hb : posC f t.1 t.2.1 t.2.2.1 t.2.2.2 = false) : NoQ f n (p + 1) := fun q hq u hu => by
  by_cases e : q = p
  · subst e; rw [ht] at hu; obtain rfl := Option.some.inj hu; exact hb
  · exact h q (by omega) u hu
theorem noQ_all {f : Int → Int → Int → Int} {n : Nat} (h : NoQ f n (fours n).length) : acB f n = true := by
  unfold acB
  simp only [List.all_eq_true, Bool.not_eq_true']
  intro t ht
  obtain ⟨q, hq, rfl⟩ := List.getElem_of_mem ht
  exact h q hq _ (List.getElem?_eq_getElem hq)
theorem acB_hit {f : Int → Int → Int → Int} {n : Nat} {t : T4} (ht : t ∈ fours n) (hp : posC f t.1 t.2.1 t.2.2.1 t.2.2.2 = true) : acB f n = false := by
  cases h : acB f n
  · rfl
  · unfold acB at h
    simp only [List.all_eq_true, Bool.not_eq_true'] at h
    rw [h t ht] at hp; cases hp
set_option maxHeartbeats 1600000 in
set_option maxRecDepth 100000 in
theorem isAcyclic_any (B : Nat) (f : Int → Int → Int → Int) (n : Nat) (h7 : n ≤ 7) (fa : Option Addr) (fc : Nat) (w : World) (hm : MapIs w B f) (hr : Row4 w fa (fours n)) :
    Calls Try.prog 67 #[.map (some B), .slice fa (fours n).length fc] w fun e w' => e = .returned (.bool (acB (sgnF f) n)) ∧ Below w.heap.size w w' := by
  have hl4 := fours_len h7
  have HR := Lib.hid hr
  have HM := Lib.hid hm
  clear hm hr
  go_enter Try.func67, Try.ntmps67
  go_wp2
  go_loopw [9] (fun c wr => ∃ p : Nat, p ≤ (fours n).length ∧ c = .int .i64 p ∧ Hid (NoQ (sgnF f) n p) ∧ Hid (Below w.heap.size w wr)) (fun c _ => (fours n).length - (intOf c).toNat)
  case atStart => exact ⟨0, Nat.zero_le _, rfl, Lib.hid (fun q hq => by omega), Lib.hid (Below.refl _ _)⟩
  case round =>
    obtain ⟨p, hp, rfl, HQ, HB⟩ := hrel
    by_cases hltp : p < (fours n).length
    · obtain ⟨t, ht⟩ : ∃ t, (fours n)[p]? = some t := ⟨_, List.getElem?_eq_getElem hltp⟩
      have hne : fours n ≠ [] := fun e0 => by rw [e0] at hltp; simp at hltp
      obtain ⟨g, rfl, hgl, hat4⟩ := HR.out hne
      obtain ⟨x0, x1, x2, x3⟩ := (hat4.on HB.out hgl) p t ht
      obtain ⟨t1, t2, t3, t4⟩ := fours_mem h7 (List.mem_of_getElem? ht)
      have hbs := HB.out.size
      obtain ⟨z0, z1, z2, z3⟩ := box4_made wr t.1 t.2.1 t.2.2.1 t.2.2.2 85
      have HBa := Lib.hid (HB.out.alloc hbs (.cells #[.int .i64 t.1, .int .i64 t.2.1, .int .i64 t.2.2.1, .int .i64 t.2.2.2] 85))
      have hbd := fun x y z => sgnF_bd HM.out.2 x y z
      obtain ⟨c0, c1, c2, c3, hx⟩ : ∃ c0 c1 c2 c3, cir (sgnF f) t.1 t.2.1 t.2.2.1 t.2.2.2 = (c0, c1, c2, c3) := ⟨_, _, _, _, rfl⟩
      have hb4 : (-1 ≤ c0 ∧ c0 ≤ 1) ∧ (-1 ≤ c1 ∧ c1 ≤ 1) ∧ (-1 ≤ c2 ∧ c2 ≤ 1) ∧ -1 ≤ c3 ∧ c3 ≤ 1 := by
        unfold cir at hx
        simp only [Prod.mk.injEq] at hx
        obtain ⟨rfl, rfl, rfl, rfl⟩ := hx
        have n1 := hbd t.1 t.2.2.1 t.2.2.2
        have n3 := hbd t.1 t.2.1 t.2.2.1
        exact ⟨mul_bd (hbd _ _ _) (hbd _ _ _), mul_bd (by omega) (hbd _ _ _), mul_bd (hbd _ _ _) (hbd _ _ _), mul_bd (by omega) (hbd _ _ _)⟩
      have HCC : Hid (∀ W, Below w.heap.size w W → Calls Try.prog 54 #[.map (some B), .int .i64 t.1, .int .i64 t.2.1, .int .i64 t.2.2.1, .int .i64 t.2.2.2] W fun e w' => e = .returned (.agg #[.int .i64 c0, .int .i64 c1, .int .i64 c2, .int .i64 c3]) ∧ Below W.heap.size W w') := Lib.hid (fun W hW => by
        have := circuitOf_any B f t.1 t.2.1 t.2.2.1 t.2.2.2 (by omega) (by omega) (by omega) (by omega) W (HM.out.on hW)
        rw [hx] at this
        exact this)
      have hpos : posC (sgnF f) t.1 t.2.1 t.2.2.1 t.2.2.2 = (c0 == 1 && (c1 == 1 && (c2 == 1 && c3 == 1))) := by unfold posC; rw [hx]
      have heq := fun W => eql4 c0 c1 c2 c3 hb4.1 hb4.2.1 hb4.2.2.1 hb4.2.2.2 W
      rw [← hpos] at heq
      clear hx hbd hb4 hat4 hpos
      cases hpc : posC (sgnF f) t.1 t.2.1 t.2.2.1 t.2.2.2
      · have HQ2 := Lib.hid (noQ_step HQ.out ht hpc)
        rw [hpc] at heq
        clear hpc ht
        go_wp2_with fail
        refine (HCC.out _ HBa.out).mono ?_
        rintro e w5 ⟨rfl, hb5⟩
        have HB5 := Lib.hid (HBa.out.trans (hb5.mono HBa.out.size))
        go_wp2
        exact ⟨⟨p + 1, by omega, by go_num, HQ2, HB5⟩, by simp only [intOf]; omega⟩
      · have HF := Lib.hid (acB_hit (List.mem_of_getElem? ht) hpc)
        rw [hpc] at heq
        clear hpc ht
        go_wp2_with fail
        refine (HCC.out _ HBa.out).mono ?_
        rintro e w5 ⟨rfl, hb5⟩
        have HB5 := Lib.hid (HBa.out.trans (hb5.mono HBa.out.size))
        go_wp2
        go_ret
        exact ⟨ret_bool HF.out.symm, HB5.out⟩
    · obtain rfl : p = (fours n).length := by omega
      have HF := Lib.hid (noQ_all HQ.out)
      go_wp2
      go_ret
      exact ⟨ret_bool HF.out.symm, HB.out⟩
end Go.Proofs.Ytfjimdmoindepaa.Sg
