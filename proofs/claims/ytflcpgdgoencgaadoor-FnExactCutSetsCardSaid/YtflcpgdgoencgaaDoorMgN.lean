/- Several texts in one: LeSplits, LeArg, LeOnes, LeCutImpl, LeTable, LeRead. -/
import Derived.Test.YtflcpgdgoencgaaDoorMgE
import Derived.Test.YtflcpgdgoencgaaDoorQuSplitImpl
import Derived.Test.YtflcpgdgoencgaaDoorLeHit
import Derived.Test.YtflcpgdgoencgaaDoorHuImpl
import Derived.Test.YtflcpgdgoencgaaDoorMgM
import Derived.BigQuiet
/- What lies left, as impl tells it: splitsOf, isCut. -/
namespace Go.Proofs.YtflcpgdgoencgaaDoor.Sg
open Go.RowKit Pt NewI
/-- The cells of a list of pairs. -/
def c2 : List (Nat × Nat) → List Value
  | [] => []
  | t :: r => .int .i64 t.1 :: .int .i64 t.2 :: c2 r
theorem c2_append : ∀ xs ys : List (Nat × Nat), c2 (xs ++ ys) = c2 xs ++ c2 ys
  | [], ys => rfl
  | t :: r, ys => by simp [c2, c2_append r ys]
theorem c2_get : ∀ (xs : List (Nat × Nat)) (j : Nat) (t : Nat × Nat), xs[j]? = some t → (c2 xs)[j * 2]? = some (.int .i64 t.1) ∧ (c2 xs)[j * 2 + 1]? = some (.int .i64 t.2)
  | [], j, t, h => by simp at h
  | x :: r, 0, t, h => by
    simp only [List.getElem?_cons_zero, Option.some.injEq] at h
    subst h
    exact ⟨rfl, rfl⟩
  | x :: r, j + 1, t, h => by
    have := c2_get r j t (by simpa using h)
    rw [show (j + 1) * 2 = j * 2 + 2 by omega]
    simpa [c2] using this
def Owns2 (w : World) (B : Nat) (v : Value) (xs : List (Nat × Nat)) : Prop := w.ownsRow B 75 2 v xs.length (c2 xs)
theorem owns2_snoc {w : World} {B : Nat} {v : Value} {xs : List (Nat × Nat)} {i j : Nat} (h : w.ownsRow B 75 2 v (xs.length + 1) (c2 xs ++ [.int .i64 i, .int .i64 j])) : Owns2 w B v (xs ++ [(i, j)]) := by
  unfold Owns2
  rw [c2_append, List.length_append]
  exact h
theorem owns2_on {w w' : World} {B : Nat} {v : Value} {xs : List (Nat × Nat)} (h : Owns2 w B v xs) (hb : Below w.heap.size w w') : Owns2 w' B v xs :=
  World.ownsRow.kept h (row := none) ⟨hb.os, hb.tape, hb.output, hb.size, fun k hk _ => hb.block k hk⟩ (by cases v.ownBlock <;> simp)
set_option maxRecDepth 100000 in
theorem info2 : (Tryd.prog.info? 75).map (fun i => (i.zero, i.size, i.bytes)) = some (some (.agg #[.int .i64 0, .int .i64 0]), 2, 16) := by kernel_rfl
theorem news2 (w : World) (x y : Int) (t : TypeId) : ∀ (j : Nat) v, [Value.int .i64 x, Value.int .i64 y][j]? = some v → (w.alloc (.cells #[.int .i64 x, .int .i64 y] t)).cell? (Addr.add ⟨w.heap.size, 0, none⟩ j) = some v
  | 0, v, h => by rw [WideShapes.add_plain, Nat.add_zero, World.cell?_alloc_new]; simpa using h
  | 1, v, h => by rw [WideShapes.add_plain, World.cell?_alloc_new]; simpa using h
  | j + 2, v, h => by simp at h
theorem one2 (x y : Int) : ∀ v ∈ [Value.int .i64 x, Value.int .i64 y], v.oneCell' = true := fun v hv => by
  simp only [List.mem_cons, List.not_mem_nil, or_false] at hv
  rcases hv with rfl | rfl <;> rfl
def At2 (w : World) (g : Nat) (xs : List (Nat × Nat)) : Prop := ∀ (j : Nat) t, xs[j]? = some t → w.cell? ⟨g, j * 2, none⟩ = some (.int .i64 t.1) ∧ w.cell? ⟨g, j * 2 + 1, none⟩ = some (.int .i64 t.2)
/-- Where a slice of pairs lies, if it has any. -/
def Prs (W : World) (a : Option Addr) (xs : List (Nat × Nat)) : Prop := xs ≠ [] → ∃ g, a = some ⟨g, 0, none⟩ ∧ At2 W g xs
theorem Prs.on {W W' : World} {a : Option Addr} {xs : List (Nat × Nat)} (h : Prs W a xs) (hb : Below W.heap.size W W') : Prs W' a xs := fun hne => by
  obtain ⟨g, h1, h2⟩ := h hne
  exact ⟨g, h1, fun j t hj => ⟨by rw [hb.cell (Kit.cell_lt (h2 j t hj).1)]; exact (h2 j t hj).1, by rw [hb.cell (Kit.cell_lt (h2 j t hj).2)]; exact (h2 j t hj).2⟩⟩
theorem prs_of {w : World} {B : Nat} {v : Value} {xs : List (Nat × Nat)} (h : Owns2 w B v xs) : ∃ a c, v = .slice a xs.length c ∧ Prs w a xs := by
  obtain ⟨hl, ⟨rfl, h1⟩ | ⟨g, cap, cur, hv, hB, hh, hr⟩⟩ := id h
  · exact ⟨none, 0, by rw [h1], fun hne => absurd (List.eq_nil_of_length_eq_zero h1) hne⟩
  · subst hv
    have hc := World.ownsRow.cells h (g := g) rfl
    refine ⟨_, cap, rfl, fun _ => ⟨g, rfl, fun j t hj => ?_⟩⟩
    obtain ⟨e0, e1⟩ := c2_get xs j t hj
    have r0 := hc _ _ e0
    have r1 := hc _ _ e1
    rw [WideShapes.add_plain, Nat.zero_add] at r0 r1
    exact ⟨r0, r1⟩
/-- The sets of the first p fours. -/
def splTo (F : Int → Int → Int → Int) (n p : Nat) : List (Nat × Nat) := ((fours n).take p).map fun t => (spA F t, spB F t)
theorem splTo_succ {F : Int → Int → Int → Int} {n p : Nat} {t : T4} (h : (fours n)[p]? = some t) : splTo F n (p + 1) = splTo F n p ++ [(spA F t, spB F t)] := by
  unfold splTo
  rw [List.take_add_one, h, List.map_append]; rfl
theorem splTo_len (F : Int → Int → Int → Int) (n p : Nat) : (splTo F n p).length ≤ p := by unfold splTo; rw [List.length_map, List.length_take]; omega
theorem splTo_all (F : Int → Int → Int → Int) (n : Nat) : splTo F n (fours n).length = splL F n := by unfold splTo splL; rw [List.take_length]
set_option maxHeartbeats 3200000 in
set_option maxRecDepth 100000 in
theorem splitsOf_any (n : Nat) (s : List UInt8) (h : aciB n s = true) (B : Nat) (w : World) (hm : MapIs w B (ordF n s)) :
    Calls Tryd.prog 47 #[.map (some B), .int .i64 n] w fun e w' => ∃ a c, e = .returned (.slice a (splL (sgnF (lookS n s)) n).length c) ∧ Prs w' a (splL (sgnF (lookS n s)) n) ∧ Below w.heap.size w w' := by
  obtain ⟨h3, h7⟩ := aciB_n h
  have h3 : 3 ≤ n := by omega
  have h7 : n ≤ 7 := by omega
  obtain ⟨i0, hi, hz0, hz1, hz2⟩ := info_parts info2
  have HM := Lib.hid hm
  have HI : Hid (∀ t : T4, t ∈ fours n → ∀ W, MapIs W B (ordF n s) → Calls Tryd.prog 71 #[.map (some B), .int .i64 t.1, .int .i64 t.2.1, .int .i64 t.2.2.1, .int .i64 t.2.2.2] W fun e w' => e = .returned (.tuple #[.int .i64 (spA (sgnF (lookS n s)) t : Nat), .int .i64 (spB (sgnF (lookS n s)) t : Nat)]) ∧ Below W.heap.size W w') := Lib.hid (fun t ht W hW => by
    obtain ⟨h1, h2, h3, h4⟩ := fours_mem h7 ht
    have := splitOf_any n s t.1 t.2.1 t.2.2.1 t.2.2.2 (i64_nat (by omega)) (i64_nat (by omega)) (i64_nat (by omega)) (i64_nat (by omega)) B W hW
    have e : splitZ n s t.1 t.2.1 t.2.2.1 t.2.2.2 = (((spA (sgnF (lookS n s)) t : Nat) : Int), ((spB (sgnF (lookS n s)) t : Nat) : Int)) := by
      unfold splitZ
      rw [ordF_yes h]
      exact (sp_eq h ht).1
    rw [e] at this
    exact this)
  generalize ordF n s = f at HM HI
  generalize sgnF (lookS n s) = F at HI ⊢
  have hl4 := fours_len h7
  have HQL := Lib.hid (splTo_len F n)
  have HALL := Lib.hid (splTo_all F n)
  have HO0 : Hid (Owns2 w w.heap.size (.slice none 0 0) (splTo F n 0)) := Lib.hid (World.ownsRow_nil _ _ _ _)
  clear hm h
  go_enter Tryd.func47, Tryd.ntmps47
  go_wp2_with fail
  refine (foursOf_any n h3 h7 _).mono ?_
  rintro e w1 ⟨v, rfl, hv, hb1⟩
  obtain ⟨a, c, rfl, hr⟩ := owns4_row hv
  have HR : Hid (Row4 w1 a (fours n)) := Lib.hid (fun hne => by obtain ⟨g, h1, _, h2, h4⟩ := hr hne; exact ⟨g, h1, h2, h4⟩)
  have B1 := Lib.hid hb1
  have HM1 := Lib.hid (HM.out.on hb1)
  have HO : Hid (Owns2 w1 w1.heap.size (.slice none 0 0) (splTo F n 0)) := Lib.hid (World.ownsRow_nil _ _ _ _)
  clear hv hr hb1 HO0
  go_wp2
  go_loopw [5, 13] (fun vv i wr => ∃ p : Nat, p ≤ (fours n).length ∧ i = .int .i64 p ∧ Hid (Owns2 wr w1.heap.size vv (splTo F n p)) ∧ Hid (Below w1.heap.size w1 wr)) (fun _ i _ => (fours n).length - (intOf i).toNat)
  case atStart => exact ⟨0, Nat.zero_le _, rfl, HO, Lib.hid (Below.refl _ _)⟩
  case round =>
    obtain ⟨p, hp, rfl, HV, HB⟩ := hrel
    by_cases hltp : p < (fours n).length
    · obtain ⟨t, ht⟩ : ∃ t, (fours n)[p]? = some t := ⟨_, List.getElem?_eq_getElem hltp⟩
      have hne : fours n ≠ [] := fun e0 => by rw [e0] at hltp; simp at hltp
      obtain ⟨g, rfl, hgl, hat4⟩ := HR.out hne
      obtain ⟨x0, x1, x2, x3⟩ := (hat4.on HB.out hgl) p t ht
      obtain ⟨t1, t2, t3, t4⟩ := fours_mem h7 (List.mem_of_getElem? ht)
      obtain ⟨z0, z1, z2, z3⟩ := box4_made wr t.1 t.2.1 t.2.2.1 t.2.2.2 73
      have HBa := Lib.hid (HB.out.alloc HB.out.size (.cells #[.int .i64 t.1, .int .i64 t.2.1, .int .i64 t.2.2.1, .int .i64 t.2.2.2] 73))
      have HVa := Lib.hid (owns2_on HV.out ((Below.refl wr.heap.size wr).alloc (Nat.le_refl _) (.cells #[.int .i64 t.1, .int .i64 t.2.1, .int .i64 t.2.2.1, .int .i64 t.2.2.2] 73)))
      have HMa := Lib.hid (HM1.out.on HBa.out)
      have HCC := Lib.hid (HI.out t (List.mem_of_getElem? ht) _ HMa.out)
      have HN := Lib.hid (splTo_succ (F := F) ht)
      have hyl := HQL.out p
      generalize splTo F n p = ys at HVa HN hyl
      generalize spA F t = X at HCC HN
      generalize spB F t = Y at HCC HN
      clear ht hat4 HV
      go_wp2_with fail
      refine HCC.out.mono ?_
      rintro e w3 ⟨rfl, hb3⟩
      have HB3 := Lib.hid (HBa.out.trans (hb3.mono HBa.out.size))
      have HV3 := Lib.hid (owns2_on HVa.out hb3)
      have hs3 := HB3.out.size
      clear hb3 HCC z0 z1 z2 z3
      go_wp2_with (at_builtin; refine wpList_append_own _ rfl (.tmp 30) (.tmp 34) 51 rfl w1.heap.size 75 i0 _ 2 16 Tryd.underlying51 hi hz0 hz1 hz2 rfl (by decide) _ _ _ rfl (World.ownsRow.alloc HV3.out _) ⟨_, 0, none⟩ 1 1 [.int .i64 X, .int .i64 Y] rfl rfl (news2 _ _ _ _) (one2 _ _) (by simp only [maxLen]; omega) (by omega) (by simp; omega) ?_)
      intro v1 w5 hown hg _
      have HV5 : Hid (Owns2 w5 w1.heap.size v1 (ys ++ [(X, Y)])) := Lib.hid (owns2_snoc hown)
      have HB5 : Hid (Below w1.heap.size w1 w5) := Lib.hid ((HB3.out.alloc HB3.out.size _).grown hg (by simp; omega) (fun q hq => (World.ownsRow.lt HV3.out q hq).1))
      rw [← HN.out] at HV5
      clear hown hg
      go_wp2
      exact ⟨⟨p + 1, by omega, by go_num, HV5, HB5⟩, by simp only [intOf]; omega⟩
    · have HV2 := HV
      rw [show p = (fours n).length by omega, HALL.out] at HV2
      obtain ⟨a2, c2', hv, hli⟩ := prs_of HV2.out
      subst hv
      have HLI := Lib.hid hli
      clear HV HV2 hli
      go_wp2
      go_ret
      exact ⟨a2, c2', rfl, HLI.out, B1.out.trans (HB.out.mono B1.out.size)⟩
set_option maxHeartbeats 800000 in
set_option maxRecDepth 100000 in
theorem index2_any (a : Option Addr) (c : Nat) (xs : List (Nat × Nat)) (h35 : xs.length ≤ 1000) (q : Nat × Nat → Bool) (k : Nat) (lb : Array Value) (eg : ∀ args w, (callFunc k args).run Tryd.prog w = .ok (.enter k args) w) (w : World) (hx : Prs w a xs)
    (HF : Hid (∀ (W : World) (t : Nat × Nat), Below w.heap.size w W → t ∈ xs → Calls Tryd.prog k (#[.agg #[.int .i64 t.1, .int .i64 t.2]] ++ lb) W fun e w' => e = .returned (.bool (q t)) ∧ Below W.heap.size W w')) :
    Calls Tryd.prog 92 #[.slice a xs.length c, .func (.func k) #[] lb] w fun e w' => (∃ r : Int, e = .returned (.int .i64 r) ∧ decide (0 ≤ r) = xs.any q) ∧ Below w.heap.size w w' := by
  have HX := Lib.hid hx
  clear hx
  go_enter Tryd.func92, Tryd.ntmps92
  go_wp2
  go_loopw [5, 8] (fun _ i wr => ∃ p : Nat, p ≤ xs.length ∧ i = .int .i64 p ∧ Hid (∀ x ∈ xs.take p, q x = false) ∧ Hid (Below w.heap.size w wr)) (fun _ i _ => xs.length - (intOf i).toNat)
  case atStart => exact ⟨0, Nat.zero_le _, rfl, Lib.hid (fun x hx => by simp at hx), Lib.hid (Below.refl _ _)⟩
  case round =>
    obtain ⟨p, hp, rfl, HQ, HB⟩ := hrel
    by_cases hlt : p < xs.length
    · obtain ⟨g, rfl, h3⟩ := HX.out.on HB.out (fun e => by rw [e] at hlt; exact absurd hlt (Nat.not_lt_zero _))
      obtain ⟨t, ht⟩ : ∃ t, xs[p]? = some t := ⟨_, List.getElem?_eq_getElem hlt⟩
      obtain ⟨x0, x1⟩ := h3 p t ht
      have HCC := Lib.hid (HF.out wr t HB.out (List.mem_of_getElem? ht))
      have HT : Hid (xs.take (p + 1) = xs.take p ++ [t]) := Lib.hid (by rw [List.take_add_one, ht]; rfl)
      have HM : Hid (q t = true → decide ((0 : Int) ≤ (p : Int)) = xs.any q) := Lib.hid (fun e => by
        rw [List.any_eq_true.2 ⟨t, List.mem_of_getElem? ht, e⟩]
        simp)
      clear h3 ht
      cases hq : q t
      · have HQ2 : Hid (∀ y ∈ xs.take (p + 1), q y = false) := Lib.hid (fun y hy => by
          rw [HT.out] at hy
          rcases List.mem_append.1 hy with h | h
          · exact HQ.out y h
          · rw [List.mem_singleton.1 h]; exact hq)
        rw [hq] at HCC
        clear hq HM
        go_wp2_with (go_at_fn k; refine HCC.out.mono ?_; rintro e w2 ⟨rfl, hb2⟩)
        have HB2 := Lib.hid (HB.out.trans (hb2.mono HB.out.size))
        exact ⟨⟨p + 1, by omega, by go_num, HQ2, HB2⟩, by simp only [intOf]; omega⟩
      · have HI : Hid (decide ((0 : Int) ≤ (p : Int)) = xs.any q) := Lib.hid (HM.out hq)
        rw [hq] at HCC
        clear hq HM
        go_wp2_with (go_at_fn k; refine HCC.out.mono ?_; rintro e w2 ⟨rfl, hb2⟩)
        have HB2 := Lib.hid (HB.out.trans (hb2.mono HB.out.size))
        go_ret
        exact ⟨⟨_, rfl, HI.out⟩, HB2.out⟩
    · have HI : Hid (decide ((0 : Int) ≤ -1) = xs.any q) := Lib.hid (by
        have : xs.any q = false := List.any_eq_false.2 (fun x hx => by rw [HQ.out x (by rw [List.take_of_length_le (by omega)]; exact hx)]; simp)
        rw [this]; rfl)
      clear HQ
      go_wp2
      go_ret
      exact ⟨⟨_, rfl, HI.out⟩, HB.out⟩
set_option maxHeartbeats 800000 in
set_option maxRecDepth 100000 in
theorem contains2_any (a : Option Addr) (c : Nat) (xs : List (Nat × Nat)) (h35 : xs.length ≤ 1000) (q : Nat × Nat → Bool) (k : Nat) (lb : Array Value) (eg : ∀ args w, (callFunc k args).run Tryd.prog w = .ok (.enter k args) w) (w : World) (hx : Prs w a xs)
    (HF : Hid (∀ (W : World) (t : Nat × Nat), Below w.heap.size w W → t ∈ xs → Calls Tryd.prog k (#[.agg #[.int .i64 t.1, .int .i64 t.2]] ++ lb) W fun e w' => e = .returned (.bool (q t)) ∧ Below W.heap.size W w')) :
    Calls Tryd.prog 72 #[.slice a xs.length c, .func (.func k) #[] lb] w fun e w' => e = .returned (.bool (xs.any q)) ∧ Below w.heap.size w w' := by
  have HI := Lib.hid (index2_any a c xs h35 q k lb eg w hx HF)
  clear hx HF
  go_enter Tryd.func72, Tryd.ntmps72
  go_wp2_with fail
  refine HI.out.mono ?_
  rintro e w1 ⟨⟨r, rfl, hr⟩, hb1⟩
  generalize hd : decide (0 ≤ r) = d at hr
  go_wp2
  go_ret
  exact ⟨ret_bool rfl, hb1⟩
theorem beq_cast (a b : Nat) : ((a : Int) == (b : Int)) = (a == b) := by
  cases h : (a == b)
  · exact beq_eq_false_iff_ne.2 (by have := beq_eq_false_iff_ne.1 h; omega)
  · exact beq_iff_eq.2 (by have := beq_iff_eq.1 h; omega)
theorem and_i64' (a b : Nat) (ha : a < 1024) (hb : b < 1024) : bits BinOp.and IntKind.i64 (a : Int) (b : Int) = ((a &&& b : Nat) : Int) := by
  have hl : a &&& b < 1024 := Nat.lt_of_le_of_lt Nat.and_le_left ha
  show IntKind.i64.wrap ((BitVec.ofInt 64 a &&& BitVec.ofInt 64 b).toNat : Int) = _
  rw [BitVec.toNat_and, BitVec.ofInt_natCast, BitVec.ofInt_natCast, BitVec.toNat_ofNat, BitVec.toNat_ofNat, Nat.mod_eq_of_lt (by omega), Nat.mod_eq_of_lt (by omega), IntKind.wrap_i64]
  omega
set_option maxHeartbeats 800000 in
set_option maxRecDepth 100000 in
theorem hit_any (S x y p : Nat) (hS : S < 128) (hx : x < 128) (hy : y < 128) (w : World) (hp : w.cell? ⟨p, 0, none⟩ = some (.int .i64 S)) :
    Calls Tryd.prog 73 #[.agg #[.int .i64 x, .int .i64 y], .pointer (some ⟨p, 0, none⟩)] w fun e w' => e = .returned (.bool (hitB S x y)) ∧ Below w.heap.size w w' := by
  have v1 := bits_or x y (by omega) (by omega)
  have hor : x ||| y < 128 := Nat.or_lt_two_pow (n := 7) hx hy
  have v2 := and_i64' S (x ||| y) (by omega) (by omega)
  have e1 := beq_cast (S &&& (x ||| y)) x
  have e2 := beq_cast (S &&& (x ||| y)) y
  have HE : Hid (hitB S x y = (S &&& (x ||| y) == x || S &&& (x ||| y) == y)) := Lib.hid rfl
  generalize hitB S x y = ans at HE ⊢
  generalize S &&& (x ||| y) = P at v2 e1 e2 HE
  generalize x ||| y = Q at v1 v2
  have HB := Lib.hid ((Below.refl w.heap.size w).alloc (Nat.le_refl _) (.cells #[.int .i64 x, .int .i64 y] 75))
  have hpl := Kit.cell_lt hp
  cases h1 : (P == x)
  · rw [h1] at e1
    have HA : Hid (ans = (P == y)) := Lib.hid (by rw [HE.out, h1]; rfl)
    generalize (P == y) = r at e2 HA
    clear h1
    go_enter Tryd.func73, Tryd.ntmps73
    go_wp2
    go_ret
    exact ⟨ret_bool HA.out.symm, HB.out⟩
  · rw [h1] at e1
    have HA : Hid (ans = true) := Lib.hid (by rw [HE.out, h1]; rfl)
    clear h1 e2
    go_enter Tryd.func73, Tryd.ntmps73
    go_wp2
    go_ret
    exact ⟨ret_bool HA.out.symm, HB.out⟩
set_option maxHeartbeats 800000 in
set_option maxRecDepth 100000 in
theorem isCut_any (n : Nat) (s : List UInt8) (h : aciB n s = true) (S : Nat) (hS : S < 2 ^ n) (a : Option Addr) (c : Nat) (w : World) (hx : Prs w a (splL (sgnF (lookS n s)) n)) :
    Calls Tryd.prog 48 #[.int .i64 S, .slice a (splL (sgnF (lookS n s)) n).length c] w fun e w' => e = .returned (.bool (acS n s S)) ∧ Below w.heap.size w w' := by
  have hmf : ∀ (fn : Fn) (first cap : Array Value) (w : World), (Instr.makeFunc fn first cap).run Tryd.prog w = .ok (.func fn first cap) w := fun _ _ _ _ => rfl
  have h7 := (aciB_n h).2
  have h7 : n ≤ 7 := by omega
  have hS7 : S < 128 := Nat.lt_of_lt_of_le hS (Nat.pow_le_pow_right (by omega) h7 : 2 ^ n ≤ 2 ^ 7)
  have eg : ∀ args w, (callFunc 73 args).run Tryd.prog w = .ok (.enter 73 args) w := enters_of Tryd.func73 (by kernel_rfl) rfl
  obtain ⟨w0, hw0⟩ : ∃ w0, w0 = w.alloc (.cells #[.int .i64 S] 3) := ⟨_, rfl⟩
  have B0 : Below w.heap.size w w0 := by rw [hw0]; exact (Below.refl _ _).alloc (Nat.le_refl _) _
  have c0 : w0.cell? ⟨w.heap.size, 0, none⟩ = some (.int .i64 S) := by rw [hw0]; go_simp
  have hsl : (splL (sgnF (lookS n s)) n).length ≤ 1000 := by
    have := fours_len h7
    unfold splL
    rw [List.length_map]; omega
  have HC := Lib.hid (contains2_any a c (splL (sgnF (lookS n s)) n) hsl (fun t => hitB S t.1 t.2) 73 #[.pointer (some ⟨w.heap.size, 0, none⟩)] eg w0 (hx.on B0) (Lib.hid (fun W t hW hm => by
    unfold splL at hm
    obtain ⟨u, hu, rfl⟩ := List.mem_map.1 hm
    obtain ⟨-, k1, k2⟩ := sp_eq h hu
    exact hit_any S _ _ w.heap.size hS7 k1 k2 W (by rw [hW.cell (Kit.cell_lt c0)]; exact c0))))
  rw [cut_iff h hS] at HC
  generalize acS n s S = ans at HC ⊢
  generalize (splL (sgnF (lookS n s)) n).length = m at HC
  rw [hw0] at HC B0
  have HB := Lib.hid B0
  have hnn : (!(!ans)) = ans := by cases ans <;> rfl
  obtain ⟨na, hna⟩ : ∃ na, na = !ans := ⟨_, rfl⟩
  rw [← hna] at HC
  have HNN : Hid ((!na) = ans) := Lib.hid (by rw [hna]; exact hnn)
  clear hx c0 hw0 B0 hna hnn h
  go_enter Tryd.func48, Tryd.ntmps48
  go_wp2_with fail
  refine HC.out.mono ?_
  rintro e w1 ⟨rfl, hb1⟩
  have B1 := HB.out.trans (hb1.mono HB.out.size)
  go_wp2
  go_ret
  exact ⟨ret_bool HNN.out, B1⟩
end Go.Proofs.YtflcpgdgoencgaaDoor.Sg
/- What lies left, as impl counts it: the elements as a slice, leftCount, LeftCount. -/
namespace Go.Proofs.YtflcpgdgoencgaaDoor.Sg
open Go.RowKit Pt NewI
theorem elt_all0 : ∀ n, n < 8 → eltN (2 ^ n - 1) = List.range n := by decide +kernel
theorem elsN_range {n : Nat} {s : List UInt8} (h : aciB n s = true) : elsN n s = List.range n := by
  have h7 := (aciB_n h).2
  rw [elsN_yes h]; exact elt_all0 n (by omega)
/-- The elements, ascending, in block g. -/
def ElsIs (W : World) (g m : Nat) : Prop := ∀ k : Nat, k < m → W.cell? ⟨g, k, none⟩ = some (.int .i64 k)
theorem ElsIs.on {W W' : World} {g m : Nat} (h : ElsIs W g m) (hb : Below W.heap.size W W') : ElsIs W' g m := fun k hk => by
  rw [hb.cell (Kit.cell_lt (h k hk))]; exact h k hk
/-- orderOf of order signs, and of others. -/
theorem orderOf_yes (n : Nat) (s : ByteArray) (hs : s.size ≤ 9223372036854775807) (h : aciB n s.data.toList = true) (w : World) (hT : Tab w) :
    Calls Tryd.prog 35 #[sg n s] w fun e w' => ∃ b g c, e = .returned (.tuple #[.map (some b), .slice (some ⟨g, 0, none⟩) n c]) ∧ MapIs w' b (lookS n s.data.toList) ∧ ElsIs w' g n ∧ ResZ w' 0 (.slice (some ⟨g, 0, none⟩) n c) (zl (elsN n s.data.toList)) ∧ Below w.heap.size w w' := by
  refine (orderOf_any n s hs w hT).mono ?_
  rintro e w' ⟨b, v, rfl, hm, hv, hb⟩
  have h3 := (aciB_n h).1
  have hl := els_len h
  rw [ordF_yes h] at hm
  have hr := elsN_range h
  rcases hv with ⟨h0, -⟩ | ⟨h0, g, c, rfl, h1, h2, h4, h5, h6⟩
  · have := zl_nil h0
    rw [this] at hl
    simp at hl; omega
  · have hzl : (zl (elsN n s.data.toList)).length = n := by rw [zl_length, hl]
    have hv : Value.slice (some ⟨g, 0, none⟩) (zl (elsN n s.data.toList)).length c = .slice (some ⟨g, 0, none⟩) n c := by rw [hzl]
    refine ⟨b, g, c, by rw [hv], hm, fun k hk => ?_, .inr ⟨h0, g, c, hv.symm, Nat.zero_le _, h2, h4, h5, h6⟩, hb⟩
    rw [h6.cell k (by omega), zc_zl (by omega), hr, List.getD_eq_getElem?_getD, List.getElem?_range hk]
    rfl
theorem orderOf_no (n : Int) (s : ByteArray) (hs : s.size ≤ 9223372036854775807) (h : aciB n s.data.toList = false) (w : World) (hT : Tab w) :
    Calls Tryd.prog 35 #[sg n s] w fun e w' => ∃ b, e = .returned (.tuple #[.map (some b), .slice none 0 0]) ∧ Below w.heap.size w w' := by
  refine (orderOf_any n s hs w hT).mono ?_
  rintro e w' ⟨b, v, rfl, hm, hv, hb⟩
  rw [elsN_no h] at hv
  rcases hv with ⟨-, rfl⟩ | ⟨h0, -⟩
  · exact ⟨b, rfl, hb⟩
  · exact absurd rfl h0
/-- How many of the first k elements are to the left of two, as impl counts them. -/
def leK (F : Int → Int → Int → Int) (i j k : Nat) : Nat := (List.range k).countP fun (k : Nat) => F i j k == 1
theorem leK_succ (F : Int → Int → Int → Int) (i j k : Nat) : leK F i j (k + 1) = leK F i j k + bit (F i j k == 1) := by
  unfold leK
  rw [List.range_succ, List.countP_append, List.countP_singleton]
  cases (F i j k == 1) <;> rfl
theorem leK_le (F : Int → Int → Int → Int) (i j k : Nat) : leK F i j k ≤ k := by
  unfold leK
  have := List.countP_le_length (p := fun (k : Nat) => F i j k == 1) (l := List.range k)
  rwa [List.length_range] at this
theorem leK_eq {n : Nat} {s : List UInt8} (h : arB n s = true) {i j : Nat} (hi : i < n) (hj : j < n) (hij : i ≠ j) : leK (sgnF (lookS n s)) i j n = leftN (sgnF (lookS n s)) n i j := by
  unfold leK leftN
  refine List.countP_congr fun k hk => ?_
  have hk := List.mem_range.1 hk
  by_cases e1 : k = i
  · rw [sgnF_bad h (by omega)]; simp [e1]
  · by_cases e2 : k = j
    · rw [sgnF_bad h (by omega)]; simp [e2]
    · have k1 : (k != i) = true := by simpa using e1
      have k2 : (k != j) = true := by simpa using e2
      rw [k1, k2]
      rcases sgn_one h (x := i) (y := j) (z := k) hi hj hk hij (fun e => e2 e.symm) (fun e => e1 e.symm) with e | e <;> rw [e] <;> decide
theorem leK_same {n : Nat} {s : List UInt8} (h : arB n s = true) (i k : Nat) : leK (sgnF (lookS n s)) i i k = 0 := by
  unfold leK
  rw [List.countP_eq_zero]
  intro x _
  rw [sgnF_bad h (by omega)]
  decide
theorem els_has {n : Nat} {s : List UInt8} (h : aciB n s = true) (i : Int) : (zl (elsN n s)).contains i = inB i 0 ((n : Int) - 1) := by
  cases hin : inB i 0 ((n : Int) - 1)
  · exact contains_out (elsN_n h) hin
  · obtain ⟨p0, p1⟩ := inB_mem hin
    obtain ⟨p, rfl⟩ : ∃ p : Nat, i = p := ⟨i.toNat, by omega⟩
    exact contains_els h (by omega)
end Go.Proofs.YtflcpgdgoencgaaDoor.Sg
/- math/bits.OnesCount of small sets. -/
namespace Go.Proofs.YtflcpgdgoencgaaDoor.Sg
open Go.RowKit Pt NewI
/-- The steps of OnesCount64. -/
def oc1 (x : Nat) : Nat := (x / 2 &&& 6148914691236517205) + (x &&& 6148914691236517205)
def oc2 (y : Nat) : Nat := (y / 4 &&& 3689348814741910323) + (y &&& 3689348814741910323)
def oc3 (y : Nat) : Nat := (y / 16 + y) &&& 1085102592571150095
theorem oc_all : ∀ x : Nat, x < 128 → oc1 x < 256 ∧ oc2 (oc1 x) < 256 ∧ oc3 (oc2 (oc1 x)) < 128 ∧ (oc3 (oc2 (oc1 x)) &&& 127) = pcS x := by decide +kernel
theorem and_i64 (a b : Nat) (ha : a < 1024) (hb : b < 1024) : bits BinOp.and IntKind.i64 (a : Int) (b : Int) = ((a &&& b : Nat) : Int) := by
  have hl : a &&& b < 1024 := Nat.lt_of_le_of_lt Nat.and_le_left ha
  show IntKind.i64.wrap ((BitVec.ofInt 64 a &&& BitVec.ofInt 64 b).toNat : Int) = _
  rw [BitVec.toNat_and, BitVec.ofInt_natCast, BitVec.ofInt_natCast, BitVec.toNat_ofNat, BitVec.toNat_ofNat, Nat.mod_eq_of_lt (by omega), Nat.mod_eq_of_lt (by omega), IntKind.wrap_i64]
  omega
set_option maxHeartbeats 800000 in
set_option maxRecDepth 100000 in
theorem ones_core (x a1 a2 y1 b1 b2 y2 z1 y3 r : Nat) (w : World) (_hy3 : y3 < 128)
    (h1 : bits BinOp.and IntKind.u64 ((x : Int) / 2) 6148914691236517205 = (a1 : Int)) (h2 : bits BinOp.and IntKind.u64 (x : Int) 6148914691236517205 = (a2 : Int)) (h3 : IntKind.u64.wrap ((a1 : Int) + (a2 : Int)) = (y1 : Int))
    (h4 : bits BinOp.and IntKind.u64 ((y1 : Int) / 4) 3689348814741910323 = (b1 : Int)) (h5 : bits BinOp.and IntKind.u64 (y1 : Int) 3689348814741910323 = (b2 : Int)) (h6 : IntKind.u64.wrap ((b1 : Int) + (b2 : Int)) = (y2 : Int))
    (h7 : IntKind.u64.wrap ((y2 : Int) / 16 + (y2 : Int)) = (z1 : Int)) (h8 : bits BinOp.and IntKind.u64 (z1 : Int) 1085102592571150095 = (y3 : Int))
    (h9 : IntKind.u64.wrap ((y3 : Int) + (y3 : Int) / 256) = (y3 : Int)) (h10 : IntKind.u64.wrap ((y3 : Int) + (y3 : Int) / 65536) = (y3 : Int)) (h11 : IntKind.u64.wrap ((y3 : Int) + (y3 : Int) / 4294967296) = (y3 : Int))
    (h12 : IntKind.i64.wrap (y3 : Int) = (y3 : Int)) (h13 : bits BinOp.and IntKind.i64 (y3 : Int) 127 = (r : Int)) :
    Calls Tryd.prog 81 #[.int .u64 x] w fun e w' => e = .returned (.int .i64 r) ∧ w = w' := by
  go_enter Tryd.func81, Tryd.ntmps81
  go_wp2
  go_ret
  exact ⟨rfl, rfl⟩
theorem ones64_any (x : Nat) (h7 : x < 128) (w : World) :
    Calls Tryd.prog 81 #[.int .u64 x] w fun e w' => e = .returned (.int .i64 (pcS x : Nat)) ∧ w = w' := by
  obtain ⟨k1, k2, k3, k4⟩ := oc_all x h7
  have e2 : (x : Int) / 2 = ((x / 2 : Nat) : Int) := by omega
  have n1 : (x / 2 &&& 6148914691236517205) < 128 := Nat.lt_of_le_of_lt Nat.and_le_left (by omega)
  have n2 : (x &&& 6148914691236517205) < 128 := Nat.lt_of_le_of_lt Nat.and_le_left (by omega)
  have e4 : ((oc1 x : Nat) : Int) / 4 = ((oc1 x / 4 : Nat) : Int) := by omega
  have n4 : (oc1 x / 4 &&& 3689348814741910323) < 256 := Nat.lt_of_le_of_lt Nat.and_le_left (by omega)
  have n5 : (oc1 x &&& 3689348814741910323) < 256 := Nat.lt_of_le_of_lt Nat.and_le_left (by omega)
  refine ones_core x (x / 2 &&& 6148914691236517205) (x &&& 6148914691236517205) (oc1 x) (oc1 x / 4 &&& 3689348814741910323) (oc1 x &&& 3689348814741910323) (oc2 (oc1 x)) (oc2 (oc1 x) / 16 + oc2 (oc1 x)) (oc3 (oc2 (oc1 x))) (pcS x) w k3 ?_ ?_ ?_ ?_ ?_ ?_ ?_ ?_ ?_ ?_ ?_ ?_ ?_
  · rw [e2]; exact bits_andU _ 6148914691236517205 (by omega) (by omega)
  · exact bits_andU _ 6148914691236517205 (by omega) (by omega)
  · rw [IntKind.wrap_u64]; unfold oc1 at k1 ⊢; omega
  · rw [e4]; exact bits_andU _ 3689348814741910323 (by omega) (by omega)
  · exact bits_andU _ 3689348814741910323 (by omega) (by omega)
  · rw [IntKind.wrap_u64]; generalize oc1 x = y at *; unfold oc2 at k2 ⊢; omega
  · rw [IntKind.wrap_u64]; omega
  · exact bits_andU _ 1085102592571150095 (by omega) (by omega)
  · rw [IntKind.wrap_u64]; omega
  · rw [IntKind.wrap_u64]; omega
  · rw [IntKind.wrap_u64]; omega
  · rw [IntKind.wrap_i64]; omega
  · rw [← k4]; exact and_i64 _ 127 (by omega) (by omega)
set_option maxRecDepth 100000 in
theorem ones_any (x : Nat) (h7 : x < 128) (w : World) :
    Calls Tryd.prog 58 #[.int .u64 x] w fun e w' => e = .returned (.int .i64 (pcS x : Nat)) ∧ w = w' := by
  have HC := Lib.hid (ones64_any x h7 w)
  have hw : IntKind.u64.wrap (x : Int) = (x : Int) := by rw [IntKind.wrap_u64]; omega
  generalize pcS x = r at HC ⊢
  go_enter Tryd.func58, Tryd.ntmps58
  go_wp2_with fail
  refine HC.out.mono ?_
  rintro e w' ⟨rfl, rfl⟩
  go_wp2
  go_ret
  exact ⟨rfl, rfl⟩
set_option maxRecDepth 100000 in
theorem sizeOf_any (S : Nat) (hS : S < 128) (w : World) :
    Calls Tryd.prog 40 #[.int .i64 S] w fun e w' => e = .returned (.int .i64 (pcS S : Nat)) ∧ w = w' := by
  have HC := Lib.hid (ones_any S hS w)
  have hcv : IntKind.u64.wrap (S : Int) = (S : Int) := by rw [IntKind.wrap_u64]; omega
  generalize pcS S = r at HC ⊢
  go_enter Tryd.func40, Tryd.ntmps40
  go_wp2_with fail
  refine HC.out.mono ?_
  rintro e w' ⟨rfl, rfl⟩
  go_wp2
  go_ret
  exact ⟨rfl, rfl⟩
end Go.Proofs.YtflcpgdgoencgaaDoor.Sg
/- What lies left, as impl tells it: CutSets. -/
namespace Go.Proofs.YtflcpgdgoencgaaDoor.Sg
open Go.RowKit Pt NewI
theorem pcS_le2 (n : Nat) (S : Nat) (hS : S < 2 ^ n) (h7 : n ≤ 7) : pcS S ≤ n := by
  rcases (by omega : n = 0 ∨ n = 1 ∨ n = 2 ∨ n = 3 ∨ n = 4 ∨ n = 5 ∨ n = 6 ∨ n = 7) with rfl | rfl | rfl | rfl | rfl | rfl | rfl | rfl
  · exact (by decide +kernel : ∀ S, S < 1 → pcS S ≤ 0) S hS
  · exact (by decide +kernel : ∀ S, S < 2 → pcS S ≤ 1) S hS
  · exact (by decide +kernel : ∀ S, S < 4 → pcS S ≤ 2) S hS
  · exact (by decide +kernel : ∀ S, S < 8 → pcS S ≤ 3) S hS
  · exact (by decide +kernel : ∀ S, S < 16 → pcS S ≤ 4) S hS
  · exact (by decide +kernel : ∀ S, S < 32 → pcS S ≤ 5) S hS
  · exact (by decide +kernel : ∀ S, S < 64 → pcS S ≤ 6) S hS
  · exact (by decide +kernel : ∀ S, S < 128 → pcS S ≤ 7) S hS
theorem setsTo_none {q : Nat → Bool} : ∀ M, (∀ S, S < M → q S = false) → setsTo q M = []
  | 0, _ => rfl
  | M + 1, h => by
    rw [setsTo_miss (h M (by omega))]
    exact setsTo_none M fun S hS => h S (by omega)
/-- What CutSets answers, whatever k is. -/
theorem cutZ_all {n : Nat} {s : List UInt8} (h : aciB n s = true) (k : Int) : cutZ n s k = setsTo (cutQ n s k) (2 ^ n) := by
  have h7 := (aciB_n h).2
  unfold cutZ
  rw [Int.toNat_natCast]
  cases hin : inB k 0 (n : Int)
  · rw [if_neg (by simp)]
    refine (setsTo_none _ fun S hS => ?_).symm
    unfold cutQ
    have := pcS_le2 n S hS (by omega)
    have e : (((pcS S : Nat) : Int) == k) = false := beq_eq_false_iff_ne.2 (fun e => by
      rw [inB_yes (by omega) (by omega)] at hin; cases hin)
    rw [e]; rfl
  · rw [if_pos ⟨h, rfl⟩]
set_option maxHeartbeats 3200000 in
set_option maxRecDepth 100000 in
theorem implCutSets (n : Int) (s : ByteArray) (k : Int) (hs : s.size ≤ 9223372036854775807) (w : World) (hT : Tab w) :
    Calls Tryd.prog 31 #[sg n s, .int .i64 k] w fun e w' => Got w.heap.size (cutZ n s.data.toList k) e w' ∧ Below w.heap.size w w' := by
  have HS := Lib.hid (box_made w n s 26)
  have HT := Lib.hid (fun W hW => hT.on (w' := W) hW)
  clear hT
  cases h : aciB n s.data.toList
  · have HO := Lib.hid (fun W hW => orderOf_no n s hs h W (HT.out W hW))
    have HE : Hid (cutZ n s.data.toList k = []) := Lib.hid (by unfold cutZ; rw [h]; simp)
    clear h
    go_enter Tryd.func31, Tryd.ntmps31
    go_wp2_with fail
    refine (HO.out _ HS.out.2.2).mono ?_
    rintro e w1 ⟨b, rfl, hb1⟩
    have B1 := Lib.hid (HS.out.on hb1).2.2
    clear hb1
    go_wp2
    go_ret
    exact ⟨by rw [HE.out]; exact ⟨none, 0, rfl, .inl rfl⟩, B1.out⟩
  · obtain ⟨h3, h7⟩ := aciB_n h
    obtain ⟨m, rfl⟩ : ∃ m : Nat, n = m := ⟨n.toNat, by omega⟩
    have h7 : m ≤ 7 := by omega
    have hpw := pow_le7 h7
    have HO := Lib.hid (fun W hW => orderOf_yes m s hs h W (HT.out W hW))
    have HSP := Lib.hid (fun B W hm => splitsOf_any m s.data.toList h B W hm)
    rw [ordF_yes h] at HSP
    have HIC := Lib.hid (fun S hS a c W hx => isCut_any m s.data.toList h S hS a c W hx)
    rw [cutZ_all h]
    have HQ : Hid (∀ S, cutQ m s.data.toList k S = ((((pcS S : Nat) : Int) == k) && acS m s.data.toList S)) := Lib.hid (fun S => rfl)
    have HON := Lib.hid (fun (S : Nat) (hS : S < 2 ^ m) W => sizeOf_any S (by omega) W)
    obtain ⟨i0, hi, hz0, hz1, hz2⟩ := info_parts infoI
    obtain ⟨M, hM⟩ : ∃ M, M = 2 ^ m := ⟨_, rfl⟩
    have hsh : IntKind.i64.wrap ((2 : Int) ^ m) = (M : Int) := by
      rw [hM]; push_cast; exact IntWalk.i64_in _ (by have : ((2 ^ m : Nat) : Int) = (2 : Int) ^ m := by push_cast; rfl
                                                     omega)
    rw [← hM] at HIC HON hpw ⊢
    generalize zl (elsN m s.data.toList) = ys at HO
    generalize cutQ m s.data.toList k = q at HQ ⊢
    generalize acS m s.data.toList = ac at HIC HQ
    generalize splL (sgnF (lookS m s.data.toList)) m = SL at HSP HIC
    generalize lookS m s.data.toList = f at HO HSP
    generalize pcS = pc at HON HQ
    have HSL := Lib.hid (setsTo_length q)
    have HH := Lib.hid (fun p => setsTo_hit (q := q) (p := p))
    have HMI := Lib.hid (fun p => setsTo_miss (q := q) (p := p))
    have hn0 : ((m : Int) == 0) = false := beq_eq_false_iff_ne.2 (by omega)
    have hmb : (0 : Int) ≤ (m : Int) ∧ (m : Int) < 64 := by omega
    clear h hM
    go_enter Tryd.func31, Tryd.ntmps31
    go_wp2_with fail
    refine (HO.out _ HS.out.2.2).mono ?_
    rintro e w1 ⟨b, g, c, rfl, hm, he, hr, hb1⟩
    have B1 := Lib.hid (HS.out.on hb1).2.2
    have M1 := Lib.hid hm
    clear hb1 hm he hr
    go_wp2_with fail
    refine (HSP.out _ _ M1.out).mono ?_
    rintro e w2 ⟨a2, c2, rfl, hp, hb2⟩
    have B2 := Lib.hid (B1.out.trans (hb2.mono B1.out.size))
    have P2 := Lib.hid hp
    have HO2 : Hid (OwnsZ w2 w2.heap.size (.slice none 0 0) (setsTo q 0)) := Lib.hid (World.ownsRow_nil _ _ _ _)
    clear hb2 hp
    go_wp2
    go_loopw [8, 25] (fun vv x wr => ∃ p : Nat, p ≤ M ∧ x = .int .i64 p ∧ Hid (OwnsZ wr w2.heap.size vv (setsTo q p)) ∧ Hid (Below w2.heap.size w2 wr)) (fun _ x _ => M - (intOf x).toNat)
    case atStart => exact ⟨0, Nat.zero_le _, rfl, HO2, Lib.hid (Below.refl _ _)⟩
    case round =>
      obtain ⟨p, hp, rfl, HO, HB⟩ := hrel
      by_cases hlt : p < M
      · have hpl := HSL.out p
        have HC := Lib.hid (HON.out p hlt)
        have HD := Lib.hid (HIC.out p hlt a2 c2 wr (P2.out.on HB.out))
        have HQP := Lib.hid (HQ.out p)
        have HHP := Lib.hid (HH.out p)
        have HMP := Lib.hid (HMI.out p)
        have hcv : IntKind.u64.wrap (p : Int) = (p : Int) := by rw [IntKind.wrap_u64]; omega
        generalize pc p = t at HC HQP
        generalize ac p = r at HD HQP
        generalize setsTo q p = xs at HO hpl HHP HMP
        have hwr := HB.out.size
        cases ht : (((t : Nat) : Int) == k)
        · have HE := Lib.hid (HMP.out (by rw [HQP.out, ht]; rfl))
          have HO5 := HO
          rw [← HE.out] at HO5
          go_wp2_with fail
          refine (HC.out _).mono ?_
          rintro e w' ⟨rfl, rfl⟩
          go_wp2
          exact ⟨⟨p + 1, by omega, by go_num, HO5, HB⟩, by simp only [intOf]; omega⟩
        · cases r
          · have HE := Lib.hid (HMP.out (by rw [HQP.out, ht]; rfl))
            go_wp2_with fail
            refine (HC.out _).mono ?_
            rintro e w' ⟨rfl, rfl⟩
            go_wp2_with fail
            refine HD.out.mono ?_
            rintro e w3 ⟨rfl, hb3⟩
            have HB3 := Lib.hid (HB.out.trans (hb3.mono hwr))
            have HO5 := Lib.hid (ownsZ_on HO.out hb3)
            rw [← HE.out] at HO5
            clear hb3
            go_wp2
            exact ⟨⟨p + 1, by omega, by go_num, HO5, HB3⟩, by simp only [intOf]; omega⟩
          · have HE := Lib.hid (HHP.out (by rw [HQP.out, ht]; rfl))
            go_wp2_with fail
            refine (HC.out _).mono ?_
            rintro e w' ⟨rfl, rfl⟩
            go_wp2_with fail
            refine HD.out.mono ?_
            rintro e w3 ⟨rfl, hb3⟩
            have HB3 := Lib.hid (HB.out.trans (hb3.mono hwr))
            have HO3 := Lib.hid (ownsZ_on HO.out hb3)
            have hs3 := HB3.out.size
            clear hb3
            go_wp2_with (at_builtin; refine wpList_append_own _ rfl (.tmp 37) (.tmp 39) 29 rfl w2.heap.size 3 i0 _ 1 8 Tryd.underlying29 hi hz0 hz1 hz2 rfl (by decide) _ _ _ rfl (World.ownsRow.alloc HO3.out _) ⟨_, 0, none⟩ 1 1 [.int .i64 (p : Int)] rfl rfl (news1 _ _ _) (one1 _) (by simp only [maxLen]; omega) (by omega) (by simp; omega) ?_)
            intro v6 w6 hown6 hg6 _
            have HB6 := Lib.hid ((HB3.out.alloc hs3 (.cells #[.int .i64 (p : Int)] 3)).grown hg6 (by simp; omega) (fun k hk => (World.ownsRow.lt HO3.out k hk).1))
            have HO6 : Hid (OwnsZ w6 w2.heap.size v6 (xs ++ [(p : Int)])) := Lib.hid (ownsZ_snoc (ys := [(p : Int)]) hown6)
            rw [← HE.out] at HO6
            clear hown6 hg6
            go_wp2
            exact ⟨⟨p + 1, by omega, by go_num, HO6, HB6⟩, by simp only [intOf]; omega⟩
      · obtain rfl : p = M := by omega
        obtain ⟨ra, rc, rfl, hnew, -⟩ := New.of_own HO.out
        have HN := Lib.hid hnew
        have hs2 := B2.out.size
        clear hnew
        go_wp2
        go_ret
        exact ⟨⟨_, _, rfl, new_low HN.out hs2⟩, B2.out.trans (HB.out.mono hs2)⟩
end Go.Proofs.YtflcpgdgoencgaaDoor.Sg
/- What lies left, as impl tells it: LeftTable. -/
namespace Go.Proofs.YtflcpgdgoencgaaDoor.Sg
open Go.RowKit Pt NewI NewII
theorem rowT_step {n : Nat} {s : List UInt8} (h : arB n s = true) {i j : Nat} (hi : i < n) (hj : j < n) : rowT (leftN (sgnF (lookS n s)) n) i (j + 1) = rowT (leftN (sgnF (lookS n s)) n) i j ++ [((leK (sgnF (lookS n s)) i j n : Nat) : Int)] := by
  rw [rowT_succ]
  by_cases e : i = j
  · subst e; rw [if_pos rfl, leK_same h]; rfl
  · rw [if_neg e, leK_eq h hi hj e]
theorem tabZ_no {n : Int} {s : List UInt8} (h : aciB n s = false) : tabZ n s = [] := by unfold tabZ; rw [h]; rfl
end Go.Proofs.YtflcpgdgoencgaaDoor.Sg
/- Reading LeftTable's rows: CrossingSum and LeftRow of impl. -/
namespace Go.Proofs.YtflcpgdgoencgaaDoor.Sg
open Go.RowKit Pt NewI NewII
/-- A table's cells: m rows of m numbers, in blocks of their own. -/
def TabR (W : World) (b m : Nat) (g c : Nat → Nat) (T : Nat → Nat → Nat) : Prop := ∀ i, i < m → W.cell? ⟨b, i, none⟩ = some (.slice (some ⟨g i, 0, none⟩) m (c i)) ∧ ∀ j, j < m → W.cell? ⟨g i, j, none⟩ = some (.int .i64 (T i j : Nat))
theorem TabR.on {W W' : World} {b m : Nat} {g c : Nat → Nat} {T : Nat → Nat → Nat} (h : TabR W b m g c T) (hb : Below W.heap.size W W') : TabR W' b m g c T := fun i hi => by
  obtain ⟨h1, h2⟩ := h i hi
  exact ⟨by rw [hb.cell (Kit.cell_lt h1)]; exact h1, fun j hj => by rw [hb.cell (Kit.cell_lt (h2 j hj))]; exact h2 j hj⟩
/-- The table's numbers. -/
def tabN (q : Nat → Nat → Nat) (i j : Nat) : Nat := if i = j then 0 else q i j
theorem tabR_of {W : World} {lo hi m : Nat} {a : Option Addr} {q : Nat → Nat → Nat} (h3 : 1 ≤ m) (h : Lists W lo hi a (tabT q m m) (org (tabT q m m))) : ∃ b g c, a = some ⟨b, 0, none⟩ ∧ TabR W b m g c (tabN q) := by
  have hl := tabT_len q m m
  rcases h with h | ⟨b, gs, rfl, hr⟩
  · rw [h] at hl; simp at hl; omega
  · refine ⟨b, fun i => (gs.getD i (0, 0)).1, fun i => (gs.getD i (0, 0)).2, rfl, fun i hi => ?_⟩
    obtain ⟨g, hg⟩ : ∃ g, gs[i]? = some g := ⟨_, List.getElem?_eq_getElem (by rw [hr.len, hl]; exact hi)⟩
    have hgd : gs.getD i (0, 0) = g := by rw [List.getD_eq_getElem?_getD, hg]; rfl
    have hrow : (tabT q m m).getD i [] = rowT q i m := by
      unfold tabT
      rw [List.getD_eq_getElem?_getD, List.getElem?_map, List.getElem?_range hi]; rfl
    have hln : ln (tabT q m m) i = m := by unfold ln; rw [hrow, rowT_len]
    obtain ⟨-, -, -, r1⟩ := hr.row i g hg
    have r0 := hr.outer i g hg
    rw [hln] at r0 r1
    dsimp only
    rw [hgd]
    refine ⟨r0, fun j hj => ?_⟩
    rw [r1.cell j hj]
    unfold org
    rw [hrow, zc_lt (by rw [rowT_len]; exact hj)]
    unfold rowT tabN
    simp only [List.getElem_map, List.getElem_range]
    split <;> rfl
theorem tabN_ne {q : Nat → Nat → Nat} {i j : Nat} (h : i ≠ j) : tabN q i j = q i j := by unfold tabN; rw [if_neg h]
end Go.Proofs.YtflcpgdgoencgaaDoor.Sg
