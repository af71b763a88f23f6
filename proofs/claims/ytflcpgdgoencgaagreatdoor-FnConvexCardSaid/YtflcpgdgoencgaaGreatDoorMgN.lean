/- Several texts in one: LeSplits, LeArg, LeOnes. -/
import Derived.Test.YtflcpgdgoencgaaGreatDoorMgE
import Derived.Test.YtflcpgdgoencgaaGreatDoorQuSplitImpl
import Derived.Test.YtflcpgdgoencgaaGreatDoorLeHit
import Derived.Test.YtflcpgdgoencgaaGreatDoorHuImpl
import Derived.Test.YtflcpgdgoencgaaGreatDoorMgM
/- What lies left, as impl tells it: splitsOf, isCut. -/
namespace Go.Proofs.YtflcpgdgoencgaaGreatDoor.Sg
open Go.RowKit Pt NewI
/-- The cells of a list of pairs. -/
def c2 : List (Nat × Nat) → List Value
  | [] => []
  | t :: r => .int .i64 t.1 :: .int .i64 t.2 :: c2 r
theorem c2_append : ∀ xs ys : List (Nat × Nat), c2 (xs ++ ys) = c2 xs ++ c2 ys
  | [], ys => rfl
  | t :: r, ys => by simp [c2, c2_append r ys]
theorem c2_get : ∀ (xs : List (Nat × Nat)) (j : Nat) (t : Nat × Nat), xs[j]? = some t → (c2 xs)[j * 2]? = some (.int .i64 t.1) ∧ (c2 xs)[j * 2 + 1]? = some (.int .i64 t.2)
  | [], j, t, h => by simp at h
  | x :: r, 0, t, h => by
    simp only [List.getElem?_cons_zero, Option.some.injEq] at h
    subst h
    exact ⟨rfl, rfl⟩
  | x :: r, j + 1, t, h => by
    have := c2_get r j t (by simpa using h)
    rw [show (j + 1) * 2 = j * 2 + 2 by omega]
    simpa [c2] using this
def Owns2 (w : World) (B : Nat) (v : Value) (xs : List (Nat × Nat)) : Prop := w.ownsRow B 105 2 v xs.length (c2 xs)
theorem owns2_snoc {w : World} {B : Nat} {v : Value} {xs : List (Nat × Nat)} {i j : Nat} (h : w.ownsRow B 105 2 v (xs.length + 1) (c2 xs ++ [.int .i64 i, .int .i64 j])) : Owns2 w B v (xs ++ [(i, j)]) := by
  unfold Owns2
  rw [c2_append, List.length_append]
  exact h
theorem owns2_on {w w' : World} {B : Nat} {v : Value} {xs : List (Nat × Nat)} (h : Owns2 w B v xs) (hb : Below w.heap.size w w') : Owns2 w' B v xs :=
  World.ownsRow.kept h (row := none) ⟨hb.os, hb.tape, hb.output, hb.size, fun k hk _ => hb.block k hk⟩ (by cases v.ownBlock <;> simp)
set_option maxRecDepth 100000 in
theorem info2 : (Tryz.prog.info? 105).map (fun i => (i.zero, i.size, i.bytes)) = some (some (.agg #[.int .i64 0, .int .i64 0]), 2, 16) := by kernel_rfl
theorem news2 (w : World) (x y : Int) (t : TypeId) : ∀ (j : Nat) v, [Value.int .i64 x, Value.int .i64 y][j]? = some v → (w.alloc (.cells #[.int .i64 x, .int .i64 y] t)).cell? (Addr.add ⟨w.heap.size, 0, none⟩ j) = some v
  | 0, v, h => by rw [WideShapes.add_plain, Nat.add_zero, World.cell?_alloc_new]; simpa using h
  | 1, v, h => by rw [WideShapes.add_plain, World.cell?_alloc_new]; simpa using h
  | j + 2, v, h => by simp at h
theorem one2 (x y : Int) : ∀ v ∈ [Value.int .i64 x, Value.int .i64 y], v.oneCell' = true := fun v hv => by
  simp only [List.mem_cons, List.not_mem_nil, or_false] at hv
  rcases hv with rfl | rfl <;> rfl
def At2 (w : World) (g : Nat) (xs : List (Nat × Nat)) : Prop := ∀ (j : Nat) t, xs[j]? = some t → w.cell? ⟨g, j * 2, none⟩ = some (.int .i64 t.1) ∧ w.cell? ⟨g, j * 2 + 1, none⟩ = some (.int .i64 t.2)
/-- Where a slice of pairs lies, if it has any. -/
def Prs (W : World) (a : Option Addr) (xs : List (Nat × Nat)) : Prop := xs ≠ [] → ∃ g, a = some ⟨g, 0, none⟩ ∧ At2 W g xs
theorem Prs.on {W W' : World} {a : Option Addr} {xs : List (Nat × Nat)} (h : Prs W a xs) (hb : Below W.heap.size W W') : Prs W' a xs := fun hne => by
  obtain ⟨g, h1, h2⟩ := h hne
  exact ⟨g, h1, fun j t hj => ⟨by rw [hb.cell (Kit.cell_lt (h2 j t hj).1)]; exact (h2 j t hj).1, by rw [hb.cell (Kit.cell_lt (h2 j t hj).2)]; exact (h2 j t hj).2⟩⟩
theorem prs_of {w : World} {B : Nat} {v : Value} {xs : List (Nat × Nat)} (h : Owns2 w B v xs) : ∃ a c, v = .slice a xs.length c ∧ Prs w a xs := by
  obtain ⟨hl, ⟨rfl, h1⟩ | ⟨g, cap, cur, hv, hB, hh, hr⟩⟩ := id h
  · exact ⟨none, 0, by rw [h1], fun hne => absurd (List.eq_nil_of_length_eq_zero h1) hne⟩
  · subst hv
    have hc := World.ownsRow.cells h (g := g) rfl
    refine ⟨_, cap, rfl, fun _ => ⟨g, rfl, fun j t hj => ?_⟩⟩
    obtain ⟨e0, e1⟩ := c2_get xs j t hj
    have r0 := hc _ _ e0
    have r1 := hc _ _ e1
    rw [WideShapes.add_plain, Nat.zero_add] at r0 r1
    exact ⟨r0, r1⟩
/-- The sets of the first p fours. -/
def splTo (F : Int → Int → Int → Int) (n p : Nat) : List (Nat × Nat) := ((fours n).take p).map fun t => (spA F t, spB F t)
theorem splTo_succ {F : Int → Int → Int → Int} {n p : Nat} {t : T4} (h : (fours n)[p]? = some t) : splTo F n (p + 1) = splTo F n p ++ [(spA F t, spB F t)] := by
  unfold splTo
  rw [List.take_add_one, h, List.map_append]; rfl
theorem splTo_len (F : Int → Int → Int → Int) (n p : Nat) : (splTo F n p).length ≤ p := by unfold splTo; rw [List.length_map, List.length_take]; omega
theorem splTo_all (F : Int → Int → Int → Int) (n : Nat) : splTo F n (fours n).length = splL F n := by unfold splTo splL; rw [List.take_length]
set_option maxHeartbeats 3200000 in
set_option maxRecDepth 100000 in
theorem splitsOf_any (n : Nat) (s : List UInt8) (h : aciB n s = true) (B : Nat) (w : World) (hm : MapIs w B (ordF n s)) :
    Calls Tryz.prog 76 #[.map (some B), .int .i64 n] w fun e w' => ∃ a c, e = .returned (.slice a (splL (sgnF (lookS n s)) n).length c) ∧ Prs w' a (splL (sgnF (lookS n s)) n) ∧ Below w.heap.size w w' := by
  obtain ⟨h3, h7⟩ := aciB_n h
  have h3 : 3 ≤ n := by omega
  have h7 : n ≤ 7 := by omega
  obtain ⟨i0, hi, hz0, hz1, hz2⟩ := info_parts info2
  have HM := Lib.hid hm
  have HI : Hid (∀ t : T4, t ∈ fours n → ∀ W, MapIs W B (ordF n s) → Calls Tryz.prog 114 #[.map (some B), .int .i64 t.1, .int .i64 t.2.1, .int .i64 t.2.2.1, .int .i64 t.2.2.2] W fun e w' => e = .returned (.tuple #[.int .i64 (spA (sgnF (lookS n s)) t : Nat), .int .i64 (spB (sgnF (lookS n s)) t : Nat)]) ∧ Below W.heap.size W w') := Lib.hid (fun t ht W hW => by
    obtain ⟨h1, h2, h3, h4⟩ := fours_mem h7 ht
    have := splitOf_any n s t.1 t.2.1 t.2.2.1 t.2.2.2 (i64_nat (by omega)) (i64_nat (by omega)) (i64_nat (by omega)) (i64_nat (by omega)) B W hW
    have e : splitZ n s t.1 t.2.1 t.2.2.1 t.2.2.2 = (((spA (sgnF (lookS n s)) t : Nat) : Int), ((spB (sgnF (lookS n s)) t : Nat) : Int)) := by
      unfold splitZ
      rw [ordF_yes h]
      exact (sp_eq h ht).1
    rw [e] at this
    exact this)
  generalize ordF n s = f at HM HI
  generalize sgnF (lookS n s) = F at HI ⊢
  have hl4 := fours_len h7
  have HQL := Lib.hid (splTo_len F n)
  have HALL := Lib.hid (splTo_all F n)
  have HO0 : Hid (Owns2 w w.heap.size (.slice none 0 0) (splTo F n 0)) := Lib.hid (World.ownsRow_nil _ _ _ _)
  clear hm h
  go_enter Tryz.func76, Tryz.ntmps76
  go_wp2_with fail
  refine (foursOf_any n h3 h7 _).mono ?_
  rintro e w1 ⟨v, rfl, hv, hb1⟩
  obtain ⟨a, c, rfl, hr⟩ := owns4_row hv
  have HR : Hid (Row4 w1 a (fours n)) := Lib.hid (fun hne => by obtain ⟨g, h1, _, h2, h4⟩ := hr hne; exact ⟨g, h1, h2, h4⟩)
  have B1 := Lib.hid hb1
  have HM1 := Lib.hid (HM.out.on hb1)
  have HO : Hid (Owns2 w1 w1.heap.size (.slice none 0 0) (splTo F n 0)) := Lib.hid (World.ownsRow_nil _ _ _ _)
  clear hv hr hb1 HO0
  go_wp2
  go_loopw [5, 13] (fun vv i wr => ∃ p : Nat, p ≤ (fours n).length ∧ i = .int .i64 p ∧ Hid (Owns2 wr w1.heap.size vv (splTo F n p)) ∧ Hid (Below w1.heap.size w1 wr)) (fun _ i _ => (fours n).length - (intOf i).toNat)
  case atStart => exact ⟨0, Nat.zero_le _, rfl, HO, Lib.hid (Below.refl _ _)⟩
  case round =>
    obtain ⟨p, hp, rfl, HV, HB⟩ := hrel
    by_cases hltp : p < (fours n).length
    · obtain ⟨t, ht⟩ : ∃ t, (fours n)[p]? = some t := ⟨_, List.getElem?_eq_getElem hltp⟩
      have hne : fours n ≠ [] := fun e0 => by rw [e0] at hltp; simp at hltp
      obtain ⟨g, rfl, hgl, hat4⟩ := HR.out hne
      obtain ⟨x0, x1, x2, x3⟩ := (hat4.on HB.out hgl) p t ht
      obtain ⟨t1, t2, t3, t4⟩ := fours_mem h7 (List.mem_of_getElem? ht)
      obtain ⟨z0, z1, z2, z3⟩ := box4_made wr t.1 t.2.1 t.2.2.1 t.2.2.2 102
      have HBa := Lib.hid (HB.out.alloc HB.out.size (.cells #[.int .i64 t.1, .int .i64 t.2.1, .int .i64 t.2.2.1, .int .i64 t.2.2.2] 102))
      have HVa := Lib.hid (owns2_on HV.out ((Below.refl wr.heap.size wr).alloc (Nat.le_refl _) (.cells #[.int .i64 t.1, .int .i64 t.2.1, .int .i64 t.2.2.1, .int .i64 t.2.2.2] 102)))
      have HMa := Lib.hid (HM1.out.on HBa.out)
      have HCC := Lib.hid (HI.out t (List.mem_of_getElem? ht) _ HMa.out)
      have HN := Lib.hid (splTo_succ (F := F) ht)
      have hyl := HQL.out p
      generalize splTo F n p = ys at HVa HN hyl
      generalize spA F t = X at HCC HN
      generalize spB F t = Y at HCC HN
      clear ht hat4 HV
      go_wp2_with fail
      refine HCC.out.mono ?_
      rintro e w3 ⟨rfl, hb3⟩
      have HB3 := Lib.hid (HBa.out.trans (hb3.mono HBa.out.size))
      have HV3 := Lib.hid (owns2_on HVa.out hb3)
      have hs3 := HB3.out.size
      clear hb3 HCC z0 z1 z2 z3
      go_wp2_with (at_builtin; refine wpList_append_own _ rfl (.tmp 30) (.tmp 34) 72 rfl w1.heap.size 105 i0 _ 2 16 Tryz.underlying72 hi hz0 hz1 hz2 rfl (by decide) _ _ _ rfl (World.ownsRow.alloc HV3.out _) ⟨_, 0, none⟩ 1 1 [.int .i64 X, .int .i64 Y] rfl rfl (news2 _ _ _ _) (one2 _ _) (by simp only [maxLen]; omega) (by omega) (by simp; omega) ?_)
      intro v1 w5 hown hg _
      have HV5 : Hid (Owns2 w5 w1.heap.size v1 (ys ++ [(X, Y)])) := Lib.hid (owns2_snoc hown)
      have HB5 : Hid (Below w1.heap.size w1 w5) := Lib.hid ((HB3.out.alloc HB3.out.size _).grown hg (by simp; omega) (fun q hq => (World.ownsRow.lt HV3.out q hq).1))
      rw [← HN.out] at HV5
      clear hown hg
      go_wp2
      exact ⟨⟨p + 1, by omega, by go_num, HV5, HB5⟩, by simp only [intOf]; omega⟩
    · have HV2 := HV
      rw [show p = (fours n).length by omega, HALL.out] at HV2
      obtain ⟨a2, c2', hv, hli⟩ := prs_of HV2.out
      subst hv
      have HLI := Lib.hid hli
      clear HV HV2 hli
      go_wp2
      go_ret
      exact ⟨a2, c2', rfl, HLI.out, B1.out.trans (HB.out.mono B1.out.size)⟩
set_option maxHeartbeats 800000 in
set_option maxRecDepth 100000 in
theorem index2_any (a : Option Addr) (c : Nat) (xs : List (Nat × Nat)) (h35 : xs.length ≤ 1000) (q : Nat × Nat → Bool) (k : Nat) (lb : Array Value) (eg : ∀ args w, (callFunc k args).run Tryz.prog w = .ok (.enter k args) w) (w : World) (hx : Prs w a xs)
    (HF : Hid (∀ (W : World) (t : Nat × Nat), Below w.heap.size w W → t ∈ xs → Calls Tryz.prog k (#[.agg #[.int .i64 t.1, .int .i64 t.2]] ++ lb) W fun e w' => e = .returned (.bool (q t)) ∧ Below W.heap.size W w')) :
    Calls Tryz.prog 142 #[.slice a xs.length c, .func (.func k) #[] lb] w fun e w' => (∃ r : Int, e = .returned (.int .i64 r) ∧ decide (0 ≤ r) = xs.any q) ∧ Below w.heap.size w w' := by
  have HX := Lib.hid hx
  clear hx
  go_enter Tryz.func142, Tryz.ntmps142
  go_wp2
  go_loopw [5, 8] (fun _ i wr => ∃ p : Nat, p ≤ xs.length ∧ i = .int .i64 p ∧ Hid (∀ x ∈ xs.take p, q x = false) ∧ Hid (Below w.heap.size w wr)) (fun _ i _ => xs.length - (intOf i).toNat)
  case atStart => exact ⟨0, Nat.zero_le _, rfl, Lib.hid (fun x hx => by simp at hx), Lib.hid (Below.refl _ _)⟩
  case round =>
    obtain ⟨p, hp, rfl, HQ, HB⟩ := hrel
    by_cases hlt : p < xs.length
    · obtain ⟨g, rfl, h3⟩ := HX.out.on HB.out (fun e => by rw [e] at hlt; exact absurd hlt (Nat.not_lt_zero _))
      obtain ⟨t, ht⟩ : ∃ t, xs[p]? = some t := ⟨_, List.getElem?_eq_getElem hlt⟩
      obtain ⟨x0, x1⟩ := h3 p t ht
      have HCC := Lib.hid (HF.out wr t HB.out (List.mem_of_getElem? ht))
      have HT : Hid (xs.take (p + 1) = xs.take p ++ [t]) := Lib.hid (by rw [List.take_add_one, ht]; rfl)
      have HM : Hid (q t = true → decide ((0 : Int) ≤ (p : Int)) = xs.any q) := Lib.hid (fun e => by
        rw [List.any_eq_true.2 ⟨t, List.mem_of_getElem? ht, e⟩]
        simp)
      clear h3 ht
      cases hq : q t
      · have HQ2 : Hid (∀ y ∈ xs.take (p + 1), q y = false) := Lib.hid (fun y hy => by
          rw [HT.out] at hy
          rcases List.mem_append.1 hy with h | h
          · exact HQ.out y h
          · rw [List.mem_singleton.1 h]; exact hq)
        rw [hq] at HCC
        clear hq HM
        go_wp2_with (go_at_fn k; refine HCC.out.mono ?_; rintro e w2 ⟨rfl, hb2⟩)
        have HB2 := Lib.hid (HB.out.trans (hb2.mono HB.out.size))
        exact ⟨⟨p + 1, by omega, by go_num, HQ2, HB2⟩, by simp only [intOf]; omega⟩
      · have HI : Hid (decide ((0 : Int) ≤ (p : Int)) = xs.any q) := Lib.hid (HM.out hq)
        rw [hq] at HCC
        clear hq HM
        go_wp2_with (go_at_fn k; refine HCC.out.mono ?_; rintro e w2 ⟨rfl, hb2⟩)
        have HB2 := Lib.hid (HB.out.trans (hb2.mono HB.out.size))
        go_ret
        exact ⟨⟨_, rfl, HI.out⟩, HB2.out⟩
    · have HI : Hid (decide ((0 : Int) ≤ -1) = xs.any q) := Lib.hid (by
        have : xs.any q = false := List.any_eq_false.2 (fun x hx => by rw [HQ.out x (by rw [List.take_of_length_le (by omega)]; exact hx)]; simp)
        rw [this]; rfl)
      clear HQ
      go_wp2
      go_ret
      exact ⟨⟨_, rfl, HI.out⟩, HB.out⟩
set_option maxHeartbeats 800000 in
set_option maxRecDepth 100000 in
theorem contains2_any (a : Option Addr) (c : Nat) (xs : List (Nat × Nat)) (h35 : xs.length ≤ 1000) (q : Nat × Nat → Bool) (k : Nat) (lb : Array Value) (eg : ∀ args w, (callFunc k args).run Tryz.prog w = .ok (.enter k args) w) (w : World) (hx : Prs w a xs)
    (HF : Hid (∀ (W : World) (t : Nat × Nat), Below w.heap.size w W → t ∈ xs → Calls Tryz.prog k (#[.agg #[.int .i64 t.1, .int .i64 t.2]] ++ lb) W fun e w' => e = .returned (.bool (q t)) ∧ Below W.heap.size W w')) :
    Calls Tryz.prog 115 #[.slice a xs.length c, .func (.func k) #[] lb] w fun e w' => e = .returned (.bool (xs.any q)) ∧ Below w.heap.size w w' := by
  have HI := Lib.hid (index2_any a c xs h35 q k lb eg w hx HF)
  clear hx HF
  go_enter Tryz.func115, Tryz.ntmps115
  go_wp2_with fail
  refine HI.out.mono ?_
  rintro e w1 ⟨⟨r, rfl, hr⟩, hb1⟩
  generalize hd : decide (0 ≤ r) = d at hr
  go_wp2
  go_ret
  exact ⟨ret_bool rfl, hb1⟩
theorem beq_cast (a b : Nat) : ((a : Int) == (b : Int)) = (a == b) := by
  cases h : (a == b)
  · exact beq_eq_false_iff_ne.2 (by have := beq_eq_false_iff_ne.1 h; omega)
  · exact beq_iff_eq.2 (by have := beq_iff_eq.1 h; omega)
theorem and_i64' (a b : Nat) (ha : a < 1024) (hb : b < 1024) : bits BinOp.and IntKind.i64 (a : Int) (b : Int) = ((a &&& b : Nat) : Int) := by
  have hl : a &&& b < 1024 := Nat.lt_of_le_of_lt Nat.and_le_left ha
  show IntKind.i64.wrap ((BitVec.ofInt 64 a &&& BitVec.ofInt 64 b).toNat : Int) = _
  rw [BitVec.toNat_and, BitVec.ofInt_natCast, BitVec.ofInt_natCast, BitVec.toNat_ofNat, BitVec.toNat_ofNat, Nat.mod_eq_of_lt (by omega), Nat.mod_eq_of_lt (by omega), IntKind.wrap_i64]
  omega
set_option maxHeartbeats 800000 in
set_option maxRecDepth 100000 in
theorem hit_any (S x y p : Nat) (hS : S < 128) (hx : x < 128) (hy : y < 128) (w : World) (hp : w.cell? ⟨p, 0, none⟩ = some (.int .i64 S)) :
    Calls Tryz.prog 116 #[.agg #[.int .i64 x, .int .i64 y], .pointer (some ⟨p, 0, none⟩)] w fun e w' => e = .returned (.bool (hitB S x y)) ∧ Below w.heap.size w w' := by
  have v1 := bits_or x y (by omega) (by omega)
  have hor : x ||| y < 128 := Nat.or_lt_two_pow (n := 7) hx hy
  have v2 := and_i64' S (x ||| y) (by omega) (by omega)
  have e1 := beq_cast (S &&& (x ||| y)) x
  have e2 := beq_cast (S &&& (x ||| y)) y
  have HE : Hid (hitB S x y = (S &&& (x ||| y) == x || S &&& (x ||| y) == y)) := Lib.hid rfl
  generalize hitB S x y = ans at HE ⊢
  generalize S &&& (x ||| y) = P at v2 e1 e2 HE
  generalize x ||| y = Q at v1 v2
  have HB := Lib.hid ((Below.refl w.heap.size w).alloc (Nat.le_refl _) (.cells #[.int .i64 x, .int .i64 y] 105))
  have hpl := Kit.cell_lt hp
  cases h1 : (P == x)
  · rw [h1] at e1
    have HA : Hid (ans = (P == y)) := Lib.hid (by rw [HE.out, h1]; rfl)
    generalize (P == y) = r at e2 HA
    clear h1
    go_enter Tryz.func116, Tryz.ntmps116
    go_wp2
    go_ret
    exact ⟨ret_bool HA.out.symm, HB.out⟩
  · rw [h1] at e1
    have HA : Hid (ans = true) := Lib.hid (by rw [HE.out, h1]; rfl)
    clear h1 e2
    go_enter Tryz.func116, Tryz.ntmps116
    go_wp2
    go_ret
    exact ⟨ret_bool HA.out.symm, HB.out⟩
set_option maxHeartbeats 800000 in
set_option maxRecDepth 100000 in
theorem isCut_any (n : Nat) (s : List UInt8) (h : aciB n s = true) (S : Nat) (hS : S < 2 ^ n) (a : Option Addr) (c : Nat) (w : World) (hx : Prs w a (splL (sgnF (lookS n s)) n)) :
    Calls Tryz.prog 77 #[.int .i64 S, .slice a (splL (sgnF (lookS n s)) n).length c] w fun e w' => e = .returned (.bool (acS n s S)) ∧ Below w.heap.size w w' := by
  have hmf : ∀ (fn : Fn) (first cap : Array Value) (w : World), (Instr.makeFunc fn first cap).run Tryz.prog w = .ok (.func fn first cap) w := fun _ _ _ _ => rfl
  have h7 := (aciB_n h).2
  have h7 : n ≤ 7 := by omega
  have hS7 : S < 128 := Nat.lt_of_lt_of_le hS (Nat.pow_le_pow_right (by omega) h7 : 2 ^ n ≤ 2 ^ 7)
  have eg : ∀ args w, (callFunc 116 args).run Tryz.prog w = .ok (.enter 116 args) w := enters_of Tryz.func116 (by kernel_rfl) rfl
  obtain ⟨w0, hw0⟩ : ∃ w0, w0 = w.alloc (.cells #[.int .i64 S] 3) := ⟨_, rfl⟩
  have B0 : Below w.heap.size w w0 := by rw [hw0]; exact (Below.refl _ _).alloc (Nat.le_refl _) _
  have c0 : w0.cell? ⟨w.heap.size, 0, none⟩ = some (.int .i64 S) := by rw [hw0]; go_simp
  have hsl : (splL (sgnF (lookS n s)) n).length ≤ 1000 := by
    have := fours_len h7
    unfold splL
    rw [List.length_map]; omega
  have HC := Lib.hid (contains2_any a c (splL (sgnF (lookS n s)) n) hsl (fun t => hitB S t.1 t.2) 116 #[.pointer (some ⟨w.heap.size, 0, none⟩)] eg w0 (hx.on B0) (Lib.hid (fun W t hW hm => by
    unfold splL at hm
    obtain ⟨u, hu, rfl⟩ := List.mem_map.1 hm
    obtain ⟨-, k1, k2⟩ := sp_eq h hu
    exact hit_any S _ _ w.heap.size hS7 k1 k2 W (by rw [hW.cell (Kit.cell_lt c0)]; exact c0))))
  rw [cut_iff h hS] at HC
  generalize acS n s S = ans at HC ⊢
  generalize (splL (sgnF (lookS n s)) n).length = m at HC
  rw [hw0] at HC B0
  have HB := Lib.hid B0
  have hnn : (!(!ans)) = ans := by cases ans <;> rfl
  obtain ⟨na, hna⟩ : ∃ na, na = !ans := ⟨_, rfl⟩
  rw [← hna] at HC
  have HNN : Hid ((!na) = ans) := Lib.hid (by rw [hna]; exact hnn)
  clear hx c0 hw0 B0 hna hnn h
  go_enter Tryz.func77, Tryz.ntmps77
  go_wp2_with fail
  refine HC.out.mono ?_
  rintro e w1 ⟨rfl, hb1⟩
  have B1 := HB.out.trans (hb1.mono HB.out.size)
  go_wp2
  go_ret
  exact ⟨ret_bool HNN.out, B1⟩
end Go.Proofs.YtflcpgdgoencgaaGreatDoor.Sg
/- What lies left, as impl counts it: the elements as a slice, leftCount, LeftCount. -/
namespace Go.Proofs.YtflcpgdgoencgaaGreatDoor.Sg
open Go.RowKit Pt NewI
theorem elt_all0 : ∀ n, n < 8 → eltN (2 ^ n - 1) = List.range n := by decide +kernel
theorem elsN_range {n : Nat} {s : List UInt8} (h : aciB n s = true) : elsN n s = List.range n := by
  have h7 := (aciB_n h).2
  rw [elsN_yes h]; exact elt_all0 n (by omega)
/-- The elements, ascending, in block g. -/
def ElsIs (W : World) (g m : Nat) : Prop := ∀ k : Nat, k < m → W.cell? ⟨g, k, none⟩ = some (.int .i64 k)
theorem ElsIs.on {W W' : World} {g m : Nat} (h : ElsIs W g m) (hb : Below W.heap.size W W') : ElsIs W' g m := fun k hk => by
  rw [hb.cell (Kit.cell_lt (h k hk))]; exact h k hk
/-- orderOf of order signs, and of others. -/
theorem orderOf_yes (n : Nat) (s : ByteArray) (hs : s.size ≤ 9223372036854775807) (h : aciB n s.data.toList = true) (w : World) (hT : Tab w) :
    Calls Tryz.prog 62 #[sg n s] w fun e w' => ∃ b g c, e = .returned (.tuple #[.map (some b), .slice (some ⟨g, 0, none⟩) n c]) ∧ MapIs w' b (lookS n s.data.toList) ∧ ElsIs w' g n ∧ ResZ w' 0 (.slice (some ⟨g, 0, none⟩) n c) (zl (elsN n s.data.toList)) ∧ Below w.heap.size w w' := by
  refine (orderOf_any n s hs w hT).mono ?_
  rintro e w' ⟨b, v, rfl, hm, hv, hb⟩
  have h3 := (aciB_n h).1
  have hl := els_len h
  rw [ordF_yes h] at hm
  have hr := elsN_range h
  rcases hv with ⟨h0, -⟩ | ⟨h0, g, c, rfl, h1, h2, h4, h5, h6⟩
  · have := zl_nil h0
    rw [this] at hl
    simp at hl; omega
  · have hzl : (zl (elsN n s.data.toList)).length = n := by rw [zl_length, hl]
    have hv : Value.slice (some ⟨g, 0, none⟩) (zl (elsN n s.data.toList)).length c = .slice (some ⟨g, 0, none⟩) n c := by rw [hzl]
    refine ⟨b, g, c, by rw [hv], hm, fun k hk => ?_, .inr ⟨h0, g, c, hv.symm, Nat.zero_le _, h2, h4, h5, h6⟩, hb⟩
    rw [h6.cell k (by omega), zc_zl (by omega), hr, List.getD_eq_getElem?_getD, List.getElem?_range hk]
    rfl
theorem orderOf_no (n : Int) (s : ByteArray) (hs : s.size ≤ 9223372036854775807) (h : aciB n s.data.toList = false) (w : World) (hT : Tab w) :
    Calls Tryz.prog 62 #[sg n s] w fun e w' => ∃ b, e = .returned (.tuple #[.map (some b), .slice none 0 0]) ∧ Below w.heap.size w w' := by
  refine (orderOf_any n s hs w hT).mono ?_
  rintro e w' ⟨b, v, rfl, hm, hv, hb⟩
  rw [elsN_no h] at hv
  rcases hv with ⟨-, rfl⟩ | ⟨h0, -⟩
  · exact ⟨b, rfl, hb⟩
  · exact absurd rfl h0
/-- How many of the first k elements are to the left of two, as impl counts them. -/
def leK (F : Int → Int → Int → Int) (i j k : Nat) : Nat := (List.range k).countP fun (k : Nat) => F i j k == 1
theorem leK_succ (F : Int → Int → Int → Int) (i j k : Nat) : leK F i j (k + 1) = leK F i j k + bit (F i j k == 1) := by
  unfold leK
  rw [List.range_succ, List.countP_append, List.countP_singleton]
  cases (F i j k == 1) <;> rfl
theorem leK_le (F : Int → Int → Int → Int) (i j k : Nat) : leK F i j k ≤ k := by
  unfold leK
  have := List.countP_le_length (p := fun (k : Nat) => F i j k == 1) (l := List.range k)
  rwa [List.length_range] at this
theorem leK_eq {n : Nat} {s : List UInt8} (h : arB n s = true) {i j : Nat} (hi : i < n) (hj : j < n) (hij : i ≠ j) : leK (sgnF (lookS n s)) i j n = leftN (sgnF (lookS n s)) n i j := by
  unfold leK leftN
  refine List.countP_congr fun k hk => ?_
  have hk := List.mem_range.1 hk
  by_cases e1 : k = i
  · rw [sgnF_bad h (by omega)]; simp [e1]
  · by_cases e2 : k = j
    · rw [sgnF_bad h (by omega)]; simp [e2]
    · have k1 : (k != i) = true := by simpa using e1
      have k2 : (k != j) = true := by simpa using e2
      rw [k1, k2]
      rcases sgn_one h (x := i) (y := j) (z := k) hi hj hk hij (fun e => e2 e.symm) (fun e => e1 e.symm) with e | e <;> rw [e] <;> decide
theorem leK_same {n : Nat} {s : List UInt8} (h : arB n s = true) (i k : Nat) : leK (sgnF (lookS n s)) i i k = 0 := by
  unfold leK
  rw [List.countP_eq_zero]
  intro x _
  rw [sgnF_bad h (by omega)]
  decide
set_option maxHeartbeats 1600000 in
set_option maxRecDepth 100000 in
theorem leftCount_any (b g c m : Nat) (h7 : m ≤ 7) (f : Int → Int → Int → Int) (i j : Nat) (hi : i < 8) (hj : j < 8) (w : World) (hm : MapIs w b f) (he : ElsIs w g m) :
    Calls Tryz.prog 75 #[.map (some b), .slice (some ⟨g, 0, none⟩) m c, .int .i64 i, .int .i64 j] w fun e w' => e = .returned (.int .i64 (leK (sgnF f) i j m : Nat)) ∧ Below w.heap.size w w' := by
  have HA : Hid (∀ k : Nat, k < m → ∀ W, Below w.heap.size w W → Calls Tryz.prog 112 #[.map (some b), .int .i64 i, .int .i64 j, .int .i64 k] W fun e w' => e = .returned (.int .i64 (sgnF f i j k)) ∧ W = w') := Lib.hid (fun k hk W hW => at_any b f i j k (by omega) (by omega) (by omega) W (hm.on hW))
  have HE := Lib.hid he
  generalize sgnF f = F at HA ⊢
  have HSU := Lib.hid (leK_succ F i j)
  have HLE := Lib.hid (leK_le F i j)
  have H0 : Hid (leK F i j 0 = 0) := Lib.hid rfl
  generalize leK F i j = q at HSU HLE H0 ⊢
  clear hm he
  go_enter Tryz.func75, Tryz.ntmps75
  go_wp2
  go_loopw [9, 14] (fun cv iv wr => ∃ p : Nat, p ≤ m ∧ iv = .int .i64 p ∧ cv = .int .i64 (q p : Nat) ∧ Hid (Below w.heap.size w wr)) (fun _ iv _ => m - (intOf iv).toNat)
  case atStart => exact ⟨0, Nat.zero_le _, rfl, by rw [H0.out]; rfl, Lib.hid (Below.refl _ _)⟩
  case round =>
    obtain ⟨p, hp, rfl, rfl, HB⟩ := hrel
    by_cases hlt : p < m
    · have hd := HE.out.on HB.out p hlt
      have HC := Lib.hid (HA.out p hlt _ HB.out)
      have HS := Lib.hid (HSU.out p)
      have hq := HLE.out p
      generalize F i j p = v at HC HS
      cases hv : (v == 1)
      · have HN : Hid (q (p + 1) = q p) := Lib.hid (by rw [HS.out, hv]; rfl)
        clear HS
        go_wp2_with fail
        refine HC.out.mono ?_
        rintro e w' ⟨rfl, rfl⟩
        go_wp2
        exact ⟨⟨p + 1, by omega, by go_num, by rw [HN.out], HB⟩, by simp only [intOf]; omega⟩
      · have HN : Hid (q (p + 1) = q p + 1) := Lib.hid (by rw [HS.out, hv]; rfl)
        clear HS
        go_wp2_with fail
        refine HC.out.mono ?_
        rintro e w' ⟨rfl, rfl⟩
        go_wp2
        exact ⟨⟨p + 1, by omega, by go_num, by rw [HN.out]; go_num, HB⟩, by simp only [intOf]; omega⟩
    · obtain rfl : p = m := by omega
      go_wp2
      go_ret
      exact ⟨rfl, HB.out⟩
theorem els_has {n : Nat} {s : List UInt8} (h : aciB n s = true) (i : Int) : (zl (elsN n s)).contains i = inB i 0 ((n : Int) - 1) := by
  cases hin : inB i 0 ((n : Int) - 1)
  · exact contains_out (elsN_n h) hin
  · obtain ⟨p0, p1⟩ := inB_mem hin
    obtain ⟨p, rfl⟩ : ∃ p : Nat, i = p := ⟨i.toNat, by omega⟩
    exact contains_els h (by omega)
set_option maxHeartbeats 1600000 in
set_option maxRecDepth 100000 in
theorem implLeftCount (n : Int) (s : ByteArray) (i j : Int) (hs : s.size ≤ 9223372036854775807) (w : World) (hT : Tab w) :
    Calls Tryz.prog 39 #[sg n s, .int .i64 i, .int .i64 j] w fun e w' => e = .returned (.int .i64 (leftZ n s.data.toList i j)) ∧ Below w.heap.size w w' := by
  have HS := Lib.hid (box_made w n s 25)
  have HT := Lib.hid (fun W hW => hT.on (w' := W) hW)
  clear hT
  cases h : aciB n s.data.toList
  · have HO := Lib.hid (fun W hW => orderOf_no n s hs h W (HT.out W hW))
    have HE : Hid (leftZ n s.data.toList i j = -1) := Lib.hid (by unfold leftZ; rw [h]; simp)
    have HC : Hid (∀ x W, Calls Tryz.prog 82 #[.slice none 0 0, .int .i64 x] W fun e w' => e = .returned (.bool false) ∧ W = w') := Lib.hid (fun x W => (Tryz.slices_Contains_int_empty none 0 x W).mono fun e w' ⟨h1, h2⟩ => ⟨h1, h2.symm⟩)
    clear h
    cases hij : (i == j)
    · go_enter Tryz.func39, Tryz.ntmps39
      go_wp2_with fail
      refine (HO.out _ HS.out.2.2).mono ?_
      rintro e w1 ⟨b, rfl, hb1⟩
      have B1 := Lib.hid (HS.out.on hb1).2.2
      clear hb1
      go_wp2_with fail
      refine (HC.out _ _).mono ?_
      rintro e w' ⟨rfl, rfl⟩
      go_wp2
      go_ret
      exact ⟨ret_int HE.out.symm, B1.out⟩
    · go_enter Tryz.func39, Tryz.ntmps39
      go_wp2_with fail
      refine (HO.out _ HS.out.2.2).mono ?_
      rintro e w1 ⟨b, rfl, hb1⟩
      have B1 := Lib.hid (HS.out.on hb1).2.2
      clear hb1
      go_wp2
      go_ret
      exact ⟨ret_int HE.out.symm, B1.out⟩
  · obtain ⟨h3, h7⟩ := aciB_n h
    obtain ⟨m, rfl⟩ : ∃ m : Nat, n = m := ⟨n.toNat, by omega⟩
    have har := matB_ar (aciB_mat h)
    have HO := Lib.hid (fun W hW => orderOf_yes m s hs h W (HT.out W hW))
    have hl := els_len h
    have HC : Hid (∀ v x W, ResZ W 0 v (zl (elsN m s.data.toList)) → Calls Tryz.prog 82 #[v, .int .i64 x] W fun e w' => e = .returned (.bool (inB x 0 ((m : Int) - 1))) ∧ W = w') := Lib.hid (fun v x W hW => by
      rw [← els_has h x]
      exact containsZ_any (by rw [zl_length]; omega) x W hW)
    have HLC : Hid (∀ i j : Nat, i < m → j < m → i ≠ j → ∀ b g c W, MapIs W b (lookS m s.data.toList) → ElsIs W g m → Calls Tryz.prog 75 #[.map (some b), .slice (some ⟨g, 0, none⟩) m c, .int .i64 i, .int .i64 j] W fun e w' => e = .returned (.int .i64 (leftZ m s.data.toList i j)) ∧ Below W.heap.size W w') := Lib.hid (fun i j hi hj hij b g c W hm he => by
      have := leftCount_any b g c m (by omega) (lookS m s.data.toList) i j (by omega) (by omega) W hm he
      rw [leK_eq har hi hj hij] at this
      have e : leftZ m s.data.toList i j = (leftN (sgnF (lookS m s.data.toList)) m i j : Nat) := by
        unfold leftZ
        rw [if_pos ⟨h, difB2 ⟨by omega, by omega⟩ ⟨by omega, by omega⟩ (by omega)⟩]
        simp
      rw [e]
      exact this)
    have HNO : Hid (¬ (difB m [i, j] = true) → leftZ m s.data.toList i j = -1) := Lib.hid (fun hd => by unfold leftZ; rw [if_neg (fun e => hd e.2)])
    clear har hl
    generalize zl (elsN m s.data.toList) = ys at HO HC
    generalize lookS m s.data.toList = f at HO HLC
    cases hij : (i == j)
    · have hne : i ≠ j := fun e => by subst e; simp at hij
      cases hi : inB i 0 ((m : Int) - 1)
      · have HE : Hid (leftZ m s.data.toList i j = -1) := Lib.hid (HNO.out (fun hd => by
          obtain ⟨a1, a2, -⟩ := difB2_iff.1 hd
          rw [inB_yes (by omega) (by omega)] at hi; cases hi))
        have HC1 := Lib.hid (fun v W hW => HC.out v i W hW)
        rw [hi] at HC1
        clear HLC HNO hi hne HC
        go_enter Tryz.func39, Tryz.ntmps39
        go_wp2_with fail
        refine (HO.out _ HS.out.2.2).mono ?_
        rintro e w1 ⟨b, g, c, rfl, hm, he, hr, hb1⟩
        have B1 := Lib.hid (HS.out.on hb1).2.2
        have R1 := Lib.hid hr
        clear hb1 hm he hr
        go_wp2_with fail
        refine (HC1.out _ _ R1.out).mono ?_
        rintro e w' ⟨rfl, rfl⟩
        go_wp2
        go_ret
        exact ⟨ret_int HE.out.symm, B1.out⟩
      · cases hj : inB j 0 ((m : Int) - 1)
        · have HE : Hid (leftZ m s.data.toList i j = -1) := Lib.hid (HNO.out (fun hd => by
            obtain ⟨a1, a2, -⟩ := difB2_iff.1 hd
            rw [inB_yes (by omega) (by omega)] at hj; cases hj))
          have HC1 := Lib.hid (fun v W hW => HC.out v i W hW)
          have HC2 := Lib.hid (fun v W hW => HC.out v j W hW)
          rw [hi] at HC1
          rw [hj] at HC2
          clear HLC HNO hi hj hne HC
          go_enter Tryz.func39, Tryz.ntmps39
          go_wp2_with fail
          refine (HO.out _ HS.out.2.2).mono ?_
          rintro e w1 ⟨b, g, c, rfl, hm, he, hr, hb1⟩
          have B1 := Lib.hid (HS.out.on hb1).2.2
          have R1 := Lib.hid hr
          clear hb1 hm he hr
          go_wp2_with fail
          refine (HC1.out _ _ R1.out).mono ?_
          rintro e w' ⟨rfl, rfl⟩
          go_wp2_with fail
          refine (HC2.out _ _ R1.out).mono ?_
          rintro e w' ⟨rfl, rfl⟩
          go_wp2
          go_ret
          exact ⟨ret_int HE.out.symm, B1.out⟩
        · have HC1 := Lib.hid (fun v W hW => HC.out v i W hW)
          have HC2 := Lib.hid (fun v W hW => HC.out v j W hW)
          rw [hi] at HC1
          rw [hj] at HC2
          have k1 := inB_mem hi
          have k2 := inB_mem hj
          obtain ⟨x, rfl⟩ : ∃ x : Nat, i = x := ⟨i.toNat, by omega⟩
          obtain ⟨y, rfl⟩ : ∃ y : Nat, j = y := ⟨j.toNat, by omega⟩
          have HL := Lib.hid (HLC.out x y (by omega) (by omega) (by omega))
          generalize leftZ m s.data.toList x y = z at HL ⊢
          clear HLC HNO hi hj hne HC k1 k2
          go_enter Tryz.func39, Tryz.ntmps39
          go_wp2_with fail
          refine (HO.out _ HS.out.2.2).mono ?_
          rintro e w1 ⟨b, g, c, rfl, hm, he, hr, hb1⟩
          have B1 := Lib.hid (HS.out.on hb1).2.2
          have R1 := Lib.hid hr
          have M1 := Lib.hid hm
          have E1 := Lib.hid he
          clear hb1 hm he hr
          go_wp2_with fail
          refine (HC1.out _ _ R1.out).mono ?_
          rintro e w' ⟨rfl, rfl⟩
          go_wp2_with fail
          refine (HC2.out _ _ R1.out).mono ?_
          rintro e w' ⟨rfl, rfl⟩
          go_wp2_with fail
          refine (HL.out _ _ _ _ M1.out E1.out).mono ?_
          rintro e w2 ⟨rfl, hb2⟩
          have B2 := Lib.hid (B1.out.trans (hb2.mono B1.out.size))
          clear hb2
          go_wp2
          go_ret
          exact ⟨rfl, B2.out⟩
    · have he := eq_of_beq hij
      have HE : Hid (leftZ m s.data.toList i j = -1) := Lib.hid (HNO.out (fun hd => (difB2_iff.1 hd).2.2 he))
      clear HLC HNO HC he
      go_enter Tryz.func39, Tryz.ntmps39
      go_wp2_with fail
      refine (HO.out _ HS.out.2.2).mono ?_
      rintro e w1 ⟨b, g, c, rfl, hm, he, hr, hb1⟩
      have B1 := Lib.hid (HS.out.on hb1).2.2
      clear hb1 hm he hr
      go_wp2
      go_ret
      exact ⟨ret_int HE.out.symm, B1.out⟩
end Go.Proofs.YtflcpgdgoencgaaGreatDoor.Sg
/- math/bits.OnesCount of small sets. -/
namespace Go.Proofs.YtflcpgdgoencgaaGreatDoor.Sg
open Go.RowKit Pt NewI
/-- The steps of OnesCount64. -/
def oc1 (x : Nat) : Nat := (x / 2 &&& 6148914691236517205) + (x &&& 6148914691236517205)
def oc2 (y : Nat) : Nat := (y / 4 &&& 3689348814741910323) + (y &&& 3689348814741910323)
def oc3 (y : Nat) : Nat := (y / 16 + y) &&& 1085102592571150095
theorem oc_all : ∀ x : Nat, x < 128 → oc1 x < 256 ∧ oc2 (oc1 x) < 256 ∧ oc3 (oc2 (oc1 x)) < 128 ∧ (oc3 (oc2 (oc1 x)) &&& 127) = pcS x := by decide +kernel
theorem and_i64 (a b : Nat) (ha : a < 1024) (hb : b < 1024) : bits BinOp.and IntKind.i64 (a : Int) (b : Int) = ((a &&& b : Nat) : Int) := by
  have hl : a &&& b < 1024 := Nat.lt_of_le_of_lt Nat.and_le_left ha
  show IntKind.i64.wrap ((BitVec.ofInt 64 a &&& BitVec.ofInt 64 b).toNat : Int) = _
  rw [BitVec.toNat_and, BitVec.ofInt_natCast, BitVec.ofInt_natCast, BitVec.toNat_ofNat, BitVec.toNat_ofNat, Nat.mod_eq_of_lt (by omega), Nat.mod_eq_of_lt (by omega), IntKind.wrap_i64]
  omega
set_option maxHeartbeats 800000 in
set_option maxRecDepth 100000 in
theorem ones_core (x a1 a2 y1 b1 b2 y2 z1 y3 r : Nat) (w : World) (_hy3 : y3 < 128)
    (h1 : bits BinOp.and IntKind.u64 ((x : Int) / 2) 6148914691236517205 = (a1 : Int)) (h2 : bits BinOp.and IntKind.u64 (x : Int) 6148914691236517205 = (a2 : Int)) (h3 : IntKind.u64.wrap ((a1 : Int) + (a2 : Int)) = (y1 : Int))
    (h4 : bits BinOp.and IntKind.u64 ((y1 : Int) / 4) 3689348814741910323 = (b1 : Int)) (h5 : bits BinOp.and IntKind.u64 (y1 : Int) 3689348814741910323 = (b2 : Int)) (h6 : IntKind.u64.wrap ((b1 : Int) + (b2 : Int)) = (y2 : Int))
    (h7 : IntKind.u64.wrap ((y2 : Int) / 16 + (y2 : Int)) = (z1 : Int)) (h8 : bits BinOp.and IntKind.u64 (z1 : Int) 1085102592571150095 = (y3 : Int))
    (h9 : IntKind.u64.wrap ((y3 : Int) + (y3 : Int) / 256) = (y3 : Int)) (h10 : IntKind.u64.wrap ((y3 : Int) + (y3 : Int) / 65536) = (y3 : Int)) (h11 : IntKind.u64.wrap ((y3 : Int) + (y3 : Int) / 4294967296) = (y3 : Int))
    (h12 : IntKind.i64.wrap (y3 : Int) = (y3 : Int)) (h13 : bits BinOp.and IntKind.i64 (y3 : Int) 127 = (r : Int)) :
    Calls Tryz.prog 123 #[.int .u64 x] w fun e w' => e = .returned (.int .i64 r) ∧ w = w' := by
  go_enter Tryz.func123, Tryz.ntmps123
  go_wp2
  go_ret
  exact ⟨rfl, rfl⟩
theorem ones64_any (x : Nat) (h7 : x < 128) (w : World) :
    Calls Tryz.prog 123 #[.int .u64 x] w fun e w' => e = .returned (.int .i64 (pcS x : Nat)) ∧ w = w' := by
  obtain ⟨k1, k2, k3, k4⟩ := oc_all x h7
  have e2 : (x : Int) / 2 = ((x / 2 : Nat) : Int) := by omega
  have n1 : (x / 2 &&& 6148914691236517205) < 128 := Nat.lt_of_le_of_lt Nat.and_le_left (by omega)
  have n2 : (x &&& 6148914691236517205) < 128 := Nat.lt_of_le_of_lt Nat.and_le_left (by omega)
  have e4 : ((oc1 x : Nat) : Int) / 4 = ((oc1 x / 4 : Nat) : Int) := by omega
  have n4 : (oc1 x / 4 &&& 3689348814741910323) < 256 := Nat.lt_of_le_of_lt Nat.and_le_left (by omega)
  have n5 : (oc1 x &&& 3689348814741910323) < 256 := Nat.lt_of_le_of_lt Nat.and_le_left (by omega)
  refine ones_core x (x / 2 &&& 6148914691236517205) (x &&& 6148914691236517205) (oc1 x) (oc1 x / 4 &&& 3689348814741910323) (oc1 x &&& 3689348814741910323) (oc2 (oc1 x)) (oc2 (oc1 x) / 16 + oc2 (oc1 x)) (oc3 (oc2 (oc1 x))) (pcS x) w k3 ?_ ?_ ?_ ?_ ?_ ?_ ?_ ?_ ?_ ?_ ?_ ?_ ?_
  · rw [e2]; exact bits_andU _ 6148914691236517205 (by omega) (by omega)
  · exact bits_andU _ 6148914691236517205 (by omega) (by omega)
  · rw [IntKind.wrap_u64]; unfold oc1 at k1 ⊢; omega
  · rw [e4]; exact bits_andU _ 3689348814741910323 (by omega) (by omega)
  · exact bits_andU _ 3689348814741910323 (by omega) (by omega)
  · rw [IntKind.wrap_u64]; generalize oc1 x = y at *; unfold oc2 at k2 ⊢; omega
  · rw [IntKind.wrap_u64]; omega
  · exact bits_andU _ 1085102592571150095 (by omega) (by omega)
  · rw [IntKind.wrap_u64]; omega
  · rw [IntKind.wrap_u64]; omega
  · rw [IntKind.wrap_u64]; omega
  · rw [IntKind.wrap_i64]; omega
  · rw [← k4]; exact and_i64 _ 127 (by omega) (by omega)
set_option maxRecDepth 100000 in
theorem ones_any (x : Nat) (h7 : x < 128) (w : World) :
    Calls Tryz.prog 86 #[.int .u64 x] w fun e w' => e = .returned (.int .i64 (pcS x : Nat)) ∧ w = w' := by
  have HC := Lib.hid (ones64_any x h7 w)
  have hw : IntKind.u64.wrap (x : Int) = (x : Int) := by rw [IntKind.wrap_u64]; omega
  generalize pcS x = r at HC ⊢
  go_enter Tryz.func86, Tryz.ntmps86
  go_wp2_with fail
  refine HC.out.mono ?_
  rintro e w' ⟨rfl, rfl⟩
  go_wp2
  go_ret
  exact ⟨rfl, rfl⟩
set_option maxRecDepth 100000 in
theorem sizeOf_any (S : Nat) (hS : S < 128) (w : World) :
    Calls Tryz.prog 52 #[.int .i64 S] w fun e w' => e = .returned (.int .i64 (pcS S : Nat)) ∧ w = w' := by
  have HC := Lib.hid (ones_any S hS w)
  have hcv : IntKind.u64.wrap (S : Int) = (S : Int) := by rw [IntKind.wrap_u64]; omega
  generalize pcS S = r at HC ⊢
  go_enter Tryz.func52, Tryz.ntmps52
  go_wp2_with fail
  refine HC.out.mono ?_
  rintro e w' ⟨rfl, rfl⟩
  go_wp2
  go_ret
  exact ⟨rfl, rfl⟩
end Go.Proofs.YtflcpgdgoencgaaGreatDoor.Sg
