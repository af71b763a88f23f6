/- Several texts in one: CwTri, CwPass, CwIs, CwSw. -/
import Derived.Test.YtflcpgdgoencgaaGreatDoorMgY
import Derived.Test.YtflcpgdgoencgaaGreatDoorMgN
import Derived.Test.YtflcpgdgoencgaaGreatDoorMgX
import Derived.BigRegion
import Derived.RangeFuncNested
import Derived.RangeFuncBound
import Derived.RangeFuncCalls
import Derived.RangeFuncLeaves
import Derived.RangeFuncBox
import Derived.Shelf.Abstract
import Derived.Shelf.RegionOpen
import Derived.WalkKit
import Derived.OwnWalkIn
import Derived.TacticsInMore
import Derived.LoopNIn
import Derived.LoopIn
import Derived.Maps.AppendAt
import Derived.Test.YtflcpgdgoencgaaGreatDoorMgM
import Derived.BigQuiet
/- Convex sets, as impl tells them: sizeOf, trianglesOf, insideOf. -/
namespace Go.Proofs.YtflcpgdgoencgaaGreatDoor.Sg
open Go.RowKit Pt NewI
def OwnsT (w : World) (B : Nat) (v : Value) (xs : List (Nat × Nat)) : Prop := w.ownsRow B 131 2 v xs.length (c2 xs)
theorem ownsT_snoc {w : World} {B : Nat} {v : Value} {xs : List (Nat × Nat)} {i j : Nat} (h : w.ownsRow B 131 2 v (xs.length + 1) (c2 xs ++ [.int .i64 i, .int .i64 j])) : OwnsT w B v (xs ++ [(i, j)]) := by
  unfold OwnsT
  rw [c2_append, List.length_append]
  exact h
theorem ownsT_on {w w' : World} {B : Nat} {v : Value} {xs : List (Nat × Nat)} (h : OwnsT w B v xs) (hb : Below w.heap.size w w') : OwnsT w' B v xs :=
  World.ownsRow.kept h (row := none) ⟨hb.os, hb.tape, hb.output, hb.size, fun k hk _ => hb.block k hk⟩ (by cases v.ownBlock <;> simp)
theorem ownsT_far {w w' : World} {B g : Nat} {v : Value} {xs : List (Nat × Nat)} (h : OwnsT w B v xs) (hg : w.grownBy w' (some g)) (hn : w.heap.size ≤ g) : OwnsT w' B v xs :=
  World.ownsRow.kept h hg (.inr fun e => by have := (World.ownsRow.lt h g e).2; omega)
theorem ownsT_lt {w w' : World} {B g : Nat} {v : Value} {xs : List (Nat × Nat)} (_h : OwnsT w B v xs) (_hb : Below w.heap.size w w') (_hg : w'.grownBy w' (some g)) : True := trivial
set_option maxRecDepth 100000 in
theorem infoT : (Tryz.prog.info? 131).map (fun i => (i.zero, i.size, i.bytes)) = some (some (.agg #[.int .i64 0, .int .i64 0]), 2, 16) := by kernel_rfl
/-- The triangles, as a row of their own type. -/
def TrIs (W : World) (a : Option Addr) (xs : List (Nat × Nat)) : Prop := xs ≠ [] → ∃ g, a = some ⟨g, 0, none⟩ ∧ At2 W g xs ∧ ∃ (cs : Array Value) (fr : Nat × Nat), W.heap[g]? = some (.cells cs 131 fr)
theorem TrIs.prs {W : World} {a : Option Addr} {xs : List (Nat × Nat)} (h : TrIs W a xs) : Prs W a xs := fun hne => by
  obtain ⟨g, h1, h2, -⟩ := h hne
  exact ⟨g, h1, h2⟩
theorem TrIs.on {W W' : World} {a : Option Addr} {xs : List (Nat × Nat)} (h : TrIs W a xs) (hb : Below W.heap.size W W') : TrIs W' a xs := fun hne => by
  obtain ⟨g, h1, h2, cs, fr, h3⟩ := h hne
  have hlt := (Array.getElem?_eq_some_iff.1 h3).1
  have e : W'.heap[g]? = W.heap[g]? := hb.block g hlt
  refine ⟨g, h1, fun j t hj => ?_, cs, fr, e.trans h3⟩
  obtain ⟨k1, k2⟩ := h2 j t hj
  exact ⟨by rw [World.cell?_of_block (a := ⟨g, j * 2, none⟩) e]; exact k1, by rw [World.cell?_of_block (a := ⟨g, j * 2 + 1, none⟩) e]; exact k2⟩
theorem prsT_of {w : World} {B : Nat} {v : Value} {xs : List (Nat × Nat)} (h : OwnsT w B v xs) : ∃ a c, v = .slice a xs.length c ∧ TrIs w a xs := by
  obtain ⟨hl, ⟨rfl, h1⟩ | ⟨g, cap, cur, hv, hB, hh, hr⟩⟩ := id h
  · exact ⟨none, 0, by rw [h1], fun hne => absurd (List.eq_nil_of_length_eq_zero h1) hne⟩
  · subst hv
    have hc := World.ownsRow.cells h (g := g) rfl
    refine ⟨_, cap, rfl, fun _ => ⟨g, rfl, fun j t hj => ?_, _, _, hh⟩⟩
    obtain ⟨e0, e1⟩ := c2_get xs j t hj
    have r0 := hc _ _ e0
    have r1 := hc _ _ e1
    rw [WideShapes.add_plain, Nat.zero_add] at r0 r1
    exact ⟨r0, r1⟩
theorem shl_small (x : Nat) (hx : x < 7) : IntKind.i64.wrap ((2 : Int) ^ x) = ((2 ^ x : Nat) : Int) := by
  have h7 : 2 ^ x ≤ 2 ^ 7 := Nat.pow_le_pow_right (by omega) (by omega)
  have e : (2 : Int) ^ x = ((2 ^ x : Nat) : Int) := by push_cast; rfl
  rw [e]
  generalize 2 ^ x = q at h7
  exact IntWalk.i64_in _ (by omega)
/-- The two cells of a triangle. -/
def pr2 (x y : Nat) (j : Nat) : Value := if j = 1 then .int .i64 y else .int .i64 x
theorem cellsP_made (w : World) {k : Nat} (hk : w.heap.size = k) (x y : Nat) (t : TypeId) : Cells (w.alloc (.cells #[.int .i64 x, .int .i64 y] t)).drew k 2 (pr2 x y) := by
  subst hk
  refine ⟨fun j hj => ?_, fun j => ?_, by simp [World.drew]⟩
  · rcases (by omega : j = 0 ∨ j = 1) with rfl | rfl <;> (show (w.alloc (.cells #[.int .i64 x, .int .i64 y] t)).cell? _ = _; go_simp; rfl)
  · show (w.alloc (.cells #[.int .i64 x, .int .i64 y] t)).frozen? _ = _
    go_simp
theorem cell_up {w : World} {a : Addr} {v : Value} (h : w.cell? a = some v) (o : Obj) : (w.alloc o).drew.cell? a = some v := by
  show (w.alloc o).cell? a = some v
  rw [World.cell?_alloc_lt _ _ _ (World.block_lt_of_cell? w a h)]; exact h
set_option maxHeartbeats 3200000 in
set_option maxRecDepth 100000 in
theorem trianglesOf_any (b : Nat) (f : Int → Int → Int → Int) (m : Nat) (h7 : m ≤ 7) (ag : Option Addr) (g c : Nat) (hag : 0 < m → ag = some ⟨g, 0, none⟩) (w : World) (hm : MapIs w b f) (he : ElsIs w g m) :
    Calls Tryz.prog 102 #[.map (some b), .slice ag m c] w fun e w' => ∃ a c', e = .returned (.slice a (triA (sgnF f) m).length c') ∧ TrIs w' a (triA (sgnF f) m) ∧ Below w.heap.size w w' := by
  obtain ⟨i0, hi, hz0, hz1, hz2⟩ := info_parts infoT
  have HM := Lib.hid hm
  have HE := Lib.hid he
  have HAG := Lib.hid hag
  have HI : Hid (∀ (p : Nat) (t : T3), p < m → t ∈ threes m → ∀ W, MapIs W b f → Calls Tryz.prog 136 #[.map (some b), .int .i64 p, .int .i64 t.1, .int .i64 t.2.1, .int .i64 t.2.2] W fun e w' => e = .returned (.bool (isIn (cir (sgnF f) p t.1 t.2.1 t.2.2))) ∧ Below W.heap.size W w') := Lib.hid (fun p t hp ht W hW => by
    obtain ⟨t1, t2, t3⟩ := threes_mem h7 ht
    exact isInside_any b f p _ _ _ (by unfold I64; omega) (by unfold I64; omega) (by unfold I64; omega) (by unfold I64; omega) W hW)
  generalize sgnF f = F at HI ⊢
  have hl35 : (threes m).length ≤ 35 := by rw [threes_length h7]; exact cnt_le h7
  have HTL := Lib.hid (triL_len F m)
  have HALL := Lib.hid (triL_all F m)
  have HSM := Lib.hid (fun t => inN_lt128 (n := m) F t h7)
  clear hm he hag
  go_enter Tryz.func102, Tryz.ntmps102
  go_wp2_with fail
  refine (threesOf_all m h7 _).mono ?_
  rintro e w1 ⟨v, rfl, hv, hb1⟩
  obtain ⟨a, ct, rfl, hr⟩ := thr_of (gx := none) hv (fun g e => by cases e)
  have HR := Lib.hid hr
  have B1 := Lib.hid hb1
  have HM1 := Lib.hid (HM.out.on hb1)
  have HE1 := Lib.hid (HE.out.on hb1)
  have HO : Hid (OwnsT w1 w1.heap.size (.slice none 0 0) (triL F m 0)) := Lib.hid (World.ownsRow_nil _ _ _ _)
  clear hv hr hb1 HM HE
  go_wp2
  go_loopw [5, 15] (fun vv i wr => ∃ p : Nat, p ≤ (threes m).length ∧ i = .int .i64 p ∧ Hid (OwnsT wr w1.heap.size vv (triL F m p)) ∧ Hid (Below w1.heap.size w1 wr)) (fun _ i _ => (threes m).length - (intOf i).toNat)
  case atStart => exact ⟨0, Nat.zero_le _, rfl, HO, Lib.hid (Below.refl _ _)⟩
  case round =>
    rename World => wA
    obtain ⟨p, hp, rfl, HV, HB⟩ := hrel
    by_cases hltp : p < (threes m).length
    · obtain ⟨t, ht⟩ : ∃ t, (threes m)[p]? = some t := ⟨_, List.getElem?_eq_getElem hltp⟩
      have hmem := List.mem_of_getElem? ht
      have hne : threes m ≠ [] := fun e0 => by rw [e0] at hltp; simp at hltp
      obtain ⟨gt, rfl, hgl, -, hat3⟩ := HR.out hne
      obtain ⟨x0, x1, x2⟩ := (hat3.on HB.out hgl) p t ht
      obtain ⟨t1, t2, t3⟩ := threes_mem h7 hmem
      have HN := Lib.hid (triL_succ (F := F) ht)
      have hyl := HTL.out p
      have HIT := Lib.hid (fun q hq W hW => HI.out q t hq hmem W hW)
      have HHIT := Lib.hid (fun q => inN_hit (F := F) (t := t) (p := q))
      have HMISS := Lib.hid (fun q => inN_miss (F := F) (t := t) (p := q))
      have HN0 : Hid (inN F t 0 = 0) := Lib.hid rfl
      have HNL : Hid (∀ q, q ≤ m → inN F t q < 128) := Lib.hid (fun q hq => inN_lt128 (n := q) F t (by omega))
      have HCT : Hid (crT t = (2 ^ t.1 ||| 2 ^ t.2.1) ||| 2 ^ t.2.2) := Lib.hid rfl
      have hcl := crT_lt h7 hmem
      have s1 := shl_small t.1 (by omega)
      have s2 := shl_small t.2.1 (by omega)
      have s3 := shl_small t.2.2 (by omega)
      have l1 : 2 ^ t.1 < 2 ^ 7 := Nat.pow_lt_pow_right (by omega) (by omega)
      have l2 : 2 ^ t.2.1 < 2 ^ 7 := Nat.pow_lt_pow_right (by omega) (by omega)
      have l3 : 2 ^ t.2.2 < 2 ^ 7 := Nat.pow_lt_pow_right (by omega) (by omega)
      have o1 := bits_or (2 ^ t.1) (2 ^ t.2.1) (by omega) (by omega)
      have l4 : 2 ^ t.1 ||| 2 ^ t.2.1 < 128 := Nat.or_lt_two_pow (n := 7) l1 l2
      have o2 := bits_or (2 ^ t.1 ||| 2 ^ t.2.1) (2 ^ t.2.2) (by omega) (by omega)
      rw [← HCT.out] at o2
      generalize 2 ^ t.1 ||| 2 ^ t.2.1 = P2 at o1 o2 l4
      generalize (2 : Nat) ^ t.1 = q1 at s1 o1 l1
      generalize (2 : Nat) ^ t.2.1 = q2 at s2 o1 l2
      generalize (2 : Nat) ^ t.2.2 = q3 at s3 o2 l3
      generalize inN F t = ins at HHIT HMISS HN0 HNL HN
      generalize crT t = ct' at o2 hcl HN
      clear HCT
      generalize hys : triL F m p = ys at HV HN hyl
      clear hys ht hat3 HTL HALL HO
      obtain ⟨z0, z1, z2⟩ := box3_made wA t.1 t.2.1 t.2.2 126
      have HBa := Lib.hid (HB.out.alloc HB.out.size (.cells #[.int .i64 t.1, .int .i64 t.2.1, .int .i64 t.2.2] 126))
      go_wp2
      go_region
      obtain ⟨W5, hW5⟩ : ∃ W5, W5 = ((wA.alloc (.cells #[.int .i64 t.1, .int .i64 t.2.1, .int .i64 t.2.2] 126)).alloc (.cells #[.int .i64 ct', .int .i64 0] 131)).drew := ⟨_, rfl⟩
      have HB5 : Hid (Below w1.heap.size w1 W5) := Lib.hid (by rw [hW5]; exact (HBa.out.alloc HBa.out.size _).drew)
      have hba5 : Below wA.heap.size wA W5 := by rw [hW5]; exact (((Below.refl wA.heap.size wA).alloc (Nat.le_refl _) _).alloc (by simp) _).drew
      have HV5 := Lib.hid (ownsT_on HV.out hba5)
      have k0 : W5.cell? ⟨wA.heap.size, 0, none⟩ = some (.int .i64 t.1) := by rw [hW5]; exact cell_up z0 _
      have k1 : W5.cell? ⟨wA.heap.size, 1, none⟩ = some (.int .i64 t.2.1) := by rw [hW5]; exact cell_up z1 _
      have k2 : W5.cell? ⟨wA.heap.size, 2, none⟩ = some (.int .i64 t.2.2) := by rw [hW5]; exact cell_up z2 _
      have K5 : Hid (Cells W5 (wA.heap.size + 1) 2 (pr2 ct' 0)) := Lib.hid (by rw [hW5]; exact cellsP_made _ (by simp) _ _ _)
      have hlt5 : wA.heap.size + 1 < W5.heap.size := K5.out.lt
      have hvt : ∀ g, u5.ownBlock = some g → g < wA.heap.size := fun g hg => (World.ownsRow.lt HV.out g hg).2
      have HVT := Lib.hid hvt
      have hws := HB.out.size
      rw [← hW5]
      clear hW5 z0 z1 z2 HBa hba5 HV x0 x1 x2 s1 s2 s3 l1 l2 l3 l4 o1 o2 hvt
      have HK0 := Lib.hid k0
      have HK1 := Lib.hid k1
      have HK2 := Lib.hid k2
      clear k0 k1 k2
      go_wp2
      go_loopw [33] (fun x wr => ∃ q : Nat, q ≤ m ∧ x = .int .i64 q ∧ Hid (W5.grownBy wr (some (wA.heap.size + 1))) ∧ Hid (Cells wr (wA.heap.size + 1) 2 (pr2 ct' (ins q)))) (fun x _ => m - (intOf x).toNat)
      case atStart => exact ⟨0, Nat.zero_le _, rfl, Lib.hid (grown_refl _ _), Lib.hid (by rw [HN0.out]; exact K5.out)⟩
      case round =>
        obtain ⟨q, hq, rfl, HG, HC⟩ := hrel
        have HBw : Hid (Below w1.heap.size w1 wr) := Lib.hid (HB5.out.grown HG.out HB5.out.size (fun k e => by injection e with e; omega))
        by_cases hlq : q < m
        · obtain rfl := HAG.out (by omega)
          have y0 := HG.out.cell HK0.out (by simp)
          have y1 := HG.out.cell HK1.out (by simp)
          have y2 := HG.out.cell HK2.out (by simp)
          have ye := (HE1.out.on HBw.out) q hlq
          have HCC := Lib.hid (HIT.out q hlq wr (HM1.out.on HBw.out))
          cases hin : isIn (cir F q t.1 t.2.1 t.2.2)
          · have HNQ := Lib.hid (HMISS.out q hin)
            rw [hin] at HCC
            clear hin
            go_wp2_with fail
            refine HCC.out.mono ?_
            rintro e w3 ⟨rfl, hb3⟩
            have HG3 := Lib.hid (grown_on HG.out hb3)
            have HC3 := Lib.hid (HC.out.on hb3)
            rw [← HNQ.out] at HC3
            clear hb3
            go_wp2
            exact ⟨⟨q + 1, by omega, by go_num, HG3, HC3⟩, by simp only [intOf]; omega⟩
          · have HNQ := Lib.hid (HHIT.out q hin)
            rw [hin] at HCC
            have hi1 := HNL.out q (by omega)
            have hi2 := HNL.out (q + 1) (by omega)
            have s1 := shl_small q (by omega)
            have l1 : 2 ^ q < 2 ^ 7 := Nat.pow_lt_pow_right (by omega) (by omega)
            have o1 := bits_or (ins q) (2 ^ q) (by omega) (by omega)
            rw [← HNQ.out] at o1
            clear hin HNQ
            generalize (2 : Nat) ^ q = q1 at s1 o1 l1
            generalize ho : ins (q + 1) = o at o1 hi2
            have HOQ := Lib.hid ho
            clear ho
            go_wp2_with fail
            refine HCC.out.mono ?_
            rintro e w3 ⟨rfl, hb3⟩
            have HG3 := Lib.hid (grown_on HG.out hb3)
            have HC3 := Lib.hid (HC.out.on hb3)
            have c1 : w3.cell? ⟨wA.heap.size + 1, 1, none⟩ = some (.int .i64 (ins q)) := HC3.out.cell 1 (by omega)
            have f1 := HC3.out.frozen 1
            clear hb3 y0 y1 y2 ye
            go_wp2
            go_region
            have HC6 : Hid (Cells (w3.setCell ⟨wA.heap.size + 1, 1, none⟩ (.int .i64 o)).drew (wA.heap.size + 1) 2 (pr2 ct' (ins (q + 1)))) := Lib.hid (cells_drew ((HC3.out.set 1 (by omega) (.int .i64 o)).congr (fun j hj => by
              rw [HOQ.out]
              unfold pr2
              by_cases e : j = 1
              · rw [if_pos e, if_pos e]
              · rw [if_neg e, if_neg e, if_neg e])))
            have HG6 : Hid (W5.grownBy (w3.setCell ⟨wA.heap.size + 1, 1, none⟩ (.int .i64 o)).drew (some (wA.heap.size + 1))) := Lib.hid (grown_drew (grown_set HG3.out 1 _))
            go_wp2
            exact ⟨⟨q + 1, by omega, by go_num, HG6, HC6⟩, by simp only [intOf]; omega⟩
        · obtain rfl : q = m := by omega
          have HV6 := Lib.hid (World.ownsRow.kept HV5.out HG.out (.inr fun e => by have := HVT.out _ e; omega))
          have c0 : wr.cell? ⟨wA.heap.size + 1, 0, none⟩ = some (.int .i64 ct') := HC.out.cell 0 (by omega)
          have c1 : wr.cell? ⟨wA.heap.size + 1, 1, none⟩ = some (.int .i64 (ins q)) := HC.out.cell 1 (by omega)
          have hsr := HBw.out.size
          go_wp2_with (at_builtin; refine wpList_append_own _ rfl (.tmp 53) (.tmp 55) 89 rfl w1.heap.size 131 i0 _ 2 16 Tryz.underlying89 hi hz0 hz1 hz2 rfl (by decide) _ _ _ rfl (World.ownsRow.alloc HV6.out _) ⟨_, 0, none⟩ 1 1 [.int .i64 ct', .int .i64 (ins q)] rfl rfl (news2 _ _ _ _) (one2 _ _) (by simp only [maxLen]; omega) (by omega) (by simp; omega) ?_)
          intro v1 w7 hown hg _
          have HV7 : Hid (OwnsT w7 w1.heap.size v1 (ys ++ [(ct', ins q)])) := Lib.hid (ownsT_snoc hown)
          have HB7 : Hid (Below w1.heap.size w1 w7) := Lib.hid ((HBw.out.alloc hsr _).grown hg (by simp; omega) (fun k hk => (World.ownsRow.lt HV6.out k hk).1))
          rw [← HN.out] at HV7
          clear hown hg
          go_wp2
          exact ⟨⟨p + 1, by omega, by go_num, HV7, HB7⟩, by simp only [intOf]; omega⟩
    · have HV2 := HV
      rw [show p = (threes m).length by omega, HALL.out] at HV2
      obtain ⟨a2, c2', hv, hli⟩ := prsT_of HV2.out
      subst hv
      have HLI := Lib.hid hli
      clear HV HV2 hli
      go_wp2
      go_ret
      exact ⟨a2, c2', rfl, HLI.out, B1.out.trans (HB.out.mono B1.out.size)⟩
set_option maxHeartbeats 1600000 in
set_option maxRecDepth 100000 in
theorem insideOf_any (S : Nat) (hS : S < 128) (L : List (Nat × Nat)) (hl : L.length ≤ 1000) (hs : ∀ t ∈ L, t.1 < 128 ∧ t.2 < 128) (a : Option Addr) (c : Nat) (w : World) (hx : Prs w a L) :
    Calls Tryz.prog 103 #[.int .i64 S, .slice a L.length c] w fun e w' => e = .returned (.int .i64 (insO S L : Nat)) ∧ Below w.heap.size w w' := by
  have HX := Lib.hid hx
  have HT : Hid (∀ (p : Nat) t, L[p]? = some t → insO S (L.take (p + 1)) = if (S &&& t.1 == t.1) = true then insO S (L.take p) ||| t.2 else insO S (L.take p)) := Lib.hid (fun p t ht => by rw [List.take_add_one, ht]; exact insO_snoc S _ t)
  have HLT : Hid (∀ p, insO S (L.take p) < 128) := Lib.hid (fun p => insO_lt fun t ht => (hs t (List.mem_of_mem_take ht)).2)
  have HALL : Hid (insO S (L.take L.length) = insO S L) := Lib.hid (by rw [List.take_length])
  have H0 : Hid (insO S (L.take 0) = 0) := Lib.hid rfl
  rw [← HALL.out]
  obtain ⟨q, hq⟩ : ∃ q : Nat → Nat, q = fun p => insO S (L.take p) := ⟨_, rfl⟩
  have HQ : Hid (∀ p, insO S (L.take p) = q p) := Lib.hid (fun p => by rw [hq])
  rw [HQ.out]
  have HSM := Lib.hid hs
  clear hx hq hs
  go_enter Tryz.func103, Tryz.ntmps103
  go_wp2
  go_loopw [5, 10] (fun iv x wr => ∃ p : Nat, p ≤ L.length ∧ x = .int .i64 p ∧ iv = .int .i64 (q p) ∧ Hid (Below w.heap.size w wr)) (fun _ x _ => L.length - (intOf x).toNat)
  case atStart => exact ⟨0, Nat.zero_le _, rfl, by rw [← HQ.out, H0.out]; rfl, Lib.hid (Below.refl _ _)⟩
  case round =>
    obtain ⟨p, hp, rfl, rfl, HB⟩ := hrel
    by_cases hlt : p < L.length
    · obtain ⟨g, rfl, hat⟩ := HX.out.on HB.out (fun e => by rw [e] at hlt; exact absurd hlt (Nat.not_lt_zero _))
      obtain ⟨t, ht⟩ : ∃ t, L[p]? = some t := ⟨_, List.getElem?_eq_getElem hlt⟩
      obtain ⟨x0, x1⟩ := hat p t ht
      obtain ⟨k1, k2⟩ := HSM.out t (List.mem_of_getElem? ht)
      have hst := HT.out p t ht
      rw [HQ.out, HQ.out] at hst
      have hq1 := HLT.out p
      rw [HQ.out] at hq1
      have HBa := Lib.hid (HB.out.alloc HB.out.size (.cells #[.int .i64 t.1, .int .i64 t.2] 131))
      have hb1 := and_i64' S t.1 (by omega) (by omega)
      have hb2 := bits_or (q p) t.2 (by omega) (by omega)
      have he := beq_cast (S &&& t.1) t.1
      generalize S &&& t.1 = A at hb1 he hst
      generalize q p ||| t.2 = O at hb2 hst
      clear hat ht
      cases hc : (A == t.1)
      · rw [hc] at he hst
        have HS : Hid (q (p + 1) = q p) := Lib.hid (by rw [hst]; rfl)
        clear hc hst
        go_wp2
        exact ⟨⟨p + 1, by omega, by go_num, by rw [HS.out], HBa⟩, by simp only [intOf]; omega⟩
      · rw [hc] at he hst
        have HS : Hid (q (p + 1) = O) := Lib.hid (by rw [hst]; rfl)
        clear hc hst
        go_wp2
        exact ⟨⟨p + 1, by omega, by go_num, by rw [HS.out], HBa⟩, by simp only [intOf]; omega⟩
    · obtain rfl : p = L.length := by omega
      go_wp2
      go_ret
      exact ⟨rfl, HB.out⟩
end Go.Proofs.YtflcpgdgoencgaaGreatDoor.Sg
/- Convex sets, as impl tells them: the pass over all sets, a range over a function. -/
namespace Go.Proofs.YtflcpgdgoencgaaGreatDoor.Sg
open Go.RowKit Go.Shelf Pt NewI
attribute [local go_sem] Oper.semAt_some
/-- The convex sets; what the pass hands over for each. -/
abbrev CvT (F : Int → Int → Int → Int) (n : Nat) := { S : Nat // S < 2 ^ n ∧ cvS F n S = true }
def encV (F : Int → Int → Int → Int) (n : Nat) (x : CvT F n) : Array Value := #[.int .i64 (x.1 : Nat), .int .i64 (insS F n x.1 : Nat)]
def cvUp (F : Int → Int → Int → Int) (n p : Nat) : List Nat := (List.range p).filter (cvS F n)
theorem cvUp_hit {F : Int → Int → Int → Int} {n p : Nat} (h : cvS F n p = true) : cvUp F n (p + 1) = cvUp F n p ++ [p] := by unfold cvUp; rw [List.range_succ, List.filter_append]; simp [h]
theorem cvUp_miss {F : Int → Int → Int → Int} {n p : Nat} (h : cvS F n p = false) : cvUp F n (p + 1) = cvUp F n p := by unfold cvUp; rw [List.range_succ, List.filter_append]; simp [h]
theorem cvUp_len (F : Int → Int → Int → Int) (n p : Nat) : (cvUp F n p).length ≤ p := by
  unfold cvUp
  refine Nat.le_trans (List.length_filter_le _ _) ?_
  rw [List.length_range]; exact Nat.le_refl _
/-- What LargestConvex and EvenSum gather, over the convex sets in their order. -/
def mxF (L : List Nat) : Int := L.foldl (fun m S => if m < ((pcS S : Nat) : Int) then ((pcS S : Nat) : Int) else m) (-1)
theorem mxF_snoc (L : List Nat) (S : Nat) : mxF (L ++ [S]) = if mxF L < ((pcS S : Nat) : Int) then ((pcS S : Nat) : Int) else mxF L := by unfold mxF; rw [List.foldl_append, List.foldl_cons, List.foldl_nil]
theorem mxF_up (F : Int → Int → Int → Int) (n : Nat) : ∀ p, mxF (cvUp F n p) = mxTo F n p
  | 0 => rfl
  | p + 1 => by
    have ih := mxF_up F n p
    unfold mxTo
    cases h : cvS F n p
    · rw [cvUp_miss h, ih]; rfl
    · rw [cvUp_hit h, mxF_snoc, ih]; rfl
def evF (F : Int → Int → Int → Int) (n : Nat) (L : List Nat) : Int := L.foldl (fun m S => if (insS F n S == 0) = true then (if pcS S % 2 = 0 then m - 1 else m + 1) else m) 0
theorem evF_snoc (F : Int → Int → Int → Int) (n : Nat) (L : List Nat) (S : Nat) : evF F n (L ++ [S]) = if (insS F n S == 0) = true then (if pcS S % 2 = 0 then evF F n L - 1 else evF F n L + 1) else evF F n L := by unfold evF; rw [List.foldl_append, List.foldl_cons, List.foldl_nil]
theorem evF_up (F : Int → Int → Int → Int) (n : Nat) : ∀ p, evF F n (cvUp F n p) = evA F n p
  | 0 => rfl
  | p + 1 => by
    have ih := evF_up F n p
    unfold evA
    cases h : cvS F n p
    · rw [cvUp_miss h, ih]; rfl
    · rw [cvUp_hit h, evF_snoc, ih]
      cases h2 : (insS F n p == 0) <;> rfl
theorem evF_bd (F : Int → Int → Int → Int) (n : Nat) : ∀ L : List Nat, -(L.length : Int) ≤ evF F n L ∧ evF F n L ≤ L.length := by
  have key : ∀ (L : List Nat) (a : Int), a - (L.length : Int) ≤ L.foldl (fun m S => if (insS F n S == 0) = true then (if pcS S % 2 = 0 then m - 1 else m + 1) else m) a ∧ L.foldl (fun m S => if (insS F n S == 0) = true then (if pcS S % 2 = 0 then m - 1 else m + 1) else m) a ≤ a + L.length := by
    intro L
    induction L with
    | nil => intro a; simp
    | cons S L ih =>
      intro a
      rw [List.foldl_cons]
      have := ih (if (insS F n S == 0) = true then (if pcS S % 2 = 0 then a - 1 else a + 1) else a)
      generalize L.foldl _ _ = z at this ⊢
      rw [List.length_cons]
      split at this
      · split at this <;> omega
      · omega
  intro L
  have := key L 0
  unfold evF
  omega
theorem mxF_bd : ∀ L : List Nat, -1 ≤ mxF L ∧ mxF L ≤ 7 := by
  have key : ∀ (L : List Nat) (a : Int), -1 ≤ a ∧ a ≤ 7 → -1 ≤ L.foldl (fun m S => if m < ((pcS S : Nat) : Int) then ((pcS S : Nat) : Int) else m) a ∧ L.foldl (fun m S => if m < ((pcS S : Nat) : Int) then ((pcS S : Nat) : Int) else m) a ≤ 7 := by
    intro L
    induction L with
    | nil => intro a h; exact h
    | cons S L ih =>
      intro a h
      rw [List.foldl_cons]
      have h7 := pcS_le S
      refine ih _ ?_
      split <;> omega
  exact fun L => key L (-1) (by omega)
/-- What a round keeps: what lay below n₀, and each row of triangles. -/
def KpT (n₀ : Nat) (W W' : World) : Prop := Below n₀ W W' ∧ ∀ (i : Nat) (cs : Array Value) (fr : Nat × Nat), W.heap[i]? = some (.cells cs 131 fr) → W'.heap[i]? = some (.cells cs 131 fr)
theorem kpT_t {n₀ : Nat} {A B C : World} (h : KpT n₀ A B) (k : KpT n₀ B C) : KpT n₀ A C := ⟨h.1.trans k.1, fun i cs fr hi => k.2 i cs fr (h.2 i cs fr hi)⟩
theorem kpT_b {n₀ : Nat} {w : World} (hn : n₀ ≤ w.heap.size) (W : World) (l : Nat) (o o' : Obj) (hl : w.heap.size ≤ l) (h : W.heap[l]? = some o) (h1 : o.isCells = false) (h2 : o.isWalk = false) : KpT n₀ W (W.putObj l o') := by
  refine ⟨belowK_b hn W l o o' hl h h1 h2, fun i cs fr hi => ?_⟩
  by_cases e : i = l
  · subst e
    rw [hi] at h
    injection h with h
    subst h
    cases h1
  · rw [World.putObj_heap_other e]; exact hi
theorem kpT_refl (n₀ : Nat) (W : World) : KpT n₀ W W := ⟨Below.refl _ _, fun _ _ _ h => h⟩
theorem TrIs.keep {n₀ : Nat} {W W' : World} {a : Option Addr} {xs : List (Nat × Nat)} (h : TrIs W a xs) (hk : KpT n₀ W W') : TrIs W' a xs := fun hne => by
  obtain ⟨g, h1, h2, cs, fr, h3⟩ := h hne
  have h4 := hk.2 g cs fr h3
  refine ⟨g, h1, fun j t hj => ?_, cs, fr, h4⟩
  obtain ⟨k1, k2⟩ := h2 j t hj
  have e : W'.heap[g]? = W.heap[g]? := h4.trans h3.symm
  exact ⟨by rw [World.cell?_of_block (a := ⟨g, j * 2, none⟩) e]; exact k1, by rw [World.cell?_of_block (a := ⟨g, j * 2 + 1, none⟩) e]; exact k2⟩
theorem boxed_on {W W' : World} {B : Nat} {t : TypeId} {v : Value} (h : Boxed W B t v) (hb : Below W.heap.size W W') : Boxed W' B t v := (hb.block B h.lt).trans h
theorem kpT_set {n₀ B : Nat} {W : World} {t : TypeId} {v : Value} (h : Boxed W B t v) (ht : t ≠ 131) (hB : n₀ ≤ B) (u : Value) : KpT n₀ W (W.setCell ⟨B, 0, none⟩ u) := by
  refine ⟨(Below.refl n₀ W).setCell (p := ⟨B, 0, none⟩) hB _, fun i cs fr hi => ?_⟩
  by_cases e : i = B
  · subst e
    rw [show W.heap[i]? = _ from h] at hi
    injection hi with hi
    injection hi with _ hi _
    exact absurd hi ht
  · rw [(grownBy_setCell' W B u).block i (Array.getElem?_eq_some_iff.1 hi).1 (fun e2 => e (by injection e2))]; exact hi
theorem kpT_drew {n₀ : Nat} {W W' : World} (h : KpT n₀ W W') : KpT n₀ W W'.drew := ⟨h.1.drew, h.2⟩
theorem abides_on {β : Type} {B : Nat} {J : β → World → Prop} (h : AbidesFrom B J) {s : β} {W W' : World} (hs : J s W) (hb : Below W.heap.size W W') : J s W' :=
  h s W W' none hs (grown_of hb none) (fun r e => by cases e)
set_option maxHeartbeats 3200000 in
set_option maxRecDepth 100000 in
/-- The pass: yield gets each convex set, with the set of those inside it. -/
theorem pass_in (m : Nat) (h7 : m ≤ 7) (f : Int → Int → Int → Int) (ag : Option Addr) (b g c Bs Be l n₀ n₁ : Nat) (hag : 0 < m → ag = some ⟨g, 0, none⟩) (J Jx : List (CvT (sgnF f) m) → World → Prop) (hJ : AbidesFrom n₁ J)
    (hY : ∀ pre x W, J pre W → pre.length < 200 → YieldAt Fence.wide 2 Tryz.prog l (encV (sgnF f) m x) W fun e W' =>
      (e = .returned (.bool true) ∧ J (pre ++ [x]) W' ∧ KpT n₀ W W') ∨ (e = .returned (.bool false) ∧ Jx (pre ++ [x]) W'))
    (W : World) (hBs : W.cell? ⟨Bs, 0, none⟩ = some (.map (some b))) (hBe : W.cell? ⟨Be, 0, none⟩ = some (.slice ag m c)) (hm : MapIs W b f) (he : ElsIs W g m) (h0 : J [] W) :
    CallsIn Fence.wide 3 Tryz.prog 101 #[.func (.yield l) #[] #[], .pointer (some ⟨Bs, 0, none⟩), .pointer (some ⟨Be, 0, none⟩)] W fun e W' => (∃ v, e = .returned v) ∧
      ((∃ ys, ys.map Subtype.val = cvUp (sgnF f) m (2 ^ m) ∧ J ys W') ∨ (∃ pre, True ∧ Jx pre W')) := by
  have HTR := Lib.hid (trianglesOf_any b f m h7 ag g c hag W hm he)
  have hpw := pow_le7 h7
  obtain ⟨M, hM⟩ : ∃ M, M = 2 ^ m := ⟨_, rfl⟩
  have hsh : IntKind.i64.wrap ((2 : Int) ^ m) = (M : Int) := by
    rw [hM]; push_cast; exact IntWalk.i64_in _ (by have : ((2 ^ m : Nat) : Int) = (2 : Int) ^ m := by push_cast; rfl
                                                   omega)
  have HSZ := Lib.hid (fun (S : Nat) (hS : S < 128) W => sizeOf_any S hS W)
  have HIN := Lib.hid (fun (S : Nat) (hS : S < 128) (a : Option Addr) (c : Nat) (W : World) hx => insideOf_any S hS (triA (sgnF f) m) (by rw [triA_len, threes_length h7]; have := cnt_le h7; omega) (triA_small (sgnF f) h7) a c W hx)
  have HCV := Lib.hid (fun S (hS : S < 2 ^ m) => cv_ins (sgnF f) hS)
  have HIL := Lib.hid (fun S => insS_lt (sgnF f) S h7)
  refine callsIn_of_wp Tryz.func101 rfl trivial ?_ rfl
  simp only [Tryz.ntmps101, List.size_toArray, List.length_cons, List.length_nil, Nat.reduceAdd, Nat.reduceSub, Array.replicate_succ, Array.replicate_zero, List.push_toArray, List.append_toArray, List.nil_append, List.cons_append]
  have HMM := Lib.hid hM
  rw [← hM] at hpw
  clear hM
  have HPR := Lib.hid (fun W a xs (h : TrIs W a xs) => h.prs)
  gi_wp2_with fail
  refine ⟨trivial, (callsIn_wide.2 HTR.out).mono ?_⟩
  rintro e w1 ⟨a, ct, rfl, htr, hb1⟩
  have HTI := Lib.hid htr
  have J1 := Lib.hid (abides_on hJ h0 hb1)
  have B1 := Lib.hid hb1
  have y0 := (hb1.cell (Kit.cell_lt hBs)).trans hBs
  have y1 := (hb1.cell (Kit.cell_lt hBe)).trans hBe
  have HJ := Lib.hid hJ
  have HY := Lib.hid hY
  have hlt3 : (triA (sgnF f) m).length ≤ 35 := by rw [triA_len, threes_length h7]; exact cnt_le h7
  clear htr hb1 hJ hY h0 HTR hBs hBe hm he hag
  gi_wp2
  gi_loopw [13] (fun x wr => ∃ (p : Nat) (pre : List (CvT (sgnF f) m)), p ≤ M ∧ x = .int .i64 p ∧ Hid (pre.map Subtype.val = cvUp (sgnF f) m p) ∧ Hid (J pre wr) ∧ Hid (TrIs wr a (triA (sgnF f) m))) (fun x _ => M - (intOf x).toNat)
  case atStart => exact ⟨0, [], Nat.zero_le _, rfl, Lib.hid rfl, J1, HTI⟩
  case round =>
    obtain ⟨p, pre, hp, rfl, HPRE, HJP, HTP⟩ := hrel
    by_cases hlt : p < M
    · have hp7 : p < 128 := by omega
      have hpm : p < 2 ^ m := by rw [← HMM.out]; exact hlt
      have hll := cvUp_len (sgnF f) m p
      have hlen : pre.length < 200 := by rw [← HPRE.out, List.length_map] at hll; omega
      have HIP : Hid (∀ c W, Prs W a (triA (sgnF f) m) → Calls Tryz.prog 103 #[.int .i64 p, .slice a (triA (sgnF f) m).length c] W fun e w' => e = .returned (.int .i64 (insS (sgnF f) m p : Nat)) ∧ Below W.heap.size W w') := Lib.hid (fun c W hx => HIN.out p hp7 a c W hx)
      have HSP := Lib.hid (fun W => HSZ.out p hp7 W)
      have hcv := HCV.out p hpm
      have HPM := Lib.hid hpm
      have hil := HIL.out p
      have HYP : Hid (∀ (hc : cvS (sgnF f) m p = true) W, J pre W → YieldAt Fence.wide 2 Tryz.prog l #[.int .i64 p, .int .i64 (insS (sgnF f) m p : Nat)] W fun e W' => (e = .returned (.bool true) ∧ J (pre ++ [⟨p, hpm, hc⟩]) W' ∧ KpT n₀ W W') ∨ (e = .returned (.bool false) ∧ Jx (pre ++ [⟨p, hpm, hc⟩]) W')) := Lib.hid (fun hc W hj => HY.out pre ⟨p, hpm, hc⟩ W hj hlen)
      have hand := and_i64' p (insS (sgnF f) m p) (by omega) (by omega)
      have HUH : Hid (∀ hc : cvS (sgnF f) m p = true, (pre ++ [(⟨p, hpm, hc⟩ : CvT (sgnF f) m)]).map Subtype.val = cvUp (sgnF f) m (p + 1)) := Lib.hid (fun hc => by rw [List.map_append, HPRE.out, cvUp_hit hc]; rfl)
      have HUM : Hid (cvS (sgnF f) m p = false → pre.map Subtype.val = cvUp (sgnF f) m (p + 1)) := Lib.hid (fun hc => by rw [HPRE.out, cvUp_miss hc])
      generalize insS (sgnF f) m p = I at HIP hcv hil HYP hand
      have he0 := beq_cast (p &&& I) 0
      generalize p &&& I = A at hand hcv he0
      generalize pcS p = P at HSP hcv
      have he0 : ((A : Int) == 0) = (A == 0) := he0
      gi_wp2_with fail
      refine ⟨trivial, (callsIn_wide.2 (HIP.out _ _ (HPR.out _ _ _ HTP.out))).mono ?_⟩
      rintro e w2 ⟨rfl, hb2⟩
      have J2 := Lib.hid (abides_on HJ.out HJP.out hb2)
      have T2 := Lib.hid (HTP.out.on hb2)
      clear hb2
      by_cases h3P : 3 ≤ P
      · have g1 : decide ((P : Int) ≥ 3) = true := decide_eq_true (by omega)
        have g2 : decide ((3 : Int) ≤ (P : Int)) = true := decide_eq_true (by omega)
        rw [decide_eq_true h3P, Bool.true_and] at hcv
        clear h3P
        cases hA : (A == 0)
        · rw [hA] at he0 hcv
          have HU := Lib.hid (HUM.out hcv)
          gi_wp2_with fail
          refine ⟨trivial, (callsIn_wide.2 (HSP.out _)).mono ?_⟩
          rintro e w3 ⟨rfl, rfl⟩
          gi_wp2
          refine ⟨fun _ h => (by cases h), ?_⟩
          gi_wp2
          exact ⟨⟨p + 1, pre, by omega, by go_num, HU, J2, T2⟩, by simp only [intOf]; omega⟩
        · rw [hA] at he0 hcv
          have HU := Lib.hid (HUH.out hcv)
          obtain ⟨fn, tmps, assign, body, hy, hR⟩ := HYP.out hcv w2 J2.out
          have HR2 := Lib.hid hR
          generalize (⟨p, hpm, hcv⟩ : CvT (sgnF f) m) = x at HR2 HU
          clear hR
          gi_wp2_with fail
          refine ⟨trivial, (callsIn_wide.2 (HSP.out _)).mono ?_⟩
          rintro e w3 ⟨rfl, rfl⟩
          gi_wp2
          refine HR2.out.mono ?_
          rintro e w4 (⟨rfl, hj4, hk4⟩ | ⟨rfl, hx4⟩)
          · have J4 := Lib.hid hj4
            have T4 := Lib.hid (T2.out.keep hk4)
            clear hj4 hk4
            gi_wp2
            exact ⟨⟨p + 1, pre ++ [x], by omega, by go_num, HU, J4, T4⟩, by simp only [intOf]; omega⟩
          · have X4 := Lib.hid hx4
            clear hx4
            gi_wp2
            refine bodyPost_ret (results_none rfl _ _ _) rfl ?_
            exact ⟨⟨_, rfl⟩, .inr ⟨pre ++ [x], trivial, X4.out⟩⟩
      · have g1 : decide ((P : Int) ≥ 3) = false := decide_eq_false (by omega)
        have g2 : decide ((3 : Int) ≤ (P : Int)) = false := decide_eq_false (by omega)
        rw [decide_eq_false h3P, Bool.false_and] at hcv
        have HU := Lib.hid (HUM.out hcv)
        clear h3P
        gi_wp2_with fail
        refine ⟨trivial, (callsIn_wide.2 (HSP.out _)).mono ?_⟩
        rintro e w3 ⟨rfl, rfl⟩
        gi_wp2
        refine ⟨fun _ h => (by cases h), ?_⟩
        gi_wp2
        exact ⟨⟨p + 1, pre, by omega, by go_num, HU, J2, T2⟩, by simp only [intOf]; omega⟩
    · obtain rfl : p = M := by omega
      gi_wp2
      go_end0
      exact ⟨⟨_, rfl⟩, .inl ⟨pre, HPRE.out.trans (congrArg (cvUp (sgnF f) m) HMM.out), HJP.out⟩⟩
/-- The pass, as a range over a function takes it. -/
theorem pass_stops (m : Nat) (h7 : m ≤ 7) (f : Int → Int → Int → Int) (ag : Option Addr) (b g c Bs Be n₀ : Nat) (hag : 0 < m → ag = some ⟨g, 0, none⟩) (w : World) (hBs : w.cell? ⟨Bs, 0, none⟩ = some (.map (some b))) (hBe : w.cell? ⟨Be, 0, none⟩ = some (.slice ag m c)) (hm : MapIs w b f) (he : ElsIs w g m) :
    SeqStopsK Fence.wide 3 Tryz.prog 101 #[.pointer (some ⟨Bs, 0, none⟩), .pointer (some ⟨Be, 0, none⟩)] (encV (sgnF f) m) (KpT n₀) (fun ys => ys.map Subtype.val = cvUp (sgnF f) m (2 ^ m)) (fun _ => True) 200 w := fun l J Jx W hW hJ _ hY h0 =>
  pass_in m h7 f ag b g c Bs Be l n₀ W.heap.size hag J Jx hJ hY W ((hW.cell (Kit.cell_lt hBs)).trans hBs) ((hW.cell (Kit.cell_lt hBe)).trans hBe) (hm.on hW) (he.on hW) h0
set_option maxRecDepth 100000 in
theorem convexSets_any (b : Nat) (ag : Option Addr) (m c : Nat) (w : World) :
    Calls Tryz.prog 63 #[.map (some b), .slice ag m c] w fun e w' => ∃ Bs Be, e = .returned (.func (.func 101) #[] #[.pointer (some ⟨Bs, 0, none⟩), .pointer (some ⟨Be, 0, none⟩)]) ∧ w'.cell? ⟨Bs, 0, none⟩ = some (.map (some b)) ∧ w'.cell? ⟨Be, 0, none⟩ = some (.slice ag m c) ∧ Below w.heap.size w w' := by
  have hmf : ∀ (fn : Fn) (first cap : Array Value) (w : World), (Instr.makeFunc fn first cap).run Tryz.prog w = .ok (.func fn first cap) w := fun _ _ _ _ => rfl
  have HB := Lib.hid (((Below.refl w.heap.size w).alloc (Nat.le_refl _) (.cells #[.map (some b)] 57)).alloc (by simp) (.cells #[.slice ag m c] 28))
  go_enter Tryz.func63, Tryz.ntmps63
  go_wp2
  go_ret
  exact ⟨_, _, rfl, by go_simp, by go_simp, HB.out⟩
/-- How many elements order signs have; none if they are no order signs. -/
def mN (n : Int) (s : List UInt8) : Nat := if aciB n s = true then n.toNat else 0
theorem mN_le (n : Int) (s : List UInt8) : mN n s ≤ 7 := by
  unfold mN
  split
  · rename_i h
    have := (aciB_n h).2
    omega
  · omega
theorem orderOf_both (n : Int) (s : ByteArray) (hs : s.size ≤ 9223372036854775807) (w : World) (hT : Tab w) :
    Calls Tryz.prog 62 #[sg n s] w fun e w' => ∃ b ag g c, e = .returned (.tuple #[.map (some b), .slice ag (mN n s.data.toList) c]) ∧ (0 < mN n s.data.toList → ag = some ⟨g, 0, none⟩) ∧ MapIs w' b (ordF n s.data.toList) ∧ ElsIs w' g (mN n s.data.toList) ∧ Below w.heap.size w w' := by
  cases h : aciB n s.data.toList
  · have hm : mN n s.data.toList = 0 := by unfold mN; rw [h]; rfl
    rw [hm]
    refine (orderOf_any n s hs w hT).mono ?_
    rintro e w' ⟨b, v, rfl, hm, hv, hb⟩
    rw [elsN_no h] at hv
    rcases hv with ⟨-, rfl⟩ | ⟨h0, -⟩
    · exact ⟨b, none, 0, 0, rfl, fun h => absurd h (by omega), hm, fun k hk => absurd hk (by omega), hb⟩
    · exact absurd rfl h0
  · obtain ⟨h3, h7⟩ := aciB_n h
    obtain ⟨m, rfl⟩ : ∃ m : Nat, n = m := ⟨n.toNat, by omega⟩
    have hm : mN m s.data.toList = m := by unfold mN; rw [if_pos h, Int.toNat_natCast]
    rw [hm]
    refine (orderOf_yes m s hs h w hT).mono ?_
    rintro e w' ⟨b, g, c, rfl, hm, he, -, hb⟩
    exact ⟨b, _, g, c, rfl, fun _ => rfl, by rw [ordF_yes h]; exact hm, he, hb⟩
end Go.Proofs.YtflcpgdgoencgaaGreatDoor.Sg
/- Convex sets, as impl tells them: IsConvexSet, LargestConvex, EvenSum, ConvexSets, EmptySets. -/
namespace Go.Proofs.YtflcpgdgoencgaaGreatDoor.Sg
open Go.RowKit Go.Shelf Pt NewI
attribute [local go_sem] Oper.semAt_some
def NoneIs {F : Int → Int → Int → Int} {n : Nat} (set : Int) (pre : List (CvT F n)) : Prop := ∀ y ∈ pre, (((y.1 : Nat) : Int) == set) = false
def RetIs (c : Code) (ans : Bool) : Prop := c = .ret ∧ ans = true
set_option maxHeartbeats 3200000 in
set_option maxRecDepth 100000 in
theorem implIsConvexSet (n : Int) (s : ByteArray) (set : Int) (hs : s.size ≤ 9223372036854775807) (w : World) (hT : Tab w) :
    Calls Tryz.prog 17 #[sg n s, .int .i64 set] w fun e w' => e = .returned (.bool (isCvB n s.data.toList set)) ∧ Below w.heap.size w w' := by
  refine (callsIn_wide (n := 4)).1 ?_
  obtain ⟨w0, hw0⟩ : ∃ w0, w0 = ((w.alloc (.cells #[.int .i64 n, .string s] 25)).alloc (.cells #[.int .i64 set] 3)).alloc (.cells #[.bool false] 4) := ⟨_, rfl⟩
  have HB0 : Hid (Below w.heap.size w w0) := Lib.hid (by rw [hw0]; exact (((Below.refl _ _).alloc (Nat.le_refl _) _).alloc (by simp) _).alloc (by simp; omega) _)
  have HO := Lib.hid (orderOf_both n s hs w0 (hT.on HB0.out))
  have HS0 : Hid (Boxed w0 (w.heap.size + 1) 3 (.int .i64 set)) := Lib.hid (by rw [hw0]; have h := (Boxed.new (w.alloc (.cells #[.int .i64 n, .string s] 25)) 3 (.int .i64 set)).alloc (.cells #[.bool false] 4); rw [World.size_alloc] at h; exact h)
  have HR0 : Hid (Boxed w0 (w.heap.size + 1 + 1) 4 (.bool false)) := Lib.hid (by rw [hw0]; have h := Boxed.new ((w.alloc (.cells #[.int .i64 n, .string s] 25)).alloc (.cells #[.int .i64 set] 3)) 4 (.bool false); rw [World.size_alloc, World.size_alloc] at h; exact h)
  have h7 := mN_le n s.data.toList
  have HYES : Hid (∀ x : CvT (sgnF (ordF n s.data.toList)) (mN n s.data.toList), (((x.1 : Nat) : Int) == set) = true → isCvB n s.data.toList set = true) := Lib.hid (fun x e => by
    obtain ⟨S, hS, hc⟩ := x
    cases h : aciB n s.data.toList
    · have hm : mN n s.data.toList = 0 := by unfold mN; rw [h]; rfl
      rw [hm] at hS hc
      obtain rfl : S = 0 := by simpa using hS
      exact absurd hc (by unfold cvS; simp [show pcS 0 = 0 from by decide])
    · obtain ⟨h3, h7⟩ := aciB_n h
      obtain ⟨k, rfl⟩ : ∃ k : Nat, n = k := ⟨n.toNat, by omega⟩
      have hm : mN k s.data.toList = k := by unfold mN; rw [if_pos h, Int.toNat_natCast]
      rw [hm, ordF_yes h] at hc
      rw [hm] at hS
      exact isCv_yes h hS hc e)
  have HNO : Hid (∀ xs : List (CvT (sgnF (ordF n s.data.toList)) (mN n s.data.toList)), xs.map Subtype.val = cvUp (sgnF (ordF n s.data.toList)) (mN n s.data.toList) (2 ^ mN n s.data.toList) → (∀ y ∈ xs, (((y.1 : Nat) : Int) == set) = false) → isCvB n s.data.toList set = false) := Lib.hid (fun xs e hno => by
    cases h : aciB n s.data.toList
    · unfold isCvB; rw [h]; rfl
    · obtain ⟨h3, h7⟩ := aciB_n h
      obtain ⟨k, rfl⟩ : ∃ k : Nat, n = k := ⟨n.toNat, by omega⟩
      have hm : mN k s.data.toList = k := by unfold mN; rw [if_pos h, Int.toNat_natCast]
      refine isCv_no fun S hS hc => ?_
      have hmem : S ∈ xs.map Subtype.val := by
        rw [e, hm, ordF_yes h]
        exact List.mem_filter.2 ⟨List.mem_range.2 hS, hc⟩
      obtain ⟨y, hy, rfl⟩ := List.mem_map.1 hmem
      exact hno y hy)
  generalize isCvB n s.data.toList set = ans at HYES HNO ⊢
  generalize mN n s.data.toList = m at HO HYES HNO h7
  generalize ordF n s.data.toList = f at HO HYES HNO
  have HW0 := Lib.hid hw0
  clear hT hs
  refine callsIn_of_wp_marks Tryz.func17 rfl trivial ?_ rfl
  simp only [Tryz.ntmps17, List.size_toArray, List.length_cons, List.length_nil, Nat.reduceAdd, Nat.reduceSub, Array.replicate_succ, Array.replicate_zero, List.push_toArray, List.append_toArray, List.nil_append, List.cons_append]
  clear hw0
  gi_wp2_with fail
  rw [← HW0.out]
  refine ⟨trivial, (callsIn_wide.2 HO.out).mono ?_⟩
  rintro e w1 ⟨b, ag, g, c, rfl, hag, hm, he, hb1⟩
  have HAG := Lib.hid hag
  have HM := Lib.hid hm
  have HE := Lib.hid he
  have HB1 := Lib.hid (HB0.out.trans (hb1.mono HB0.out.size))
  have HS1 : Hid (Boxed w1 (w.heap.size + 1) 3 (.int .i64 set)) := Lib.hid (boxed_on HS0.out hb1)
  have HR1 : Hid (Boxed w1 (w.heap.size + 1 + 1) 4 (.bool false)) := Lib.hid (boxed_on HR0.out hb1)
  clear hag hm he hb1
  gi_wp2_with fail
  refine ⟨trivial, (callsIn_wide.2 (convexSets_any _ _ _ _ _)).mono ?_⟩
  rintro e w2 ⟨Bs, Be, rfl, hbs, hbe, hb2⟩
  have HB2 := Lib.hid (HB1.out.trans (hb2.mono HB1.out.size))
  have HS2 := Lib.hid (boxed_on HS1.out hb2)
  have HR2 := Lib.hid (boxed_on HR1.out hb2)
  have HPS := Lib.hid (pass_stops m h7 f ag b g c Bs Be w.heap.size HAG.out w2 hbs hbe (HM.out.on hb2) (HE.out.on hb2))
  have hsz := HB2.out.size
  clear hbs hbe hb2
  gi_wp2_with fail
  have HEG := Lib.hid (enters_of (P := Tryz.prog) Tryz.func101 (by kernel_rfl) rfl)
  refine wpIn_rangeFunc_ownG rfl (by omega) (gf := 101) (lb := #[.pointer (some ⟨Bs, 0, none⟩), .pointer (some ⟨Be, 0, none⟩)]) rfl trivial HEG.out HPS.out (fun h k => kpT_t h k) (kpT_b hsz) (Below.refl _ _) (fun _ => rfl)
    (fun pre W => NoneIs set pre ∧ (Boxed W (w.heap.size + 1) 3 (.int .i64 set) ∧ Boxed W (w.heap.size + 1 + 1) 4 (.bool false)) ∧ Below w.heap.size w W)
    (fun c pre W => RetIs c ans ∧ Boxed W (w.heap.size + 1 + 1) 4 (.bool true) ∧ Below w.heap.size w W)
    (OwnFrom.and (ownFrom_pure _ _) (OwnFrom.and (OwnFrom.and (Own.from (boxed_own _ _ _) _) (Own.from (boxed_own _ _ _) _)) (ownFrom_below (Nat.le_refl _) hsz)))
    (fun c => OwnFrom.and (ownFrom_pure _ _) (OwnFrom.and (Own.from (boxed_own _ _ _) _) (ownFrom_below (Nat.le_refl _) hsz)))
    ⟨fun y hy => (by cases hy), ⟨HS2.out, HR2.out⟩, HB2.out⟩
    (fun x => { tmps := #[sg n s, .int .i64 set, .pointer (some ⟨w.heap.size, 0, none⟩), .pointer (some ⟨w.heap.size + 1, 0, none⟩), .pointer (some ⟨w.heap.size + 1 + 1, 0, none⟩), .map (some b), .slice ag m c, .int .i64 (x.1 : Nat), .tuple #[.map (some b), .slice ag m c], .agg #[.int .i64 n, .string s], .tuple #[.map (some b), .slice ag m c], .map (some b), .slice ag m c, .map (some b), .slice ag m c, .func (.func 101) #[] #[.pointer (some ⟨Bs, 0, none⟩), .pointer (some ⟨Be, 0, none⟩)], .int .i64 (x.1 : Nat), .int .i64 (insS (sgnF f) m x.1 : Nat), undef, undef, undef], defers := [] }) ?assign ?body ?done ?stop
  case assign =>
    intro l x W K hK
    dsimp only [encV]
    gi_wp2
    exact hK
  case body =>
    rintro l pre x W ⟨hp, ⟨hbS, hbR⟩, hB⟩ _
    have hcs := hbS.cell
    have hcr := hbR.cell
    have hfr := hbR.frozen
    have HY := Lib.hid (HYES.out x)
    obtain ⟨S, hS⟩ := x
    cases hq : ((S : Int) == set)
    · have HN : NoneIs set (pre ++ [(⟨S, hS⟩ : CvT (sgnF f) m)]) := fun y hy => (List.mem_append.1 hy).elim (hp y) (fun e => by rw [List.mem_singleton.1 e]; exact hq)
      gi_wp2
      exact ⟨KeepsFrom.refl _ _, kpT_refl _ _, HN, ⟨hbS, hbR⟩, hB⟩
    · have HX : RetIs Code.ret ans := ⟨rfl, HY.out hq⟩
      gi_wp2
      exact ⟨(KeepsOthers.setCell _ _ _).from _, HX, hbR.set _, hB.setCell (p := ⟨w.heap.size + 1 + 1, 0, none⟩) (by simp; omega) _⟩
  case done =>
    rintro D ys W hD hys ⟨hno, ⟨hbS, hbR⟩, hB⟩ hK
    have ha := HNO.out ys hys hno
    have hcr := hbR.cell
    have hfr := hbR.frozen
    gi_wp2
    have hK' := (KeepsOthers.setCell W ⟨w.heap.size + 1 + 1, 0, none⟩ (.bool false)).same D _ hK rfl
    refine ⟨by simp, .inl ⟨_, _, rfl, run_takeDeferred hK', ?_⟩⟩
    have hc5 := cell_kept (hbR.set (.bool false)).cell (grownBy_putObj' _ D (.deferred none)) (fun r e => by cases e; exact ⟨_, hK', rfl⟩)
    refine ⟨.bool false, ?_, by rw [ha], (hB.setCell (p := ⟨w.heap.size + 1 + 1, 0, none⟩) (by simp; omega) _).trans (belowK_b (w := w) (Nat.le_refl _) _ D _ _ (by omega) hK' rfl rfl)⟩
    simp [results, Tryz.f17, go_sem, hc5]
  case stop =>
    rintro D c pre W hD - ⟨hca, hbR, hB⟩ hK
    obtain ⟨rfl, ha⟩ := hca
    gi_wp2
    refine ⟨by simp, .inl ⟨_, _, rfl, run_takeDeferred hK, ?_⟩⟩
    have hc5 := cell_kept hbR.cell (grownBy_putObj' _ D (.deferred none)) (fun r e => by cases e; exact ⟨_, hK, rfl⟩)
    refine ⟨.bool true, ?_, by rw [ha], hB.trans (belowK_b (w := w) (Nat.le_refl _) W D _ _ (by omega) hK rfl rfl)⟩
    simp [results, Tryz.f17, go_sem, hc5]


set_option maxHeartbeats 3200000 in
set_option maxRecDepth 100000 in
theorem implLargest (n : Int) (s : ByteArray) (hs : s.size ≤ 9223372036854775807) (w : World) (hT : Tab w) :
    Calls Tryz.prog 19 #[sg n s] w fun e w' => e = .returned (.int .i64 (lcZ n s.data.toList)) ∧ Below w.heap.size w w' := by
  refine (callsIn_wide (n := 4)).1 ?_
  obtain ⟨w0, hw0⟩ : ∃ w0, w0 = w.alloc (.cells #[.int .i64 n, .string s] 25) := ⟨_, rfl⟩
  have HB0 : Hid (Below w.heap.size w w0) := Lib.hid (by rw [hw0]; exact (Below.refl _ _).alloc (Nat.le_refl _) _)
  have HO := Lib.hid (orderOf_both n s hs w0 (hT.on HB0.out))
  have h7 := mN_le n s.data.toList
  have HANS : Hid (mxF (cvUp (sgnF (ordF n s.data.toList)) (mN n s.data.toList) (2 ^ mN n s.data.toList)) = lcZ n s.data.toList) := Lib.hid (by
    rw [mxF_up]
    cases h : aciB n s.data.toList
    · have hm : mN n s.data.toList = 0 := by unfold mN; rw [h]; rfl
      rw [hm]
      unfold lcZ
      rw [h]
      have hc : cvS (sgnF (ordF n s.data.toList)) 0 0 = false := by unfold cvS; simp [show pcS 0 = 0 from by decide]
      show mxTo (sgnF (ordF n s.data.toList)) 0 1 = -1
      unfold mxTo
      rw [hc]; rfl
    · obtain ⟨h3, h7⟩ := aciB_n h
      obtain ⟨k, rfl⟩ : ∃ k : Nat, n = k := ⟨n.toNat, by omega⟩
      have hm : mN k s.data.toList = k := by unfold mN; rw [if_pos h, Int.toNat_natCast]
      rw [hm, ordF_yes h]
      exact mxTo_all h)
  generalize lcZ n s.data.toList = ans at HANS ⊢
  generalize mN n s.data.toList = m at HO HANS h7
  generalize ordF n s.data.toList = f at HO HANS
  obtain ⟨q, hq⟩ : ∃ q : List (CvT (sgnF f) m) → Int, q = fun pre => mxF (pre.map Subtype.val) := ⟨_, rfl⟩
  have HQ0 : Hid (q [] = -1) := Lib.hid (by rw [hq]; rfl)
  have HQS : Hid (∀ pre x, q (pre ++ [x]) = if q pre < ((pcS x.1 : Nat) : Int) then ((pcS x.1 : Nat) : Int) else q pre) := Lib.hid (fun pre x => by rw [hq]; show mxF ((pre ++ [x]).map Subtype.val) = _; rw [List.map_append]; exact mxF_snoc _ _)
  have HQE : Hid (∀ ys : List (CvT (sgnF f) m), ys.map Subtype.val = cvUp (sgnF f) m (2 ^ m) → q ys = ans) := Lib.hid (fun ys e => by rw [hq]; show mxF (ys.map Subtype.val) = _; rw [e]; exact HANS.out)
  clear hq HANS
  have HW0 := Lib.hid hw0
  have HSZ := Lib.hid (fun (S : Nat) (hS : S < 128) W => sizeOf_any S hS W)
  clear hT hs
  refine callsIn_of_wp_marks Tryz.func19 rfl trivial ?_ rfl
  simp only [Tryz.ntmps19, List.size_toArray, List.length_cons, List.length_nil, Nat.reduceAdd, Nat.reduceSub, Array.replicate_succ, Array.replicate_zero, List.push_toArray, List.append_toArray, List.nil_append, List.cons_append]
  clear hw0
  gi_wp2_with fail
  rw [← HW0.out]
  refine ⟨trivial, (callsIn_wide.2 HO.out).mono ?_⟩
  rintro e w1 ⟨b, ag, g, c, rfl, hag, hm, he, hb1⟩
  have HAG := Lib.hid hag
  have HB1 := Lib.hid (HB0.out.trans (hb1.mono HB0.out.size))
  have hal := (Below.refl w1.heap.size w1).alloc (Nat.le_refl _) (.cells #[.int .i64 (-1)] 3)
  have HM := Lib.hid (hm.on hal)
  have HE := Lib.hid (he.on hal)
  have HBA := Lib.hid (HB1.out.trans (hal.mono HB1.out.size))
  have HR1 : Hid (Boxed (w1.alloc (.cells #[.int .i64 (-1)] 3)) w1.heap.size 3 (.int .i64 (-1))) := Lib.hid (Boxed.new _ _ _)
  have hs1 := HB1.out.size
  clear hag hm he hb1 hal
  gi_wp2_with fail
  refine ⟨trivial, (callsIn_wide.2 (convexSets_any _ _ _ _ _)).mono ?_⟩
  rintro e w2 ⟨Bs, Be, rfl, hbs, hbe, hb2⟩
  have HB2 := Lib.hid (HBA.out.trans (hb2.mono HBA.out.size))
  have HR2 := Lib.hid (boxed_on HR1.out hb2)
  have HPS := Lib.hid (pass_stops m h7 f ag b g c Bs Be w.heap.size HAG.out w2 hbs hbe (HM.out.on hb2) (HE.out.on hb2))
  have hsz := HB2.out.size
  clear hbs hbe hb2
  gi_wp2_with fail
  have HEG := Lib.hid (enters_of (P := Tryz.prog) Tryz.func101 (by kernel_rfl) rfl)
  refine wpIn_rangeFunc_ownG rfl (by omega) (gf := 101) (lb := #[.pointer (some ⟨Bs, 0, none⟩), .pointer (some ⟨Be, 0, none⟩)]) rfl trivial HEG.out HPS.out (fun h k => kpT_t h k) (kpT_b hsz) (Below.refl _ _) (fun _ => rfl)
    (fun pre W => Boxed W w1.heap.size 3 (.int .i64 (q pre)) ∧ Below w.heap.size w W)
    (fun _ _ _ => False)
    (OwnFrom.and (Own.from (boxed_own _ _ _) _) (ownFrom_below (Nat.le_refl _) hsz))
    (fun _ _ _ _ _ hs _ _ => hs)
    ⟨by rw [HQ0.out]; exact HR2.out, HB2.out⟩
    (fun x => { tmps := #[sg n s, .pointer (some ⟨w.heap.size, 0, none⟩), .int .i64 0, .map (some b), .slice ag m c, .pointer (some ⟨w1.heap.size, 0, none⟩), .int .i64 (x.1 : Nat), .tuple #[.map (some b), .slice ag m c], .agg #[.int .i64 n, .string s], .tuple #[.map (some b), .slice ag m c], .map (some b), .slice ag m c, .map (some b), .slice ag m c, .func (.func 101) #[] #[.pointer (some ⟨Bs, 0, none⟩), .pointer (some ⟨Be, 0, none⟩)], .int .i64 (x.1 : Nat), .int .i64 (insS (sgnF f) m x.1 : Nat), undef, undef, undef, undef, undef], defers := [] }) ?assign ?body ?done ?stop
  case assign =>
    intro l x W K hK
    dsimp only [encV]
    gi_wp2
    exact hK
  case body =>
    rintro l pre x W ⟨hbR, hB⟩ _
    have hcr := hbR.cell
    have hfr := hbR.frozen
    have h128 : x.1 < 128 := Nat.lt_of_lt_of_le x.2.1 (pow_le7 h7)
    have HS := Lib.hid (fun W => HSZ.out x.1 h128 W)
    have HST := Lib.hid (HQS.out pre x)
    have hmo : Tryz.prog.follows .mixedOrders = true := by kernel_rfl
    generalize pcS x.1 = P at HS HST
    generalize q pre = M0 at hcr hbR HST
    gi_wp2
    gi_region_with_o (refine ⟨trivial, ?_⟩; gi_at_call 52; refine (CallsIn.inRound l (callsIn_wide.2 (HS.out _))).mono ?_; rintro e w' ⟨rfl, rfl⟩)
    all_goals gi_wp2
    all_goals (have he : q (pre ++ [x]) = max M0 (P : Int) := by rw [HST.out]; split <;> omega
               exact ⟨((KeepsOthers.setCell _ _ _).trans (KeepsOthers.drew _)).from _, kpT_drew (kpT_set hbR (by decide) (by omega) _), by show Boxed _ _ _ (.int .i64 (q (pre ++ [x]))); rw [he]; exact hbR.set _, (hB.setCell (p := ⟨w1.heap.size, 0, none⟩) (by omega) _).drew⟩)
  case done =>
    rintro D ys W hD hys ⟨hbR, hB⟩ hK
    have hcr := hbR.cell
    rw [HQE.out ys hys] at hcr
    gi_wp2
    refine ⟨by simp, .inl ⟨_, _, rfl, run_takeDeferred hK, ?_⟩⟩
    exact ⟨_, results_tmp rfl _ _ _, rfl, hB.trans (belowK_b (w := w) (Nat.le_refl _) W D _ _ (by omega) hK rfl rfl)⟩
  case stop =>
    rintro D c pre W _ _ h _
    exact h.elim
set_option maxHeartbeats 3200000 in
set_option maxRecDepth 100000 in
theorem implEvenSum (n : Int) (s : ByteArray) (hs : s.size ≤ 9223372036854775807) (w : World) (hT : Tab w) :
    Calls Tryz.prog 23 #[sg n s] w fun e w' => e = .returned (.int .i64 (evZ n s.data.toList)) ∧ Below w.heap.size w w' := by
  cases h : aciB n s.data.toList
  · have HS := Lib.hid (box_made w n s 25)
    have HO := Lib.hid (fun W hW => orderOf_no n s hs h W (hT.on (w' := W) hW))
    have HE : Hid (evZ n s.data.toList = -1) := Lib.hid (by unfold evZ; rw [h]; rfl)
    rw [HE.out]
    clear h hT HE
    go_enter Tryz.func23, Tryz.ntmps23
    go_wp2_with fail
    refine (HO.out _ HS.out.2.2).mono ?_
    rintro e w1 ⟨b, rfl, hb1⟩
    have B1 := Lib.hid (HS.out.on hb1).2.2
    clear hb1
    go_wp2
    go_ret
    exact ⟨rfl, B1.out⟩
  · obtain ⟨h3, h7⟩ := aciB_n h
    obtain ⟨m, rfl⟩ : ∃ m : Nat, n = m := ⟨n.toNat, by omega⟩
    have h7 : m ≤ 7 := by omega
    have hmN : mN m s.data.toList = m := by unfold mN; rw [if_pos h, Int.toNat_natCast]
    refine (callsIn_wide (n := 4)).1 ?_
    obtain ⟨w0, hw0⟩ : ∃ w0, w0 = w.alloc (.cells #[.int .i64 m, .string s] 25) := ⟨_, rfl⟩
    have HB0 : Hid (Below w.heap.size w w0) := Lib.hid (by rw [hw0]; exact (Below.refl _ _).alloc (Nat.le_refl _) _)
    have HO := Lib.hid (orderOf_both m s hs w0 (hT.on HB0.out))
    have HANS : Hid (evF (sgnF (ordF m s.data.toList)) m (cvUp (sgnF (ordF m s.data.toList)) m (2 ^ m)) = evZ m s.data.toList) := Lib.hid (by
      rw [evF_up, ordF_yes h]
      exact evA_all h)
    rw [hmN] at HO
    generalize evZ m s.data.toList = ans at HANS ⊢
    generalize ordF m s.data.toList = f at HO HANS
    obtain ⟨q, hq⟩ : ∃ q : List (CvT (sgnF f) m) → Int, q = fun pre => evF (sgnF f) m (pre.map Subtype.val) := ⟨_, rfl⟩
    have HQ0 : Hid (q [] = 0) := Lib.hid (by rw [hq]; rfl)
    have HQS : Hid (∀ pre x, q (pre ++ [x]) = if (insS (sgnF f) m x.1 == 0) = true then (if pcS x.1 % 2 = 0 then q pre - 1 else q pre + 1) else q pre) := Lib.hid (fun pre x => by rw [hq]; show evF (sgnF f) m ((pre ++ [x]).map Subtype.val) = _; rw [List.map_append]; exact evF_snoc _ _ _ _)
    have HQE : Hid (∀ ys : List (CvT (sgnF f) m), ys.map Subtype.val = cvUp (sgnF f) m (2 ^ m) → q ys = ans) := Lib.hid (fun ys e => by rw [hq]; show evF (sgnF f) m (ys.map Subtype.val) = _; rw [e]; exact HANS.out)
    have HQB : Hid (∀ pre, -(pre.length : Int) ≤ q pre ∧ q pre ≤ pre.length) := Lib.hid (fun pre => by rw [hq]; have := evF_bd (sgnF f) m (pre.map Subtype.val); rw [List.length_map] at this; exact this)
    clear hq HANS h
    have HW0 := Lib.hid hw0
    have HSZ := Lib.hid (fun (S : Nat) (hS : S < 128) W => sizeOf_any S hS W)
    have hm0 : ((m : Int) == 0) = false := beq_eq_false_iff_ne.2 (by omega)
    clear hT hs hmN
    refine callsIn_of_wp_marks Tryz.func23 rfl trivial ?_ rfl
    simp only [Tryz.ntmps23, List.size_toArray, List.length_cons, List.length_nil, Nat.reduceAdd, Nat.reduceSub, Array.replicate_succ, Array.replicate_zero, List.push_toArray, List.append_toArray, List.nil_append, List.cons_append]
    clear hw0
    gi_wp2_with fail
    rw [← HW0.out]
    refine ⟨trivial, (callsIn_wide.2 HO.out).mono ?_⟩
    rintro e w1 ⟨b, ag, g, c, rfl, hag, hm, he, hb1⟩
    have HAG := Lib.hid hag
    have HB1 := Lib.hid (HB0.out.trans (hb1.mono HB0.out.size))
    have hal := (Below.refl w1.heap.size w1).alloc (Nat.le_refl _) (.cells #[.int .i64 0] 3)
    have HM := Lib.hid (hm.on hal)
    have HE := Lib.hid (he.on hal)
    have HBA := Lib.hid (HB1.out.trans (hal.mono HB1.out.size))
    have HR1 : Hid (Boxed (w1.alloc (.cells #[.int .i64 0] 3)) w1.heap.size 3 (.int .i64 0)) := Lib.hid (Boxed.new _ _ _)
    have hs1 := HB1.out.size
    clear hag hm he hb1 hal
    gi_wp2_with fail
    refine ⟨trivial, (callsIn_wide.2 (convexSets_any _ _ _ _ _)).mono ?_⟩
    rintro e w2 ⟨Bs, Be, rfl, hbs, hbe, hb2⟩
    have HB2 := Lib.hid (HBA.out.trans (hb2.mono HBA.out.size))
    have HR2 := Lib.hid (boxed_on HR1.out hb2)
    have HPS := Lib.hid (pass_stops m h7 f ag b g c Bs Be w.heap.size HAG.out w2 hbs hbe (HM.out.on hb2) (HE.out.on hb2))
    have hsz := HB2.out.size
    clear hbs hbe hb2
    gi_wp2_with fail
    have HEG := Lib.hid (enters_of (P := Tryz.prog) Tryz.func101 (by kernel_rfl) rfl)
    refine wpIn_rangeFunc_ownG rfl (by omega) (gf := 101) (lb := #[.pointer (some ⟨Bs, 0, none⟩), .pointer (some ⟨Be, 0, none⟩)]) rfl trivial HEG.out HPS.out (fun h k => kpT_t h k) (kpT_b hsz) (Below.refl _ _) (fun _ => rfl)
      (fun pre W => Boxed W w1.heap.size 3 (.int .i64 (q pre)) ∧ Below w.heap.size w W)
      (fun _ _ _ => False)
      (OwnFrom.and (Own.from (boxed_own _ _ _) _) (ownFrom_below (Nat.le_refl _) hsz))
      (fun _ _ _ _ _ hs _ _ => hs)
      ⟨by rw [HQ0.out]; exact HR2.out, HB2.out⟩
      (fun x => { tmps := #[sg m s, .pointer (some ⟨w.heap.size, 0, none⟩), .int .i64 0, .map (some b), .slice ag m c, .pointer (some ⟨w1.heap.size, 0, none⟩), .int .i64 (x.1 : Nat), .int .i64 (insS (sgnF f) m x.1 : Nat), .tuple #[.map (some b), .slice ag m c], .agg #[.int .i64 m, .string s], .tuple #[.map (some b), .slice ag m c], .map (some b), .slice ag m c, .slice ag m c, .int .i64 m, .bool false, .map (some b), .slice ag m c, .func (.func 101) #[] #[.pointer (some ⟨Bs, 0, none⟩), .pointer (some ⟨Be, 0, none⟩)], .int .i64 (x.1 : Nat), .int .i64 (insS (sgnF f) m x.1 : Nat), undef, undef, undef, undef, undef, undef, undef, undef, undef, undef, undef], defers := [] }) ?assign ?body ?done ?stop
    case assign =>
      intro l x W K hK
      dsimp only [encV]
      gi_wp2
      exact hK
    case body =>
      rintro l pre x W ⟨hbR, hB⟩ hlen
      have hcr := hbR.cell
      have hfr := hbR.frozen
      have h128 : x.1 < 128 := Nat.lt_of_lt_of_le x.2.1 (pow_le7 h7)
      have HS := Lib.hid (fun W => HSZ.out x.1 h128 W)
      have hst := HQS.out pre x
      have hbd := HQB.out pre
      have he0 := beq_cast (insS (sgnF f) m x.1) 0
      generalize pcS x.1 = P at HS hst
      generalize insS (sgnF f) m x.1 = I at hst he0 ⊢
      generalize q pre = M0 at hcr hbR hst hbd
      have he0 : ((I : Int) == 0) = (I == 0) := he0
      have hne0 : ((I : Int) != 0) = !(I == 0) := by rw [← he0]; rfl
      have w1' : IntKind.i64.wrap (M0 - 1) = M0 - 1 := IntWalk.i64_in _ (by omega)
      have w2' : IntKind.i64.wrap (M0 + 1) = M0 + 1 := IntWalk.i64_in _ (by omega)
      have hrm : (P : Int).tmod 2 = ((P % 2 : Nat) : Int) := by rw [Int.tmod_eq_emod_of_nonneg (by omega)]; rfl
      cases hI : (I == 0)
      · rw [hI] at he0 hne0 hst
        have HN := Lib.hid hst
        clear hst hI
        gi_wp2
        exact ⟨KeepsFrom.refl _ _, kpT_refl _ _, by show Boxed _ _ _ (.int .i64 (q (pre ++ [x]))); rw [HN.out]; exact hbR, hB⟩
      · rw [hI, if_pos rfl] at hst
        rw [hI] at he0 hne0
        clear hI
        by_cases hp : P % 2 = 0
        · rw [if_pos hp] at hst
          rw [hp] at hrm
          have HN := Lib.hid hst
          clear hst hp
          gi_wp2_with fail
          refine ⟨trivial, (CallsIn.inRound l (callsIn_wide.2 (HS.out _))).mono ?_⟩
          rintro e w' ⟨rfl, rfl⟩
          gi_wp2
          exact ⟨(KeepsOthers.setCell _ _ _).from _, kpT_set hbR (by decide) (by omega) _, by show Boxed _ _ _ (.int .i64 (q (pre ++ [x]))); rw [HN.out]; exact hbR.set _, hB.setCell (p := ⟨w1.heap.size, 0, none⟩) (by omega) _⟩
        · rw [if_neg hp] at hst
          rw [show P % 2 = 1 by omega] at hrm
          have HN := Lib.hid hst
          clear hst hp
          gi_wp2_with fail
          refine ⟨trivial, (CallsIn.inRound l (callsIn_wide.2 (HS.out _))).mono ?_⟩
          rintro e w' ⟨rfl, rfl⟩
          gi_wp2
          exact ⟨(KeepsOthers.setCell _ _ _).from _, kpT_set hbR (by decide) (by omega) _, by show Boxed _ _ _ (.int .i64 (q (pre ++ [x]))); rw [HN.out]; exact hbR.set _, hB.setCell (p := ⟨w1.heap.size, 0, none⟩) (by omega) _⟩
    case done =>
      rintro D ys W hD hys ⟨hbR, hB⟩ hK
      have hcr := hbR.cell
      rw [HQE.out ys hys] at hcr
      gi_wp2
      refine ⟨by simp, .inl ⟨_, _, rfl, run_takeDeferred hK, ?_⟩⟩
      exact ⟨_, results_tmp rfl _ _ _, rfl, hB.trans (belowK_b (w := w) (Nat.le_refl _) W D _ _ (by omega) hK rfl rfl)⟩
    case stop =>
      rintro D c pre W _ _ h _
      exact h.elim
end Go.Proofs.YtflcpgdgoencgaaGreatDoor.Sg
/- Convex sets, as impl tells them: setsWhere, ConvexSets, EmptySets. -/
namespace Go.Proofs.YtflcpgdgoencgaaGreatDoor.Sg
open Go.RowKit Go.Shelf Pt NewI
attribute [local go_sem] Oper.semAt_some
/-- The sets that are wanted, of a list. -/
def gsF (wt : Nat → Bool) (L : List Nat) : List Int := (L.filter wt).map fun (x : Nat) => (x : Int)
theorem gsF_hit {wt : Nat → Bool} {S : Nat} (L : List Nat) (h : wt S = true) : gsF wt (L ++ [S]) = gsF wt L ++ [(S : Int)] := by unfold gsF; rw [List.filter_append, List.map_append]; simp [h]
theorem gsF_miss {wt : Nat → Bool} {S : Nat} (L : List Nat) (h : wt S = false) : gsF wt (L ++ [S]) = gsF wt L := by unfold gsF; rw [List.filter_append, List.map_append]; simp [h]
theorem gsF_len (wt : Nat → Bool) (L : List Nat) : (gsF wt L).length ≤ L.length := by unfold gsF; rw [List.length_map]; exact List.length_filter_le _ _
theorem gsF_up (F : Int → Int → Int → Int) (n p : Nat) (wt : Nat → Bool) : gsF wt (cvUp F n p) = setsTo (fun S => cvS F n S && wt S) p := by
  unfold gsF cvUp setsTo
  rw [List.filter_filter]
  congr 1
  exact List.filter_congr fun S _ => Bool.and_comm _ _
theorem kpT_app {n₀ B n : Nat} {W w1 : World} {v v' : Value} {xs : List Value} {tmp : Obj} (hrow : W.ownsRow n₀ 3 1 v n xs) (hg : (W.alloc tmp).grownBy w1 v.ownBlock) (hv1 : Boxed w1 B 28 v) (hb : Below n₀ W (w1.setCell ⟨B, 0, none⟩ v')) : KpT n₀ W (w1.setCell ⟨B, 0, none⟩ v') := by
  refine ⟨hb, fun i cs fr hi => ?_⟩
  have hlt := (Array.getElem?_eq_some_iff.1 hi).1
  have h1 : (W.alloc tmp).heap[i]? = some (.cells cs 131 fr) := (Below.heap_alloc W tmp i hlt).trans hi
  have h2 : some i ≠ v.ownBlock := by
    rcases hrow.2 with ⟨rfl, _⟩ | ⟨g, cap, cur, rfl, _, hgb, _⟩
    · simp [Value.ownBlock]
    · intro e
      obtain rfl : i = g := by simpa [Value.ownBlock] using e
      rw [hgb] at hi
      injection hi with hi
      injection hi with _ hi _
      exact absurd hi (by decide)
  have h3 := (hg.block i (by simp; omega) h2).trans h1
  by_cases e : i = B
  · subst e
    rw [show w1.heap[i]? = _ from hv1] at h3
    injection h3 with h3
    injection h3 with _ h3 _
    exact absurd h3 (by decide)
  · rw [(grownBy_setCell' w1 B v').block i (Array.getElem?_eq_some_iff.1 h3).1 (fun e2 => e (by injection e2))]; exact h3
theorem drew_all {w W : World} (nq : Nat) {B B2 n : Nat} {t t2 e : TypeId} {v v2 : Value} {xs : List Value} (h1 : Boxed W B t v) (h2 : W.ownsRow w.heap.size e 1 v n xs) (h3 : Boxed W B2 t2 v2) (h4 : Below w.heap.size w W) :
    KeepsOthers W (W.drewN nq) ∧ KpT w.heap.size W (W.drewN nq) ∧ Boxed (W.drewN nq) B t v ∧ (W.drewN nq).ownsRow w.heap.size e 1 v n xs ∧ Boxed (W.drewN nq) B2 t2 v2 ∧ Below w.heap.size w (W.drewN nq) := by
  have hb : Below W.heap.size W (W.drewN nq) := drewN_below (Below.refl _ _) nq
  exact ⟨⟨Nat.le_refl _, fun _ _ h _ => h⟩, ⟨drewN_below (Below.refl _ _) nq, fun _ _ _ h => h⟩, boxed_on h1 hb, World.ownsRow.kept h2 (row := none) (grown_of hb none) (by cases v.ownBlock <;> simp), boxed_on h3 hb, drewN_below h4 nq⟩
set_option maxHeartbeats 6400000 in
set_option maxRecDepth 100000 in
theorem setsWhere_any (n : Int) (s : ByteArray) (k : Nat) (lb : Array Value) (wt : Nat → Bool) (hs : s.size ≤ 9223372036854775807) (w : World) (hT : Tab w) (eg : ∀ args w, (callFunc k args).run Tryz.prog w = .ok (.enter k args) w)
    (HF : Hid (∀ S, S < 128 → ∀ W, Below w.heap.size w W → Calls Tryz.prog k (#[.int .i64 S, .int .i64 (insS (sgnF (ordF n s.data.toList)) (mN n s.data.toList) S : Nat)] ++ lb) W fun e w' => e = .returned (.bool (wt S)) ∧ ∃ nq, w' = W.drewN nq)) :
    Calls Tryz.prog 50 #[sg n s, .func (.func k) #[] lb] w fun e w' => Got w.heap.size (setsTo (fun S => cvS (sgnF (ordF n s.data.toList)) (mN n s.data.toList) S && wt S) (2 ^ mN n s.data.toList)) e w' ∧ Below w.heap.size w w' := by
  refine (callsIn_wide (n := 4)).1 ?_
  obtain ⟨i0, hi, hz0, hz1, hz2⟩ := info_parts infoI
  obtain ⟨w0, hw0⟩ : ∃ w0, w0 = (w.alloc (.cells #[.int .i64 n, .string s] 25)).alloc (.cells #[.func (.func k) #[] lb] 48) := ⟨_, rfl⟩
  have HB0 : Hid (Below w.heap.size w w0) := Lib.hid (by rw [hw0]; exact ((Below.refl _ _).alloc (Nat.le_refl _) _).alloc (by simp) _)
  have HO := Lib.hid (orderOf_both n s hs w0 (hT.on HB0.out))
  have HF0 : Hid (Boxed w0 (w.heap.size + 1) 48 (.func (.func k) #[] lb)) := Lib.hid (by rw [hw0]; have h := Boxed.new (w.alloc (.cells #[.int .i64 n, .string s] 25)) 48 (.func (.func k) #[] lb); rw [World.size_alloc] at h; exact h)
  have h7 := mN_le n s.data.toList
  rw [← gsF_up]
  generalize mN n s.data.toList = m at HO HF h7 ⊢
  generalize ordF n s.data.toList = f at HO HF ⊢
  obtain ⟨q, hq⟩ : ∃ q : List (CvT (sgnF f) m) → List Int, q = fun pre => gsF wt (pre.map Subtype.val) := ⟨_, rfl⟩
  have HQ0 : Hid (q [] = []) := Lib.hid (by rw [hq]; rfl)
  have HQH : Hid (∀ pre x, wt x.1 = true → q (pre ++ [x]) = q pre ++ [((x.1 : Nat) : Int)]) := Lib.hid (fun pre x e => by rw [hq]; show gsF wt ((pre ++ [x]).map Subtype.val) = _; rw [List.map_append]; exact gsF_hit _ e)
  have HQM : Hid (∀ pre x, wt x.1 = false → q (pre ++ [x]) = q pre) := Lib.hid (fun pre x e => by rw [hq]; show gsF wt ((pre ++ [x]).map Subtype.val) = _; rw [List.map_append]; exact gsF_miss _ e)
  have HQE : Hid (∀ ys : List (CvT (sgnF f) m), ys.map Subtype.val = cvUp (sgnF f) m (2 ^ m) → q ys = gsF wt (cvUp (sgnF f) m (2 ^ m))) := Lib.hid (fun ys e => by rw [hq]; show gsF wt (ys.map Subtype.val) = _; rw [e])
  have HQL : Hid (∀ pre, (q pre).length ≤ pre.length) := Lib.hid (fun pre => by rw [hq]; have := gsF_len wt (pre.map Subtype.val); rw [List.length_map] at this; exact this)
  generalize gsF wt (cvUp (sgnF f) m (2 ^ m)) = ans at HQE ⊢
  have HW0 := Lib.hid hw0
  clear hT hs hq
  refine callsIn_of_wp_marks Tryz.func50 rfl trivial ?_ rfl
  simp only [Tryz.ntmps50, List.size_toArray, List.length_cons, List.length_nil, Nat.reduceAdd, Nat.reduceSub, Array.replicate_succ, Array.replicate_zero, List.push_toArray, List.append_toArray, List.nil_append, List.cons_append]
  clear hw0
  gi_wp2_with fail
  rw [← HW0.out]
  refine ⟨trivial, (callsIn_wide.2 HO.out).mono ?_⟩
  rintro e w1 ⟨b, ag, g, c, rfl, hag, hm, he, hb1⟩
  have HAG := Lib.hid hag
  have HB1 := Lib.hid (HB0.out.trans (hb1.mono HB0.out.size))
  have hal := (Below.refl w1.heap.size w1).alloc (Nat.le_refl _) (.cells #[.slice none 0 0] 28)
  have HM := Lib.hid ((hm.on hal))
  have HE := Lib.hid ((he.on hal))
  have HBA := Lib.hid (HB1.out.trans (hal.mono HB1.out.size))
  have HR1 : Hid (Boxed (w1.alloc (.cells #[.slice none 0 0] 28)) w1.heap.size 28 (.slice none 0 0)) := Lib.hid (Boxed.new _ _ _)
  have HF1 := Lib.hid (boxed_on (boxed_on HF0.out hb1) hal)
  have hs1 := hb1.size
  have hs0 := HF0.out.lt
  clear hag hm he hb1 hal
  gi_wp2_with fail
  refine ⟨trivial, (callsIn_wide.2 (convexSets_any _ _ _ _ _)).mono ?_⟩
  rintro e w2 ⟨Bs, Be, rfl, hbs, hbe, hb2⟩
  have HB2 := Lib.hid (HBA.out.trans (hb2.mono HBA.out.size))
  have HR2 := Lib.hid (boxed_on HR1.out hb2)
  have HF2 := Lib.hid (boxed_on HF1.out hb2)
  have HPS := Lib.hid (pass_stops m h7 f ag b g c Bs Be w.heap.size HAG.out w2 hbs hbe (HM.out.on hb2) (HE.out.on hb2))
  have hsz := HB2.out.size
  clear hbs hbe hb2
  gi_wp2_with fail
  have HEG := Lib.hid (enters_of (P := Tryz.prog) Tryz.func101 (by kernel_rfl) rfl)
  refine wpIn_rangeFunc_ownG rfl (by omega) (gf := 101) (lb := #[.pointer (some ⟨Bs, 0, none⟩), .pointer (some ⟨Be, 0, none⟩)]) rfl trivial HEG.out HPS.out (fun h k => kpT_t h k) (kpT_b hsz) (Below.refl _ _) (fun _ => rfl)
    (fun pre W => (∃ v, Boxed W w1.heap.size 28 v ∧ W.ownsRow w.heap.size 3 1 v (q pre).length ((q pre).map (Value.int .i64)) ∧ True) ∧ Boxed W (w.heap.size + 1) 48 (.func (.func k) #[] lb) ∧ Below w.heap.size w W)
    (fun _ _ _ => False)
    (OwnFrom.and (Own.from (holdsRow_own w.heap.size w1.heap.size 28 3 1 (fun pre => (q pre).length) (fun pre => (q pre).map (Value.int .i64)) (fun _ _ => True)) _) (OwnFrom.and (Own.from (boxed_own _ _ _) _) (ownFrom_below (Nat.le_refl _) hsz)))
    (fun _ _ _ _ _ hs _ _ => hs)
    ⟨⟨_, HR2.out, by rw [HQ0.out]; exact World.ownsRow_nil _ _ _ _, trivial⟩, HF2.out, HB2.out⟩
    (fun x => { tmps := #[sg n s, .func (.func k) #[] lb, .pointer (some ⟨w.heap.size, 0, none⟩), .pointer (some ⟨w.heap.size + 1, 0, none⟩), .slice none 0 0, .map (some b), .slice ag m c, .pointer (some ⟨w1.heap.size, 0, none⟩), .int .i64 (x.1 : Nat), .int .i64 (insS (sgnF f) m x.1 : Nat), .tuple #[.map (some b), .slice ag m c], .agg #[.int .i64 n, .string s], .tuple #[.map (some b), .slice ag m c], .map (some b), .slice ag m c, .map (some b), .slice ag m c, .func (.func 101) #[] #[.pointer (some ⟨Bs, 0, none⟩), .pointer (some ⟨Be, 0, none⟩)], .int .i64 (x.1 : Nat), .int .i64 (insS (sgnF f) m x.1 : Nat), undef, undef, undef, undef, undef, undef, undef, undef, undef], defers := [] }) ?assign ?body ?done ?stop
  case assign =>
    intro l x W K hK
    dsimp only [encV]
    gi_wp2
    exact hK
  case body =>
    rintro l pre x W ⟨⟨v, hbR, hrow, -⟩, hbF, hB⟩ hlen
    have hcr := hbR.cell
    have hcf := hbF.cell
    have h128 : x.1 < 128 := Nat.lt_of_lt_of_le x.2.1 (pow_le7 h7)
    have HFC := Lib.hid (HF.out x.1 h128 W hB)
    have HH := Lib.hid (HQH.out pre x)
    have HM' := Lib.hid (HQM.out pre x)
    have hql := HQL.out pre
    generalize insS (sgnF f) m x.1 = I at HFC ⊢
    have hvb := hbR
    cases hw : wt x.1
    · rw [hw] at HFC
      have HN := Lib.hid (HM'.out hw)
      clear hw
      gi_wp2_with fail
      refine ⟨trivial, (CallsIn.inRound l (callsIn_wide.2 HFC.out)).mono ?_⟩
      rintro e w' ⟨rfl, nq, rfl⟩
      obtain ⟨hkd, hkp, hbR2, hrow2, hbF2, hB2⟩ := drew_all nq hbR hrow hbF hB
      generalize W.drewN nq = Wd at hkd hkp hbR2 hrow2 hbF2 hB2 ⊢
      clear hcr hcf
      gi_wp2
      exact ⟨hkd.from _, hkp, ⟨v, hbR2, by show World.ownsRow _ _ _ _ _ (q (pre ++ [x])).length _; rw [HN.out]; exact hrow2, trivial⟩, hbF2, hB2⟩
    · rw [hw] at HFC
      have HN := Lib.hid (HH.out hw)
      clear hw
      gi_wp2_with fail
      refine ⟨trivial, (CallsIn.inRound l (callsIn_wide.2 HFC.out)).mono ?_⟩
      rintro e w' ⟨rfl, nq, rfl⟩
      obtain ⟨hkd, hkpd, hbR2, hrow2, hbF2, hB2⟩ := drew_all nq hbR hrow hbF hB
      generalize W.drewN nq = Wd at hkd hkpd hbR2 hrow2 hbF2 hB2 ⊢
      clear hcr hcf
      have hcr := hbR2.cell
      gi_wp2_with (gi_at_builtin; refine wpListIn_append_own _ rfl _ _ 28 rfl w.heap.size 3 i0 (.int .i64 0) 1 8 Tryz.underlying28 hi hz0 hz1 hz2 rfl (by decide) _ _ _ rfl (hrow2.alloc _) ⟨Wd.heap.size, 0, none⟩ 1 1 [.int .i64 (x.1 : Nat)] rfl rfl (cell_one_new _ _ _) (by simp [Value.oneCell']) (by simp only [maxLen]; omega) (by omega) (by have := hB2.size; simp; omega) ?_; intro v' w1' hown' hgrow _; obtain ⟨g', cap', rfl⟩ := ownsRow_succ hown'; obtain ⟨hv1, hv2, hr2, hk2, hb2⟩ := hbR2.appended (by decide) hrow2 hB2.size (by omega) hown' hgrow; have hc1 := hv1.cell; have hf1 := hv1.frozen)
      have hkp := kpT_app hrow2 hgrow hv1 hb2
      have hF2 := ((hbF2.alloc (.cells #[.int .i64 (x.1 : Nat)] 3)).kept hgrow (hbF2.not_row (by decide) hrow2)).other (B' := w1.heap.size) (by omega) (.slice (some ⟨g', 0, none⟩) ((q pre).length + 1) cap')
      have hx2 : (q (pre ++ [x])).length = (q pre).length + 1 := by rw [HN.out, List.length_append]; rfl
      exact ⟨(hkd.trans hk2).from _, kpT_t hkpd hkp, ⟨_, hv2, by show World.ownsRow _ _ _ _ _ (q (pre ++ [x])).length ((q (pre ++ [x])).map _); rw [hx2, HN.out, List.map_append]; exact hr2, trivial⟩, hF2, hB2.trans hb2⟩
  case done =>
    rintro D ys W hD hys ⟨⟨v, hbR, hrow, -⟩, hbF, hB⟩ hK
    have hcr := hbR.cell
    rw [HQE.out ys hys] at hrow
    gi_wp2
    refine ⟨by simp, .inl ⟨_, _, rfl, run_takeDeferred hK, ?_⟩⟩
    obtain ⟨a, c', hv, hn, -⟩ := New.of_own (ownsRow_putObj hrow _ hK rfl : OwnsZ _ _ _ ans)
    subst hv
    exact ⟨_, results_tmp rfl _ _ _, ⟨a, c', rfl, hn⟩, hB.trans (belowK_b (w := w) (Nat.le_refl _) W D _ _ (by omega) hK rfl rfl)⟩
  case stop =>
    rintro D c pre W _ _ h _
    exact h.elim
set_option maxHeartbeats 1600000 in
set_option maxRecDepth 100000 in
theorem convex1_any (S I p : Nat) (k : Int) (hS : S < 128) (w : World) (hp : w.cell? ⟨p, 0, none⟩ = some (.int .i64 k)) :
    Calls Tryz.prog 51 #[.int .i64 S, .int .i64 I, .pointer (some ⟨p, 0, none⟩)] w fun e w' => e = .returned (.bool (((pcS S : Nat) : Int) == k)) ∧ ∃ nq, w' = w.drewN nq := by
  have HA : Hid (∀ k', Calls Tryz.prog 52 #[.int .i64 S] (w.drewN k') fun e w' => e = .returned (.int .i64 (pcS S : Nat)) ∧ w' = w.drewN k') := Lib.hid (fun k' => (sizeOf_any S hS _).mono fun _ _ ⟨p, r⟩ => ⟨p, r.symm⟩)
  generalize pcS S = P at HA ⊢
  go_enter Tryz.func51, Tryz.ntmps51
  go_wp2
  go_quiet ((go_at_call 52; exact Calls.quiet_of_same (HA.out _)))
  go_wp2
  go_ret
  exact ⟨rfl, _, rfl⟩
set_option maxHeartbeats 1600000 in
set_option maxRecDepth 100000 in
theorem empty1_any (S I p : Nat) (k : Int) (hS : S < 128) (w : World) (hp : w.cell? ⟨p, 0, none⟩ = some (.int .i64 k)) :
    Calls Tryz.prog 53 #[.int .i64 S, .int .i64 I, .pointer (some ⟨p, 0, none⟩)] w fun e w' => e = .returned (.bool ((((pcS S : Nat) : Int) == k) && (I == 0))) ∧ ∃ nq, w' = w.drewN nq := by
  have HA : Hid (∀ k', Calls Tryz.prog 52 #[.int .i64 S] (w.drewN k') fun e w' => e = .returned (.int .i64 (pcS S : Nat)) ∧ w' = w.drewN k') := Lib.hid (fun k' => (sizeOf_any S hS _).mono fun _ _ ⟨p, r⟩ => ⟨p, r.symm⟩)
  have he0 := beq_cast I 0
  have he0 : ((I : Int) == 0) = (I == 0) := he0
  generalize (I == 0) = z at he0 ⊢
  generalize pcS S = P at HA ⊢
  cases hk : ((P : Int) == k)
  · go_enter Tryz.func53, Tryz.ntmps53
    go_wp2
    go_quiet ((go_at_call 52; exact Calls.quiet_of_same (HA.out _)))
    go_wp2
    go_ret
    exact ⟨rfl, _, rfl⟩
  · go_enter Tryz.func53, Tryz.ntmps53
    go_wp2
    go_quiet ((go_at_call 52; exact Calls.quiet_of_same (HA.out _)))
    go_wp2
    go_ret
    exact ⟨rfl, _, rfl⟩
/-- What the pass gathers is what spec tells, also of signs that are none. -/
theorem cvZ_both (n : Int) (s : List UInt8) (k : Int) (emp : Bool) : setsTo (fun S => cvS (sgnF (ordF n s)) (mN n s) S && ((((pcS S : Nat) : Int) == k) && (!emp || (insS (sgnF (ordF n s)) (mN n s) S == 0)))) (2 ^ mN n s) = cvZ n s k emp := by
  cases h : aciB n s
  · have hm : mN n s = 0 := by unfold mN; rw [h]; rfl
    rw [hm]
    have hc : cvS (sgnF (ordF n s)) 0 0 = false := by unfold cvS; simp [show pcS 0 = 0 from by decide]
    have : cvZ n s k emp = [] := by unfold cvZ; rw [if_neg (by rw [h]; simp)]
    rw [this]
    unfold setsTo
    simp [hc]
  · obtain ⟨h3, h7⟩ := aciB_n h
    obtain ⟨m, rfl⟩ : ∃ m : Nat, n = m := ⟨n.toNat, by omega⟩
    have hm : mN m s = m := by unfold mN; rw [if_pos h, Int.toNat_natCast]
    rw [hm, ordF_yes h, cvZ_all h]
    rfl
set_option maxHeartbeats 1600000 in
set_option maxRecDepth 100000 in
theorem implConvexSets (n : Int) (s : ByteArray) (k : Int) (hs : s.size ≤ 9223372036854775807) (w : World) (hT : Tab w) :
    Calls Tryz.prog 7 #[sg n s, .int .i64 k] w fun e w' => Got w.heap.size (cvZ n s.data.toList k false) e w' ∧ Below w.heap.size w w' := by
  have hmf : ∀ (fn : Fn) (first cap : Array Value) (w : World), (Instr.makeFunc fn first cap).run Tryz.prog w = .ok (.func fn first cap) w := fun _ _ _ _ => rfl
  have eg : ∀ args w, (callFunc 51 args).run Tryz.prog w = .ok (.enter 51 args) w := enters_of Tryz.func51 (by kernel_rfl) rfl
  obtain ⟨w0, hw0⟩ : ∃ w0, w0 = (w.alloc (.cells #[.int .i64 n, .string s] 25)).alloc (.cells #[.int .i64 k] 3) := ⟨_, rfl⟩
  have B0 : Below w.heap.size w w0 := by rw [hw0]; exact ((Below.refl _ _).alloc (Nat.le_refl _) _).alloc (by simp) _
  have c0 : w0.cell? ⟨w.heap.size + 1, 0, none⟩ = some (.int .i64 k) := by rw [hw0]; go_simp
  have x0 : w0.cell? ⟨w.heap.size, 0, none⟩ = some (.int .i64 n) := by rw [hw0]; go_simp
  have x1 : w0.cell? ⟨w.heap.size, 1, none⟩ = some (.string s) := by rw [hw0]; go_simp
  have HC := Lib.hid (setsWhere_any n s 51 #[.pointer (some ⟨w.heap.size + 1, 0, none⟩)] (fun S => (((pcS S : Nat) : Int) == k) && (!false || (insS (sgnF (ordF n s.data.toList)) (mN n s.data.toList) S == 0))) hs w0 (hT.on B0) eg (Lib.hid (fun S hS W hW => by
    have h := convex1_any S (insS (sgnF (ordF n s.data.toList)) (mN n s.data.toList) S) (w.heap.size + 1) k hS W (by rw [hW.cell (Kit.cell_lt c0)]; exact c0)
    refine h.mono fun e w' ⟨he, hw⟩ => ⟨?_, hw⟩
    rw [he]
    simp)))
  have HZ := Lib.hid (cvZ_both n s.data.toList k false)
  have HW0 := Lib.hid hw0
  have HB0 := Lib.hid B0
  rw [hw0] at x0 x1
  clear hT hw0 B0 c0
  go_enter Tryz.func7, Tryz.ntmps7
  go_wp2_with fail
  rw [← HW0.out]
  refine HC.out.mono ?_
  rintro e w1 ⟨hg, hb1⟩
  rw [HZ.out] at hg
  obtain ⟨a, c, rfl, hn⟩ := hg
  have B1 := Lib.hid (HB0.out.trans (hb1.mono HB0.out.size))
  have HN := Lib.hid (new_low hn HB0.out.size)
  clear hn hb1 x0 x1
  go_wp2
  go_ret
  exact ⟨⟨a, c, rfl, HN.out⟩, B1.out⟩
set_option maxHeartbeats 1600000 in
set_option maxRecDepth 100000 in
theorem implEmptySets (n : Int) (s : ByteArray) (k : Int) (hs : s.size ≤ 9223372036854775807) (w : World) (hT : Tab w) :
    Calls Tryz.prog 8 #[sg n s, .int .i64 k] w fun e w' => Got w.heap.size (cvZ n s.data.toList k true) e w' ∧ Below w.heap.size w w' := by
  have hmf : ∀ (fn : Fn) (first cap : Array Value) (w : World), (Instr.makeFunc fn first cap).run Tryz.prog w = .ok (.func fn first cap) w := fun _ _ _ _ => rfl
  have eg : ∀ args w, (callFunc 53 args).run Tryz.prog w = .ok (.enter 53 args) w := enters_of Tryz.func53 (by kernel_rfl) rfl
  obtain ⟨w0, hw0⟩ : ∃ w0, w0 = (w.alloc (.cells #[.int .i64 n, .string s] 25)).alloc (.cells #[.int .i64 k] 3) := ⟨_, rfl⟩
  have B0 : Below w.heap.size w w0 := by rw [hw0]; exact ((Below.refl _ _).alloc (Nat.le_refl _) _).alloc (by simp) _
  have c0 : w0.cell? ⟨w.heap.size + 1, 0, none⟩ = some (.int .i64 k) := by rw [hw0]; go_simp
  have x0 : w0.cell? ⟨w.heap.size, 0, none⟩ = some (.int .i64 n) := by rw [hw0]; go_simp
  have x1 : w0.cell? ⟨w.heap.size, 1, none⟩ = some (.string s) := by rw [hw0]; go_simp
  have HC := Lib.hid (setsWhere_any n s 53 #[.pointer (some ⟨w.heap.size + 1, 0, none⟩)] (fun S => (((pcS S : Nat) : Int) == k) && (!true || (insS (sgnF (ordF n s.data.toList)) (mN n s.data.toList) S == 0))) hs w0 (hT.on B0) eg (Lib.hid (fun S hS W hW => by
    have h := empty1_any S (insS (sgnF (ordF n s.data.toList)) (mN n s.data.toList) S) (w.heap.size + 1) k hS W (by rw [hW.cell (Kit.cell_lt c0)]; exact c0)
    refine h.mono fun e w' ⟨he, hw⟩ => ⟨?_, hw⟩
    rw [he]
    simp)))
  have HZ := Lib.hid (cvZ_both n s.data.toList k true)
  have HW0 := Lib.hid hw0
  have HB0 := Lib.hid B0
  rw [hw0] at x0 x1
  clear hT hw0 B0 c0
  go_enter Tryz.func8, Tryz.ntmps8
  go_wp2_with fail
  rw [← HW0.out]
  refine HC.out.mono ?_
  rintro e w1 ⟨hg, hb1⟩
  rw [HZ.out] at hg
  obtain ⟨a, c, rfl, hn⟩ := hg
  have B1 := Lib.hid (HB0.out.trans (hb1.mono HB0.out.size))
  have HN := Lib.hid (new_low hn HB0.out.size)
  clear hn hb1 x0 x1
  go_wp2
  go_ret
  exact ⟨⟨a, c, rfl, HN.out⟩, B1.out⟩
end Go.Proofs.YtflcpgdgoencgaaGreatDoor.Sg
