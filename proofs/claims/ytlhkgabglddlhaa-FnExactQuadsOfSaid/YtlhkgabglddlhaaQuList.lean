/- QuadsOf and CountQuads, as impl tells them. -/
import Derived.Test.YtlhkgabglddlhaaNewII
import Derived.Test.YtlhkgabglddlhaaQuCount
import Derived.WalkSpells
import Derived.Lib.SliceRun
namespace Go.Proofs.Ytlhkgabglddlhaa.Sg
open Go.RowKit Pt NewI NewII Go.Maps
/-- A four as a row. -/
def r4 (t : T4) : List Int := [(t.1 : Int), (t.2.1 : Int), (t.2.2.1 : Int), (t.2.2.2 : Int)]
def rows4 (L : List T4) : List (List Int) := L.map r4
theorem rows4_length (L : List T4) : (rows4 L).length = L.length := by unfold rows4; simp
theorem rows4_snoc (L : List T4) (t : T4) : rows4 (L ++ [t]) = rows4 L ++ [r4 t] := by unfold rows4; simp
set_option maxRecDepth 100000 in
theorem infoL : (Try.prog.info? 27).map (fun i => (i.zero, i.size, i.bytes)) = some (some (.slice none 0 0), 1, 24) := by kernel_rfl
set_option maxHeartbeats 800000 in
set_option maxRecDepth 100000 in
theorem clone4_any (b c : Nat) (x y z u : Int) (w : World) (h0 : w.cell? ⟨b, 0, none⟩ = some (.int .i64 x)) (h1 : w.cell? ⟨b, 1, none⟩ = some (.int .i64 y)) (h2 : w.cell? ⟨b, 2, none⟩ = some (.int .i64 z)) (h3 : w.cell? ⟨b, 3, none⟩ = some (.int .i64 u)) :
    Calls Try.prog 113 #[.slice (some ⟨b, 0, none⟩) 4 c] w fun e w' => ∃ g cp, e = .returned (.slice (some ⟨g, 0, none⟩) 4 cp) ∧ w.heap.size ≤ g ∧ (∃ cs, w'.heap[g]? = some (.cells cs 3)) ∧ Cells w' g 4 (zc [x, y, z, u]) ∧ Below w.heap.size w w' := by
  obtain ⟨i0, hi, hz0, hz1, hz2⟩ := info_parts infoI
  have HO := Lib.hid (World.ownsRow_made (base := w.heap.size) (e := 3) (size := 1) w #[] 0 (Nat.le_refl _) (by decide) rfl)
  have HB0 := Lib.hid ((Below.refl w.heap.size w).alloc (Nat.le_refl _) (.cells #[] 3))
  have hbl : b < w.heap.size := Kit.cell_lt h0
  have HN : Hid (∀ (j : Nat) v, [Value.int .i64 x, Value.int .i64 y, Value.int .i64 z, Value.int .i64 u][j]? = some v → (w.alloc (.cells #[] 3)).cell? (Addr.add ⟨b, 0, none⟩ j) = some v) := Lib.hid (fun j v hv => by
    rw [WideShapes.add_plain, Nat.zero_add, World.cell?_alloc_lt _ _ _ (by simpa using hbl)]
    have hj : j < 4 := by
      rcases Nat.lt_or_ge j 4 with h | h
      · exact h
      · rw [List.getElem?_eq_none (by simpa using h)] at hv; cases hv
    rcases (by omega : j = 0 ∨ j = 1 ∨ j = 2 ∨ j = 3) with rfl | rfl | rfl | rfl <;> simp at hv <;> subst hv <;> assumption)
  have hnil : ∀ W : World, (binOp .eql 27 (.slice (some ⟨b, 0, none⟩) 4 c) (.slice none 0 0)).run Try.prog W = .ok (.bool false) W := fun W => by
    rw [Lib.run_eql_slice_nil W 27 3 _ _ _ _ _ Try.underlying27]; rfl
  clear h0 h1 h2 h3
  go_enter Try.func113, Try.ntmps113
  go_wp2_with (at_builtin; refine wpList_append_own _ rfl _ _ 27 rfl w.heap.size 3 i0 _ 1 8 Try.underlying27 hi hz0 hz1 hz2 rfl (by decide) _ _ _ rfl HO.out ⟨b, 0, none⟩ 4 c [.int .i64 x, .int .i64 y, .int .i64 z, .int .i64 u] rfl rfl HN.out (one4 _ _ _ _) ?_ ?_ ?_ ?_)
  · simp only [maxLen]; omega
  · omega
  · simp
  intro v1 w1 hown1 hg1 _
  have B1 := Lib.hid (HB0.out.grown hg1 (by simp) (fun q hq => (World.ownsRow.lt HO.out q hq).1))
  have hlt := World.ownsRow.lt hown1
  obtain ⟨g, cp, rfl, hg, hcs, hcl⟩ : ∃ g cp, v1 = .slice (some ⟨g, 0, none⟩) 4 cp ∧ w.heap.size ≤ g ∧ (∃ cs, w1.heap[g]? = some (.cells cs 3)) ∧ Cells w1 g 4 (zc [x, y, z, u]) := by
    obtain ⟨-, ⟨-, h1⟩ | ⟨g, cap, cur, rfl, hB, hh, hr⟩⟩ := id hown1
    · omega
    · refine ⟨g, cap, rfl, hB, ⟨cur, hh⟩, fun j hj => ?_, fun j => World.ownsRow.frozenAt hown1 j, (hlt g rfl).2⟩
      have e : ∀ v, ([] ++ [Value.int .i64 x, Value.int .i64 y, Value.int .i64 z, Value.int .i64 u])[j]? = some v → w1.cell? ⟨g, j, none⟩ = some v := fun v hv => by
        have := World.ownsRow.cells hown1 (g := g) rfl j v hv
        rwa [WideShapes.add_plain, Nat.zero_add] at this
      rcases (by omega : j = 0 ∨ j = 1 ∨ j = 2 ∨ j = 3) with rfl | rfl | rfl | rfl
      · exact e _ rfl
      · exact e _ rfl
      · exact e _ rfl
      · exact e _ rfl
  have HC := Lib.hid hcl
  clear hown1 hcl hg1
  go_wp2
  go_ret
  exact ⟨g, cp, rfl, hg, hcs, HC.out, B1.out⟩
theorem newsR (w : World) (v : Value) (t : TypeId) : ∀ (j : Nat) u, [v][j]? = some u → (w.alloc (.cells #[v] t)).cell? (Addr.add ⟨w.heap.size, 0, none⟩ j) = some u
  | 0, u, h => by
    rw [WideShapes.add_plain, Nat.add_zero, World.cell?_alloc_new]
    simpa using h
  | j + 1, u, h => by simp at h
theorem oneR (a : Option Addr) (n c : Nat) : ∀ u ∈ [Value.slice a n c], u.oneCell' = true := fun u hu => by
  simp only [List.mem_cons, List.not_mem_nil, or_false] at hu
  subst hu; rfl
set_option maxHeartbeats 3200000 in
set_option maxRecDepth 100000 in
theorem quadsOf_any (B : Nat) (f : Int → Int → Int → Int) (n : Nat) (h3 : 3 ≤ n) (h7 : n ≤ 7) (w : World) (hm : MapIs w B f) :
    Calls Try.prog 89 #[.map (some B), .int .i64 n] w fun e w' => Got2 w.heap.size (rows4 (quads (sgnF f) n)) e w' ∧ Below w.heap.size w w' := by
  obtain ⟨i0, hi, hz0, hz1, hz2⟩ := info_parts infoL
  have HM := Lib.hid hm
  have HI : Hid (∀ (a b c d : Nat), a ≤ 7 → b ≤ 7 → c ≤ 7 → d ≤ 7 → ∀ W, MapIs W B f → Calls Try.prog 90 #[.map (some B), .int .i64 a, .int .i64 b, .int .i64 c, .int .i64 d] W fun e w' => e = .returned (.int .i64 (inn4 (cir (sgnF f) a b c d) a b c d)) ∧ Below W.heap.size W w') := Lib.hid (fun a b c d h1 h2 h3 h4 W hW => innerOf_any B f a b c d (i64_nat (by omega)) (i64_nat (by omega)) (i64_nat (by omega)) (i64_nat (by omega)) W hW)
  have hl4 := fours_len h7
  have HQL := Lib.hid (fun p => quadsTo_len (f := sgnF f) (p := p) h7)
  have HALL := Lib.hid (quadsTo_all (sgnF f) n)
  have HZ := Lib.hid (quadsTo_zero (sgnF f) n)
  clear hm
  go_enter Try.func89, Try.ntmps89
  go_wp2_with fail
  refine (foursOf_any n h3 h7 _).mono ?_
  rintro e w1 ⟨v, rfl, hv, hb1⟩
  obtain ⟨a, c, rfl, hr⟩ := owns4_row hv
  have HR : Hid (Row4 w1 a (fours n)) := Lib.hid (fun hne => by obtain ⟨g, h1, _, h2, h4⟩ := hr hne; exact ⟨g, h1, h2, h4⟩)
  have B1 := Lib.hid hb1
  have HM1 := Lib.hid (HM.out.on hb1)
  have HO : Hid (OwnL w1 w1.heap.size w1.heap.size (.slice none 0 0) (rows4 (quadsTo (sgnF f) n 0))) := Lib.hid (by rw [HZ.out]; exact OwnL.nil _ _ _)
  clear hv hr hb1
  go_wp2
  go_loopw [5, 11] (fun vv i wr => ∃ p : Nat, p ≤ (fours n).length ∧ i = .int .i64 p ∧ Hid (OwnL wr w1.heap.size wr.heap.size vv (rows4 (quadsTo (sgnF f) n p))) ∧ Hid (Below w1.heap.size w1 wr)) (fun _ i _ => (fours n).length - (intOf i).toNat)
  case atStart => exact ⟨0, Nat.zero_le _, rfl, HO, Lib.hid (Below.refl _ _)⟩
  case round =>
    obtain ⟨p, hp, rfl, HV, HB⟩ := hrel
    by_cases hltp : p < (fours n).length
    · obtain ⟨t, ht⟩ : ∃ t, (fours n)[p]? = some t := ⟨_, List.getElem?_eq_getElem hltp⟩
      have hne : fours n ≠ [] := fun e0 => by rw [e0] at hltp; simp at hltp
      obtain ⟨g, rfl, hgl, hat4⟩ := HR.out hne
      obtain ⟨x0, x1, x2, x3⟩ := (hat4.on HB.out hgl) p t ht
      obtain ⟨t1, t2, t3, t4⟩ := fours_mem h7 (List.mem_of_getElem? ht)
      obtain ⟨z0, z1, z2, z3⟩ := box4_made wr t.1 t.2.1 t.2.2.1 t.2.2.2 68
      have HBa := Lib.hid (HB.out.alloc HB.out.size (.cells #[.int .i64 t.1, .int .i64 t.2.1, .int .i64 t.2.2.1, .int .i64 t.2.2.2] 68))
      have HVa := Lib.hid (HV.out.on ((Below.refl wr.heap.size wr).alloc (Nat.le_refl _) (.cells #[.int .i64 t.1, .int .i64 t.2.1, .int .i64 t.2.2.1, .int .i64 t.2.2.2] 68)))
      have HMa := Lib.hid (HM1.out.on HBa.out)
      have HZ4 := Lib.hid (box4_made wr t.1 t.2.1 t.2.2.1 t.2.2.2 68)
      have HCC := Lib.hid (HI.out t.1 t.2.1 t.2.2.1 t.2.2.2 (by omega) (by omega) (by omega) (by omega) _ HMa.out)
      have HH := Lib.hid (fun h => quadsTo_hit (f := sgnF f) ht h)
      have HX := Lib.hid (fun h => quadsTo_miss (f := sgnF f) ht h)
      have hhas : hasI (sgnF f) t = !(inn4 (cir (sgnF f) t.1 t.2.1 t.2.2.1 t.2.2.2) t.1 t.2.1 t.2.2.1 t.2.2.2 == -1) := rfl
      generalize inn4 (cir (sgnF f) t.1 t.2.1 t.2.2.1 t.2.2.2) t.1 t.2.1 t.2.2.1 t.2.2.2 = y at HCC hhas
      have hlt0 : wr.heap.size < (wr.alloc (.cells #[.int .i64 t.1, .int .i64 t.2.1, .int .i64 t.2.2.1, .int .i64 t.2.2.2] 68)).heap.size := by simp
      clear ht hat4 HV HZ
      cases hy : (y == -1)
      · rw [hy] at hhas
        have HN := Lib.hid (HX.out hhas)
        go_wp2_with fail
        refine HCC.out.mono ?_
        rintro e w3 ⟨rfl, hb3⟩
        have HB3 := Lib.hid (HBa.out.trans (hb3.mono HBa.out.size))
        have HV3 : Hid (OwnL w3 w1.heap.size w3.heap.size _ (rows4 (quadsTo (sgnF f) n (p + 1)))) := Lib.hid (by rw [HN.out]; exact (HVa.out.on hb3).top)
        clear hb3 HCC
        go_wp2
        exact ⟨⟨p + 1, by omega, by go_num, HV3, HB3⟩, by simp only [intOf]; omega⟩
      · rw [hy] at hhas
        have HN := Lib.hid (HH.out hhas)
        have HYL := HQL.out p
        generalize quadsTo (sgnF f) n p = ys at HVa HN HYL
        go_wp2_with fail
        refine HCC.out.mono ?_
        rintro e w3 ⟨rfl, hb3⟩
        have HB3 := Lib.hid (HBa.out.trans (hb3.mono HBa.out.size))
        have HV3 := Lib.hid (HVa.out.on hb3).top
        have hbx : ∀ i v, (wr.alloc (.cells #[.int .i64 t.1, .int .i64 t.2.1, .int .i64 t.2.2.1, .int .i64 t.2.2.2] 68)).cell? ⟨wr.heap.size, i, none⟩ = some v → w3.cell? ⟨wr.heap.size, i, none⟩ = some v := fun i v h => by rw [hb3.cell hlt0]; exact h
        have k0 := hbx _ _ HZ4.out.1
        have k1 := hbx _ _ HZ4.out.2.1
        have k2 := hbx _ _ HZ4.out.2.2.1
        have k3 := hbx _ _ HZ4.out.2.2.2
        clear hb3 HCC hbx
        go_wp2_with fail
        refine (clone4_any _ _ _ _ _ _ _ k0 k1 k2 k3).mono ?_
        rintro e w4 ⟨gc, cp, rfl, hgc, hcs, hcl, hb4⟩
        have HB4 := Lib.hid (HB3.out.trans (hb4.mono HB3.out.size))
        have HV4 := Lib.hid (HV3.out.on hb4)
        have HC4 := Lib.hid hcl
        have HCS := Lib.hid hcs
        obtain ⟨L, hL⟩ := HV4.out.row
        have HL4 := Lib.hid hL
        have hyl2 : (rows4 ys).length ≤ 35 := by rw [rows4_length]; exact HYL
        have hs4 : w1.heap.size ≤ w4.heap.size := HB4.out.size
        have hs1 : w.heap.size ≤ w1.heap.size := B1.out.size
        have hs3 : w1.heap.size ≤ gc := Nat.le_trans HB3.out.size hgc
        clear hcl hcs hb4 hL k0 k1 k2 k3
        go_wp2_with (at_builtin; refine wpList_append_own _ rfl (.tmp 26) (.tmp 29) 44 rfl w1.heap.size 27 i0 _ 1 24 Try.underlying44 hi hz0 hz1 hz2 rfl (by decide) _ _ _ rfl (World.ownsRow.alloc HL4.out _) ⟨_, 0, none⟩ 1 1 [.slice (some ⟨gc, 0, none⟩) 4 cp] rfl rfl (newsR _ _ _) (oneR _ _ _) (by simp only [maxLen]; omega) (by omega) (by simp; omega) ?_)
        intro v1 w5 hown hg _
        have hal := (Below.refl w4.heap.size w4).alloc (Nat.le_refl _) (.cells #[.slice (some ⟨gc, 0, none⟩) 4 cp] 27)
        have HV5 : Hid (OwnL w5 w1.heap.size w5.heap.size v1 (rows4 (quadsTo (sgnF f) n (p + 1)))) := Lib.hid (by
          rw [HN.out, rows4_snoc]
          obtain ⟨cs, hcs⟩ := HCS.out
          have hgl : gc < w4.heap.size := HC4.out.lt
          exact (OwnL.snoc (g := (gc, cp)) (zs := r4 t) (HV4.out.on hal) hs3 hgc ⟨cs, by rw [hal.block gc hgl]; exact hcs⟩ (HC4.out.on hal) hg (World.ownsRow.alloc HL4.out _) hown).top)
        have HB5 : Hid (Below w1.heap.size w1 w5) := Lib.hid ((HB4.out.alloc HB4.out.size _).grown hg (by simp; omega) (fun q hq => (World.ownsRow.lt HL4.out q hq).1))
        clear hown hg hal
        go_wp2
        exact ⟨⟨p + 1, by omega, by go_num, HV5, HB5⟩, by simp only [intOf]; omega⟩
    · have HV2 := HV
      rw [show p = (fours n).length by omega, HALL.out] at HV2
      obtain ⟨a2, c2, hv, hli⟩ := Lists.of_own HV2.out
      subst hv
      have HLI := Lib.hid hli
      clear HV HV2 hli
      go_wp2
      go_ret
      exact ⟨⟨a2, c2, rfl, HLI.out.low B1.out.size⟩, B1.out.trans (HB.out.mono B1.out.size)⟩
end Go.Proofs.Ytlhkgabglddlhaa.Sg
