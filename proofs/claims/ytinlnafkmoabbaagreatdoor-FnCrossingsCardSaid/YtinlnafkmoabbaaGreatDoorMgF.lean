/- Several texts in one: RuFirst, RuFirstSpec, RuFirstBoth, RuMat. -/
import Derived.Test.YtinlnafkmoabbaaGreatDoorMgS
import Derived.Test.YtinlnafkmoabbaaGreatDoorNewI
import Derived.Test.YtinlnafkmoabbaaGreatDoorMgQ
import Derived.StillTailTactics
import Derived.WalkSpells
import Derived.Lib.LazyBuf
/- FirstBreak, as impl answers it. -/
namespace Go.Proofs.YtinlnafkmoabbaaGreatDoor.Sg
open Go.RowKit Pt NewI
/-- No break among the fours before number p, with a as the first element. -/
def NoP (f : Int → Int → Int → Int) (n a p : Nat) : Prop := ∀ q, q < p → ∀ t, (fours n)[q]? = some t → a ≠ t.1 → a ≠ t.2.1 → a ≠ t.2.2.1 → a ≠ t.2.2.2 → brk f a t.1 t.2.1 t.2.2.1 t.2.2.2 = false
theorem noB_zero (f : Int → Int → Int → Int) (n : Nat) : NoB f n 0 0 0 0 0 := fun a b c d e v h => by unfold Lt4 at h; omega
theorem noP_zero (f : Int → Int → Int → Int) (n a : Nat) : NoP f n a 0 := fun q h => by omega
theorem noP_step {f : Int → Int → Int → Int} {n a p : Nat} {t : T4} (h : NoP f n a p) (ht : (fours n)[p]? = some t) (hb : a ≠ t.1 → a ≠ t.2.1 → a ≠ t.2.2.1 → a ≠ t.2.2.2 → brk f a t.1 t.2.1 t.2.2.1 t.2.2.2 = false) : NoP f n a (p + 1) := fun q hq u hu => by
  by_cases e : q = p
  · subst e; rw [ht] at hu; obtain rfl := Option.some.inj hu; exact hb
  · exact h q (by omega) u hu
theorem noB_next {f : Int → Int → Int → Int} {n a : Nat} (hn : n ≤ 7) (h : NoB f n a 0 0 0 0) (hp : NoP f n a (fours n).length) : NoB f n (a + 1) 0 0 0 0 := fun a' b c d e v hl => by
  by_cases e1 : a' = a
  · subst e1
    obtain ⟨h1, h2, h3, h4, h5, h6, h7, h8, h9⟩ := v
    obtain ⟨q, hq, e2⟩ := List.getElem_of_mem (fours_has hn h2 h3 h4 h5)
    exact hp q hq _ (List.getElem?_eq_some_iff.2 ⟨hq, e2⟩) h6 h7 h8 h9
  · exact h a' b c d e v (Or.inl (by unfold Lt4 at hl; omega))
theorem noB_at {f : Int → Int → Int → Int} {n a p : Nat} {t : T4} (hn : n ≤ 7) (h : NoB f n a 0 0 0 0) (hp : NoP f n a p) (ht : (fours n)[p]? = some t) : NoB f n a t.1 t.2.1 t.2.2.1 t.2.2.2 := fun a' b c d e v hl => by
  rcases hl with hl | ⟨rfl, hl⟩
  · exact h a' b c d e v (Or.inl hl)
  · obtain ⟨h1, h2, h3, h4, h5, h6, h7, h8, h9⟩ := v
    obtain ⟨q, hq, e2⟩ := List.getElem_of_mem (fours_has hn h2 h3 h4 h5)
    have hq' : (fours n)[q]? = some (b, c, d, e) := List.getElem?_eq_some_iff.2 ⟨hq, e2⟩
    by_cases hlt : q < p
    · exact hp q hlt _ hq' h6 h7 h8 h9
    · exfalso
      by_cases e3 : q = p
      · subst e3; rw [ht] at hq'; obtain rfl := Option.some.inj hq'; unfold Lt4 at hl; simp only at hl; omega
      · have := fours_sorted hn ht hq' (by omega)
        unfold Lt4 at hl this
        simp only at this
        omega
theorem isF_none {f : Int → Int → Int → Int} {n : Nat} (h : NoB f n n 0 0 0 0) : IsF f n [] := Or.inl ⟨rfl, h⟩
/-- What FirstBreak answers: the first five, in memory of the call's own. -/
def FstV (B : Nat) (f : Int → Int → Int → Int) (n : Nat) (e : Ending) (w' : World) : Prop := ∃ zs a c, IsF f n zs ∧ e = .returned (.slice a zs.length c) ∧ New w' B w'.heap.size a zs.length (zc zs) ∧ a.isNone = zs.isEmpty
def row5 (a : Nat) (t : T4) : List Int := [(a : Int), (t.1 : Int), (t.2.1 : Int), (t.2.2.1 : Int), (t.2.2.2 : Int)]
theorem contains_four (a : Nat) (t : T4) : ([(t.1 : Int), (t.2.1 : Int), (t.2.2.1 : Int), (t.2.2.2 : Int)].take 4).contains (a : Int) = ((a == t.1) || ((a == t.2.1) || ((a == t.2.2.1) || (a == t.2.2.2)))) := by
  have e : ∀ x y : Nat, ((x : Int) == (y : Int)) = (x == y) := fun x y => by
    by_cases h : x = y
    · subst h; rw [beq_self_eq_true, beq_self_eq_true]
    · have h2 : ¬ ((x : Int) = (y : Int)) := by omega
      rw [beq_eq_false_iff_ne.2 h2, beq_eq_false_iff_ne.2 h]
  simp only [List.take_succ_cons, List.take_zero, List.contains, List.elem, e]
  cases (a == t.1) <;> cases (a == t.2.1) <;> cases (a == t.2.2.1) <;> cases (a == t.2.2.2) <;> rfl
set_option maxHeartbeats 800000 in
set_option maxRecDepth 100000 in
theorem implFirst_no (n : Int) (s : ByteArray) (hs : s.size ≤ 9223372036854775807) (h : arB n s.data.toList = false) (w : World) :
    Calls Tryz.prog 185 #[sg n s] w fun e w' => e = .returned (.slice none 0 0) ∧ Below w.heap.size w w' := by
  have HA := Lib.hid (fun W => implAre_sg n s hs W)
  rw [h] at HA
  have HS := Lib.hid (fun t => box_made w n s t)
  clear h
  go_enter Tryz.func185, Tryz.ntmps185
  go_wp2_with fail
  refine (HA.out _).mono ?_
  rintro e w1 ⟨rfl, hb1⟩
  have B1 := ((HS.out _).on hb1).2.2
  go_wp2
  go_ret
  exact ⟨rfl, B1⟩
set_option maxHeartbeats 1600000 in
set_option maxRecDepth 100000 in
theorem implFirst_yes (n : Nat) (s : ByteArray) (h : arB n s.data.toList = true) (w : World) :
    Calls Tryz.prog 185 #[sg n s] w fun e w' => FstV w.heap.size (sgnF (lookS n s.data.toList)) n e w' ∧ Below w.heap.size w w' := by
  obtain ⟨h3, h7, hl, -⟩ := arB_yes h
  have h3 : 3 ≤ n := by omega
  have h7 : n ≤ 7 := by omega
  have hsz : s.size ≤ 35 := by have := cnt_le h7; have : s.size = cnt n := by simpa using hl
                               omega
  have HA := Lib.hid (fun W => implAre_sg n s (by omega) W)
  rw [h] at HA
  have HMO := Lib.hid (fun W => mapOf_sg n s (by omega) W)
  have HS := Lib.hid (fun t => box_made w n s t)
  have hl4 := fours_len h7
  clear h hl
  go_enter Tryz.func185, Tryz.ntmps185
  go_wp2_with fail
  refine (HA.out _).mono ?_
  rintro e w1 ⟨rfl, hb1⟩
  have X1 := Lib.hid ((HS.out _).on hb1)
  obtain ⟨c0, c1, B1⟩ := X1.out
  clear hb1
  go_wp2_with fail
  refine (HMO.out _).mono ?_
  rintro e w2 ⟨mb, rfl, hmb, hm2, hb2⟩
  have X2 := Lib.hid (X1.out.on hb2)
  have M2 := Lib.hid hm2
  obtain ⟨c2, c3, B2⟩ := X2.out
  clear hb2 hm2 c0 c1
  go_wp2_with fail
  refine (foursOf_any n h3 h7 _).mono ?_
  rintro e w3 ⟨v, rfl, hv, hb3⟩
  obtain ⟨fa, fc, rfl, hrow⟩ := owns4_row hv
  have X3 := Lib.hid (X2.out.on hb3)
  have M3 := Lib.hid (M2.out.on hb3)
  have HR3 := Lib.hid hrow
  obtain ⟨c4, c5, B3⟩ := X3.out
  clear hb3 hv hrow c2 c3
  go_wp2
  go_loopw [18] (fun c wr => ∃ a : Nat, a ≤ n ∧ c = .int .i64 a ∧ Hid (NoB (sgnF (lookS n s.data.toList)) n a 0 0 0 0) ∧ Hid (Below w3.heap.size w3 wr)) (fun c _ => n - (intOf c).toNat)
  case atStart => exact ⟨0, Nat.zero_le _, rfl, Lib.hid (noB_zero _ _), Lib.hid (Below.refl _ _)⟩
  case round =>
    obtain ⟨a, han, rfl, HN, HB⟩ := hrel
    by_cases hlt : a < n
    · go_wp2
      go_loopw [23] (fun c wr => ∃ p : Nat, p ≤ (fours n).length ∧ c = .int .i64 p ∧ Hid (NoP (sgnF (lookS n s.data.toList)) n a p) ∧ Hid (Below w3.heap.size w3 wr)) (fun c _ => (fours n).length - (intOf c).toNat)
      case atStart => exact ⟨0, Nat.zero_le _, rfl, Lib.hid (noP_zero _ _ _), HB⟩
      case round =>
        obtain ⟨p, hp, rfl, HP, HB⟩ := hrel
        by_cases hltp : p < (fours n).length
        · obtain ⟨t, ht⟩ : ∃ t, (fours n)[p]? = some t := ⟨_, List.getElem?_eq_getElem hltp⟩
          have hne : fours n ≠ [] := fun e0 => by rw [e0] at hltp; simp at hltp
          obtain ⟨g, rfl, hgB, hgl, hat4⟩ := HR3.out hne
          obtain ⟨x0, x1, x2, x3⟩ := (hat4.on HB.out hgl) p t ht
          obtain ⟨t1, t2, t3, t4⟩ := fours_mem h7 (List.mem_of_getElem? ht)
          have hbs := HB.out.size
          obtain ⟨z0, z1, z2, z3⟩ := box4_made wr t.1 t.2.1 t.2.2.1 t.2.2.2 152
          have hcc : ∀ j, j < [(t.1 : Int), (t.2.1 : Int), (t.2.2.1 : Int), (t.2.2.2 : Int)].length → (wr.alloc (.cells #[.int .i64 t.1, .int .i64 t.2.1, .int .i64 t.2.2.1, .int .i64 t.2.2.2] 152)).cell? ⟨wr.heap.size, 0 + j, none⟩ = some (.int .i64 ([(t.1 : Int), (t.2.1 : Int), (t.2.2.1 : Int), (t.2.2.2 : Int)].getD j 0)) := fun j hj => by
            rcases (show j = 0 ∨ j = 1 ∨ j = 2 ∨ j = 3 by simp at hj; omega) with rfl | rfl | rfl | rfl
            · exact z0
            · exact z1
            · exact z2
            · exact z3
          have HK := Lib.hid (Tryz.slices_Contains_int wr.heap.size 0 4 4 _ (a : Int) _ (by simp) (by omega) hcc)
          rw [contains_four a t] at HK
          have HBa := Lib.hid (HB.out.alloc (Nat.le_trans (Nat.le_refl _) hbs) (.cells #[.int .i64 t.1, .int .i64 t.2.1, .int .i64 t.2.2.1, .int .i64 t.2.2.2] 152))
          clear hcc hat4
          cases hcon : ((a == t.1) || ((a == t.2.1) || ((a == t.2.2.1) || (a == t.2.2.2))))
          · rw [hcon] at HK
            simp only [Bool.or_eq_false_iff, beq_eq_false_iff_ne, ne_eq] at hcon
            obtain ⟨n1, n2, n3, n4⟩ := hcon
            have HQ := Lib.hid (fun W (hW : Below w3.heap.size w3 W) => isBreak_any mb (lookS n s.data.toList) a t.1 t.2.1 t.2.2.1 t.2.2.2 (by omega) (by omega) (by omega) (by omega) (by omega) W (M3.out.on hW))
            cases hbk : brk (sgnF (lookS n s.data.toList)) a t.1 t.2.1 t.2.2.1 t.2.2.2
            · rw [hbk] at HQ
              have HP2 := Lib.hid (noP_step HP.out ht (fun _ _ _ _ => hbk))
              clear hbk ht
              go_wp2_with fail
              refine HK.out.mono ?_
              rintro e w4 ⟨rfl, rfl⟩
              go_wp2_with fail
              refine (HQ.out _ HBa.out).mono ?_
              rintro e w5 ⟨rfl, hb5⟩
              have HB5 := Lib.hid (HBa.out.trans (hb5.mono HBa.out.size))
              go_wp2
              exact ⟨⟨p + 1, by omega, by go_num, HP2, HB5⟩, by simp only [intOf]; omega⟩
            · rw [hbk] at HQ
              have HF : Hid (IsF (sgnF (lookS n s.data.toList)) n (row5 a t)) := Lib.hid (Or.inr ⟨a, t.1, t.2.1, t.2.2.1, t.2.2.2, rfl, ⟨hlt, t1, t2, t3, t4, n1, n2, n3, n4⟩, hbk, noB_at h7 HN.out HP.out ht⟩)
              clear hbk ht
              go_wp2_with fail
              refine HK.out.mono ?_
              rintro e w4 ⟨rfl, rfl⟩
              go_wp2_with fail
              refine (HQ.out _ HBa.out).mono ?_
              rintro e w5 ⟨rfl, hb5⟩
              have HB5 := Lib.hid (HBa.out.trans (hb5.mono HBa.out.size))
              have hs5 := hb5.size
              have u := (fun o (v : Value) (hv : (wr.alloc (.cells #[.int .i64 t.1, .int .i64 t.2.1, .int .i64 t.2.2.1, .int .i64 t.2.2.2] 152)).cell? ⟨wr.heap.size, o, none⟩ = some v) => (hb5.cell (p := ⟨wr.heap.size, o, none⟩) (by simp)).trans hv)
              have y0 := u 0 _ z0
              have y1 := u 1 _ z1
              have y2 := u 2 _ z2
              have y3 := u 3 _ z3
              have hle : w.heap.size ≤ w5.heap.size := Nat.le_trans B3.size HB5.out.size
              have HO := Lib.hid (World.ownsRow_lit (base := w.heap.size) (e := 3) (size := 1) w5 #[.int .i64 (a : Int)] 1 hle (by simp only [maxLen]; omega) rfl)
              have HY := Lib.hid (⟨y0, y1, y2, y3⟩ : _ ∧ _ ∧ _ ∧ _)
              have hwl : wr.heap.size < w5.heap.size := by simp at hs5; omega
              obtain ⟨i0, hi, hz0, hz1, hz2⟩ := info_parts infoI
              clear u y0 y1 y2 y3 z0 z1 z2 z3 hb5
              go_wp2_with (at_builtin; refine wpList_append_own _ rfl (.tmp 38) (.tmp 39) 27 rfl w.heap.size 3 i0 _ 1 8 Tryz.underlying27 hi hz0 hz1 hz2 rfl (by decide) _ _ _ rfl HO.out ⟨wr.heap.size, 0, none⟩ 4 4 [.int .i64 t.1, .int .i64 t.2.1, .int .i64 t.2.2.1, .int .i64 t.2.2.2] rfl rfl ?_ ?_ ?_ ?_ ?_ ?_)
              · intro j u hu
                have hl : ∀ o v, w5.cell? ⟨wr.heap.size, o, none⟩ = some v → (w5.alloc (.cells #[.int .i64 (a : Int)] 3)).cell? ⟨wr.heap.size, o, none⟩ = some v := fun o v h => by rw [World.cell?_alloc_lt _ _ _ hwl]; exact h
                rw [WideShapes.add_plain, Nat.zero_add]
                rcases j with _ | _ | _ | _ | j
                · simp only [List.getElem?_cons_zero, Option.some.injEq] at hu; subst hu; exact hl _ _ HY.out.1
                · simp only [List.getElem?_cons_succ, List.getElem?_cons_zero, Option.some.injEq] at hu; subst hu; exact hl _ _ HY.out.2.1
                · simp only [List.getElem?_cons_succ, List.getElem?_cons_zero, Option.some.injEq] at hu; subst hu; exact hl _ _ HY.out.2.2.1
                · simp only [List.getElem?_cons_succ, List.getElem?_cons_zero, Option.some.injEq] at hu; subst hu; exact hl _ _ HY.out.2.2.2
                · simp at hu
              · exact one4 _ _ _ _
              · simp only [maxLen]; omega
              · omega
              · simp; omega
              intro v1 w6 hown1 hg1 _
              have HW : Hid (OwnsZ w6 w.heap.size v1 (row5 a t)) := Lib.hid hown1
              obtain ⟨ra, rc, rfl, hnew, hnn⟩ := New.of_own HW.out
              have B6 := (B3.trans (HB5.out.mono B3.size)).alloc hle (.cells #[.int .i64 (a : Int)] 3) |>.grown hg1 (by simp; omega) (fun q hq => by simp [Value.ownBlock] at hq; omega)
              have HRES : Hid (FstV w.heap.size (sgnF (lookS n s.data.toList)) n (.returned (.slice ra (row5 a t).length rc)) w6 ∧ Below w.heap.size w w6) := Lib.hid ⟨⟨row5 a t, ra, rc, HF.out, rfl, hnew, hnn (by unfold row5; simp)⟩, B6⟩
              clear hown1 hg1 hnew hnn B6
              go_wp2
              go_ret
              exact HRES.out
          · rw [hcon] at HK
            have HP2 := Lib.hid (noP_step HP.out ht (fun n1 n2 n3 n4 => by simp [n1, n2, n3, n4] at hcon))
            clear hcon ht
            go_wp2_with fail
            refine HK.out.mono ?_
            rintro e w4 ⟨rfl, rfl⟩
            go_wp2
            exact ⟨⟨p + 1, by omega, by go_num, HP2, HBa⟩, by simp only [intOf]; omega⟩
        · obtain rfl : p = (fours n).length := by omega
          have HN2 := Lib.hid (noB_next h7 HN.out HP.out)
          go_wp2
          exact ⟨⟨a + 1, by omega, by go_num, HN2, HB⟩, by simp only [intOf]; omega⟩
    · obtain rfl : a = n := by omega
      have hfin := HB.out
      go_wp2
      go_ret
      exact ⟨⟨[], none, 0, isF_none HN.out, rfl, Or.inl rfl, rfl⟩, B3.trans (hfin.mono B3.size)⟩
end Go.Proofs.YtinlnafkmoabbaaGreatDoor.Sg
/- FirstBreak, as spec answers it. -/
namespace Go.Proofs.YtinlnafkmoabbaaGreatDoor.Sg
open Go.RowKit Pt NewI
/-- No break among the elements of a list before four positions, with a as the first element. -/
def NoR (f : Int → Int → Int → Int) (a : Nat) (E : List Nat) (p1 p2 p3 p4 : Nat) : Prop := ∀ q1 q2 q3 q4, q1 < q2 → q2 < q3 → q3 < q4 → q4 < E.length → Lt4 q1 q2 q3 q4 p1 p2 p3 p4 → brk f a (E.getD q1 0) (E.getD q2 0) (E.getD q3 0) (E.getD q4 0) = false
section
variable {f : Int → Int → Int → Int} {a : Nat} {E : List Nat} {p1 p2 p3 p4 : Nat}
theorem noR_zero : NoR f a E 0 (0 + 1) (0 + 1 + 1) (0 + 1 + 1 + 1) := fun q1 q2 q3 q4 h1 h2 h3 h4 hl => by unfold Lt4 at hl; omega
theorem noR_step (h : NoR f a E p1 p2 p3 p4) (hb : brk f a (E.getD p1 0) (E.getD p2 0) (E.getD p3 0) (E.getD p4 0) = false) : NoR f a E p1 p2 p3 (p4 + 1) := fun q1 q2 q3 q4 h1 h2 h3 h4 hl => by
  by_cases e : q1 = p1 ∧ q2 = p2 ∧ q3 = p3 ∧ q4 = p4
  · obtain ⟨rfl, rfl, rfl, rfl⟩ := e; exact hb
  · exact h q1 q2 q3 q4 h1 h2 h3 h4 (by unfold Lt4 at hl ⊢; omega)
theorem noR_d (h : NoR f a E p1 p2 p3 E.length) : NoR f a E p1 p2 (p3 + 1) (p3 + 1 + 1) := fun q1 q2 q3 q4 h1 h2 h3 h4 hl => h q1 q2 q3 q4 h1 h2 h3 h4 (by unfold Lt4 at hl ⊢; omega)
theorem noR_c (h : NoR f a E p1 p2 E.length (E.length + 1)) : NoR f a E p1 (p2 + 1) (p2 + 1 + 1) (p2 + 1 + 1 + 1) := fun q1 q2 q3 q4 h1 h2 h3 h4 hl => h q1 q2 q3 q4 h1 h2 h3 h4 (by unfold Lt4 at hl ⊢; omega)
theorem noR_b (h : NoR f a E p1 E.length (E.length + 1) (E.length + 1 + 1)) : NoR f a E (p1 + 1) (p1 + 1 + 1) (p1 + 1 + 1 + 1) (p1 + 1 + 1 + 1 + 1) := fun q1 q2 q3 q4 h1 h2 h3 h4 hl => h q1 q2 q3 q4 h1 h2 h3 h4 (by unfold Lt4 at hl ⊢; omega)
end
theorem others_mem {a n x : Nat} : x ∈ othersTo a n ↔ x < n ∧ x ≠ a := by unfold othersTo; simp
theorem others_pos {a n x : Nat} (h : x < n) (hx : x ≠ a) : ∃ q, q < (othersTo a n).length ∧ (othersTo a n).getD q 0 = x := by
  obtain ⟨q, hq, e⟩ := List.getElem_of_mem (others_mem.2 ⟨h, hx⟩)
  exact ⟨q, hq, by rw [List.getD_eq_getElem?_getD, List.getElem?_eq_getElem hq, ← e]; rfl⟩
theorem others_lt {a n p q : Nat} (hq : q < (othersTo a n).length) (h : p < q) : (othersTo a n).getD p 0 < (othersTo a n).getD q 0 := by
  have hp : p < (othersTo a n).length := by omega
  have hs : (othersTo a n).Pairwise (· < ·) := List.Pairwise.filter _ List.pairwise_lt_range
  have := List.pairwise_iff_getElem.1 hs p q hp hq h
  rw [List.getD_eq_getElem?_getD, List.getD_eq_getElem?_getD, List.getElem?_eq_getElem hq, List.getElem?_eq_getElem hp]
  exact this
theorem others_val {a n p : Nat} (hp : p < (othersTo a n).length) : (othersTo a n).getD p 0 < n ∧ (othersTo a n).getD p 0 ≠ a := by
  rw [List.getD_eq_getElem?_getD, List.getElem?_eq_getElem hp]
  exact others_mem.1 (List.getElem_mem hp)
theorem others_iff {a n p q : Nat} (hp : p < (othersTo a n).length) (hq : q < (othersTo a n).length) : (p < q ↔ (othersTo a n).getD p 0 < (othersTo a n).getD q 0) ∧ (p = q ↔ (othersTo a n).getD p 0 = (othersTo a n).getD q 0) := by
  rcases Nat.lt_trichotomy p q with h | h | h
  · have := others_lt hq h; omega
  · subst h; omega
  · have := others_lt hp h; omega
theorem four_val {a n p1 p2 p3 p4 : Nat} (ha : a < n) (h1 : p1 < p2) (h2 : p2 < p3) (h3 : p3 < p4) (h4 : p4 < (othersTo a n).length) : Val n a ((othersTo a n).getD p1 0) ((othersTo a n).getD p2 0) ((othersTo a n).getD p3 0) ((othersTo a n).getD p4 0) := by
  have l1 := others_lt (a := a) (n := n) (show p2 < _ by omega) h1
  have l2 := others_lt (a := a) (n := n) (show p3 < _ by omega) h2
  have l3 := others_lt h4 h3
  have v1 := others_val (a := a) (n := n) (show p1 < _ by omega)
  have v2 := others_val (a := a) (n := n) (show p2 < _ by omega)
  have v3 := others_val (a := a) (n := n) (show p3 < _ by omega)
  have v4 := others_val h4
  exact ⟨ha, l1, l2, l3, v4.1, Ne.symm v1.2, Ne.symm v2.2, Ne.symm v3.2, Ne.symm v4.2⟩
theorem four_pos {a n b c d e : Nat} (h : Val n a b c d e) : ∃ q1 q2 q3 q4, q1 < q2 ∧ q2 < q3 ∧ q3 < q4 ∧ q4 < (othersTo a n).length ∧ (othersTo a n).getD q1 0 = b ∧ (othersTo a n).getD q2 0 = c ∧ (othersTo a n).getD q3 0 = d ∧ (othersTo a n).getD q4 0 = e := by
  obtain ⟨h1, h2, h3, h4, h5, h6, h7, h8, h9⟩ := h
  obtain ⟨q1, l1, e1⟩ := others_pos (a := a) (n := n) (x := b) (by omega) (by omega)
  obtain ⟨q2, l2, e2⟩ := others_pos (a := a) (n := n) (x := c) (by omega) (by omega)
  obtain ⟨q3, l3, e3⟩ := others_pos (a := a) (n := n) (x := d) (by omega) (by omega)
  obtain ⟨q4, l4, e4⟩ := others_pos (a := a) (n := n) (x := e) (by omega) (by omega)
  exact ⟨q1, q2, q3, q4, (others_iff l1 l2).1.2 (by omega), (others_iff l2 l3).1.2 (by omega), (others_iff l3 l4).1.2 (by omega), l4, e1, e2, e3, e4⟩
theorem noR_at {f : Int → Int → Int → Int} {n a p1 p2 p3 p4 : Nat} (h0 : NoB f n a 0 0 0 0) (h : NoR f a (othersTo a n) p1 p2 p3 p4) (h1 : p1 < p2) (h2 : p2 < p3) (h3 : p3 < p4) (h4 : p4 < (othersTo a n).length) : NoB f n a ((othersTo a n).getD p1 0) ((othersTo a n).getD p2 0) ((othersTo a n).getD p3 0) ((othersTo a n).getD p4 0) := fun a' b c d e v hl => by
  rcases hl with hl | ⟨rfl, hl⟩
  · exact h0 a' b c d e v (Or.inl hl)
  · obtain ⟨q1, q2, q3, q4, l1, l2, l3, l4, rfl, rfl, rfl, rfl⟩ := four_pos v
    refine h q1 q2 q3 q4 l1 l2 l3 l4 ?_
    have i1 := others_iff (a := a') (n := n) (show q1 < _ by omega) (show p1 < _ by omega)
    have i2 := others_iff (a := a') (n := n) (show q2 < _ by omega) (show p2 < _ by omega)
    have i3 := others_iff (a := a') (n := n) (show q3 < _ by omega) (show p3 < _ by omega)
    have i4 := others_iff (a := a') (n := n) l4 h4
    unfold Lt4 at hl ⊢
    omega
theorem noR_end {f : Int → Int → Int → Int} {n a : Nat} {x y z : Nat} (h0 : NoB f n a 0 0 0 0) (h : NoR f a (othersTo a n) (othersTo a n).length x y z) : NoB f n (a + 1) 0 0 0 0 := fun a' b c d e v hl => by
  by_cases e1 : a' = a
  · subst e1
    obtain ⟨q1, q2, q3, q4, l1, l2, l3, l4, rfl, rfl, rfl, rfl⟩ := four_pos v
    exact h q1 q2 q3 q4 l1 l2 l3 l4 (by unfold Lt4; omega)
  · exact h0 a' b c d e v (Or.inl (by unfold Lt4 at hl; omega))
/-- Beside a call that writes nothing of what was there seven facts stand. -/
theorem held7 (w0 : World) (a1 a2 a3 a4 a5 a6 : Addr) (v1 v2 v3 v4 v5 v6 : Value) {f : FuncId} {args : Array Value} {W : World} {v : Value} (h : Calls Tryz.prog f args W fun e w' => e = .returned v ∧ Below W.heap.size W w')
    (hS : W.cell? a1 = some v1 ∧ W.cell? a2 = some v2 ∧ W.cell? a3 = some v3 ∧ W.cell? a4 = some v4 ∧ W.cell? a5 = some v5 ∧ W.cell? a6 = some v6 ∧ Below w0.heap.size w0 W) :
    Calls Tryz.prog f args W fun e w' => e = .returned v ∧ w'.cell? a1 = some v1 ∧ w'.cell? a2 = some v2 ∧ w'.cell? a3 = some v3 ∧ w'.cell? a4 = some v4 ∧ w'.cell? a5 = some v5 ∧ w'.cell? a6 = some v6 ∧ Below w0.heap.size w0 w' := by
  obtain ⟨c1, c2, c3, c4, c5, c6, hB⟩ := hS
  exact h.mono fun _ _ ⟨he, hb⟩ => ⟨he, by rw [hb.cell (Kit.cell_lt c1)]; exact c1, by rw [hb.cell (Kit.cell_lt c2)]; exact c2, by rw [hb.cell (Kit.cell_lt c3)]; exact c3, by rw [hb.cell (Kit.cell_lt c4)]; exact c4, by rw [hb.cell (Kit.cell_lt c5)]; exact c5, by rw [hb.cell (Kit.cell_lt c6)]; exact c6, hB.trans (hb.mono hB.size)⟩
set_option maxHeartbeats 800000 in
set_option maxRecDepth 100000 in
theorem specFirst_no (n : Int) (s : ByteArray) (hs : s.size ≤ 9223372036854775807) (h : arB n s.data.toList = false) (w : World) :
    Calls Tryz.prog 138 #[sg n s] w fun e w' => (∃ a c, e = .returned (.slice a 0 c)) ∧ Below w.heap.size w w' := by
  have HA := Lib.hid (fun W => specAre_sg n s hs W)
  rw [h] at HA
  have HS := Lib.hid (fun t => box_made w n s t)
  clear h
  go_enter Tryz.func138, Tryz.ntmps138
  go_wp2
  refine wp_loop_rounds 1 ?_
  rw [rounds_succ]
  cases hd : decide (0 < n)
  · have B1 := (HS.out 25).2.2
    go_wp2
    go_ret
    exact ⟨⟨_, _, rfl⟩, B1.alloc B1.size _⟩
  · go_wp2_with fail
    refine (HA.out _).mono ?_
    rintro e w1 ⟨rfl, hb1⟩
    have B1 := ((HS.out _).on hb1).2.2
    go_wp2
    go_ret
    exact ⟨⟨_, _, rfl⟩, B1.alloc B1.size _⟩
theorem getD_some {E : List Nat} {p : Nat} (h : p < E.length) : E[p]? = some (E.getD p 0) := by rw [List.getD_eq_getElem?_getD, List.getElem?_eq_getElem h]; rfl
set_option maxHeartbeats 3200000 in
set_option maxRecDepth 100000 in
theorem specFirst_yes (n : Nat) (s : ByteArray) (h : arB n s.data.toList = true) (w : World) :
    Calls Tryz.prog 138 #[sg n s] w fun e w' => (∃ zs a c, IsF (sgnF (lookS n s.data.toList)) n zs ∧ e = .returned (.slice a zs.length c) ∧ New w' w.heap.size w'.heap.size a zs.length (zc zs)) ∧ Below w.heap.size w w' := by
  obtain ⟨h3, h7, hl, -⟩ := arB_yes h
  have h3 : 3 ≤ n := by omega
  have h7 : n ≤ 7 := by omega
  have hsz : s.size ≤ 35 := by have := cnt_le h7; have : s.size = cnt n := by simpa using hl
                               omega
  have HA := Lib.hid (fun W => specAre_sg n s (by omega) W)
  rw [h] at HA
  have HS := Lib.hid (fun t => box_made w n s t)
  have HBR : Hid (∀ (a b c d e : Nat) (W : World), Val n a b c d e → Calls Tryz.prog 169 #[sg n s, .int .i64 a, .int .i64 b, .int .i64 c, .int .i64 d, .int .i64 e] W fun e' w' => e' = .returned (.bool (brk (sgnF (lookS n s.data.toList)) a b c d e)) ∧ Below W.heap.size W w') := Lib.hid (fun a b c d e W hv => l4Breaks_any n s a b c d e h hv W)
  generalize sgnF (lookS n s.data.toList) = F at HBR ⊢
  clear h hl
  go_enter Tryz.func138, Tryz.ntmps138
  go_wp2
  go_loopw [3] (fun c wr => ∃ a : Nat, a ≤ n ∧ c = .int .i64 a ∧ Hid (NoB F n a 0 0 0 0) ∧ Hid (Box w n s wr)) (fun c _ => n - (intOf c).toNat)
  case atStart => exact ⟨0, Nat.zero_le _, rfl, Lib.hid (noB_zero _ _), Lib.hid (HS.out _)⟩
  case round =>
    obtain ⟨a, han, rfl, HN, HB⟩ := hrel
    obtain ⟨c0, c1, B0⟩ := HB.out
    by_cases hlt : a < n
    · have hd : decide ((a : Int) < n) = true := by simpa using hlt
      go_wp2_with fail
      refine (HA.out _).mono ?_
      rintro e w1 ⟨rfl, hb1⟩
      have X1 := Lib.hid (HB.out.on hb1)
      obtain ⟨c0, c1, B1⟩ := X1.out
      clear hb1
      go_wp2_with fail
      refine (l3Others_any n a h7 hlt (by omega) _).mono ?_
      rintro e w2 ⟨b, c, rfl, hat, hbl, hb2⟩
      have X2 := Lib.hid (X1.out.on hb2)
      have HE := Lib.hid hat
      have HLN := Lib.hid (othersTo_length hlt)
      clear hat hb2 c0 c1
      obtain ⟨c0, c1, B2⟩ := X2.out
      have HV := Lib.hid (fun p1 p2 p3 p4 => four_val (a := a) (n := n) (p1 := p1) (p2 := p2) (p3 := p3) (p4 := p4) hlt)
      have HAT := Lib.hid (fun p1 p2 p3 p4 => noR_at (f := F) (n := n) (a := a) (p1 := p1) (p2 := p2) (p3 := p3) (p4 := p4) HN.out)
      have HEND : Hid (∀ x y z, NoR F a (othersTo a n) (n - 1) x y z → NoB F n (a + 1) 0 0 0 0) := Lib.hid (fun x y z hh => noR_end (x := x) (y := y) (z := z) HN.out (by rw [HLN.out]; exact hh))
      have hbl2 : w.heap.size ≤ w2.heap.size := B2.size
      generalize othersTo a n = E at HE HLN HV HAT HEND
      go_wp2
      go_loopw [5] (fun c wr => ∃ p1 : Nat, p1 ≤ n - 1 ∧ c = .int .i64 p1 ∧ Hid (NoR F a E p1 (p1 + 1) (p1 + 1 + 1) (p1 + 1 + 1 + 1)) ∧ Hid (Below w2.heap.size w2 wr)) (fun c _ => n - 1 - (intOf c).toNat)
      case atStart => exact ⟨0, Nat.zero_le _, rfl, Lib.hid noR_zero, Lib.hid (Below.refl _ _)⟩
      case round =>
        obtain ⟨p1, hp1, rfl, HR, HB⟩ := hrel
        by_cases hlt1 : p1 < n - 1
        · go_wp2
          go_loopw [6] (fun c wr => ∃ p2 : Nat, p1 < p2 ∧ p2 ≤ n - 1 ∧ c = .int .i64 p2 ∧ Hid (NoR F a E p1 p2 (p2 + 1) (p2 + 1 + 1)) ∧ Hid (Below w2.heap.size w2 wr)) (fun c _ => n - 1 - (intOf c).toNat)
          case atStart => exact ⟨p1 + 1, by omega, by omega, by go_num, HR, HB⟩
          case round =>
            obtain ⟨p2, hp12, hp2, rfl, HR, HB⟩ := hrel
            by_cases hlt2 : p2 < n - 1
            · go_wp2
              go_loopw [7] (fun c wr => ∃ p3 : Nat, p2 < p3 ∧ p3 ≤ n - 1 ∧ c = .int .i64 p3 ∧ Hid (NoR F a E p1 p2 p3 (p3 + 1)) ∧ Hid (Below w2.heap.size w2 wr)) (fun c _ => n - 1 - (intOf c).toNat)
              case atStart => exact ⟨p2 + 1, by omega, by omega, by go_num, HR, HB⟩
              case round =>
                obtain ⟨p3, hp23, hp3, rfl, HR, HB⟩ := hrel
                by_cases hlt3 : p3 < n - 1
                · go_wp2
                  go_loopw [8] (fun c wr => ∃ p4 : Nat, p3 < p4 ∧ p4 ≤ n - 1 ∧ c = .int .i64 p4 ∧ Hid (NoR F a E p1 p2 p3 p4) ∧ Hid (Below w2.heap.size w2 wr)) (fun c _ => n - 1 - (intOf c).toNat)
                  case atStart => exact ⟨p3 + 1, by omega, by omega, by go_num, HR, HB⟩
                  case round =>
                    obtain ⟨p4, hp34, hp4, rfl, HR, HB⟩ := hrel
                    by_cases hlt4 : p4 < n - 1
                    · have hEn := HLN.out
                      have hEt := HE.out.on HB.out hbl
                      have y1 := hEt p1 _ (getD_some (by omega))
                      have y2 := hEt p2 _ (getD_some (by omega))
                      have y3 := hEt p3 _ (getD_some (by omega))
                      have y4 := hEt p4 _ (getD_some (by omega))
                      obtain ⟨x0, x1, Bx⟩ := X2.out.on HB.out
                      have hv := HV.out p1 p2 p3 p4 hp12 hp23 hp34 (by omega)
                      have HSTEP := Lib.hid (noR_step (p4 := p4) HR.out)
                      have HFIN := Lib.hid (HAT.out p1 p2 p3 p4 HR.out hp12 hp23 hp34 (by omega))
                      generalize E.getD p1 0 = e1 at y1 hv HSTEP HFIN
                      generalize E.getD p2 0 = e2 at y2 hv HSTEP HFIN
                      generalize E.getD p3 0 = e3 at y3 hv HSTEP HFIN
                      generalize E.getD p4 0 = e4 at y4 hv HSTEP HFIN
                      have HC := Lib.hid (fun W => HBR.out a e1 e2 e3 e4 W hv)
                      have HVV := Lib.hid hv
                      clear hEn hEt hv
                      have hS0 := (⟨x0, x1, y1, y2, y3, y4, (Below.refl wr.heap.size wr).drew⟩ : wr.drew.cell? ⟨w.heap.size, 0, none⟩ = some (.int .i64 n) ∧ wr.drew.cell? ⟨w.heap.size, 1, none⟩ = some (.string s) ∧ wr.drew.cell? ⟨b, p1, none⟩ = some (.int .i64 e1) ∧ wr.drew.cell? ⟨b, p2, none⟩ = some (.int .i64 e2) ∧ wr.drew.cell? ⟨b, p3, none⟩ = some (.int .i64 e3) ∧ wr.drew.cell? ⟨b, p4, none⟩ = some (.int .i64 e4) ∧ Below wr.heap.size wr wr.drew)
                      cases hbk : brk F a e1 e2 e3 e4
                      · have HR2 := Lib.hid (HSTEP.out hbk)
                        rw [hbk] at HC
                        clear x0 x1 y1 y2 y3 y4 hbk
                        go_wp2
                        go_region_held3 (fun W => W.cell? ⟨w.heap.size, 0, none⟩ = some (.int .i64 n) ∧ W.cell? ⟨w.heap.size, 1, none⟩ = some (.string s) ∧ W.cell? ⟨b, p1, none⟩ = some (.int .i64 e1) ∧ W.cell? ⟨b, p2, none⟩ = some (.int .i64 e2) ∧ W.cell? ⟨b, p3, none⟩ = some (.int .i64 e3) ∧ W.cell? ⟨b, p4, none⟩ = some (.int .i64 e4) ∧ Below wr.heap.size wr W)
                          (first | exact hS0 | exact ⟨by assumption, by assumption, by assumption, by assumption, by assumption, by assumption, by assumption⟩)
                          (first | (go_at_call 169; refine (held7 wr ⟨w.heap.size, 0, none⟩ ⟨w.heap.size, 1, none⟩ ⟨b, p1, none⟩ ⟨b, p2, none⟩ ⟨b, p3, none⟩ ⟨b, p4, none⟩ (.int .i64 n) (.string s) (.int .i64 e1) (.int .i64 e2) (.int .i64 e3) (.int .i64 e4) (HC.out _) hS0).mono ?_; rintro e' w' ⟨rfl, k1, k2, k3, k4, k5, k6, k7⟩))
                        have HB2 := Lib.hid (HB.out.trans (k7.mono HB.out.size))
                        go_wp2
                        exact ⟨⟨p4 + 1, by omega, by omega, by go_num, HR2, HB2⟩, by simp only [intOf]; omega⟩
                      · have HF := Lib.hid (Or.inr ⟨a, e1, e2, e3, e4, rfl, HVV.out, hbk, HFIN.out⟩ : IsF F n [(a : Int), (e1 : Int), (e2 : Int), (e3 : Int), (e4 : Int)])
                        rw [hbk] at HC
                        clear x0 x1 y1 y2 y3 y4 hbk
                        go_wp2
                        go_region_held3 (fun W => W.cell? ⟨w.heap.size, 0, none⟩ = some (.int .i64 n) ∧ W.cell? ⟨w.heap.size, 1, none⟩ = some (.string s) ∧ W.cell? ⟨b, p1, none⟩ = some (.int .i64 e1) ∧ W.cell? ⟨b, p2, none⟩ = some (.int .i64 e2) ∧ W.cell? ⟨b, p3, none⟩ = some (.int .i64 e3) ∧ W.cell? ⟨b, p4, none⟩ = some (.int .i64 e4) ∧ Below wr.heap.size wr W)
                          (first | exact hS0 | exact ⟨by assumption, by assumption, by assumption, by assumption, by assumption, by assumption, by assumption⟩)
                          (first | (go_at_call 169; refine (held7 wr ⟨w.heap.size, 0, none⟩ ⟨w.heap.size, 1, none⟩ ⟨b, p1, none⟩ ⟨b, p2, none⟩ ⟨b, p3, none⟩ ⟨b, p4, none⟩ (.int .i64 n) (.string s) (.int .i64 e1) (.int .i64 e2) (.int .i64 e3) (.int .i64 e4) (HC.out _) hS0).mono ?_; rintro e' w5 ⟨rfl, k1, k2, k3, k4, k5, k6, k7⟩))
                        have HB2 := Lib.hid (Bx.trans (k7.mono Bx.size))
                        clear hS0 k1 k2 k7
                        go_wp2
                        refine region_tail 17 (by kernel_rfl) (by kernel_rfl) ?_
                        intro W hW
                        have g1 : W.cell? ⟨b, p1, none⟩ = some (.int .i64 e1) := by rw [hW]; exact k3
                        have g2 : W.cell? ⟨b, p2, none⟩ = some (.int .i64 e2) := by rw [hW]; exact k4
                        have g3 : W.cell? ⟨b, p3, none⟩ = some (.int .i64 e3) := by rw [hW]; exact k5
                        have g4 : W.cell? ⟨b, p4, none⟩ = some (.int .i64 e4) := by rw [hW]; exact k6
                        have HB5 : Hid (Below w.heap.size w W) := Lib.hid (by rw [hW]; exact HB2.out.drew)
                        clear hW k3 k4 k5 k6
                        simp only [List.take_succ_cons, List.take_zero, List.drop_succ_cons, List.drop_zero]
                        iterate 17 still_step
                        refine wpStill_nil ?_
                        change wpList _ _ _ _ _ W
                        have HO : Hid (OwnsZ (W.alloc (.cells #[.int .i64 (a : Int), .int .i64 (e1 : Int), .int .i64 (e2 : Int), .int .i64 (e3 : Int), .int .i64 (e4 : Int)] 3)) w.heap.size (.slice (some ⟨W.heap.size, 0, none⟩) 5 5) [(a : Int), (e1 : Int), (e2 : Int), (e3 : Int), (e4 : Int)]) := Lib.hid (World.ownsRow_lit (base := w.heap.size) (e := 3) (size := 1) W #[.int .i64 (a : Int), .int .i64 (e1 : Int), .int .i64 (e2 : Int), .int .i64 (e3 : Int), .int .i64 (e4 : Int)] 5 HB5.out.size (by simp only [maxLen]; omega) rfl)
                        have B6 := HB5.out.alloc HB5.out.size (.cells #[.int .i64 (a : Int), .int .i64 (e1 : Int), .int .i64 (e2 : Int), .int .i64 (e3 : Int), .int .i64 (e4 : Int)] 3)
                        obtain ⟨ra, rc, hv, hnew, -⟩ := New.of_own HO.out
                        have HNW := Lib.hid (⟨_, ra, rc, HF.out, by rw [hv], hnew⟩ : ∃ zs a c, IsF F n zs ∧ Ending.returned (.slice (some ⟨W.heap.size, 0, none⟩) 5 5) = .returned (.slice a zs.length c) ∧ New (W.alloc (.cells #[.int .i64 (_ : Int), .int .i64 (e1 : Int), .int .i64 (e2 : Int), .int .i64 (e3 : Int), .int .i64 (e4 : Int)] 3)) w.heap.size _ a zs.length (zc zs))
                        clear hv hnew g1 g2 g3 g4
                        go_wp2
                        go_ret
                        exact ⟨HNW.out, B6⟩
                    · have HR2 : Hid (NoR F a E p1 p2 (p3 + 1) (p3 + 1 + 1)) := Lib.hid (noR_d (by rw [HLN.out, ← show p4 = n - 1 by omega]; exact HR.out))
                      go_wp2
                      exact ⟨⟨p3 + 1, by omega, by omega, by go_num, HR2, HB⟩, by simp only [intOf]; omega⟩
                · have HR2 : Hid (NoR F a E p1 (p2 + 1) (p2 + 1 + 1) (p2 + 1 + 1 + 1)) := Lib.hid (noR_c (by rw [HLN.out, ← show p3 = n - 1 by omega]; exact HR.out))
                  go_wp2
                  exact ⟨⟨p2 + 1, by omega, by omega, by go_num, HR2, HB⟩, by simp only [intOf]; omega⟩
            · have HR2 : Hid (NoR F a E (p1 + 1) (p1 + 1 + 1) (p1 + 1 + 1 + 1) (p1 + 1 + 1 + 1 + 1)) := Lib.hid (noR_b (by rw [HLN.out, ← show p2 = n - 1 by omega]; exact HR.out))
              go_wp2
              exact ⟨⟨p1 + 1, by omega, by go_num, HR2, HB⟩, by simp only [intOf]; omega⟩
        · have HN2 : Hid (NoB F n (a + 1) 0 0 0 0) := Lib.hid (HEND.out _ _ _ (by rw [← show p1 = n - 1 by omega]; exact HR.out))
          have HB2 := Lib.hid (X2.out.on HB.out)
          go_wp2
          exact ⟨⟨a + 1, by omega, by go_num, HN2, HB2⟩, by simp only [intOf]; omega⟩
    · obtain rfl : a = n := by omega
      have hd : decide ((a : Int) < a) = false := by simp
      go_wp2
      go_ret
      exact ⟨⟨[], _, _, isF_none HN.out, rfl, Or.inl rfl⟩, B0.alloc B0.size _⟩
end Go.Proofs.YtinlnafkmoabbaaGreatDoor.Sg
/- The first five that break the rule: impl and spec answer them alike. -/
namespace Go.Proofs.YtinlnafkmoabbaaGreatDoor.Sg
open Go.RowKit Pt NewI
theorem isF_exists {f : Int → Int → Int → Int} {n : Nat} (hn : n ≤ 7) : ∃ zs, IsF f n zs := by
  have key : ∀ k a b c d e : Nat, (((a * 8 + b) * 8 + c) * 8 + d) * 8 + e = k → Val n a b c d e → brk f a b c d e = true → ∃ zs, IsF f n zs := by
    intro k
    induction k using Nat.strongRecOn with
    | ind k ih =>
      intro a b c d e hk v hb
      by_cases hno : NoB f n a b c d e
      · exact ⟨_, Or.inr ⟨a, b, c, d, e, rfl, v, hb, hno⟩⟩
      · unfold NoB at hno
        simp only [Classical.not_forall] at hno
        obtain ⟨a', b', c', d', e', v', hl, hb'⟩ := hno
        have hb' : brk f a' b' c' d' e' = true := by simpa using hb'
        obtain ⟨h1, h2, h3, h4, h5, -⟩ := v
        obtain ⟨i1, i2, i3, i4, i5, i6⟩ := v'
        refine ih _ ?_ a' b' c' d' e' rfl ⟨i1, i2, i3, i4, i5, i6⟩ hb'
        unfold Lt4 at hl
        omega
  by_cases h : ∀ a b c d e, Val n a b c d e → brk f a b c d e = false
  · exact ⟨[], Or.inl ⟨rfl, fun a b c d e v _ => h a b c d e v⟩⟩
  · simp only [Classical.not_forall] at h
    obtain ⟨a, b, c, d, e, v, hb⟩ := h
    exact key _ a b c d e rfl v (by simpa using hb)
theorem isF_length {f : Int → Int → Int → Int} {n : Nat} {zs : List Int} (h : IsF f n zs) : zs.length ≤ 5 := by
  rcases h with ⟨rfl, -⟩ | ⟨a, b, c, d, e, rfl, -⟩ <;> simp
open Classical in
/-- What FirstBreak answers. -/
noncomputable def firstZ (n : Int) (s : List UInt8) : List Int := if h : arB n s = true then Classical.choose (isF_exists (f := sgnF (lookS n s)) (n := n.toNat) (by have := (arB_yes h).2.1; omega)) else []
theorem firstZ_no {n : Int} {s : List UInt8} (h : arB n s = false) : firstZ n s = [] := by unfold firstZ; rw [dif_neg (by rw [h]; simp)]
theorem firstZ_yes {n : Int} {s : List UInt8} (h : arB n s = true) : IsF (sgnF (lookS n s)) n.toNat (firstZ n s) := by
  unfold firstZ
  rw [dif_pos h]
  exact Classical.choose_spec _
theorem firstZ_length (n : Int) (s : List UInt8) : (firstZ n s).length ≤ 5 := by
  cases h : arB n s
  · rw [firstZ_no h]; simp
  · exact isF_length (firstZ_yes h)
/-- Is the rule kept? -/
def matB (n : Int) (s : List UInt8) : Bool := arB n s && okB (sgnF (lookS n s)) n.toNat
theorem matB_first (n : Int) (s : List UInt8) : matB n s = (arB n s && (firstZ n s).isEmpty) := by
  unfold matB
  cases h : arB n s
  · rfl
  · rw [(firstZ_yes h).ok (by have := (arB_yes h).2.1; omega)]
theorem specFirst (n : Int) (s : ByteArray) (hs : s.size ≤ 9223372036854775807) (w : World) :
    Calls Tryz.prog 138 #[sg n s] w fun e w' => Got w.heap.size (firstZ n s.data.toList) e w' ∧ Below w.heap.size w w' := by
  cases h : arB n s.data.toList
  · rw [firstZ_no h]
    exact (specFirst_no n s hs h w).mono fun e w' ⟨⟨a, c, he⟩, hb⟩ => ⟨⟨a, c, he, Or.inl rfl⟩, hb⟩
  · obtain ⟨h3, -⟩ := arB_yes h
    obtain ⟨m, rfl⟩ : ∃ m : Nat, n = m := ⟨n.toNat, by omega⟩
    refine (specFirst_yes m s h w).mono fun e w' ⟨⟨zs, a, c, hz, he, hn⟩, hb⟩ => ?_
    obtain rfl := hz.unique (firstZ_yes h)
    exact ⟨⟨a, c, he, hn⟩, hb⟩
theorem implFirstN (n : Int) (s : ByteArray) (hs : s.size ≤ 9223372036854775807) (w : World) :
    Calls Tryz.prog 185 #[sg n s] w fun e w' => (∃ a c, e = .returned (.slice a (firstZ n s.data.toList).length c) ∧ New w' w.heap.size w'.heap.size a (firstZ n s.data.toList).length (zc (firstZ n s.data.toList)) ∧ a.isNone = (firstZ n s.data.toList).isEmpty) ∧ Below w.heap.size w w' := by
  cases h : arB n s.data.toList
  · rw [firstZ_no h]
    exact (implFirst_no n s hs h w).mono fun e w' ⟨he, hb⟩ => ⟨⟨none, 0, he, Or.inl rfl, rfl⟩, hb⟩
  · obtain ⟨h3, -⟩ := arB_yes h
    obtain ⟨m, rfl⟩ : ∃ m : Nat, n = m := ⟨n.toNat, by omega⟩
    refine (implFirst_yes m s h w).mono fun e w' ⟨⟨zs, a, c, hz, he, hn, hnn⟩, hb⟩ => ?_
    obtain rfl := hz.unique (firstZ_yes h)
    exact ⟨⟨a, c, he, hn, hnn⟩, hb⟩
end Go.Proofs.YtinlnafkmoabbaaGreatDoor.Sg
/- IsMatroid, as impl and spec answer it; the law. -/
namespace Go.Proofs.YtinlnafkmoabbaaGreatDoor.Sg
open Go.RowKit Pt NewI
set_option maxHeartbeats 800000 in
set_option maxRecDepth 100000 in
theorem implMat (n : Int) (s : ByteArray) (hs : s.size ≤ 9223372036854775807) (w : World) :
    Calls Tryz.prog 170 #[sg n s] w fun e w' => e = .returned (.bool (matB n s.data.toList)) ∧ Below w.heap.size w w' := by
  have HA := Lib.hid (fun W => implAre_sg n s hs W)
  have HE := Lib.hid (matB_first n s.data.toList)
  have HF := Lib.hid (fun W => implFirstN n s hs W)
  have HS := Lib.hid (fun t => box_made w n s t)
  generalize firstZ n s.data.toList = zs at HE HF
  have hnil : ∀ (W : World) (a : Option Addr) (c : Nat), (binOp .eql 27 (.slice a zs.length c) (.slice none 0 0)).run Tryz.prog W = .ok (.bool a.isNone) W := fun W a c => Go.run_eql_slice_nil W 27 3 a zs.length c Tryz.underlying27
  cases h : arB n s.data.toList
  · rw [h] at HA HE
    go_enter Tryz.func170, Tryz.ntmps170
    go_wp2_with fail
    refine (HA.out _).mono ?_
    rintro e w1 ⟨rfl, hb1⟩
    have B1 := ((HS.out _).on hb1).2.2
    go_wp2
    go_ret
    exact ⟨ret_bool (by rw [HE.out]; rfl), B1⟩
  · rw [h] at HA HE
    go_enter Tryz.func170, Tryz.ntmps170
    go_wp2_with fail
    refine (HA.out _).mono ?_
    rintro e w1 ⟨rfl, hb1⟩
    obtain ⟨c0, c1, B1⟩ := (HS.out _).on hb1
    go_wp2_with fail
    refine (HF.out _).mono ?_
    rintro e w2 ⟨⟨a, c, rfl, -, hn⟩, hb2⟩
    have B2 := B1.trans (hb2.mono B1.size)
    have HN := Lib.hid hn
    clear hn
    go_wp2
    go_ret
    exact ⟨ret_bool (by rw [HE.out, HN.out]; rfl), B2⟩
set_option maxHeartbeats 800000 in
set_option maxRecDepth 100000 in
theorem specMat (n : Int) (s : ByteArray) (hs : s.size ≤ 9223372036854775807) (w : World) :
    Calls Tryz.prog 92 #[sg n s] w fun e w' => e = .returned (.bool (matB n s.data.toList)) ∧ Below w.heap.size w w' := by
  have HA := Lib.hid (fun W => specAre_sg n s hs W)
  have HE := Lib.hid (matB_first n s.data.toList)
  have HF := Lib.hid (fun W => specFirst n s hs W)
  have HS := Lib.hid (fun t => box_made w n s t)
  have hzl := firstZ_length n s.data.toList
  generalize firstZ n s.data.toList = zs at HE HF hzl
  have HZ : Hid (zs.isEmpty = ((zs.length : Int) == 0)) := Lib.hid (by cases zs <;> rfl)
  cases h : arB n s.data.toList
  · rw [h] at HA HE
    go_enter Tryz.func92, Tryz.ntmps92
    go_wp2_with fail
    refine (HA.out _).mono ?_
    rintro e w1 ⟨rfl, hb1⟩
    have B1 := ((HS.out _).on hb1).2.2
    go_wp2
    go_ret
    exact ⟨ret_bool (by rw [HE.out]; rfl), B1⟩
  · rw [h] at HA HE
    go_enter Tryz.func92, Tryz.ntmps92
    go_wp2_with fail
    refine (HA.out _).mono ?_
    rintro e w1 ⟨rfl, hb1⟩
    obtain ⟨c0, c1, B1⟩ := (HS.out _).on hb1
    go_wp2_with fail
    refine (HF.out _).mono ?_
    rintro e w2 ⟨⟨a, c, rfl, -⟩, hb2⟩
    have B2 := B1.trans (hb2.mono B1.size)
    go_wp2
    go_ret
    exact ⟨ret_bool (by rw [HE.out, HZ.out]; rfl), B2⟩
end Go.Proofs.YtinlnafkmoabbaaGreatDoor.Sg
