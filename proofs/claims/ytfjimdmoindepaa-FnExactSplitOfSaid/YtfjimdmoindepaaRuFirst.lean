/- FirstBreak, as impl answers it. -/
import Derived.Test.YtfjimdmoindepaaRuFours
import Derived.Test.YtfjimdmoindepaaNewI
import Derived.Test.YtfjimdmoindepaaSgOthers
namespace Go.Proofs.Ytfjimdmoindepaa.Sg
open Go.RowKit Pt NewI
/-- No break among the fours before number p, with a as the first element. -/
def NoP (f : Int → Int → Int → Int) (n a p : Nat) : Prop := ∀ q, q < p → ∀ t, (fours n)[q]? = some t → a ≠ t.1 → a ≠ t.2.1 → a ≠ t.2.2.1 → a ≠ t.2.2.2 → brk f a t.1 t.2.1 t.2.2.1 t.2.2.2 = false
theorem noB_zero (f : Int → Int → Int → Int) (n : Nat) : NoB f n 0 0 0 0 0 := fun a b c d e v h => by unfold Lt4 at h; omega
theorem noP_zero (f : Int → Int → Int → Int) (n a : Nat) : NoP f n a 0 := fun q h => by omega
theorem noP_step {f : Int → Int → Int → Int} {n a p : Nat} {t : T4} (h : NoP f n a p) (ht : (fours n)[p]? = some t) (hb : a ≠ t.1 → a ≠ t.2.1 → a ≠ t.2.2.1 → a ≠ t.2.2.2 → brk f a t.1 t.2.1 t.2.2.1 t.2.2.2 = false) : NoP f n a (p + 1) := fun q hq u hu => by
  by_cases e : q = p
  · subst e; rw [ht] at hu; obtain rfl := Option.some.inj hu; exact hb
  · exact h q (by omega) u hu
theorem noB_next {f : Int → Int → Int → Int} {n a : Nat} (hn : n ≤ 7) (h : NoB f n a 0 0 0 0) (hp : NoP f n a (fours n).length) : NoB f n (a + 1) 0 0 0 0 := fun a' b c d e v hl => by
  by_cases e1 : a' = a
  · subst e1
    obtain ⟨h1, h2, h3, h4, h5, h6, h7, h8, h9⟩ := v
    obtain ⟨q, hq, e2⟩ := List.getElem_of_mem (fours_has hn h2 h3 h4 h5)
    exact hp q hq _ (List.getElem?_eq_some_iff.2 ⟨hq, e2⟩) h6 h7 h8 h9
  · exact h a' b c d e v (Or.inl (by unfold Lt4 at hl; omega))
theorem noB_at {f : Int → Int → Int → Int} {n a p : Nat} {t : T4} (hn : n ≤ 7) (h : NoB f n a 0 0 0 0) (hp : NoP f n a p) (ht : (fours n)[p]? = some t) : NoB f n a t.1 t.2.1 t.2.2.1 t.2.2.2 := fun a' b c d e v hl => by
  rcases hl with hl | ⟨rfl, hl⟩
  · exact h a' b c d e v (Or.inl hl)
  · obtain ⟨h1, h2, h3, h4, h5, h6, h7, h8, h9⟩ := v
    obtain ⟨q, hq, e2⟩ := List.getElem_of_mem (fours_has hn h2 h3 h4 h5)
    have hq' : (fours n)[q]? = some (b, c, d, e) := List.getElem?_eq_some_iff.2 ⟨hq, e2⟩
    by_cases hlt : q < p
    · exact hp q hlt _ hq' h6 h7 h8 h9
    · exfalso
      by_cases e3 : q = p
      · subst e3; rw [ht] at hq'; obtain rfl := Option.some.inj hq'; unfold Lt4 at hl; simp only at hl; omega
      · have := fours_sorted hn ht hq' (by omega)
        unfold Lt4 at hl this
        simp only at this
        omega
theorem isF_none {f : Int → Int → Int → Int} {n : Nat} (h : NoB f n n 0 0 0 0) : IsF f n [] := Or.inl ⟨rfl, h⟩
/-- What FirstBreak answers: the first five, in memory of the call's own. -/
def FstV (B : Nat) (f : Int → Int → Int → Int) (n : Nat) (e : Ending) (w' : World) : Prop := ∃ zs a c, IsF f n zs ∧ e = .returned (.slice a zs.length c) ∧ New w' B w'.heap.size a zs.length (zc zs) ∧ a.isNone = zs.isEmpty
def row5 (a : Nat) (t : T4) : List Int := [(a : Int), (t.1 : Int), (t.2.1 : Int), (t.2.2.1 : Int), (t.2.2.2 : Int)]
theorem contains_four (a : Nat) (t : T4) : ([(t.1 : Int), (t.2.1 : Int), (t.2.2.1 : Int), (t.2.2.2 : Int)].take 4).contains (a : Int) = ((a == t.1) || ((a == t.2.1) || ((a == t.2.2.1) || (a == t.2.2.2)))) := by
  have e : ∀ x y : Nat, ((x : Int) == (y : Int)) = (x == y) := fun x y => by
    by_cases h : x = y
    · subst h; rw [beq_self_eq_true, beq_self_eq_true]
    · have h2 : ¬ ((x : Int) = (y : Int)) := by omega
      rw [beq_eq_false_iff_ne.2 h2, beq_eq_false_iff_ne.2 h]
  simp only [List.take_succ_cons, List.take_zero, List.contains, List.elem, e]
  cases (a == t.1) <;> cases (a == t.2.1) <;> cases (a == t.2.2.1) <;> cases (a == t.2.2.2) <;> rfl
set_option maxHeartbeats 800000 in
set_option maxRecDepth 100000 in
theorem implFirst_no (n : Int) (s : ByteArray) (hs : s.size ≤ 9223372036854775807) (h : arB n s.data.toList = false) (w : World) :
    Calls Try.prog 79 #[sg n s] w fun e w' => e = .returned (.slice none 0 0) ∧ Below w.heap.size w w' := by
  have HA := Lib.hid (fun W => implAre_sg n s hs W)
  rw [h] at HA
  have HS := Lib.hid (fun t => box_made w n s t)
  clear h
  go_enter Try.func79, Try.ntmps79
  go_wp2_with fail
  refine (HA.out _).mono ?_
  rintro e w1 ⟨rfl, hb1⟩
  have B1 := ((HS.out _).on hb1).2.2
  go_wp2
  go_ret
  exact ⟨rfl, B1⟩
set_option maxHeartbeats 1600000 in
set_option maxRecDepth 100000 in
theorem implFirst_yes (n : Nat) (s : ByteArray) (h : arB n s.data.toList = true) (w : World) :
    Calls Try.prog 79 #[sg n s] w fun e w' => FstV w.heap.size (sgnF (lookS n s.data.toList)) n e w' ∧ Below w.heap.size w w' := by
  obtain ⟨h3, h7, hl, -⟩ := arB_yes h
  have h3 : 3 ≤ n := by omega
  have h7 : n ≤ 7 := by omega
  have hsz : s.size ≤ 35 := by have := cnt_le h7; have : s.size = cnt n := by simpa using hl
                               omega
  have HA := Lib.hid (fun W => implAre_sg n s (by omega) W)
  rw [h] at HA
  have HMO := Lib.hid (fun W => mapOf_sg n s (by omega) W)
  have HS := Lib.hid (fun t => box_made w n s t)
  have hl4 := fours_len h7
  clear h hl
  go_enter Try.func79, Try.ntmps79
  go_wp2_with fail
  refine (HA.out _).mono ?_
  rintro e w1 ⟨rfl, hb1⟩
  have X1 := Lib.hid ((HS.out _).on hb1)
  obtain ⟨c0, c1, B1⟩ := X1.out
  clear hb1
  go_wp2_with fail
  refine (HMO.out _).mono ?_
  rintro e w2 ⟨mb, rfl, hmb, hm2, hb2⟩
  have X2 := Lib.hid (X1.out.on hb2)
  have M2 := Lib.hid hm2
  obtain ⟨c2, c3, B2⟩ := X2.out
  clear hb2 hm2 c0 c1
  go_wp2_with fail
  refine (foursOf_any n h3 h7 _).mono ?_
  rintro e w3 ⟨v, rfl, hv, hb3⟩
  obtain ⟨fa, fc, rfl, hrow⟩ := owns4_row hv
  have X3 := Lib.hid (X2.out.on hb3)
  have M3 := Lib.hid (M2.out.on hb3)
  have HR3 := Lib.hid hrow
  obtain ⟨c4, c5, B3⟩ := X3.out
  clear hb3 hv hrow c2 c3
  go_wp2
  go_loopw [18] (fun c wr => ∃ a : Nat, a ≤ n ∧ c = .int .i64 a ∧ Hid (NoB (sgnF (lookS n s.data.toList)) n a 0 0 0 0) ∧ Hid (Below w3.heap.size w3 wr)) (fun c _ => n - (intOf c).toNat)
  case atStart => exact ⟨0, Nat.zero_le _, rfl, Lib.hid (noB_zero _ _), Lib.hid (Below.refl _ _)⟩
  case round =>
    obtain ⟨a, han, rfl, HN, HB⟩ := hrel
    by_cases hlt : a < n
    · go_wp2
      go_loopw [23] (fun c wr => ∃ p : Nat, p ≤ (fours n).length ∧ c = .int .i64 p ∧ Hid (NoP (sgnF (lookS n s.data.toList)) n a p) ∧ Hid (Below w3.heap.size w3 wr)) (fun c _ => (fours n).length - (intOf c).toNat)
      case atStart => exact ⟨0, Nat.zero_le _, rfl, Lib.hid (noP_zero _ _ _), HB⟩
      case round =>
        obtain ⟨p, hp, rfl, HP, HB⟩ := hrel
        by_cases hltp : p < (fours n).length
        · obtain ⟨t, ht⟩ : ∃ t, (fours n)[p]? = some t := ⟨_, List.getElem?_eq_getElem hltp⟩
          have hne : fours n ≠ [] := fun e0 => by rw [e0] at hltp; simp at hltp
          obtain ⟨g, rfl, hgB, hgl, hat4⟩ := HR3.out hne
          obtain ⟨x0, x1, x2, x3⟩ := (hat4.on HB.out hgl) p t ht
          obtain ⟨t1, t2, t3, t4⟩ := fours_mem h7 (List.mem_of_getElem? ht)
          have hbs := HB.out.size
          obtain ⟨z0, z1, z2, z3⟩ := box4_made wr t.1 t.2.1 t.2.2.1 t.2.2.2 85
          have hcc : ∀ j, j < [(t.1 : Int), (t.2.1 : Int), (t.2.2.1 : Int), (t.2.2.2 : Int)].length → (wr.alloc (.cells #[.int .i64 t.1, .int .i64 t.2.1, .int .i64 t.2.2.1, .int .i64 t.2.2.2] 85)).cell? ⟨wr.heap.size, 0 + j, none⟩ = some (.int .i64 ([(t.1 : Int), (t.2.1 : Int), (t.2.2.1 : Int), (t.2.2.2 : Int)].getD j 0)) := fun j hj => by
            rcases (show j = 0 ∨ j = 1 ∨ j = 2 ∨ j = 3 by simp at hj; omega) with rfl | rfl | rfl | rfl
            · exact z0
            · exact z1
            · exact z2
            · exact z3
          have HK := Lib.hid (Try.slices_Contains_int wr.heap.size 0 4 4 _ (a : Int) _ (by simp) (by omega) hcc)
          rw [contains_four a t] at HK
          have HBa := Lib.hid (HB.out.alloc (Nat.le_trans (Nat.le_refl _) hbs) (.cells #[.int .i64 t.1, .int .i64 t.2.1, .int .i64 t.2.2.1, .int .i64 t.2.2.2] 85))
          clear hcc hat4
          cases hcon : ((a == t.1) || ((a == t.2.1) || ((a == t.2.2.1) || (a == t.2.2.2))))
          · rw [hcon] at HK
            simp only [Bool.or_eq_false_iff, beq_eq_false_iff_ne, ne_eq] at hcon
            obtain ⟨n1, n2, n3, n4⟩ := hcon
            have HQ := Lib.hid (fun W (hW : Below w3.heap.size w3 W) => isBreak_any mb (lookS n s.data.toList) a t.1 t.2.1 t.2.2.1 t.2.2.2 (by omega) (by omega) (by omega) (by omega) (by omega) W (M3.out.on hW))
            cases hbk : brk (sgnF (lookS n s.data.toList)) a t.1 t.2.1 t.2.2.1 t.2.2.2
            · rw [hbk] at HQ
              have HP2 := Lib.hid (noP_step HP.out ht (fun _ _ _ _ => hbk))
              clear hbk ht
              go_wp2_with fail
              refine HK.out.mono ?_
              rintro e w4 ⟨rfl, rfl⟩
              go_wp2_with fail
              refine (HQ.out _ HBa.out).mono ?_
              rintro e w5 ⟨rfl, hb5⟩
              have HB5 := Lib.hid (HBa.out.trans (hb5.mono HBa.out.size))
              go_wp2
              exact ⟨⟨p + 1, by omega, by go_num, HP2, HB5⟩, by simp only [intOf]; omega⟩
            · rw [hbk] at HQ
              have HF : Hid (IsF (sgnF (lookS n s.data.toList)) n (row5 a t)) := Lib.hid (Or.inr ⟨a, t.1, t.2.1, t.2.2.1, t.2.2.2, rfl, ⟨hlt, t1, t2, t3, t4, n1, n2, n3, n4⟩, hbk, noB_at h7 HN.out HP.out ht⟩)
              clear hbk ht
              go_wp2_with fail
              refine HK.out.mono ?_
              rintro e w4 ⟨rfl, rfl⟩
              go_wp2_with fail
              refine (HQ.out _ HBa.out).mono ?_
              rintro e w5 ⟨rfl, hb5⟩
              have HB5 := Lib.hid (HBa.out.trans (hb5.mono HBa.out.size))
              have hs5 := hb5.size
              have u := (fun o (v : Value) (hv : (wr.alloc (.cells #[.int .i64 t.1, .int .i64 t.2.1, .int .i64 t.2.2.1, .int .i64 t.2.2.2] 85)).cell? ⟨wr.heap.size, o, none⟩ = some v) => (hb5.cell (p := ⟨wr.heap.size, o, none⟩) (by simp)).trans hv)
              have y0 := u 0 _ z0
              have y1 := u 1 _ z1
              have y2 := u 2 _ z2
              have y3 := u 3 _ z3
              have hle : w.heap.size ≤ w5.heap.size := Nat.le_trans B3.size HB5.out.size
              have HO := Lib.hid (World.ownsRow_lit (base := w.heap.size) (e := 3) (size := 1) w5 #[.int .i64 (a : Int)] 1 hle (by simp only [maxLen]; omega) rfl)
              have HY := Lib.hid (⟨y0, y1, y2, y3⟩ : _ ∧ _ ∧ _ ∧ _)
              have hwl : wr.heap.size < w5.heap.size := by simp at hs5; omega
              obtain ⟨i0, hi, hz0, hz1, hz2⟩ := info_parts infoI
              clear u y0 y1 y2 y3 z0 z1 z2 z3 hb5
              go_wp2_with (at_builtin; refine wpList_append_own _ rfl (.tmp 38) (.tmp 39) 40 rfl w.heap.size 3 i0 _ 1 8 Try.underlying40 hi hz0 hz1 hz2 rfl (by decide) _ _ _ rfl HO.out ⟨wr.heap.size, 0, none⟩ 4 4 [.int .i64 t.1, .int .i64 t.2.1, .int .i64 t.2.2.1, .int .i64 t.2.2.2] rfl rfl ?_ ?_ ?_ ?_ ?_ ?_)
              · intro j u hu
                have hl : ∀ o v, w5.cell? ⟨wr.heap.size, o, none⟩ = some v → (w5.alloc (.cells #[.int .i64 (a : Int)] 3)).cell? ⟨wr.heap.size, o, none⟩ = some v := fun o v h => by rw [World.cell?_alloc_lt _ _ _ hwl]; exact h
                rw [WideShapes.add_plain, Nat.zero_add]
                rcases j with _ | _ | _ | _ | j
                · simp only [List.getElem?_cons_zero, Option.some.injEq] at hu; subst hu; exact hl _ _ HY.out.1
                · simp only [List.getElem?_cons_succ, List.getElem?_cons_zero, Option.some.injEq] at hu; subst hu; exact hl _ _ HY.out.2.1
                · simp only [List.getElem?_cons_succ, List.getElem?_cons_zero, Option.some.injEq] at hu; subst hu; exact hl _ _ HY.out.2.2.1
                · simp only [List.getElem?_cons_succ, List.getElem?_cons_zero, Option.some.injEq] at hu; subst hu; exact hl _ _ HY.out.2.2.2
                · simp at hu
              · exact one4 _ _ _ _
              · simp only [maxLen]; omega
              · omega
              · simp; omega
              intro v1 w6 hown1 hg1 _
              have HW : Hid (OwnsZ w6 w.heap.size v1 (row5 a t)) := Lib.hid hown1
              obtain ⟨ra, rc, rfl, hnew, hnn⟩ := New.of_own HW.out
              have B6 := (B3.trans (HB5.out.mono B3.size)).alloc hle (.cells #[.int .i64 (a : Int)] 3) |>.grown hg1 (by simp; omega) (fun q hq => by simp [Value.ownBlock] at hq; omega)
              have HRES : Hid (FstV w.heap.size (sgnF (lookS n s.data.toList)) n (.returned (.slice ra (row5 a t).length rc)) w6 ∧ Below w.heap.size w w6) := Lib.hid ⟨⟨row5 a t, ra, rc, HF.out, rfl, hnew, hnn (by unfold row5; simp)⟩, B6⟩
              clear hown1 hg1 hnew hnn B6
              go_wp2
              go_ret
              exact HRES.out
          · rw [hcon] at HK
            have HP2 := Lib.hid (noP_step HP.out ht (fun n1 n2 n3 n4 => by simp [n1, n2, n3, n4] at hcon))
            clear hcon ht
            go_wp2_with fail
            refine HK.out.mono ?_
            rintro e w4 ⟨rfl, rfl⟩
            go_wp2
            exact ⟨⟨p + 1, by omega, by go_num, HP2, HBa⟩, by simp only [intOf]; omega⟩
        · obtain rfl : p = (fours n).length := by omega
          have HN2 := Lib.hid (noB_next h7 HN.out HP.out)
          go_wp2
          exact ⟨⟨a + 1, by omega, by go_num, HN2, HB⟩, by simp only [intOf]; omega⟩
    · obtain rfl : a = n := by omega
      have hfin := HB.out
      go_wp2
      go_ret
      exact ⟨⟨[], none, 0, isF_none HN.out, rfl, Or.inl rfl, rfl⟩, B3.trans (hfin.mono B3.size)⟩
end Go.Proofs.Ytfjimdmoindepaa.Sg
