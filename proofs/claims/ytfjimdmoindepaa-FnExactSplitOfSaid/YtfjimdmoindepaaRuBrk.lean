/- Do five elements break the rule: impl's isBreak over a map, spec's l4Breaks. -/
import Derived.Test.YtfjimdmoindepaaSgAt
import Derived.Test.YtfjimdmoindepaaRuMath
import Derived.BigQuiet
namespace Go.Proofs.Ytfjimdmoindepaa.Sg
open Go.RowKit Pt
theorem mul_bd {x y : Int} (hx : -1 ≤ x ∧ x ≤ 1) (hy : -1 ≤ y ∧ y ≤ 1) : -1 ≤ x * y ∧ x * y ≤ 1 := by
  rcases (by omega : x = -1 ∨ x = 0 ∨ x = 1) with rfl | rfl | rfl <;> omega
abbrev fr (t : T4) : Value := .agg #[.int .i64 t.1, .int .i64 t.2.1, .int .i64 t.2.2.1, .int .i64 t.2.2.2]
theorem box4_made (w : World) (x y z u : Int) (t : TypeId) : (w.alloc (.cells #[.int .i64 x, .int .i64 y, .int .i64 z, .int .i64 u] t)).cell? ⟨w.heap.size, 0, none⟩ = some (.int .i64 x) ∧ (w.alloc (.cells #[.int .i64 x, .int .i64 y, .int .i64 z, .int .i64 u] t)).cell? ⟨w.heap.size, 1, none⟩ = some (.int .i64 y) ∧ (w.alloc (.cells #[.int .i64 x, .int .i64 y, .int .i64 z, .int .i64 u] t)).cell? ⟨w.heap.size, 2, none⟩ = some (.int .i64 z) ∧ (w.alloc (.cells #[.int .i64 x, .int .i64 y, .int .i64 z, .int .i64 u] t)).cell? ⟨w.heap.size, 3, none⟩ = some (.int .i64 u) := by
  refine ⟨?_, ?_, ?_, ?_⟩ <;> go_simp
theorem brk_of {f : Int → Int → Int → Int} {a b c d e : Nat} {v1 v2 v3 v4 v5 v6 : Int} (h1 : f a b c = v1) (h2 : f a d e = v2) (h3 : f a b e = v3) (h4 : f a c d = v4) (h5 : f a b d = v5) (h6 : f a c e = v6) : brk f a b c d e = ((v1 * v2 == v3 * v4) && (v1 * v2 == -v5 * v6)) := by
  unfold brk; rw [h1, h2, h3, h4, h5, h6]
set_option maxHeartbeats 3200000 in
set_option maxRecDepth 100000 in
theorem isBreak_any (B : Nat) (f : Int → Int → Int → Int) (a b c d e : Nat) (ha : a < 8) (hb : b < 8) (hc : c < 8) (hd : d < 8) (he : e < 8) (w : World) (hm : MapIs w B f) :
    Calls Try.prog 86 #[.map (some B), .int .i64 a, fr (b, c, d, e)] w fun e' w' => e' = .returned (.bool (brk (sgnF f) a b c d e)) ∧ Below w.heap.size w w' := by
  have HA : Hid (∀ W, Below w.heap.size w W → ∀ x y z : Nat, x < 8 → y < 8 → z < 8 → ∀ v, sgnF f x y z = v → Calls Try.prog 42 #[.map (some B), .int .i64 x, .int .i64 y, .int .i64 z] W fun e w' => e = .returned (.int .i64 v) ∧ W = w') := Lib.hid (fun W hW x y z hx hy hz v hv => by
    rw [← hv]; exact at_any B f x y z (by omega) (by omega) (by omega) W (hm.on hW))
  have hbd := fun x y z => sgnF_bd hm.2 x y z
  obtain ⟨v1, h1⟩ : ∃ v, sgnF f a b c = v := ⟨_, rfl⟩
  obtain ⟨v2, h2⟩ : ∃ v, sgnF f a d e = v := ⟨_, rfl⟩
  obtain ⟨v3, h3⟩ : ∃ v, sgnF f a b e = v := ⟨_, rfl⟩
  obtain ⟨v4, h4⟩ : ∃ v, sgnF f a c d = v := ⟨_, rfl⟩
  obtain ⟨v5, h5⟩ : ∃ v, sgnF f a b d = v := ⟨_, rfl⟩
  obtain ⟨v6, h6⟩ : ∃ v, sgnF f a c e = v := ⟨_, rfl⟩
  have HE := Lib.hid (brk_of h1 h2 h3 h4 h5 h6)
  have b1 := hbd a b c
  have b2 := hbd a d e
  have b3 := hbd a b e
  have b4 := hbd a c d
  have b5 := hbd a b d
  have b6 := hbd a c e
  rw [h1] at b1; rw [h2] at b2; rw [h3] at b3; rw [h4] at b4; rw [h5] at b5; rw [h6] at b6
  have m1 := mul_bd b1 b2
  have m2 := mul_bd b3 b4
  have m3 := mul_bd (x := -v5) (by omega) b6
  have HA1 := Lib.hid (fun W hW => HA.out W hW a b c ha hb hc v1 h1)
  have HA2 := Lib.hid (fun W hW => HA.out W hW a d e ha hd he v2 h2)
  have HA3 := Lib.hid (fun W hW => HA.out W hW a b e ha hb he v3 h3)
  have HA4 := Lib.hid (fun W hW => HA.out W hW a c d ha hc hd v4 h4)
  have HA5 := Lib.hid (fun W hW => HA.out W hW a b d ha hb hd v5 h5)
  have HA6 := Lib.hid (fun W hW => HA.out W hW a c e ha hc he v6 h6)
  clear HA hbd hm h1 h2 h3 h4 h5 h6
  obtain ⟨y0, y1, y2, y3⟩ := box4_made w b c d e 85
  cases hq : (v1 * v2 == v3 * v4)
  · rw [hq, Bool.false_and] at HE
    go_enter Try.func86, Try.ntmps86
    go_wp2
    go_quiet (fail)
    go_wp2_with fail
    refine (HA1.out _ (drewN_below ((Below.refl _ _).alloc (Nat.le_refl _) _) _)).mono ?_
    rintro e' w' ⟨rfl, rfl⟩
    go_wp2_with fail
    refine (HA2.out _ (drewN_below ((Below.refl _ _).alloc (Nat.le_refl _) _) _)).mono ?_
    rintro e' w' ⟨rfl, rfl⟩
    go_wp2_with fail
    refine (HA3.out _ (drewN_below ((Below.refl _ _).alloc (Nat.le_refl _) _) _)).mono ?_
    rintro e' w' ⟨rfl, rfl⟩
    go_wp2_with fail
    refine (HA4.out _ (drewN_below ((Below.refl _ _).alloc (Nat.le_refl _) _) _)).mono ?_
    rintro e' w' ⟨rfl, rfl⟩
    go_wp2
    go_ret
    exact ⟨ret_bool HE.out.symm, drewN_below ((Below.refl _ _).alloc (Nat.le_refl _) _) _⟩
  · rw [hq, Bool.true_and] at HE
    go_enter Try.func86, Try.ntmps86
    go_wp2
    go_quiet (fail)
    go_wp2_with fail
    refine (HA1.out _ (drewN_below ((Below.refl _ _).alloc (Nat.le_refl _) _) _)).mono ?_
    rintro e' w' ⟨rfl, rfl⟩
    go_wp2_with fail
    refine (HA2.out _ (drewN_below ((Below.refl _ _).alloc (Nat.le_refl _) _) _)).mono ?_
    rintro e' w' ⟨rfl, rfl⟩
    go_wp2_with fail
    refine (HA3.out _ (drewN_below ((Below.refl _ _).alloc (Nat.le_refl _) _) _)).mono ?_
    rintro e' w' ⟨rfl, rfl⟩
    go_wp2_with fail
    refine (HA4.out _ (drewN_below ((Below.refl _ _).alloc (Nat.le_refl _) _) _)).mono ?_
    rintro e' w' ⟨rfl, rfl⟩
    go_wp2_with fail
    refine (HA5.out _ (drewN_below ((Below.refl _ _).alloc (Nat.le_refl _) _) _)).mono ?_
    rintro e' w' ⟨rfl, rfl⟩
    go_wp2_with fail
    refine (HA6.out _ (drewN_below ((Below.refl _ _).alloc (Nat.le_refl _) _) _)).mono ?_
    rintro e' w' ⟨rfl, rfl⟩
    go_wp2
    go_ret
    exact ⟨ret_bool HE.out.symm, drewN_below ((Below.refl _ _).alloc (Nat.le_refl _) _) _⟩
/-- A call beside the boxed signs of the caller. -/
theorem held_box {w0 : World} {n : Int} {s : ByteArray} {f : FuncId} {args : Array Value} {W : World} {v : Value} (h : Calls Try.prog f args W fun e w' => e = .returned v ∧ Below W.heap.size W w')
    (hS : W.cell? ⟨w0.heap.size, 0, none⟩ = some (.int .i64 n) ∧ W.cell? ⟨w0.heap.size, 1, none⟩ = some (.string s) ∧ Below w0.heap.size w0 W) :
    Calls Try.prog f args W fun e w' => e = .returned v ∧ w'.cell? ⟨w0.heap.size, 0, none⟩ = some (.int .i64 n) ∧ w'.cell? ⟨w0.heap.size, 1, none⟩ = some (.string s) ∧ Below w0.heap.size w0 w' :=
  h.mono fun _ _ ⟨he, hb⟩ => ⟨he, Box.on hS hb⟩
theorem eq_two (x y z : Int) : ((x == y) && (x == z)) = if x == y then (y == z) else false := by
  by_cases hx : x = y
  · subst hx; simp
  · simp [hx]
set_option maxHeartbeats 3200000 in
set_option maxRecDepth 100000 in
theorem l4Breaks_any (n : Nat) (s : ByteArray) (a b c d e : Nat) (h : arB n s.data.toList = true) (hv : Val n a b c d e) (w : World) :
    Calls Try.prog 78 #[sg n s, .int .i64 a, .int .i64 b, .int .i64 c, .int .i64 d, .int .i64 e] w fun e' w' => e' = .returned (.bool (brk (sgnF (lookS n s.data.toList)) a b c d e)) ∧ Below w.heap.size w w' := by
  have hbd0 : ∀ x y z, -1 ≤ lookS n s.data.toList x y z ∧ lookS n s.data.toList x y z ≤ 1 := fun x y z => by rw [lookS_yes h]; exact look_bd _ _ _ _ _
  obtain ⟨G, hG⟩ : ∃ G : Nat → Nat → Nat → Int, ∀ x y z : Nat, sgnF (lookS n s.data.toList) x y z = G x y z := ⟨_, fun _ _ _ => rfl⟩
  have hbd : ∀ x y z, -1 ≤ G x y z ∧ G x y z ≤ 1 := fun x y z => by rw [← hG]; exact sgnF_bd hbd0 x y z
  have HA : Hid (∀ x y z : Nat, x < n → y < n → z < n → x ≠ y → y ≠ z → x ≠ z → ∀ W, W.cell? ⟨w.heap.size, 0, none⟩ = some (.int .i64 n) ∧ W.cell? ⟨w.heap.size, 1, none⟩ = some (.string s) ∧ Below w.heap.size w W → Calls Try.prog 71 #[sg n s, .int .i64 x, .int .i64 y, .int .i64 z] W fun e w' => e = .returned (.int .i64 (G x y z)) ∧ w'.cell? ⟨w.heap.size, 0, none⟩ = some (.int .i64 n) ∧ w'.cell? ⟨w.heap.size, 1, none⟩ = some (.string s) ∧ Below w.heap.size w w') := Lib.hid (fun x y z hx hy hz h1 h2 h3 W hW => by
    rw [← hG]; exact held_box (l3At_any n s x y z h hx hy hz h1 h2 h3 W) hW)
  obtain ⟨q1, q2, q3, q4, q5, q6, q7, q8, q9⟩ := hv
  have hE := brk_of (f := sgnF (lookS n s.data.toList)) (hG a b c) (hG a d e) (hG a b e) (hG a c d) (hG a b d) (hG a c e)
  rw [eq_two] at hE
  have b1 := hbd a b c
  have b2 := hbd a d e
  have b3 := hbd a b e
  have b4 := hbd a c d
  have b5 := hbd a b d
  have b6 := hbd a c e
  have m1 := mul_bd b1 b2
  have m2 := mul_bd b3 b4
  have m3 := mul_bd (x := -G a b d) (by omega) b6
  have HS := Lib.hid (box_made w n s 25)
  clear hbd hbd0 h hG
  cases hq : (G a b c * G a d e == G a b e * G a c d)
  all_goals
    rw [hq] at hE
    simp only [Bool.false_eq_true, if_false, if_true] at hE
    have HE := Lib.hid hE
    clear hE
    go_enter Try.func78, Try.ntmps78
    go_wp2
    go_region_held3 (fun W => W.cell? ⟨w.heap.size, 0, none⟩ = some (.int .i64 n) ∧ W.cell? ⟨w.heap.size, 1, none⟩ = some (.string s) ∧ Below w.heap.size w W)
      (first | exact HS.out | exact HS.out.drew | exact ⟨by assumption, by assumption, by assumption⟩)
      (first
      | (go_at_call 71; refine (HA.out _ _ _ (by omega) (by omega) (by omega) (by omega) (by omega) (by omega) _ ?_).mono ?_; (first | exact HS.out.drew | exact ⟨by assumption, by assumption, by assumption⟩); rintro e' w' ⟨rfl, c1, c2, c3⟩))
  all_goals
    go_wp2
    go_region_held3 (fun W => W.cell? ⟨w.heap.size, 0, none⟩ = some (.int .i64 n) ∧ W.cell? ⟨w.heap.size, 1, none⟩ = some (.string s) ∧ Below w.heap.size w W)
      (first | exact ⟨by assumption, by assumption, by assumption⟩ | exact ⟨by assumption, by assumption, Below.drew (by assumption)⟩)
      (first
      | (go_at_call 71; refine (HA.out _ _ _ (by omega) (by omega) (by omega) (by omega) (by omega) (by omega) _ ?_).mono ?_; (first | exact ⟨by assumption, by assumption, by assumption⟩ | exact ⟨by assumption, by assumption, Below.drew (by assumption)⟩); rintro e' w' ⟨rfl, c1, c2, c3⟩))
  all_goals
    go_wp2
    go_region_held3 (fun W => W.cell? ⟨w.heap.size, 0, none⟩ = some (.int .i64 n) ∧ W.cell? ⟨w.heap.size, 1, none⟩ = some (.string s) ∧ Below w.heap.size w W)
      (first | exact ⟨by assumption, by assumption, by assumption⟩ | exact ⟨by assumption, by assumption, Below.drew (by assumption)⟩)
      (first
      | (go_at_call 71; refine (HA.out _ _ _ (by omega) (by omega) (by omega) (by omega) (by omega) (by omega) _ ?_).mono ?_; (first | exact ⟨by assumption, by assumption, by assumption⟩ | exact ⟨by assumption, by assumption, Below.drew (by assumption)⟩); rintro e' w' ⟨rfl, c1, c2, c3⟩))
  all_goals
    go_wp2
    go_ret
    exact ⟨ret_bool HE.out.symm, by assumption⟩
end Go.Proofs.Ytfjimdmoindepaa.Sg
