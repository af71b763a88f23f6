/- The first five that break the rule: impl and spec answer them alike. -/
import Derived.Test.YtdnbocmfgofhcaaRuFirstSpec
namespace Go.Proofs.Ytdnbocmfgofhcaa.Sg
open Go.RowKit Pt NewI
theorem isF_exists {f : Int → Int → Int → Int} {n : Nat} (hn : n ≤ 7) : ∃ zs, IsF f n zs := by
  have key : ∀ k a b c d e : Nat, (((a * 8 + b) * 8 + c) * 8 + d) * 8 + e = k → Val n a b c d e → brk f a b c d e = true → ∃ zs, IsF f n zs := by
    intro k
    induction k using Nat.strongRecOn with
    | ind k ih =>
      intro a b c d e hk v hb
      by_cases hno : NoB f n a b c d e
      · exact ⟨_, Or.inr ⟨a, b, c, d, e, rfl, v, hb, hno⟩⟩
      · unfold NoB at hno
        simp only [Classical.not_forall] at hno
        obtain ⟨a', b', c', d', e', v', hl, hb'⟩ := hno
        have hb' : brk f a' b' c' d' e' = true := by simpa using hb'
        obtain ⟨h1, h2, h3, h4, h5, -⟩ := v
        obtain ⟨i1, i2, i3, i4, i5, i6⟩ := v'
        refine ih _ ?_ a' b' c' d' e' rfl ⟨i1, i2, i3, i4, i5, i6⟩ hb'
        unfold Lt4 at hl
        omega
  by_cases h : ∀ a b c d e, Val n a b c d e → brk f a b c d e = false
  · exact ⟨[], Or.inl ⟨rfl, fun a b c d e v _ => h a b c d e v⟩⟩
  · simp only [Classical.not_forall] at h
    obtain ⟨a, b, c, d, e, v, hb⟩ := h
    exact key _ a b c d e rfl v (by simpa using hb)
theorem isF_length {f : Int → Int → Int → Int} {n : Nat} {zs : List Int} (h : IsF f n zs) : zs.length ≤ 5 := by
  rcases h with ⟨rfl, -⟩ | ⟨a, b, c, d, e, rfl, -⟩ <;> simp
open Classical in
/-- What FirstBreak answers. -/
noncomputable def firstZ (n : Int) (s : List UInt8) : List Int := if h : arB n s = true then Classical.choose (isF_exists (f := sgnF (lookS n s)) (n := n.toNat) (by have := (arB_yes h).2.1; omega)) else []
theorem firstZ_no {n : Int} {s : List UInt8} (h : arB n s = false) : firstZ n s = [] := by unfold firstZ; rw [dif_neg (by rw [h]; simp)]
theorem firstZ_yes {n : Int} {s : List UInt8} (h : arB n s = true) : IsF (sgnF (lookS n s)) n.toNat (firstZ n s) := by
  unfold firstZ
  rw [dif_pos h]
  exact Classical.choose_spec _
theorem firstZ_length (n : Int) (s : List UInt8) : (firstZ n s).length ≤ 5 := by
  cases h : arB n s
  · rw [firstZ_no h]; simp
  · exact isF_length (firstZ_yes h)
/-- Is the rule kept? -/
def matB (n : Int) (s : List UInt8) : Bool := arB n s && okB (sgnF (lookS n s)) n.toNat
theorem matB_first (n : Int) (s : List UInt8) : matB n s = (arB n s && (firstZ n s).isEmpty) := by
  unfold matB
  cases h : arB n s
  · rfl
  · rw [(firstZ_yes h).ok (by have := (arB_yes h).2.1; omega)]
theorem specFirst (n : Int) (s : ByteArray) (hs : s.size ≤ 9223372036854775807) (w : World) :
    Calls Try.prog 20 #[sg n s] w fun e w' => Got w.heap.size (firstZ n s.data.toList) e w' ∧ Below w.heap.size w w' := by
  cases h : arB n s.data.toList
  · rw [firstZ_no h]
    exact (specFirst_no n s hs h w).mono fun e w' ⟨⟨a, c, he⟩, hb⟩ => ⟨⟨a, c, he, Or.inl rfl⟩, hb⟩
  · obtain ⟨h3, -⟩ := arB_yes h
    obtain ⟨m, rfl⟩ : ∃ m : Nat, n = m := ⟨n.toNat, by omega⟩
    refine (specFirst_yes m s h w).mono fun e w' ⟨⟨zs, a, c, hz, he, hn⟩, hb⟩ => ?_
    obtain rfl := hz.unique (firstZ_yes h)
    exact ⟨⟨a, c, he, hn⟩, hb⟩
theorem implFirstN (n : Int) (s : ByteArray) (hs : s.size ≤ 9223372036854775807) (w : World) :
    Calls Try.prog 12 #[sg n s] w fun e w' => (∃ a c, e = .returned (.slice a (firstZ n s.data.toList).length c) ∧ New w' w.heap.size w'.heap.size a (firstZ n s.data.toList).length (zc (firstZ n s.data.toList)) ∧ a.isNone = (firstZ n s.data.toList).isEmpty) ∧ Below w.heap.size w w' := by
  cases h : arB n s.data.toList
  · rw [firstZ_no h]
    exact (implFirst_no n s hs h w).mono fun e w' ⟨he, hb⟩ => ⟨⟨none, 0, he, Or.inl rfl, rfl⟩, hb⟩
  · obtain ⟨h3, -⟩ := arB_yes h
    obtain ⟨m, rfl⟩ : ∃ m : Nat, n = m := ⟨n.toNat, by omega⟩
    refine (implFirst_yes m s h w).mono fun e w' ⟨⟨zs, a, c, hz, he, hn, hnn⟩, hb⟩ => ?_
    obtain rfl := hz.unique (firstZ_yes h)
    exact ⟨⟨a, c, he, hn, hnn⟩, hb⟩
theorem implFirst (n : Int) (s : ByteArray) (hs : s.size ≤ 9223372036854775807) (w : World) :
    Calls Try.prog 12 #[sg n s] w fun e w' => Got w.heap.size (firstZ n s.data.toList) e w' ∧ Below w.heap.size w w' :=
  (implFirstN n s hs w).mono fun e w' ⟨⟨a, c, he, hn, _⟩, hb⟩ => ⟨⟨a, c, he, hn⟩, hb⟩
theorem bothFirstBreak (n : Int) (s : ByteArray) (hs : s.size ≤ 9223372036854775807) : ∃ ys : List Int, ys.length ≤ 1000 ∧
    (∀ W, Calls Try.prog 20 #[sg n s] W fun e w' => Got W.heap.size ys e w' ∧ Below W.heap.size W w') ∧
    (∀ W, Calls Try.prog 12 #[sg n s] W fun e w' => Got W.heap.size ys e w' ∧ Below W.heap.size W w') :=
  ⟨firstZ n s.data.toList, by have := firstZ_length n s.data.toList; omega, fun W => specFirst n s hs W, fun W => implFirst n s hs W⟩
set_option maxRecDepth 100000 in
set_option maxHeartbeats 1600000 in
theorem walkFirstBreak (n : Int) (_ : -9223372036854775808 ≤ n ∧ n ≤ 9223372036854775807) (s : ByteArray) (hs : s.size ≤ 9223372036854775807) (w : World) :
    Calls Try.prog 4 #[sg n s] w fun e w' => e = .returned (.bool true) ∧ Below w.heap.size w w' := by
  have HS := Lib.hid (fun t => box_made w n s t)
  by_cases hz : (1048576 : Int) - s.size < 0
  · have z1 := left_neg (left := 1048576) hz
    go_enter Try.func4, Try.ntmps4
    go_wp2_with fail
    refine (sz_sg n s _ (by omega) (by omega) hs _).mono ?_
    rintro e w1 ⟨rfl, hb1⟩
    have B1 := ((HS.out _).on hb1).2.2
    go_wp2
    go_ret
    exact ⟨rfl, B1⟩
  · have z1 := left_pos (left := 1048576) (s := s) (by omega)
    obtain ⟨ys, hyl, hsp, him⟩ := bothFirstBreak n s hs
    have HA := Lib.hid hsp
    have HI := Lib.hid him
    have hself2 : (((1 + ys.length : Nat) : Int) != ((1 + ys.length : Nat) : Int)) = false := by simp
    clear hsp him
    go_enter Try.func4, Try.ntmps4
    go_wp2_with fail
    refine (sz_sg n s _ (by omega) (by omega) hs _).mono ?_
    rintro e w1 ⟨rfl, hb1⟩
    have X1 := Lib.hid ((HS.out _).on hb1)
    obtain ⟨c1, c2, B1⟩ := X1.out
    go_wp2_with fail
    refine (to_sg n s _).mono ?_
    rintro e w2 ⟨rfl, hb2⟩
    have X2 := Lib.hid (X1.out.on hb2)
    clear c1 c2
    obtain ⟨c1, c2, B2⟩ := X2.out
    go_wp2_with fail
    refine (HA.out _).mono ?_
    rintro e w3 ⟨⟨a3, c3, rfl, hn3⟩, hb3⟩
    have X3 := Lib.hid (X2.out.on hb3)
    have S3 := Lib.hid hn3
    clear c1 c2 hn3
    obtain ⟨c1, c2, B3⟩ := X3.out
    go_wp2_with fail
    refine (to_sg n s _).mono ?_
    rintro e w4 ⟨rfl, hb4⟩
    have X4 := Lib.hid (X3.out.on hb4)
    have S4 := Lib.hid (S3.out.on hb4)
    clear c1 c2
    obtain ⟨c1, c2, B4⟩ := X4.out
    go_wp2_with fail
    refine (HI.out _).mono ?_
    rintro e w5 ⟨⟨a5, c5, rfl, hn5⟩, hb5⟩
    have X5 := Lib.hid (X4.out.on hb5)
    have S5 := Lib.hid (S4.out.on hb5)
    have G5 := Lib.hid hn5
    have B5 := X5.out.2.2
    clear c1 c2 hn5
    go_wp2_with fail
    refine (eq_new _ _ _ _ _ _ _ _ ys (by omega) _ G5.out S5.out).mono ?_
    rintro e w6 ⟨rfl, hb6⟩
    have X6 := Lib.hid (X5.out.on hb6)
    have S6 := Lib.hid (S5.out.on hb6)
    have G6 := Lib.hid (G5.out.on hb6)
    have B6 := X6.out.2.2
    go_wp2_with fail
    refine (mark_new _ _ _ _ _ _ (zc_int ys) (by omega) _ G6.out).mono ?_
    rintro e w7 ⟨rfl, hn7, ho7⟩
    have hs34 := hb4.size
    have hs23 := hb3.size
    have hs12 := B2.size
    have S7 := Lib.hid (S6.out.far ho7 (.inl hs34))
    have G7 := Lib.hid hn7
    have hlt : w.heap.size < w2.heap.size := Kit.cell_lt X2.out.1
    have X7 : Hid (Box w n s w7) := Lib.hid (by
      have hbk := ho7.block w.heap.size (Kit.cell_lt X6.out.1) (by omega)
      exact ⟨by rw [World.cell?_of_block (a := ⟨w.heap.size, 0, none⟩) hbk]; exact X6.out.1, by rw [World.cell?_of_block (a := ⟨w.heap.size, 1, none⟩) hbk]; exact X6.out.2.1, B6.trans (ho7.below (by omega) B6.size)⟩)
    clear hn7 ho7
    go_wp2_with fail
    refine (held_new _ _ _ _ _ _ (by omega) _ G7.out).mono ?_
    rintro e w' ⟨rfl, rfl⟩
    obtain ⟨c1, c2, B7⟩ := X7.out
    go_wp2_with fail
    refine (to_sg n s _).mono ?_
    rintro e w8 ⟨rfl, hb8⟩
    have X8 := Lib.hid (X7.out.on hb8)
    have S8 := Lib.hid (S7.out.on hb8)
    have G8 := Lib.hid (G7.out.on hb8)
    clear c1 c2
    go_wp2_with fail
    refine (HI.out _).mono ?_
    rintro e w9 ⟨⟨a9, c9, rfl, hn9⟩, hb9⟩
    have B9 := X8.out.2.2.trans (hb9.mono X8.out.2.2.size)
    have S9 := Lib.hid (S8.out.on hb9)
    have G9 := Lib.hid (G8.out.on hb9)
    have H9 := Lib.hid hn9
    clear hn9
    go_wp2_with fail
    refine (eq_new _ _ _ _ _ _ _ _ ys (by omega) _ H9.out S9.out).mono ?_
    rintro e w10 ⟨rfl, hb10⟩
    have B10 := B9.trans (hb10.mono B9.size)
    have G10 := Lib.hid (G9.out.on hb10)
    go_wp2_with fail
    refine (held_new _ _ _ _ _ _ (by omega) _ G10.out).mono ?_
    rintro e w' ⟨rfl, rfl⟩
    go_wp2
    go_ret
    exact ⟨rfl, B10⟩
end Go.Proofs.Ytdnbocmfgofhcaa.Sg
