/- The elements inside a triangle and the empty triangles, as spec tells them: IsInside, l5Inside, CountInside, EmptyTriangles. -/
import Derived.Test.YtlhkgabglddlhaaQuSplitSpec
namespace Go.Proofs.Ytlhkgabglddlhaa.Sg
open Go.RowKit Pt NewI
/-- A circuit that is not full has no inner element. -/
theorem isIn_no {x : Int × Int × Int × Int} (h : full x = false) : isIn x = false := by
  cases hi : isIn x
  · rfl
  · exfalso
    obtain ⟨x0, x1, x2, x3⟩ := x
    unfold isIn at hi
    simp only [Bool.and_eq_true, beq_iff_eq] at hi
    obtain ⟨rfl, rfl, rfl, rfl⟩ := hi
    exact absurd h (by decide)
theorem isIn_same {n : Nat} {s : List UInt8} (h : aciB n s = true) {a b c d : Int} (hd : difB n [a, b, c, d] = false) : isIn (cir (sgnF (ordF n s)) a b c d) = false := by
  rw [ordF_is h]
  refine isIn_no ?_
  cases hf : full (cir (sgnF (lookS n s)) a b c d)
  · rfl
  · rw [dif_of_full (matB_ar (aciB_mat h)) hf] at hd; cases hd
set_option maxHeartbeats 3200000 in
set_option maxRecDepth 100000 in
theorem specIsInside (n : Int) (s : ByteArray) (a b c d : Int) (hs : s.size ≤ 9223372036854775807) (w : World) :
    Calls Try.prog 47 #[sg n s, .int .i64 a, .int .i64 b, .int .i64 c, .int .i64 d] w fun e w' => e = .returned (.bool (isIn (cir (sgnF (ordF n s.data.toList)) a b c d))) ∧ Below w.heap.size w w' := by
  have HA := Lib.hid (fun W => specAci n s hs W)
  have HS := Lib.hid (box_made w n s 25)
  obtain ⟨x0, x1, -⟩ := HS.out
  cases h : aciB n s.data.toList
  · have HE : Hid (isIn (cir (sgnF (ordF n s.data.toList)) a b c d) = false) := Lib.hid (isIn_no (full_no h a b c d))
    rw [h] at HA
    clear h
    go_enter Try.func47, Try.ntmps47
    go_wp2_with fail
    refine (HA.out _).mono ?_
    rintro e w1 ⟨rfl, hb1⟩
    have B1 := Lib.hid (HS.out.on hb1).2.2
    clear hb1 x0 x1
    go_wp2
    go_ret
    exact ⟨ret_bool HE.out.symm, B1.out⟩
  · obtain ⟨h3, h7⟩ := aciB_n h
    obtain ⟨m, rfl⟩ : ∃ m : Nat, n = m := ⟨n.toNat, by omega⟩
    have HD : Hid (∀ g W, Cells W g 4 (zc [a, b, c, d]) → Calls Try.prog 86 #[.int .i64 m, .slice (some ⟨g, 0, none⟩) 4 4] W fun e w' => e = .returned (.bool (difB m [a, b, c, d])) ∧ Below W.heap.size W w') := Lib.hid (fun g W hW => l5Different_any m (by omega) [a, b, c, d] (by simp) g 4 W hW)
    cases hdf : difB m [a, b, c, d]
    · have HE := Lib.hid (isIn_same h hdf)
      rw [h] at HA
      rw [hdf] at HD
      clear h hdf
      go_enter Try.func47, Try.ntmps47
      go_wp2_with fail
      refine (HA.out _).mono ?_
      rintro e w1 ⟨rfl, hb1⟩
      have X1 := Lib.hid (HS.out.on hb1)
      clear hb1 x0 x1
      obtain ⟨x0, x1, B1⟩ := X1.out
      have G1 := Lib.hid (cells4_made w1 a b c d 3)
      have B1a := Lib.hid (B1.alloc B1.size (.cells #[.int .i64 a, .int .i64 b, .int .i64 c, .int .i64 d] 3))
      go_wp2_with fail
      refine (HD.out _ _ G1.out).mono ?_
      rintro e w2 ⟨rfl, hb2⟩
      have B2 := Lib.hid (B1a.out.trans (hb2.mono B1a.out.size))
      clear hb2 x0 x1
      go_wp2
      go_ret
      exact ⟨ret_bool HE.out.symm, B2.out⟩
    · have har := matB_ar (aciB_mat h)
      obtain ⟨ga, gb, gc, gd, n1, n2, n3, n4, n5, n6⟩ := difB4.1 hdf
      obtain ⟨a, rfl⟩ : ∃ x : Nat, a = x := ⟨a.toNat, by omega⟩
      obtain ⟨b, rfl⟩ : ∃ x : Nat, b = x := ⟨b.toNat, by omega⟩
      obtain ⟨c, rfl⟩ : ∃ x : Nat, c = x := ⟨c.toNat, by omega⟩
      obtain ⟨d, rfl⟩ : ∃ x : Nat, d = x := ⟨d.toNat, by omega⟩
      have HIN : Hid (∀ g W, Cells W g 4 (zc [(a : Int), (b : Int), (c : Int), (d : Int)]) → Calls Try.prog 93 #[sg m s, .slice (some ⟨g, 0, none⟩) 4 4] W fun e w' => e = .returned (.int .i64 (inn4 (cir (sgnF (lookS m s.data.toList)) a b c d) a b c d)) ∧ Below W.heap.size W w') := Lib.hid (fun g W hW => l5Inner_any m s a b c d har (by omega) (by omega) (by omega) (by omega) (by omega) (by omega) (by omega) (by omega) (by omega) (by omega) g 4 W hW)
      have HE : Hid ((inn4 (cir (sgnF (lookS m s.data.toList)) a b c d) a b c d == (a : Int)) = isIn (cir (sgnF (ordF m s.data.toList)) a b c d)) := Lib.hid (by rw [ordF_is h]; exact inn4_isIn n1 n2 n3 (by omega))
      rw [← HE.out]
      generalize inn4 (cir (sgnF (lookS m s.data.toList)) a b c d) a b c d = y at HIN ⊢
      rw [h] at HA
      rw [hdf] at HD
      clear h hdf har HE n1 n2 n3 n4 n5 n6
      go_enter Try.func47, Try.ntmps47
      go_wp2_with fail
      refine (HA.out _).mono ?_
      rintro e w1 ⟨rfl, hb1⟩
      have X1 := Lib.hid (HS.out.on hb1)
      clear hb1 x0 x1
      obtain ⟨x0, x1, B1⟩ := X1.out
      have G1 := Lib.hid (cells4_made w1 a b c d 3)
      have X1a := Lib.hid (X1.out.alloc (.cells #[.int .i64 a, .int .i64 b, .int .i64 c, .int .i64 d] 3))
      go_wp2_with fail
      refine (HD.out _ _ G1.out).mono ?_
      rintro e w2 ⟨rfl, hb2⟩
      have X2 := Lib.hid (X1a.out.on hb2)
      clear hb2 x0 x1 B1
      obtain ⟨x0, x1, B2⟩ := X2.out
      have G2 := Lib.hid (cells4_made w2 a b c d 3)
      have B2a := Lib.hid (B2.alloc B2.size (.cells #[.int .i64 a, .int .i64 b, .int .i64 c, .int .i64 d] 3))
      go_wp2_with fail
      refine (HIN.out _ _ G2.out).mono ?_
      rintro e w3 ⟨rfl, hb3⟩
      have B3 := Lib.hid (B2a.out.trans (hb3.mono B2a.out.size))
      clear hb3 x0 x1
      go_wp2
      go_ret
      exact ⟨rfl, B3.out⟩
/-- A circuit with an element twice has no inner one. -/
theorem isIn_twice {n : Nat} {s : List UInt8} (h : arB n s = true) {p a b c : Int} (hp : p = a ∨ p = b ∨ p = c) : isIn (cir (sgnF (lookS n s)) p a b c) = false := by
  refine isIn_no ?_
  cases hf : full (cir (sgnF (lookS n s)) p a b c)
  · rfl
  · obtain ⟨-, -, -, -, n1, n2, n3, -⟩ := difB4.1 (dif_of_full h hf)
    omega
set_option maxHeartbeats 3200000 in
set_option maxRecDepth 100000 in
theorem l5Inside_any (n : Nat) (s : ByteArray) (a b c : Nat) (h : arB n s.data.toList = true) (ha : a < n) (hb : b < n) (hc : c < n) (d1 : a ≠ b) (d2 : a ≠ c) (d3 : b ≠ c) (w : World) :
    Calls Try.prog 96 #[sg n s, .int .i64 a, .int .i64 b, .int .i64 c] w fun e w' => e = .returned (.int .i64 (cntI (sgnF (lookS n s.data.toList)) a b c n)) ∧ Below w.heap.size w w' := by
  obtain ⟨_, h7, -, -⟩ := arB_yes h
  have h7 : n ≤ 7 := by omega
  have HS := Lib.hid (box_made w n s 25)
  have HTW : Hid (∀ p : Nat, p = a ∨ p = b ∨ p = c → isIn (cir (sgnF (lookS n s.data.toList)) p a b c) = false) := Lib.hid (fun p hp => isIn_twice h (by omega))
  have HIN : Hid (∀ p : Nat, p < n → p ≠ a → p ≠ b → p ≠ c → ∃ y : Int, (y == (p : Int)) = isIn (cir (sgnF (lookS n s.data.toList)) p a b c) ∧ ∀ g W, Cells W g 4 (zc [(p : Int), (a : Int), (b : Int), (c : Int)]) → Calls Try.prog 93 #[sg n s, .slice (some ⟨g, 0, none⟩) 4 4] W fun e w' => e = .returned (.int .i64 y) ∧ Below W.heap.size W w') := Lib.hid (fun p hp n1 n2 n3 =>
    ⟨_, inn4_isIn (by omega) (by omega) (by omega) (by omega), fun g W hW => l5Inner_any n s p a b c h hp ha hb hc n1 n2 n3 d1 d2 d3 g 4 W hW⟩)
  have HLE := Lib.hid (cntI_le (sgnF (lookS n s.data.toList)) a b c)
  generalize sgnF (lookS n s.data.toList) = F at HTW HIN HLE ⊢
  clear h
  go_enter Try.func96, Try.ntmps96
  go_wp2
  go_loopw [9, 10] (fun cv i wr => ∃ p : Nat, p ≤ n ∧ i = .int .i64 p ∧ cv = .int .i64 (cntI F a b c p : Nat) ∧ Hid (Box w n s wr)) (fun _ i _ => n - (intOf i).toNat)
  case atStart => exact ⟨0, Nat.zero_le _, rfl, rfl, HS⟩
  case round =>
    obtain ⟨p, hp, rfl, rfl, HB⟩ := hrel
    have hle := HLE.out p
    obtain ⟨x0, x1, B0⟩ := HB.out
    by_cases hlt : p < n
    · by_cases e1 : p = a
      · have HN := Lib.hid (cntI_miss (p := p) (HTW.out p (.inl e1)))
        have t1 : ((p : Int) != (a : Int)) = false := by simp; omega
        clear e1
        go_wp2
        exact ⟨⟨p + 1, by omega, by go_num, by rw [HN.out], HB⟩, by simp only [intOf]; omega⟩
      · have t1 : ((p : Int) != (a : Int)) = true := by simp; omega
        by_cases e2 : p = b
        · have HN := Lib.hid (cntI_miss (p := p) (HTW.out p (.inr (.inl e2))))
          have t2 : ((p : Int) != (b : Int)) = false := by simp; omega
          clear e1 e2
          go_wp2
          exact ⟨⟨p + 1, by omega, by go_num, by rw [HN.out], HB⟩, by simp only [intOf]; omega⟩
        · have t2 : ((p : Int) != (b : Int)) = true := by simp; omega
          by_cases e3 : p = c
          · have HN := Lib.hid (cntI_miss (p := p) (HTW.out p (.inr (.inr e3))))
            have t3 : ((p : Int) != (c : Int)) = false := by simp; omega
            clear e1 e2 e3
            go_wp2
            exact ⟨⟨p + 1, by omega, by go_num, by rw [HN.out], HB⟩, by simp only [intOf]; omega⟩
          · have t3 : ((p : Int) != (c : Int)) = true := by simp; omega
            obtain ⟨y, hy, hcall⟩ := HIN.out p hlt e1 e2 e3
            have HCALL := Lib.hid hcall
            have G1 := Lib.hid (cells4_made wr p a b c 3)
            have X1 := Lib.hid (HB.out.alloc (.cells #[.int .i64 p, .int .i64 a, .int .i64 b, .int .i64 c] 3))
            clear hcall e1 e2 e3
            cases hin : isIn (cir F p a b c)
            · have HN := Lib.hid (cntI_miss (p := p) hin)
              rw [hin] at hy
              clear hin
              go_wp2_with fail
              refine (HCALL.out _ _ G1.out).mono ?_
              rintro e w2 ⟨rfl, hb2⟩
              have X2 := Lib.hid (X1.out.on hb2)
              clear hb2
              go_wp2
              exact ⟨⟨p + 1, by omega, by go_num, by rw [HN.out], X2⟩, by simp only [intOf]; omega⟩
            · have HN := Lib.hid (cntI_hit (p := p) hin)
              rw [hin] at hy
              clear hin
              go_wp2_with fail
              refine (HCALL.out _ _ G1.out).mono ?_
              rintro e w2 ⟨rfl, hb2⟩
              have X2 := Lib.hid (X1.out.on hb2)
              clear hb2
              go_wp2
              exact ⟨⟨p + 1, by omega, by go_num, by rw [HN.out]; go_num, X2⟩, by simp only [intOf]; omega⟩
    · obtain rfl : p = n := by omega
      go_wp2
      go_ret
      exact ⟨rfl, B0⟩
/-- A slice of three numbers just made. -/
theorem cells3_made (w : World) (a b c : Int) (t : TypeId) : Cells (w.alloc (.cells #[.int .i64 a, .int .i64 b, .int .i64 c] t)) w.heap.size 3 (zc [a, b, c]) := by
  obtain ⟨h0, h1, h2⟩ := box3_made w a b c t
  refine ⟨fun j hj => ?_, fun j => by go_simp, by simp⟩
  rcases (by omega : j = 0 ∨ j = 1 ∨ j = 2) with rfl | rfl | rfl
  · exact h0
  · exact h1
  · exact h2
theorem insN_no {n : Int} {s : List UInt8} (h : aciB n s = false) (a b c : Int) : insN n s a b c = -1 := by unfold insN; rw [if_pos (sgnO_no h a b c)]
theorem insN_same {n : Nat} {s : List UInt8} (h : aciB n s = true) {a b c : Int} (hd : difB n [a, b, c] = false) : insN n s a b c = -1 := by
  unfold insN
  rw [ordF_yes h, if_pos (sgnF_bad (matB_ar (aciB_mat h)) (fun hb => ?_))]
  rw [difB3.2 ⟨hb.1, hb.2.1, hb.2.2.1, hb.2.2.2.1, hb.2.2.2.2.2, hb.2.2.2.2.1⟩] at hd; cases hd
theorem insN_yes {n a b c : Nat} {s : List UInt8} (h : aciB n s = true) (ha : a < n) (hb : b < n) (hc : c < n) (d1 : a ≠ b) (d2 : a ≠ c) (d3 : b ≠ c) : insN n s a b c = (cntI (sgnF (lookS n s)) a b c n : Nat) := by
  have h1 := sgn_one (matB_ar (aciB_mat h)) ha hb hc d1 d3 d2
  unfold insN
  rw [ordF_yes h, if_neg (by omega), Int.toNat_natCast]
set_option maxHeartbeats 3200000 in
set_option maxRecDepth 100000 in
theorem specCountInside (n : Int) (s : ByteArray) (a b c : Int) (hs : s.size ≤ 9223372036854775807) (w : World) :
    Calls Try.prog 49 #[sg n s, .int .i64 a, .int .i64 b, .int .i64 c] w fun e w' => e = .returned (.int .i64 (insN n s.data.toList a b c)) ∧ Below w.heap.size w w' := by
  have HA := Lib.hid (fun W => specAci n s hs W)
  have HS := Lib.hid (box_made w n s 25)
  obtain ⟨x0, x1, -⟩ := HS.out
  cases h : aciB n s.data.toList
  · have HE := Lib.hid (insN_no h a b c)
    rw [h] at HA
    clear h
    go_enter Try.func49, Try.ntmps49
    go_wp2_with fail
    refine (HA.out _).mono ?_
    rintro e w1 ⟨rfl, hb1⟩
    have B1 := Lib.hid (HS.out.on hb1).2.2
    clear hb1 x0 x1
    go_wp2
    go_ret
    exact ⟨ret_int HE.out.symm, B1.out⟩
  · obtain ⟨h3, h7⟩ := aciB_n h
    obtain ⟨m, rfl⟩ : ∃ m : Nat, n = m := ⟨n.toNat, by omega⟩
    have HD : Hid (∀ g W, Cells W g 3 (zc [a, b, c]) → Calls Try.prog 86 #[.int .i64 m, .slice (some ⟨g, 0, none⟩) 3 3] W fun e w' => e = .returned (.bool (difB m [a, b, c])) ∧ Below W.heap.size W w') := Lib.hid (fun g W hW => l5Different_any m (by omega) [a, b, c] (by simp) g 3 W hW)
    cases hdf : difB m [a, b, c]
    · have HE := Lib.hid (insN_same h hdf)
      rw [h] at HA
      rw [hdf] at HD
      clear h hdf
      go_enter Try.func49, Try.ntmps49
      go_wp2_with fail
      refine (HA.out _).mono ?_
      rintro e w1 ⟨rfl, hb1⟩
      have X1 := Lib.hid (HS.out.on hb1)
      clear hb1 x0 x1
      obtain ⟨x0, x1, B1⟩ := X1.out
      have G1 := Lib.hid (cells3_made w1 a b c 3)
      have B1a := Lib.hid (B1.alloc B1.size (.cells #[.int .i64 a, .int .i64 b, .int .i64 c] 3))
      go_wp2_with fail
      refine (HD.out _ _ G1.out).mono ?_
      rintro e w2 ⟨rfl, hb2⟩
      have B2 := Lib.hid (B1a.out.trans (hb2.mono B1a.out.size))
      clear hb2 x0 x1
      go_wp2
      go_ret
      exact ⟨ret_int HE.out.symm, B2.out⟩
    · have har := matB_ar (aciB_mat h)
      obtain ⟨ga, gb, gc, n1, n2, n3⟩ := difB3.1 hdf
      obtain ⟨a, rfl⟩ : ∃ x : Nat, a = x := ⟨a.toNat, by omega⟩
      obtain ⟨b, rfl⟩ : ∃ x : Nat, b = x := ⟨b.toNat, by omega⟩
      obtain ⟨c, rfl⟩ : ∃ x : Nat, c = x := ⟨c.toNat, by omega⟩
      have HE := Lib.hid (insN_yes h (a := a) (b := b) (c := c) (by omega) (by omega) (by omega) (by omega) (by omega) (by omega))
      have HIN := Lib.hid (fun W => l5Inside_any m s a b c har (by omega) (by omega) (by omega) (by omega) (by omega) (by omega) W)
      rw [h] at HA
      rw [hdf] at HD
      clear h hdf har n1 n2 n3
      go_enter Try.func49, Try.ntmps49
      go_wp2_with fail
      refine (HA.out _).mono ?_
      rintro e w1 ⟨rfl, hb1⟩
      have X1 := Lib.hid (HS.out.on hb1)
      clear hb1 x0 x1
      obtain ⟨x0, x1, B1⟩ := X1.out
      have G1 := Lib.hid (cells3_made w1 a b c 3)
      have X1a := Lib.hid (X1.out.alloc (.cells #[.int .i64 a, .int .i64 b, .int .i64 c] 3))
      go_wp2_with fail
      refine (HD.out _ _ G1.out).mono ?_
      rintro e w2 ⟨rfl, hb2⟩
      have X2 := Lib.hid (X1a.out.on hb2)
      clear hb2 x0 x1 B1
      obtain ⟨x0, x1, B2⟩ := X2.out
      go_wp2_with fail
      refine (HIN.out _).mono ?_
      rintro e w3 ⟨rfl, hb3⟩
      have B3 := Lib.hid (B2.trans (hb3.mono B2.size))
      clear hb3 x0 x1
      go_wp2
      go_ret
      exact ⟨ret_int HE.out.symm, B3.out⟩
set_option maxRecDepth 100000 in
theorem l1Bit_any (b : Bool) (w : World) : Calls Try.prog 98 #[.bool b] w fun e w' => e = .returned (.int .i64 (bit b)) ∧ w' = w := by
  cases b
  · go_enter Try.func98, Try.ntmps98
    go_wp2
    go_ret
    exact ⟨rfl, rfl⟩
  · go_enter Try.func98, Try.ntmps98
    go_wp2
    go_ret
    exact ⟨rfl, rfl⟩
theorem bit_le (b : Bool) : bit b ≤ 1 := by cases b <;> decide
set_option maxHeartbeats 3200000 in
set_option maxRecDepth 100000 in
theorem specEmpty (n : Int) (s : ByteArray) (hs : s.size ≤ 9223372036854775807) (w : World) :
    Calls Try.prog 51 #[sg n s] w fun e w' => e = .returned (.int .i64 (emptyN n s.data.toList)) ∧ Below w.heap.size w w' := by
  have HA := Lib.hid (fun W => specAci n s hs W)
  have HS := Lib.hid (box_made w n s 25)
  cases h : aciB n s.data.toList
  · have HE : Hid (emptyN n s.data.toList = -1) := Lib.hid (by unfold emptyN; rw [h]; rfl)
    rw [h] at HA
    clear h
    go_enter Try.func51, Try.ntmps51
    go_wp2_with fail
    refine (HA.out _).mono ?_
    rintro e w1 ⟨rfl, hb1⟩
    have B1 := Lib.hid (HS.out.on hb1).2.2
    clear hb1
    go_wp2
    go_ret
    exact ⟨ret_int HE.out.symm, B1.out⟩
  · obtain ⟨h3, h7⟩ := aciB_n h
    obtain ⟨m, rfl⟩ : ∃ m : Nat, n = m := ⟨n.toNat, by omega⟩
    have h7 : m ≤ 7 := by omega
    have har := matB_ar (aciB_mat h)
    have HE : Hid (emptyN m s.data.toList = (emptyTo (sgnF (lookS m s.data.toList)) m (cnt m) : Nat)) := Lib.hid (by unfold emptyN; rw [if_pos h, ordF_yes h, Int.toNat_natCast])
    rw [HE.out]
    have HIN : Hid (∀ a b c : Nat, a < b → b < c → c < m → ∀ W, Calls Try.prog 96 #[sg m s, .int .i64 a, .int .i64 b, .int .i64 c] W fun e w' => e = .returned (.int .i64 (cntI (sgnF (lookS m s.data.toList)) a b c m)) ∧ Below W.heap.size W w') := Lib.hid (fun a b c h1 h2 h3 W => l5Inside_any m s a b c har (by omega) (by omega) (by omega) (by omega) (by omega) (by omega) W)
    rw [h] at HA
    generalize sgnF (lookS m s.data.toList) = F at HIN ⊢
    clear h har HE
    have HLE := Lib.hid (fun i j k => emptyU_le h7 F i j k)
    go_enter Try.func51, Try.ntmps51
    go_wp2_with fail
    refine (HA.out _).mono ?_
    rintro e w1 ⟨rfl, hb1⟩
    have X1 := Lib.hid (HS.out.on hb1)
    clear hb1
    go_wp2
    go_loopw [3, 4] (fun cv x wr => ∃ a : Nat, a ≤ m ∧ x = .int .i64 a ∧ cv = .int .i64 (emptyU F m a (a + 1) (a + 1 + 1) : Nat) ∧ Hid (Box w m s wr)) (fun _ x _ => m - (intOf x).toNat)
    case atStart => exact ⟨0, Nat.zero_le _, rfl, by rw [emptyU_zero h7]; rfl, X1⟩
    case round =>
      obtain ⟨a, han, rfl, rfl, HB⟩ := hrel
      obtain ⟨c0, c1, B0⟩ := HB.out
      by_cases hlt : a < m
      · go_wp2
        go_loopw [3, 5] (fun cv x wr => ∃ b : Nat, a < b ∧ b ≤ m ∧ x = .int .i64 b ∧ cv = .int .i64 (emptyU F m a b (b + 1) : Nat) ∧ Hid (Box w m s wr)) (fun _ x _ => m - (intOf x).toNat)
        case atStart => exact ⟨a + 1, by omega, by omega, by go_num, rfl, HB⟩
        case round =>
          obtain ⟨b, hab, hbn, rfl, rfl, HB⟩ := hrel
          obtain ⟨c0, c1, B0⟩ := HB.out
          by_cases hlt2 : b < m
          · go_wp2
            go_loopw [3, 6] (fun cv x wr => ∃ c : Nat, b < c ∧ c ≤ m ∧ x = .int .i64 c ∧ cv = .int .i64 (emptyU F m a b c : Nat) ∧ Hid (Box w m s wr)) (fun _ x _ => m - (intOf x).toNat)
            case atStart => exact ⟨b + 1, by omega, by omega, by go_num, rfl, HB⟩
            case round =>
              obtain ⟨c, hbc, hcn, rfl, rfl, HB⟩ := hrel
              obtain ⟨c0, c1, B0⟩ := HB.out
              have hle := HLE.out a b c
              by_cases hlt3 : c < m
              · have HC := Lib.hid (HIN.out a b c hab hbc hlt3)
                have HN := Lib.hid (emptyU_step h7 F hab hbc hlt3)
                generalize cntI F a b c m = k at HC HN
                have hbl := bit_le (k == 0)
                have ht : ((k : Int) == 0) = (k == 0) := by cases k <;> rfl
                generalize (k == 0) = z at HN hbl ht
                go_wp2_with fail
                refine (HC.out _).mono ?_
                rintro e w2 ⟨rfl, hb2⟩
                have HB2 := Lib.hid (HB.out.on hb2)
                clear hb2
                go_wp2_with (go_at_call 98; refine (l1Bit_any _ _).mono ?_; rintro e w' ⟨rfl, rfl⟩)
                exact ⟨⟨c + 1, by omega, by omega, by go_num, by rw [HN.out]; go_num, HB2⟩, by simp only [intOf]; omega⟩
              · have HN := Lib.hid (emptyU_inner h7 F hab hlt2)
                obtain rfl : c = m := by omega
                go_wp2
                exact ⟨⟨b + 1, by omega, by omega, by go_num, by rw [HN.out], HB⟩, by simp only [intOf]; omega⟩
          · have HN := Lib.hid (emptyU_mid h7 F hlt)
            obtain rfl : b = m := by omega
            go_wp2
            exact ⟨⟨a + 1, by omega, by go_num, by rw [HN.out], HB⟩, by simp only [intOf]; omega⟩
      · have HN := Lib.hid (emptyU_end h7 F)
        obtain rfl : a = m := by omega
        go_wp2
        go_ret
        exact ⟨ret_int (by rw [HN.out]), B0⟩
end Go.Proofs.Ytlhkgabglddlhaa.Sg
