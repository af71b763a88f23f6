/- Several texts in one: HuIn, HuExt, HuSpec. -/
import Derived.Test.YtinlnafkmoabbaaGreatDoorMgPl
import Derived.Test.YtinlnafkmoabbaaGreatDoorMgR
import Derived.Test.YtinlnafkmoabbaaGreatDoorMgO
/- Hulls, as spec tells them: l6Has, l6In. -/
namespace Go.Proofs.YtinlnafkmoabbaaGreatDoor.Sg
open Go.RowKit Pt NewI
theorem bits_andH (a : Nat) (ha : a < 1024) : bits BinOp.and IntKind.i64 (a : Int) 1 = ((a % 2 : Nat) : Int) := by
  show IntKind.i64.wrap ((BitVec.ofInt 64 a &&& BitVec.ofInt 64 (1 : Nat)).toNat : Int) = _
  rw [BitVec.toNat_and, BitVec.ofInt_natCast, BitVec.ofInt_natCast, BitVec.toNat_ofNat, BitVec.toNat_ofNat, Nat.mod_eq_of_lt (by omega), Nat.mod_eq_of_lt (by omega), Nat.and_one_is_mod, IntKind.wrap_i64]
  omega
theorem has_bits (set k : Nat) (hs : set < 1024) : bits BinOp.and IntKind.i64 ((set : Int) / 2 ^ k) 1 = if set.testBit k = true then 1 else 0 := by
  rw [← shr_div, bits_andH _ (odd3_le set hs k), Nat.shiftRight_eq_div_pow, Nat.testBit_eq_decide_div_mod_eq]
  by_cases h : set / 2 ^ k % 2 = 1
  · rw [h]; simp
  · have : set / 2 ^ k % 2 = 0 := by omega
    rw [this]; simp
set_option maxRecDepth 100000 in
theorem l6Has_any (set k : Nat) (hs : set < 1024) (hk : k < 64) (w : World) :
    Calls Tryz.prog 91 #[.int .i64 set, .int .i64 k] w fun e w' => e = .returned (.bool (set.testBit k)) ∧ w = w' := by
  have hb := has_bits set k hs
  cases ht : set.testBit k
  all_goals
    rw [ht] at hb
    simp only [if_true, Bool.false_eq_true, if_false] at hb
    clear ht
    go_enter Tryz.func91, Tryz.ntmps91
    go_wp2
    go_ret
    exact ⟨rfl, rfl⟩
/-- Do three elements of a set hold p inside? -/
def hitT (F : Int → Int → Int → Int) (set p : Nat) (t : T3) : Bool := set.testBit t.1 && (set.testBit t.2.1 && (set.testBit t.2.2 && isIn (cir F p t.1 t.2.1 t.2.2)))
def inT (F : Int → Int → Int → Int) (n set p : Nat) : Bool := (threes n).any (hitT F set p)
def inU (F : Int → Int → Int → Int) (n set p i j k : Nat) : Bool := (upto n i j k).any (hitT F set p)
section
variable {F : Int → Int → Int → Int} {n set p i j k : Nat}
theorem inU_zero (h7 : n ≤ 7) : inU F n set p 0 (0 + 1) (0 + 1 + 1) = false := by unfold inU; rw [upto_zero n (by omega)]; rfl
theorem inU_step (h7 : n ≤ 7) (h1 : i < j) (h2 : j < k) (h3 : k < n) : inU F n set p i j (k + 1) = (inU F n set p i j k || hitT F set p (i, j, k)) := by
  unfold inU; rw [upto_step h7 h1 h2 h3, List.any_append]; simp
theorem inU_inner (h7 : n ≤ 7) (h1 : i < j) (h2 : j < n) : inU F n set p i j n = inU F n set p i (j + 1) (j + 1 + 1) := by unfold inU; rw [upto_inner h7 h1 h2]
theorem inU_mid (h7 : n ≤ 7) (h1 : i < n) : inU F n set p i n (n + 1) = inU F n set p (i + 1) (i + 1 + 1) (i + 1 + 1 + 1) := by unfold inU; rw [upto_mid h7 h1]
theorem inU_end (h7 : n ≤ 7) : inU F n set p n (n + 1) (n + 1 + 1) = inT F n set p := by unfold inU inT; rw [upto_end h7]
theorem inU_sub (h : inU F n set p i j k = true) : inT F n set p = true := by
  unfold inU inT at *
  obtain ⟨t, ht, hh⟩ := List.any_eq_true.1 h
  exact List.any_eq_true.2 ⟨t, (List.mem_filter.1 ht).1, hh⟩
end
set_option maxHeartbeats 6400000 in
set_option maxRecDepth 100000 in
theorem l6In_any (n : Nat) (s : ByteArray) (h : aciB n s.data.toList = true) (set p : Nat) (hset : set < 1024) (hp : p < n) (w : World) :
    Calls Tryz.prog 149 #[sg n s, .int .i64 set, .int .i64 p] w fun e w' => e = .returned (.bool (inT (sgnF (lookS n s.data.toList)) n set p)) ∧ Below w.heap.size w w' := by
  have har := matB_ar (aciB_mat h)
  obtain ⟨_, h7, -, -⟩ := arB_yes har
  have h7 : n ≤ 7 := by omega
  have HS := Lib.hid (box_made w n s 25)
  have HTW : Hid (∀ a b c : Nat, p = a ∨ p = b ∨ p = c → isIn (cir (sgnF (lookS n s.data.toList)) p a b c) = false) := Lib.hid (fun a b c hp => isIn_twice har (by omega))
  have HIN : Hid (∀ a b c : Nat, a < b → b < c → c < n → p ≠ a → p ≠ b → p ≠ c → ∃ y : Int, (y == (p : Int)) = isIn (cir (sgnF (lookS n s.data.toList)) p a b c) ∧ ∀ g W, Cells W g 4 (zc [(p : Int), (a : Int), (b : Int), (c : Int)]) → Calls Tryz.prog 148 #[sg n s, .slice (some ⟨g, 0, none⟩) 4 4] W fun e w' => e = .returned (.int .i64 y) ∧ Below W.heap.size W w') := Lib.hid (fun a b c h1 h2 h3 n1 n2 n3 =>
    ⟨_, inn4_isIn (by omega) (by omega) (by omega) (by omega), fun g W hW => l5Inner_any n s p a b c har hp (by omega) (by omega) (by omega) n1 n2 n3 (by omega) (by omega) (by omega) g 4 W hW⟩)
  have HHA := Lib.hid (fun (k : Nat) (hk : k < 64) W => l6Has_any set k hset hk W)
  generalize sgnF (lookS n s.data.toList) = F at HTW HIN ⊢
  clear h har
  go_enter Tryz.func149, Tryz.ntmps149
  go_wp2
  go_loopw [7] (fun x wr => ∃ a : Nat, a ≤ n ∧ x = .int .i64 a ∧ Hid (inU F n set p a (a + 1) (a + 1 + 1) = false) ∧ Hid (Box w n s wr)) (fun x _ => n - (intOf x).toNat)
  case atStart => exact ⟨0, Nat.zero_le _, rfl, Lib.hid (inU_zero h7), HS⟩
  case round =>
    obtain ⟨a, han, rfl, HU, HB⟩ := hrel
    obtain ⟨c0, c1, B0⟩ := HB.out
    by_cases hlt : a < n
    · go_wp2
      go_loopw [8] (fun x wr => ∃ b : Nat, a < b ∧ b ≤ n ∧ x = .int .i64 b ∧ Hid (inU F n set p a b (b + 1) = false) ∧ Hid (Box w n s wr)) (fun x _ => n - (intOf x).toNat)
      case atStart => exact ⟨a + 1, by omega, by omega, by go_num, HU, HB⟩
      case round =>
        obtain ⟨b, hab, hbn, rfl, HU, HB⟩ := hrel
        obtain ⟨c0, c1, B0⟩ := HB.out
        by_cases hlt2 : b < n
        · go_wp2
          go_loopw [9] (fun x wr => ∃ c : Nat, b < c ∧ c ≤ n ∧ x = .int .i64 c ∧ Hid (inU F n set p a b c = false) ∧ Hid (Box w n s wr)) (fun x _ => n - (intOf x).toNat)
          case atStart => exact ⟨b + 1, by omega, by omega, by go_num, HU, HB⟩
          case round =>
            obtain ⟨c, hbc, hcn, rfl, HU, HB⟩ := hrel
            obtain ⟨c0, c1, B0⟩ := HB.out
            by_cases hlt3 : c < n
            · have HN := Lib.hid (inU_step (F := F) (set := set) (p := p) h7 hab hbc hlt3)
              have HNO : Hid (hitT F set p (a, b, c) = false → inU F n set p a b (c + 1) = false) := Lib.hid (fun e => by rw [HN.out, HU.out, e]; rfl)
              have HYES : Hid (hitT F set p (a, b, c) = true → inT F n set p = true) := Lib.hid (fun e => inU_sub (i := a) (j := b) (k := c + 1) (by rw [HN.out, e]; simp))
              have HA := Lib.hid (HHA.out a (by omega))
              have HBT := Lib.hid (HHA.out b (by omega))
              have HCT := Lib.hid (HHA.out c (by omega))
              by_cases e1 : p = a
              · have HU2 := Lib.hid (HNO.out (by unfold hitT; simp [HTW.out a b c (.inl e1)]))
                have t1 : ((p : Int) != (a : Int)) = false := by simp; omega
                clear e1
                go_wp2
                exact ⟨⟨c + 1, by omega, by omega, by go_num, HU2, HB⟩, by simp only [intOf]; omega⟩
              · have t1 : ((p : Int) != (a : Int)) = true := by simp; omega
                by_cases e2 : p = b
                · have HU2 := Lib.hid (HNO.out (by unfold hitT; simp [HTW.out a b c (.inr (.inl e2))]))
                  have t2 : ((p : Int) != (b : Int)) = false := by simp; omega
                  clear e1 e2
                  go_wp2
                  exact ⟨⟨c + 1, by omega, by omega, by go_num, HU2, HB⟩, by simp only [intOf]; omega⟩
                · have t2 : ((p : Int) != (b : Int)) = true := by simp; omega
                  by_cases e3 : p = c
                  · have HU2 := Lib.hid (HNO.out (by unfold hitT; simp [HTW.out a b c (.inr (.inr e3))]))
                    have t3 : ((p : Int) != (c : Int)) = false := by simp; omega
                    clear e1 e2 e3
                    go_wp2
                    exact ⟨⟨c + 1, by omega, by omega, by go_num, HU2, HB⟩, by simp only [intOf]; omega⟩
                  · have t3 : ((p : Int) != (c : Int)) = true := by simp; omega
                    obtain ⟨y, hy, hcall⟩ := HIN.out a b c hab hbc hlt3 e1 e2 e3
                    have HCALL := Lib.hid hcall
                    have HY := Lib.hid hy
                    clear hcall hy e1 e2 e3
                    cases ta : set.testBit a
                    · have HU2 := Lib.hid (HNO.out (by unfold hitT; rw [ta]; rfl))
                      rw [ta] at HA
                      clear ta
                      go_wp2_with fail
                      refine (HA.out _).mono ?_
                      rintro e w' ⟨rfl, rfl⟩
                      go_wp2
                      exact ⟨⟨c + 1, by omega, by omega, by go_num, HU2, HB⟩, by simp only [intOf]; omega⟩
                    · cases tb : set.testBit b
                      · have HU2 := Lib.hid (HNO.out (by unfold hitT; rw [tb]; simp))
                        rw [ta] at HA
                        rw [tb] at HBT
                        clear ta tb
                        go_wp2_with fail
                        refine (HA.out _).mono ?_
                        rintro e w' ⟨rfl, rfl⟩
                        go_wp2_with fail
                        refine (HBT.out _).mono ?_
                        rintro e w' ⟨rfl, rfl⟩
                        go_wp2
                        exact ⟨⟨c + 1, by omega, by omega, by go_num, HU2, HB⟩, by simp only [intOf]; omega⟩
                      · cases tc : set.testBit c
                        · have HU2 := Lib.hid (HNO.out (by unfold hitT; rw [tc]; simp))
                          rw [ta] at HA
                          rw [tb] at HBT
                          rw [tc] at HCT
                          clear ta tb tc
                          go_wp2_with fail
                          refine (HA.out _).mono ?_
                          rintro e w' ⟨rfl, rfl⟩
                          go_wp2_with fail
                          refine (HBT.out _).mono ?_
                          rintro e w' ⟨rfl, rfl⟩
                          go_wp2_with fail
                          refine (HCT.out _).mono ?_
                          rintro e w' ⟨rfl, rfl⟩
                          go_wp2
                          exact ⟨⟨c + 1, by omega, by omega, by go_num, HU2, HB⟩, by simp only [intOf]; omega⟩
                        · have hhit : hitT F set p (a, b, c) = isIn (cir F p a b c) := by unfold hitT; rw [ta, tb, tc]; rfl
                          rw [← HY.out] at hhit
                          rw [ta] at HA
                          rw [tb] at HBT
                          rw [tc] at HCT
                          rw [hhit] at HNO HYES
                          clear ta tb tc hhit HY
                          have G1 := Lib.hid (cells4_made wr p a b c 3)
                          have X1 := Lib.hid (HB.out.alloc (.cells #[.int .i64 p, .int .i64 a, .int .i64 b, .int .i64 c] 3))
                          cases hq : (y == (p : Int))
                          · have HU2 := Lib.hid (HNO.out hq)
                            go_wp2_with fail
                            refine (HA.out _).mono ?_
                            rintro e w' ⟨rfl, rfl⟩
                            go_wp2_with fail
                            refine (HBT.out _).mono ?_
                            rintro e w' ⟨rfl, rfl⟩
                            go_wp2_with fail
                            refine (HCT.out _).mono ?_
                            rintro e w' ⟨rfl, rfl⟩
                            go_wp2_with fail
                            refine (HCALL.out _ _ G1.out).mono ?_
                            rintro e w2 ⟨rfl, hb2⟩
                            have X2 := Lib.hid (X1.out.on hb2)
                            clear hb2
                            go_wp2
                            exact ⟨⟨c + 1, by omega, by omega, by go_num, HU2, X2⟩, by simp only [intOf]; omega⟩
                          · have HE := Lib.hid (HYES.out hq)
                            go_wp2_with fail
                            refine (HA.out _).mono ?_
                            rintro e w' ⟨rfl, rfl⟩
                            go_wp2_with fail
                            refine (HBT.out _).mono ?_
                            rintro e w' ⟨rfl, rfl⟩
                            go_wp2_with fail
                            refine (HCT.out _).mono ?_
                            rintro e w' ⟨rfl, rfl⟩
                            go_wp2_with fail
                            refine (HCALL.out _ _ G1.out).mono ?_
                            rintro e w2 ⟨rfl, hb2⟩
                            have B2 := Lib.hid (X1.out.on hb2).2.2
                            clear hb2
                            go_wp2
                            go_ret
                            exact ⟨ret_bool HE.out.symm, B2.out⟩
            · have HN := Lib.hid (inU_inner (F := F) (set := set) (p := p) h7 hab hlt2)
              obtain rfl : c = n := by omega
              go_wp2
              exact ⟨⟨b + 1, by omega, by omega, by go_num, Lib.hid (by rw [← HN.out]; exact HU.out), HB⟩, by simp only [intOf]; omega⟩
        · have HN := Lib.hid (inU_mid (F := F) (set := set) (p := p) h7 hlt)
          obtain rfl : b = n := by omega
          go_wp2
          exact ⟨⟨a + 1, by omega, by go_num, Lib.hid (by rw [← HN.out]; exact HU.out), HB⟩, by simp only [intOf]; omega⟩
    · have HN := Lib.hid (inU_end (F := F) (set := set) (p := p) h7)
      obtain rfl : a = n := by omega
      go_wp2
      go_ret
      exact ⟨ret_bool (by rw [← HN.out]; exact HU.out.symm), B0⟩
end Go.Proofs.YtinlnafkmoabbaaGreatDoor.Sg
/- Hulls, as spec tells them: l6Extreme, l6List. -/
namespace Go.Proofs.YtinlnafkmoabbaaGreatDoor.Sg
open Go.RowKit Pt NewI
/-- The extreme elements of a set among the first. -/
def extTo (F : Int → Int → Int → Int) (n set : Nat) : Nat → Nat
  | 0 => 0
  | p + 1 => extTo F n set p + (if (set.testBit p && !inT F n set p) = true then 2 ^ p else 0)
def extS (F : Int → Int → Int → Int) (n set : Nat) : Nat := extTo F n set n
theorem extTo_lt (F : Int → Int → Int → Int) (n set : Nat) : ∀ p, extTo F n set p < 2 ^ p
  | 0 => by unfold extTo; omega
  | p + 1 => by
    have := extTo_lt F n set p
    unfold extTo
    rw [Nat.pow_succ]
    split <;> omega
theorem extTo_bit (F : Int → Int → Int → Int) (n set : Nat) : ∀ p j, (extTo F n set p).testBit j = (decide (j < p) && (set.testBit j && !inT F n set j))
  | 0, j => by unfold extTo; simp
  | p + 1, j => by
    have hlt := extTo_lt F n set p
    have ih := extTo_bit F n set p j
    unfold extTo
    by_cases hc : (set.testBit p && !inT F n set p) = true
    · rw [if_pos hc, Nat.add_comm]
      rcases Nat.lt_trichotomy j p with h | h | h
      · rw [Nat.testBit_two_pow_add_gt h, ih]
        simp [h, Nat.lt_succ_of_lt h]
      · subst h
        rw [Nat.testBit_two_pow_add_eq, ih, hc]
        simp
      · rw [Nat.testBit_lt_two_pow (Nat.lt_of_lt_of_le (show 2 ^ p + extTo F n set p < 2 ^ (p + 1) by rw [Nat.pow_succ]; omega) (Nat.pow_le_pow_right (by omega) (by omega)))]
        simp; omega
    · rw [if_neg hc, Nat.add_zero, ih]
      by_cases h : j = p
      · subst h; simp at hc ⊢; exact hc
      · have : decide (j < p + 1) = decide (j < p) := by simp; omega
        rw [this]
theorem pow_le7 {p : Nat} (h : p ≤ 7) : 2 ^ p ≤ 128 := by
  have := Nat.pow_le_pow_right (n := 2) (by omega) h
  omega
set_option maxHeartbeats 3200000 in
set_option maxRecDepth 100000 in
theorem l6Extreme_any (n : Nat) (s : ByteArray) (h : aciB n s.data.toList = true) (set : Nat) (hset : set < 1024) (w : World) :
    Calls Tryz.prog 108 #[sg n s, .int .i64 set] w fun e w' => e = .returned (.int .i64 (extS (sgnF (lookS n s.data.toList)) n set : Nat)) ∧ Below w.heap.size w w' := by
  obtain ⟨_, h7, -, -⟩ := arB_yes (matB_ar (aciB_mat h))
  have h7 : n ≤ 7 := by omega
  have HS := Lib.hid (box_made w n s 25)
  have HIN := Lib.hid (fun (p : Nat) (hp : p < n) W => l6In_any n s h set p hset hp W)
  have HHA := Lib.hid (fun (k : Nat) (hk : k < 64) W => l6Has_any set k hset hk W)
  generalize sgnF (lookS n s.data.toList) = F at HIN ⊢
  have HLT := Lib.hid (extTo_lt F n set)
  have HYES : Hid (∀ p, set.testBit p = true → inT F n set p = false → extTo F n set (p + 1) = extTo F n set p + 2 ^ p) := Lib.hid (fun p h1 h2 => by show extTo F n set p + _ = _; rw [h1, h2]; rfl)
  have HNO : Hid (∀ p, set.testBit p = false ∨ inT F n set p = true → extTo F n set (p + 1) = extTo F n set p) := Lib.hid (fun p h1 => by
    show extTo F n set p + _ = _
    rcases h1 with h1 | h1 <;> rw [h1] <;> simp)
  clear h
  go_enter Tryz.func108, Tryz.ntmps108
  go_wp2
  go_loopw [5, 6] (fun o x wr => ∃ p : Nat, p ≤ n ∧ x = .int .i64 p ∧ o = .int .i64 (extTo F n set p : Nat) ∧ Hid (Box w n s wr)) (fun _ x _ => n - (intOf x).toNat)
  case atStart => exact ⟨0, Nat.zero_le _, rfl, rfl, HS⟩
  case round =>
    obtain ⟨p, hp, rfl, rfl, HB⟩ := hrel
    obtain ⟨c0, c1, B0⟩ := HB.out
    by_cases hlt : p < n
    · have HA := Lib.hid (HHA.out p (by omega))
      have HC := Lib.hid (HIN.out p hlt)
      cases ta : set.testBit p
      · have HN := Lib.hid (HNO.out p (.inl ta))
        rw [ta] at HA
        clear ta
        go_wp2_with fail
        refine (HA.out _).mono ?_
        rintro e w' ⟨rfl, rfl⟩
        go_wp2
        exact ⟨⟨p + 1, by omega, by go_num, by rw [HN.out], HB⟩, by simp only [intOf]; omega⟩
      · cases hi : inT F n set p
        · have hN := HYES.out p ta hi
          rw [ta] at HA
          rw [hi] at HC
          have hl := HLT.out p
          have hpw := pow_le7 (p := p) (by omega)
          have hcast : ((2 ^ p : Nat) : Int) = (2 : Int) ^ p := by push_cast; rfl
          generalize extTo F n set p = x at hN hl ⊢
          have HXP := Lib.hid hN
          obtain ⟨P, hP⟩ : ∃ P : Nat, P = 2 ^ p := ⟨_, rfl⟩
          have HPN := Lib.hid hP
          rw [← hP] at hl hpw hcast
          have v1 : IntKind.i64.wrap ((2 : Int) ^ p) = (P : Int) := by rw [← hcast]; exact IntWalk.i64_in _ (by omega)
          clear ta hi hN hP hcast
          go_wp2_with fail
          refine (HA.out _).mono ?_
          rintro e w' ⟨rfl, rfl⟩
          go_wp2_with fail
          refine (HC.out _).mono ?_
          rintro e w2 ⟨rfl, hb2⟩
          have X2 := Lib.hid (HB.out.on hb2)
          clear hb2 c0 c1
          obtain ⟨c0, c1, -⟩ := X2.out
          go_wp2
          exact ⟨⟨p + 1, by omega, by go_num, by rw [HXP.out, ← HPN.out]; go_num, X2⟩, by simp only [intOf]; omega⟩
        · have HN := Lib.hid (HNO.out p (.inr hi))
          rw [ta] at HA
          rw [hi] at HC
          clear ta hi
          go_wp2_with fail
          refine (HA.out _).mono ?_
          rintro e w' ⟨rfl, rfl⟩
          go_wp2_with fail
          refine (HC.out _).mono ?_
          rintro e w2 ⟨rfl, hb2⟩
          have X2 := Lib.hid (HB.out.on hb2)
          clear hb2 c0 c1
          go_wp2
          exact ⟨⟨p + 1, by omega, by go_num, by rw [HN.out], X2⟩, by simp only [intOf]; omega⟩
    · obtain rfl : p = n := by omega
      go_wp2
      go_ret
      exact ⟨rfl, B0⟩
set_option maxHeartbeats 3200000 in
set_option maxRecDepth 100000 in
theorem l6List_own (set : Nat) (hset : set < 1024) (w : World) :
    Calls Tryz.prog 107 #[.int .i64 set] w fun e w' => (∃ v, e = .returned v ∧ OwnsZ w' w.heap.size v (setsTo set.testBit 7)) ∧ Below w.heap.size w w' := by
  have HHA := Lib.hid (fun (k : Nat) (hk : k < 64) W => l6Has_any set k hset hk W)
  have HSL := Lib.hid (setsTo_length set.testBit)
  have HH := Lib.hid (fun p => setsTo_hit (q := set.testBit) (p := p))
  have HMI := Lib.hid (fun p => setsTo_miss (q := set.testBit) (p := p))
  obtain ⟨i0, hi, hz0, hz1, hz2⟩ := info_parts infoI
  generalize set.testBit = q at HHA HSL HH HMI ⊢
  have HO0 : Hid (OwnsZ (w.alloc (.cells #[] 3)) w.heap.size (.slice (some ⟨w.heap.size, 0, none⟩) 0 0) (setsTo q 0)) := Lib.hid (World.ownsRow_made (base := w.heap.size) (e := 3) (size := 1) w #[] 0 (Nat.le_refl _) (by decide) rfl)
  have HB0 : Hid (Below w.heap.size w (w.alloc (.cells #[] 3))) := Lib.hid ((Below.refl _ _).alloc (Nat.le_refl _) _)
  go_enter Tryz.func107, Tryz.ntmps107
  go_wp2
  go_loopw [3, 4] (fun vv c wr => ∃ p : Nat, p ≤ 7 ∧ c = .int .i64 p ∧ Hid (OwnsZ wr w.heap.size vv (setsTo q p)) ∧ Hid (Below w.heap.size w wr)) (fun _ c _ => 7 - (intOf c).toNat)
  case atStart => exact ⟨0, Nat.zero_le _, rfl, HO0, HB0⟩
  case round =>
    obtain ⟨p, hp, rfl, HO, HB⟩ := hrel
    have hwr := HB.out.size
    by_cases hlt : p < 7
    · have hpl := HSL.out p
      have HA := Lib.hid (HHA.out p (by omega))
      cases hq : q p
      · rw [hq] at HA
        have HE := Lib.hid (HMI.out p hq)
        have HO5 := HO
        rw [← HE.out] at HO5
        clear hq
        go_wp2_with fail
        refine (HA.out _).mono ?_
        rintro e w' ⟨rfl, rfl⟩
        go_wp2
        exact ⟨⟨p + 1, by omega, by go_num, HO5, HB⟩, by simp only [intOf]; omega⟩
      · rw [hq] at HA
        have HE := Lib.hid (HH.out p hq)
        clear hq
        go_wp2_with fail
        refine (HA.out _).mono ?_
        rintro e w' ⟨rfl, rfl⟩
        go_wp2_with (at_builtin; refine wpList_append_own _ rfl (.tmp 13) (.tmp 15) 27 rfl w.heap.size 3 i0 _ 1 8 Tryz.underlying27 hi hz0 hz1 hz2 rfl (by decide) _ _ _ rfl (World.ownsRow.alloc HO.out _) ⟨_, 0, none⟩ 1 1 [.int .i64 (p : Int)] rfl rfl (news1 _ _ _) (one1 _) (by simp only [maxLen]; omega) (by omega) (by simp; omega) ?_)
        intro v6 w6 hown6 hg6 _
        have HB6 := Lib.hid ((HB.out.alloc hwr (.cells #[.int .i64 (p : Int)] 3)).grown hg6 (by simp; omega) (fun k hk => (World.ownsRow.lt HO.out k hk).1))
        have HO6 : Hid (OwnsZ w6 w.heap.size v6 (setsTo q p ++ [(p : Int)])) := Lib.hid (ownsZ_snoc (ys := [(p : Int)]) hown6)
        rw [← HE.out] at HO6
        clear hown6 hg6
        go_wp2
        exact ⟨⟨p + 1, by omega, by go_num, HO6, HB6⟩, by simp only [intOf]; omega⟩
    · obtain rfl : p = 7 := by omega
      obtain ⟨ra, rc, rfl, hnew, -⟩ := New.of_own HO.out
      clear hnew
      go_wp2
      go_ret
      exact ⟨⟨_, rfl, HO.out⟩, HB.out⟩
theorem l6List_any (set : Nat) (hset : set < 1024) (w : World) :
    Calls Tryz.prog 107 #[.int .i64 set] w fun e w' => Got w.heap.size (setsTo set.testBit 7) e w' ∧ Below w.heap.size w w' :=
  (l6List_own set hset w).mono fun e w' ⟨⟨v, he, ho⟩, hb⟩ => by
    obtain ⟨a, c, hv, hn, -⟩ := New.of_own ho
    exact ⟨⟨a, c, by rw [he, hv], hn⟩, hb⟩
end Go.Proofs.YtinlnafkmoabbaaGreatDoor.Sg
/- Hulls, as spec tells them: IsExtreme, HullSize, InHull, l6Left. -/
namespace Go.Proofs.YtinlnafkmoabbaaGreatDoor.Sg
open Go.RowKit Pt NewI
/-- All elements. -/
def allS (n : Int) : Nat := 2 ^ n.toNat - 1
/-- How the set of all elements is reckoned. -/
structure AllS (m M : Nat) : Prop where
  le : 8 ≤ M ∧ M ≤ 128
  pw : IntKind.i64.wrap ((2 : Int) ^ m) = (M : Int)
  eq : 2 ^ m - 1 = M - 1
  cast : ((M - 1 : Nat) : Int) = (M : Int) - 1
theorem allS_of {m : Nat} (h3 : 3 ≤ m) (h7 : m ≤ 7) : ∃ M : Nat, AllS m M := by
  refine ⟨2 ^ m, ⟨Nat.pow_le_pow_right (n := 2) (by omega) h3, pow_le7 h7⟩, ?_, rfl, ?_⟩
  · have hcast : ((2 ^ m : Nat) : Int) = (2 : Int) ^ m := by push_cast; rfl
    have := pow_le7 h7
    rw [← hcast]
    clear hcast
    generalize 2 ^ m = M at this ⊢
    exact IntWalk.i64_in _ (by omega)
  · have := Nat.pow_le_pow_right (n := 2) (by omega) h3
    omega
/-- What HullSize answers. -/
def hszZ (n : Int) (s : List UInt8) : Int := if aciB n s = true then ((setsTo (extS (sgnF (lookS n s)) n.toNat (allS n)).testBit 7).length : Nat) else -1
set_option maxHeartbeats 3200000 in
set_option maxRecDepth 100000 in
theorem specHullSize (n : Int) (s : ByteArray) (hs : s.size ≤ 9223372036854775807) (w : World) :
    Calls Tryz.prog 50 #[sg n s] w fun e w' => e = .returned (.int .i64 (hszZ n s.data.toList)) ∧ Below w.heap.size w w' := by
  have HA := Lib.hid (fun W => specAci n s hs W)
  have HS := Lib.hid (box_made w n s 25)
  obtain ⟨x0, x1, -⟩ := HS.out
  cases h : aciB n s.data.toList
  · have HE : Hid (hszZ n s.data.toList = -1) := Lib.hid (by unfold hszZ; rw [h]; rfl)
    rw [h] at HA
    clear h
    go_enter Tryz.func50, Tryz.ntmps50
    go_wp2_with fail
    refine (HA.out _).mono ?_
    rintro e w1 ⟨rfl, hb1⟩
    have B1 := Lib.hid (HS.out.on hb1).2.2
    clear hb1 x0 x1
    go_wp2
    go_ret
    exact ⟨ret_int HE.out.symm, B1.out⟩
  · obtain ⟨h3, h7⟩ := aciB_n h
    obtain ⟨m, rfl⟩ : ∃ m : Nat, n = m := ⟨n.toNat, by omega⟩
    obtain ⟨M, hM⟩ := allS_of (m := m) (by omega) (by omega)
    obtain ⟨⟨hM8, hMl⟩, v2, hMe, hMc⟩ := hM
    have HC := Lib.hid (fun W => l6Extreme_any m s h (M - 1) (by omega) W)
    rw [hMc] at HC
    have hel := Nat.lt_of_lt_of_le (extTo_lt (sgnF (lookS m s.data.toList)) m (M - 1) m) (pow_le7 (by omega))
    have HLI := Lib.hid (fun W => l6List_any (extS (sgnF (lookS m s.data.toList)) m (M - 1)) (by unfold extS; omega) W)
    have HE : Hid (hszZ m s.data.toList = ((setsTo (extS (sgnF (lookS m s.data.toList)) m (M - 1)).testBit 7).length : Nat)) := Lib.hid (by unfold hszZ allS; rw [if_pos h, Int.toNat_natCast, hMe])
    rw [HE.out]
    rw [h] at HA
    generalize extS (sgnF (lookS m s.data.toList)) m (M - 1) = x at HC HLI ⊢
    generalize setsTo x.testBit 7 = zs at HLI ⊢
    have v3 : IntKind.i64.wrap ((M : Int) - 1) = (M : Int) - 1 := IntWalk.i64_in _ (by omega)
    clear h HE hMe hMc hel
    go_enter Tryz.func50, Tryz.ntmps50
    go_wp2_with fail
    refine (HA.out _).mono ?_
    rintro e w1 ⟨rfl, hb1⟩
    have X1 := Lib.hid (HS.out.on hb1)
    clear hb1 x0 x1
    obtain ⟨x0, x1, -⟩ := X1.out
    go_wp2_with fail
    refine (HC.out _).mono ?_
    rintro e w2 ⟨rfl, hb2⟩
    have X2 := Lib.hid (X1.out.on hb2)
    clear hb2 x0 x1
    go_wp2_with fail
    refine (HLI.out _).mono ?_
    rintro e w3 ⟨⟨la, lc, rfl, -⟩, hb3⟩
    have X3 := Lib.hid (X2.out.on hb3)
    clear hb3
    go_wp2
    go_ret
    exact ⟨rfl, X3.out.2.2⟩
end Go.Proofs.YtinlnafkmoabbaaGreatDoor.Sg
