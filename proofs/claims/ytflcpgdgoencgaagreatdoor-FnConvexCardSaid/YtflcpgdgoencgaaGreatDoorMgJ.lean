/- Several texts in one: CvSpec, CvSets, CvSums, CvChain, CvCaps. -/
import Derived.Test.YtflcpgdgoencgaaGreatDoorMgY
import Derived.Test.YtflcpgdgoencgaaGreatDoorMgN
import Derived.Test.YtflcpgdgoencgaaGreatDoorMgM
import Derived.Test.YtflcpgdgoencgaaGreatDoorMgE
import Derived.Deep.DeepCutAuto
/- Convex sets, as spec tells them: l8Convex, l8Empty, IsConvexSet. -/
namespace Go.Proofs.YtflcpgdgoencgaaGreatDoor.Sg
open Go.RowKit Pt NewI
set_option maxHeartbeats 1600000 in
set_option maxRecDepth 100000 in
theorem l8Convex_any (n : Nat) (s : ByteArray) (h : aciB n s.data.toList = true) (S : Nat) (hS : S < 128) (w : World) :
    Calls Tryz.prog 65 #[sg n s, .int .i64 S] w fun e w' => e = .returned (.bool (cvS (sgnF (lookS n s.data.toList)) n S)) ∧ Below w.heap.size w w' := by
  have HS := Lib.hid (box_made w n s 25)
  have HB := Lib.hid (fun W => l7Bits_any S hS W)
  have HX := Lib.hid (fun W => l6Extreme_any n s h S (by omega) W)
  have HE : Hid (cvS (sgnF (lookS n s.data.toList)) n S = (decide (3 ≤ pcS S) && extS (sgnF (lookS n s.data.toList)) n S == S)) := Lib.hid rfl
  generalize cvS (sgnF (lookS n s.data.toList)) n S = ans at HE ⊢
  generalize extS (sgnF (lookS n s.data.toList)) n S = X at HX HE
  generalize pcS S = P at HB HE
  have e1 := beq_cast X S
  obtain ⟨x0, x1, B0⟩ := HS.out
  by_cases hp : 3 ≤ P
  · have b1 : decide ((P : Int) ≥ 3) = true := decide_eq_true (by omega)
    have b2 : decide ((3 : Int) ≤ (P : Int)) = true := decide_eq_true (by omega)
    have b3 : decide (3 ≤ P) = true := decide_eq_true hp
    have HA : Hid (ans = (X == S)) := Lib.hid (by rw [HE.out, b3]; rfl)
    generalize (X == S) = r at e1 HA
    clear HE hp
    go_enter Tryz.func65, Tryz.ntmps65
    go_wp2_with fail
    refine (HB.out _).mono ?_
    rintro e w' ⟨rfl, rfl⟩
    go_wp2_with fail
    refine (HX.out _).mono ?_
    rintro e w2 ⟨rfl, hb2⟩
    have B2 := Lib.hid (HS.out.on hb2).2.2
    clear hb2 x0 x1 B0
    go_wp2
    go_ret
    exact ⟨ret_bool HA.out.symm, B2.out⟩
  · have b1 : decide ((P : Int) ≥ 3) = false := decide_eq_false (by omega)
    have b2 : decide ((3 : Int) ≤ (P : Int)) = false := decide_eq_false (by omega)
    have b3 : decide (3 ≤ P) = false := decide_eq_false hp
    have HA : Hid (ans = false) := Lib.hid (by rw [HE.out, b3]; rfl)
    clear HE hp e1
    go_enter Tryz.func65, Tryz.ntmps65
    go_wp2_with fail
    refine (HB.out _).mono ?_
    rintro e w' ⟨rfl, rfl⟩
    go_wp2
    go_ret
    exact ⟨ret_bool HA.out.symm, B0⟩
theorem emS_no {F : Int → Int → Int → Int} {n S p : Nat} (hp : p < n) (h1 : S.testBit p = false) (h2 : inT F n S p = true) : emS F n S = false := by
  unfold emS
  rw [List.all_eq_false]
  exact ⟨p, List.mem_range.2 hp, by rw [h1, h2]; decide⟩
theorem emS_yes {F : Int → Int → Int → Int} {n S : Nat} (h : ∀ p, p < n → (S.testBit p || !inT F n S p) = true) : emS F n S = true := by
  unfold emS
  rw [List.all_eq_true]
  exact fun p hp => h p (List.mem_range.1 hp)
set_option maxHeartbeats 1600000 in
set_option maxRecDepth 100000 in
theorem l8Empty_any (n : Nat) (s : ByteArray) (h : aciB n s.data.toList = true) (S : Nat) (hS : S < 128) (w : World) :
    Calls Tryz.prog 99 #[sg n s, .int .i64 S] w fun e w' => e = .returned (.bool (emS (sgnF (lookS n s.data.toList)) n S)) ∧ Below w.heap.size w w' := by
  obtain ⟨h3, h7⟩ := aciB_n h
  have h7 : n ≤ 7 := by omega
  have HS := Lib.hid (box_made w n s 25)
  have HI : Hid (∀ p, p < n → ∀ W, Calls Tryz.prog 109 #[sg n s, .int .i64 S, .int .i64 p] W fun e w' => e = .returned (.bool (inT (sgnF (lookS n s.data.toList)) n S p)) ∧ Below W.heap.size W w') := Lib.hid (fun p hp W => l6In_any n s h S p (by omega) hp W)
  have HH : Hid (∀ k : Nat, k < 64 → ∀ W, Calls Tryz.prog 108 #[.int .i64 S, .int .i64 k] W fun e w' => e = .returned (.bool (S.testBit k)) ∧ W = w') := Lib.hid (fun k hk W => l6Has_any S k (by omega) hk W)
  generalize sgnF (lookS n s.data.toList) = F at HI ⊢
  have HNO := Lib.hid (fun p => emS_no (F := F) (n := n) (S := S) (p := p))
  have HYES := Lib.hid (emS_yes (F := F) (n := n) (S := S))
  generalize emS F n S = ans at HNO HYES ⊢
  clear h
  go_enter Tryz.func99, Tryz.ntmps99
  go_wp2
  go_loopw [5] (fun x wr => ∃ p : Nat, p ≤ n ∧ x = .int .i64 p ∧ Hid (∀ q, q < p → (S.testBit q || !inT F n S q) = true) ∧ Hid (Box w n s wr)) (fun x _ => n - (intOf x).toNat)
  case atStart => exact ⟨0, Nat.zero_le _, rfl, Lib.hid (fun q hq => by omega), HS⟩
  case round =>
    obtain ⟨p, hpn, rfl, HNP, HB⟩ := hrel
    obtain ⟨c0, c1, B0⟩ := HB.out
    by_cases hlt : p < n
    · have HC := Lib.hid (HH.out p (by omega))
      have HJ := Lib.hid (HI.out p hlt)
      have HN := Lib.hid (fun h1 h2 => HNO.out p hlt h1 h2)
      have HNX : Hid ((S.testBit p || !inT F n S p) = true → ∀ q, q < p + 1 → (S.testBit q || !inT F n S q) = true) := Lib.hid (fun e q hq => by
        by_cases hqp : q = p
        · subst hqp; exact e
        · exact HNP.out q (by omega))
      cases hb : S.testBit p
      · rw [hb] at HC HN HNX
        cases hi : inT F n S p
        · rw [hi] at HJ HNX
          have HN2 := Lib.hid (HNX.out rfl)
          clear hb hi HNX HN
          go_wp2_with fail
          refine (HC.out _).mono ?_
          rintro e w' ⟨rfl, rfl⟩
          go_wp2_with fail
          refine (HJ.out _).mono ?_
          rintro e w2 ⟨rfl, hb2⟩
          have X2 := Lib.hid (HB.out.on hb2)
          clear hb2 c0 c1
          go_wp2
          exact ⟨⟨p + 1, by omega, by go_num, HN2, X2⟩, by simp only [intOf]; omega⟩
        · rw [hi] at HJ HN
          have HR := Lib.hid (HN.out rfl rfl)
          clear hb hi HNX HN
          go_wp2_with fail
          refine (HC.out _).mono ?_
          rintro e w' ⟨rfl, rfl⟩
          go_wp2_with fail
          refine (HJ.out _).mono ?_
          rintro e w2 ⟨rfl, hb2⟩
          have B2 := Lib.hid (HB.out.on hb2).2.2
          clear hb2 c0 c1
          go_wp2
          go_ret
          exact ⟨ret_bool HR.out.symm, B2.out⟩
      · rw [hb] at HC HNX
        have HN2 := Lib.hid (HNX.out rfl)
        clear hb HNX HN HJ
        go_wp2_with fail
        refine (HC.out _).mono ?_
        rintro e w' ⟨rfl, rfl⟩
        go_wp2
        exact ⟨⟨p + 1, by omega, by go_num, HN2, HB⟩, by simp only [intOf]; omega⟩
    · obtain rfl : p = n := by omega
      have HR := Lib.hid (HYES.out (fun q hq => HNP.out q hq))
      go_wp2
      go_ret
      exact ⟨ret_bool HR.out.symm, B0⟩
set_option maxHeartbeats 1600000 in
set_option maxRecDepth 100000 in
theorem specIsConvexSet (n : Int) (s : ByteArray) (set : Int) (hs : s.size ≤ 9223372036854775807) (w : World) :
    Calls Tryz.prog 18 #[sg n s, .int .i64 set] w fun e w' => e = .returned (.bool (isCvB n s.data.toList set)) ∧ Below w.heap.size w w' := by
  have HA := Lib.hid (fun W => specAci n s hs W)
  have HS := Lib.hid (box_made w n s 25)
  obtain ⟨x0, x1, B0⟩ := HS.out
  cases h : aciB n s.data.toList
  · have HE : Hid (isCvB n s.data.toList set = false) := Lib.hid (by unfold isCvB; rw [h]; rfl)
    rw [h] at HA
    clear h
    go_enter Tryz.func18, Tryz.ntmps18
    go_wp2_with fail
    refine (HA.out _).mono ?_
    rintro e w1 ⟨rfl, hb1⟩
    have B1 := Lib.hid (HS.out.on hb1).2.2
    clear hb1 x0 x1 B0
    go_wp2
    go_ret
    exact ⟨ret_bool HE.out.symm, B1.out⟩
  · obtain ⟨h3, h7⟩ := aciB_n h
    obtain ⟨m, rfl⟩ : ∃ m : Nat, n = m := ⟨n.toNat, by omega⟩
    have h7 : m ≤ 7 := by omega
    have hp7 := pow_le7 h7
    obtain ⟨M, hM⟩ := allS_of (m := m) (by omega) (by omega)
    obtain ⟨⟨hM8, hMl⟩, v2, hMe, hMc⟩ := hM
    have hpw := Nat.pow_pos (n := m) (show 0 < 2 by omega)
    have hMM : ((2 : Int) ^ m - 1) = (M : Int) - 1 := by
      have : (2 : Int) ^ m = ((2 ^ m : Nat) : Int) := by push_cast; rfl
      omega
    have v3 : IntKind.i64.wrap ((M : Int) - 1) = ((M - 1 : Nat) : Int) := by rw [show (M : Int) - 1 = ((M - 1 : Nat) : Int) by omega]; exact IntWalk.i64_in _ (by omega)
    have HL := Lib.hid (fun W => l1In_any set 0 ((M - 1 : Nat) : Int) W)
    have hM1 : ((M - 1 : Nat) : Int) = (M : Int) - 1 := by omega
    have HE : Hid (isCvB m s.data.toList set = (inB set 0 ((M - 1 : Nat) : Int) && cvS (sgnF (lookS m s.data.toList)) m set.toNat)) := Lib.hid (by unfold isCvB; rw [h, Int.toNat_natCast, hMM, hM1]; rfl)
    have HC := Lib.hid (fun (S : Nat) (hS : S < 128) W => l8Convex_any m s h S hS W)
    rw [h] at HA
    cases hin : inB set 0 ((M - 1 : Nat) : Int)
    · rw [hin] at HL HE
      clear h hin HC hMM hMe hMc hpw hM1
      generalize isCvB m s.data.toList set = ans at HE ⊢
      have HA2 : Hid (ans = false) := Lib.hid (by rw [HE.out]; rfl)
      clear HE
      go_enter Tryz.func18, Tryz.ntmps18
      go_wp2_with fail
      refine (HA.out _).mono ?_
      rintro e w1 ⟨rfl, hb1⟩
      have X1 := Lib.hid (HS.out.on hb1)
      clear hb1 x0 x1 B0
      obtain ⟨x0, x1, B1⟩ := X1.out
      go_wp2_with fail
      refine (HL.out _).mono ?_
      rintro e w' ⟨rfl, rfl⟩
      go_wp2
      go_ret
      exact ⟨ret_bool HA2.out.symm, B1⟩
    · have k := inB_mem hin
      obtain ⟨S, rfl⟩ : ∃ S : Nat, set = S := ⟨set.toNat, by omega⟩
      have HC2 := Lib.hid (HC.out S (by omega))
      rw [hin] at HL HE
      rw [Int.toNat_natCast] at HE
      clear h hin HC hMM hMe hMc hpw hM1 k
      generalize isCvB m s.data.toList S = ans at HE ⊢
      generalize cvS (sgnF (lookS m s.data.toList)) m S = r at HC2 HE
      have HA2 : Hid (ans = r) := Lib.hid (by rw [HE.out]; rfl)
      clear HE
      go_enter Tryz.func18, Tryz.ntmps18
      go_wp2_with fail
      refine (HA.out _).mono ?_
      rintro e w1 ⟨rfl, hb1⟩
      have X1 := Lib.hid (HS.out.on hb1)
      clear hb1 x0 x1 B0
      obtain ⟨x0, x1, B1⟩ := X1.out
      go_wp2_with fail
      refine (HL.out _).mono ?_
      rintro e w' ⟨rfl, rfl⟩
      go_wp2_with fail
      refine (HC2.out _).mono ?_
      rintro e w2 ⟨rfl, hb2⟩
      have B2 := Lib.hid (X1.out.on hb2).2.2
      clear hb2 x0 x1 B1
      go_wp2
      go_ret
      exact ⟨ret_bool HA2.out.symm, B2.out⟩
end Go.Proofs.YtflcpgdgoencgaaGreatDoor.Sg
/- Convex sets, as spec tells them: l8Sets, ConvexSets, EmptySets. -/
namespace Go.Proofs.YtflcpgdgoencgaaGreatDoor.Sg
open Go.RowKit Pt NewI
set_option maxHeartbeats 3200000 in
set_option maxRecDepth 100000 in
theorem l8Sets_all (n : Int) (s : ByteArray) (k : Int) (hs : s.size ≤ 9223372036854775807) (w : World) :
    Calls Tryz.prog 61 #[sg n s, .int .i64 k, .bool false] w fun e w' => Got w.heap.size (cvZ n s.data.toList k false) e w' ∧ Below w.heap.size w w' := by
  have HA := Lib.hid (fun W => specAci n s hs W)
  have HS := Lib.hid ((box_made w n s 25).alloc (.cells #[] 3))
  have hsz : (w.alloc (.cells #[.int .i64 n, .string s] 25)).heap.size = w.heap.size + 1 := by simp
  obtain ⟨x0, x1, -⟩ := HS.out
  cases h : aciB n s.data.toList
  · have HE : Hid (cvZ n s.data.toList k false = []) := Lib.hid (by unfold cvZ; rw [h]; simp)
    rw [h] at HA
    clear h
    go_enter Tryz.func61, Tryz.ntmps61
    go_wp2_with fail
    refine (HA.out _).mono ?_
    rintro e w1 ⟨rfl, hb1⟩
    have B1 := Lib.hid (HS.out.on hb1).2.2
    clear hb1 x0 x1
    go_wp2
    go_ret
    exact ⟨by rw [HE.out]; exact ⟨_, _, rfl, .inl rfl⟩, B1.out⟩
  · obtain ⟨h3, h7⟩ := aciB_n h
    obtain ⟨m, rfl⟩ : ∃ m : Nat, n = m := ⟨n.toNat, by omega⟩
    have h7 : m ≤ 7 := by omega
    have HL := Lib.hid (fun W => l1In_any k 3 (m : Int) W)
    cases hin : inB k 3 (m : Int)
    · have HE : Hid (cvZ m s.data.toList k false = []) := Lib.hid (by unfold cvZ; rw [hin]; simp)
      rw [h] at HA
      rw [hin] at HL
      clear h hin
      go_enter Tryz.func61, Tryz.ntmps61
      go_wp2_with fail
      refine (HA.out _).mono ?_
      rintro e w1 ⟨rfl, hb1⟩
      have X1 := Lib.hid (HS.out.on hb1)
      clear hb1 x0 x1
      obtain ⟨x0, x1, B1⟩ := X1.out
      go_wp2_with fail
      refine (HL.out _).mono ?_
      rintro e w' ⟨rfl, rfl⟩
      go_wp2
      go_ret
      exact ⟨by rw [HE.out]; exact ⟨_, _, rfl, .inl rfl⟩, B1⟩
    · obtain ⟨M, hM⟩ := allS_of (m := m) (by omega) (by omega)
      obtain ⟨⟨hM8, hMl⟩, v2, hMe, -⟩ := hM
      have hpw := Nat.pow_pos (n := m) (show 0 < 2 by omega)
      have hMM : 2 ^ m = M := by omega
      obtain ⟨q, hqe⟩ : ∃ q : Nat → Bool, ∀ S, q S = ((((pcS S : Nat) : Int) == k) && (cvS (sgnF (lookS m s.data.toList)) m S && true)) := ⟨_, fun _ => rfl⟩
      have HE : cvZ m s.data.toList k false = setsTo q M := by
        unfold cvZ
        rw [if_pos ⟨h, hin⟩, Int.toNat_natCast, hMM]
        congr 1
        funext S
        rw [hqe S]
        simp
      rw [HE]
      have HBI := Lib.hid (fun (S : Nat) (hS : S < M) W => l7Bits_any S (by omega) W)
      have HAP := Lib.hid (fun (S : Nat) (hS : S < M) W => l8Convex_any m s h S (by omega) W)
      have HQ := Lib.hid hqe
      obtain ⟨i0, hi, hz0, hz1, hz2⟩ := info_parts infoI
      rw [h] at HA
      rw [hin] at HL
      clear hqe
      generalize cvS (sgnF (lookS m s.data.toList)) m = ac at HAP HQ
      generalize pcS = pc at HBI HQ
      have HSL := Lib.hid (setsTo_length q)
      have HH := Lib.hid (fun p => setsTo_hit (q := q) (p := p))
      have HMI := Lib.hid (fun p => setsTo_miss (q := q) (p := p))
      have HO0 : Hid (OwnsZ ((w.alloc (.cells #[.int .i64 m, .string s] 25)).alloc (.cells #[] 3)) (w.heap.size + 1) (.slice (some ⟨w.heap.size + 1, 0, none⟩) 0 0) (setsTo q 0)) := Lib.hid (by
        have := World.ownsRow_made (base := w.heap.size + 1) (e := 3) (size := 1) (w.alloc (.cells #[.int .i64 m, .string s] 25)) #[] 0 (by rw [hsz]; exact Nat.le_refl _) (by decide) rfl
        rw [hsz] at this
        exact this)
      clear h hin HE hMe hMM hpw
      go_enter Tryz.func61, Tryz.ntmps61
      go_wp2_with fail
      refine (HA.out _).mono ?_
      rintro e w1 ⟨rfl, hb1⟩
      have X1 := Lib.hid (HS.out.on hb1)
      have HO1 : Hid (OwnsZ w1 (w.heap.size + 1) (.slice (some ⟨w.heap.size + 1, 0, none⟩) 0 0) (setsTo q 0)) := Lib.hid (ownsZ_on HO0.out hb1)
      clear hb1 x0 x1 HO0
      obtain ⟨x0, x1, -⟩ := X1.out
      go_wp2_with fail
      refine (HL.out _).mono ?_
      rintro e w' ⟨rfl, rfl⟩
      go_wp2
      go_loopw [7, 8] (fun vv c wr => ∃ p : Nat, p ≤ M ∧ c = .int .i64 p ∧ Hid (OwnsZ wr (w.heap.size + 1) vv (setsTo q p)) ∧ Hid (Box w m s wr)) (fun _ c _ => M - (intOf c).toNat)
      case atStart => exact ⟨0, Nat.zero_le _, rfl, HO1, X1⟩
      case round =>
        obtain ⟨p, hp, rfl, HO, HB⟩ := hrel
        obtain ⟨c0, c1, B0⟩ := HB.out
        have hw0 : w.heap.size < wr.heap.size := Kit.cell_lt c0
        by_cases hlt : p < M
        · have hpl := HSL.out p
          have HC := Lib.hid (HBI.out p hlt)
          have HD := Lib.hid (HAP.out p hlt)
          have HQP := Lib.hid (HQ.out p)
          have HHP := Lib.hid (HH.out p)
          have HMP := Lib.hid (HMI.out p)
          generalize pc p = t at HC HQP
          generalize ac p = r at HD HQP
          generalize setsTo q p = xs at HO hpl HHP HMP
          cases ht : (((t : Nat) : Int) == k)
          · have HE := Lib.hid (HMP.out (by rw [HQP.out, ht]; rfl))
            have HO5 := HO
            rw [← HE.out] at HO5
            go_wp2_with fail
            refine (HC.out _).mono ?_
            rintro e w' ⟨rfl, rfl⟩
            go_wp2
            exact ⟨⟨p + 1, by omega, by go_num, HO5, HB⟩, by simp only [intOf]; omega⟩
          · cases r
            · have HE := Lib.hid (HMP.out (by rw [HQP.out, ht]; rfl))
              go_wp2_with fail
              refine (HC.out _).mono ?_
              rintro e w' ⟨rfl, rfl⟩
              go_wp2_with fail
              refine (HD.out _).mono ?_
              rintro e w2 ⟨rfl, hb2⟩
              have X2 := Lib.hid (HB.out.on hb2)
              have HO5 := Lib.hid (ownsZ_on HO.out hb2)
              rw [← HE.out] at HO5
              clear hb2 c0 c1
              go_wp2
              exact ⟨⟨p + 1, by omega, by go_num, HO5, X2⟩, by simp only [intOf]; omega⟩
            · have HE := Lib.hid (HHP.out (by rw [HQP.out, ht]; rfl))
              go_wp2_with fail
              refine (HC.out _).mono ?_
              rintro e w' ⟨rfl, rfl⟩
              go_wp2_with fail
              refine (HD.out _).mono ?_
              rintro e w2 ⟨rfl, hb2⟩
              have X2 := Lib.hid (HB.out.on hb2)
              have HO2 := Lib.hid (ownsZ_on HO.out hb2)
              have hw2 : w.heap.size < w2.heap.size := Kit.cell_lt X2.out.1
              have B2 := X2.out.2.2
              clear hb2 c0 c1
              go_wp2_with (at_builtin; refine wpList_append_own _ rfl _ _ 28 rfl (w.heap.size + 1) 3 i0 _ 1 8 Tryz.underlying28 hi hz0 hz1 hz2 rfl (by decide) _ _ _ rfl (World.ownsRow.alloc HO2.out _) ⟨_, 0, none⟩ 1 1 [.int .i64 (p : Int)] rfl rfl (news1 _ _ _) (one1 _) (by simp only [maxLen]; omega) (by omega) (by simp; omega) ?_)
              intro v6 w6 hown6 hg6 _
              have HX6 : Hid (Box w m s w6) := Lib.hid (by
                have hbx := X2.out.alloc (.cells #[.int .i64 (p : Int)] 3)
                refine hbx.block (hg6.block _ (by simp; omega) (fun e => ?_)) (hbx.2.2.grown hg6 (by simp; omega) (fun q hq => by have := (World.ownsRow.lt HO2.out q hq).1; omega))
                have := (World.ownsRow.lt HO2.out _ e.symm).1
                omega)
              have HO6 : Hid (OwnsZ w6 (w.heap.size + 1) v6 (xs ++ [(p : Int)])) := Lib.hid (ownsZ_snoc (ys := [(p : Int)]) hown6)
              rw [← HE.out] at HO6
              clear hown6 hg6
              go_wp2
              exact ⟨⟨p + 1, by omega, by go_num, HO6, HX6⟩, by simp only [intOf]; omega⟩
        · obtain rfl : p = M := by omega
          obtain ⟨ra, rc, rfl, hnew, -⟩ := New.of_own HO.out
          have HN := Lib.hid hnew
          clear hnew
          go_wp2
          go_ret
          exact ⟨⟨_, _, rfl, new_low HN.out (by omega)⟩, B0⟩
set_option maxHeartbeats 3200000 in
set_option maxRecDepth 100000 in
theorem l8Sets_emp (n : Int) (s : ByteArray) (k : Int) (hs : s.size ≤ 9223372036854775807) (w : World) :
    Calls Tryz.prog 61 #[sg n s, .int .i64 k, .bool true] w fun e w' => Got w.heap.size (cvZ n s.data.toList k true) e w' ∧ Below w.heap.size w w' := by
  have HA := Lib.hid (fun W => specAci n s hs W)
  have HS := Lib.hid ((box_made w n s 25).alloc (.cells #[] 3))
  have hsz : (w.alloc (.cells #[.int .i64 n, .string s] 25)).heap.size = w.heap.size + 1 := by simp
  obtain ⟨x0, x1, -⟩ := HS.out
  cases h : aciB n s.data.toList
  · have HE : Hid (cvZ n s.data.toList k true = []) := Lib.hid (by unfold cvZ; rw [h]; simp)
    rw [h] at HA
    clear h
    go_enter Tryz.func61, Tryz.ntmps61
    go_wp2_with fail
    refine (HA.out _).mono ?_
    rintro e w1 ⟨rfl, hb1⟩
    have B1 := Lib.hid (HS.out.on hb1).2.2
    clear hb1 x0 x1
    go_wp2
    go_ret
    exact ⟨by rw [HE.out]; exact ⟨_, _, rfl, .inl rfl⟩, B1.out⟩
  · obtain ⟨h3, h7⟩ := aciB_n h
    obtain ⟨m, rfl⟩ : ∃ m : Nat, n = m := ⟨n.toNat, by omega⟩
    have h7 : m ≤ 7 := by omega
    have HL := Lib.hid (fun W => l1In_any k 3 (m : Int) W)
    cases hin : inB k 3 (m : Int)
    · have HE : Hid (cvZ m s.data.toList k true = []) := Lib.hid (by unfold cvZ; rw [hin]; simp)
      rw [h] at HA
      rw [hin] at HL
      clear h hin
      go_enter Tryz.func61, Tryz.ntmps61
      go_wp2_with fail
      refine (HA.out _).mono ?_
      rintro e w1 ⟨rfl, hb1⟩
      have X1 := Lib.hid (HS.out.on hb1)
      clear hb1 x0 x1
      obtain ⟨x0, x1, B1⟩ := X1.out
      go_wp2_with fail
      refine (HL.out _).mono ?_
      rintro e w' ⟨rfl, rfl⟩
      go_wp2
      go_ret
      exact ⟨by rw [HE.out]; exact ⟨_, _, rfl, .inl rfl⟩, B1⟩
    · obtain ⟨M, hM⟩ := allS_of (m := m) (by omega) (by omega)
      obtain ⟨⟨hM8, hMl⟩, v2, hMe, -⟩ := hM
      have hpw := Nat.pow_pos (n := m) (show 0 < 2 by omega)
      have hMM : 2 ^ m = M := by omega
      obtain ⟨q, hqe⟩ : ∃ q : Nat → Bool, ∀ S, q S = ((((pcS S : Nat) : Int) == k) && (cvS (sgnF (lookS m s.data.toList)) m S && emS (sgnF (lookS m s.data.toList)) m S)) := ⟨_, fun _ => rfl⟩
      have HE : cvZ m s.data.toList k true = setsTo q M := by
        unfold cvZ
        rw [if_pos ⟨h, hin⟩, Int.toNat_natCast, hMM]
        congr 1
        funext S
        rw [hqe S]
        simp
      rw [HE]
      have HBI := Lib.hid (fun (S : Nat) (hS : S < M) W => l7Bits_any S (by omega) W)
      have HAP := Lib.hid (fun (S : Nat) (hS : S < M) W => l8Convex_any m s h S (by omega) W)
      have HEM := Lib.hid (fun (S : Nat) (hS : S < M) W => l8Empty_any m s h S (by omega) W)
      have HQ := Lib.hid hqe
      obtain ⟨i0, hi, hz0, hz1, hz2⟩ := info_parts infoI
      rw [h] at HA
      rw [hin] at HL
      clear hqe
      generalize emS (sgnF (lookS m s.data.toList)) m = em at HEM HQ
      generalize cvS (sgnF (lookS m s.data.toList)) m = ac at HAP HQ
      generalize pcS = pc at HBI HQ
      have HSL := Lib.hid (setsTo_length q)
      have HH := Lib.hid (fun p => setsTo_hit (q := q) (p := p))
      have HMI := Lib.hid (fun p => setsTo_miss (q := q) (p := p))
      have HO0 : Hid (OwnsZ ((w.alloc (.cells #[.int .i64 m, .string s] 25)).alloc (.cells #[] 3)) (w.heap.size + 1) (.slice (some ⟨w.heap.size + 1, 0, none⟩) 0 0) (setsTo q 0)) := Lib.hid (by
        have := World.ownsRow_made (base := w.heap.size + 1) (e := 3) (size := 1) (w.alloc (.cells #[.int .i64 m, .string s] 25)) #[] 0 (by rw [hsz]; exact Nat.le_refl _) (by decide) rfl
        rw [hsz] at this
        exact this)
      clear h hin HE hMe hMM hpw
      go_enter Tryz.func61, Tryz.ntmps61
      go_wp2_with fail
      refine (HA.out _).mono ?_
      rintro e w1 ⟨rfl, hb1⟩
      have X1 := Lib.hid (HS.out.on hb1)
      have HO1 : Hid (OwnsZ w1 (w.heap.size + 1) (.slice (some ⟨w.heap.size + 1, 0, none⟩) 0 0) (setsTo q 0)) := Lib.hid (ownsZ_on HO0.out hb1)
      clear hb1 x0 x1 HO0
      obtain ⟨x0, x1, -⟩ := X1.out
      go_wp2_with fail
      refine (HL.out _).mono ?_
      rintro e w' ⟨rfl, rfl⟩
      go_wp2
      go_loopw [7, 8] (fun vv c wr => ∃ p : Nat, p ≤ M ∧ c = .int .i64 p ∧ Hid (OwnsZ wr (w.heap.size + 1) vv (setsTo q p)) ∧ Hid (Box w m s wr)) (fun _ c _ => M - (intOf c).toNat)
      case atStart => exact ⟨0, Nat.zero_le _, rfl, HO1, X1⟩
      case round =>
        obtain ⟨p, hp, rfl, HO, HB⟩ := hrel
        obtain ⟨c0, c1, B0⟩ := HB.out
        have hw0 : w.heap.size < wr.heap.size := Kit.cell_lt c0
        by_cases hlt : p < M
        · have hpl := HSL.out p
          have HC := Lib.hid (HBI.out p hlt)
          have HD := Lib.hid (HAP.out p hlt)
          have HF := Lib.hid (HEM.out p hlt)
          have HQP := Lib.hid (HQ.out p)
          have HHP := Lib.hid (HH.out p)
          have HMP := Lib.hid (HMI.out p)
          generalize pc p = t at HC HQP
          generalize ac p = r at HD HQP
          generalize em p = r2 at HF HQP
          generalize setsTo q p = xs at HO hpl HHP HMP
          cases ht : (((t : Nat) : Int) == k)
          · have HE := Lib.hid (HMP.out (by rw [HQP.out, ht]; rfl))
            have HO5 := HO
            rw [← HE.out] at HO5
            go_wp2_with fail
            refine (HC.out _).mono ?_
            rintro e w' ⟨rfl, rfl⟩
            go_wp2
            exact ⟨⟨p + 1, by omega, by go_num, HO5, HB⟩, by simp only [intOf]; omega⟩
          · cases r
            · have HE := Lib.hid (HMP.out (by rw [HQP.out, ht]; rfl))
              go_wp2_with fail
              refine (HC.out _).mono ?_
              rintro e w' ⟨rfl, rfl⟩
              go_wp2_with fail
              refine (HD.out _).mono ?_
              rintro e w2 ⟨rfl, hb2⟩
              have X2 := Lib.hid (HB.out.on hb2)
              have HO5 := Lib.hid (ownsZ_on HO.out hb2)
              rw [← HE.out] at HO5
              clear hb2 c0 c1
              go_wp2
              exact ⟨⟨p + 1, by omega, by go_num, HO5, X2⟩, by simp only [intOf]; omega⟩
            · cases r2
              · have HE := Lib.hid (HMP.out (by rw [HQP.out, ht]; rfl))
                go_wp2_with fail
                refine (HC.out _).mono ?_
                rintro e w' ⟨rfl, rfl⟩
                go_wp2_with fail
                refine (HD.out _).mono ?_
                rintro e w2 ⟨rfl, hb2⟩
                have X2 := Lib.hid (HB.out.on hb2)
                have HO2 := Lib.hid (ownsZ_on HO.out hb2)
                clear hb2 c0 c1
                obtain ⟨c0, c1, -⟩ := X2.out
                go_wp2_with fail
                refine (HF.out _).mono ?_
                rintro e w3 ⟨rfl, hb3⟩
                have X3 := Lib.hid (X2.out.on hb3)
                have HO5 := Lib.hid (ownsZ_on HO2.out hb3)
                rw [← HE.out] at HO5
                clear hb3 c0 c1
                go_wp2
                exact ⟨⟨p + 1, by omega, by go_num, HO5, X3⟩, by simp only [intOf]; omega⟩
              · have HE := Lib.hid (HHP.out (by rw [HQP.out, ht]; rfl))
                go_wp2_with fail
                refine (HC.out _).mono ?_
                rintro e w' ⟨rfl, rfl⟩
                go_wp2_with fail
                refine (HD.out _).mono ?_
                rintro e w2 ⟨rfl, hb2⟩
                have X2 := Lib.hid (HB.out.on hb2)
                have HO2 := Lib.hid (ownsZ_on HO.out hb2)
                clear hb2 c0 c1
                obtain ⟨c0, c1, -⟩ := X2.out
                go_wp2_with fail
                refine (HF.out _).mono ?_
                rintro e w3 ⟨rfl, hb3⟩
                have X3 := Lib.hid (X2.out.on hb3)
                have HO3 := Lib.hid (ownsZ_on HO2.out hb3)
                have hw3 : w.heap.size < w3.heap.size := Kit.cell_lt X3.out.1
                have B3 := X3.out.2.2
                clear hb3 c0 c1
                go_wp2_with (at_builtin; refine wpList_append_own _ rfl _ _ 28 rfl (w.heap.size + 1) 3 i0 _ 1 8 Tryz.underlying28 hi hz0 hz1 hz2 rfl (by decide) _ _ _ rfl (World.ownsRow.alloc HO3.out _) ⟨_, 0, none⟩ 1 1 [.int .i64 (p : Int)] rfl rfl (news1 _ _ _) (one1 _) (by simp only [maxLen]; omega) (by omega) (by simp; omega) ?_)
                intro v6 w6 hown6 hg6 _
                have HX6 : Hid (Box w m s w6) := Lib.hid (by
                  have hbx := X3.out.alloc (.cells #[.int .i64 (p : Int)] 3)
                  refine hbx.block (hg6.block _ (by simp; omega) (fun e => ?_)) (hbx.2.2.grown hg6 (by simp; omega) (fun q hq => by have := (World.ownsRow.lt HO3.out q hq).1; omega))
                  have := (World.ownsRow.lt HO3.out _ e.symm).1
                  omega)
                have HO6 : Hid (OwnsZ w6 (w.heap.size + 1) v6 (xs ++ [(p : Int)])) := Lib.hid (ownsZ_snoc (ys := [(p : Int)]) hown6)
                rw [← HE.out] at HO6
                clear hown6 hg6
                go_wp2
                exact ⟨⟨p + 1, by omega, by go_num, HO6, HX6⟩, by simp only [intOf]; omega⟩
        · obtain rfl : p = M := by omega
          obtain ⟨ra, rc, rfl, hnew, -⟩ := New.of_own HO.out
          have HN := Lib.hid hnew
          clear hnew
          go_wp2
          go_ret
          exact ⟨⟨_, _, rfl, new_low HN.out (by omega)⟩, B0⟩
set_option maxHeartbeats 800000 in
set_option maxRecDepth 100000 in
theorem specConvexSets (n : Int) (s : ByteArray) (k : Int) (hs : s.size ≤ 9223372036854775807) (w : World) :
    Calls Tryz.prog 15 #[sg n s, .int .i64 k] w fun e w' => Got w.heap.size (cvZ n s.data.toList k false) e w' ∧ Below w.heap.size w w' := by
  have HA := Lib.hid (fun W => l8Sets_all n s k hs W)
  have HS := Lib.hid (box_made w n s 25)
  obtain ⟨x0, x1, B0⟩ := HS.out
  generalize cvZ n s.data.toList k false = zs at HA ⊢
  go_enter Tryz.func15, Tryz.ntmps15
  go_wp2_with fail
  refine (HA.out _).mono ?_
  rintro e w1 ⟨⟨a1, c1, rfl, hn1⟩, hb1⟩
  have B1 := Lib.hid (HS.out.on hb1).2.2
  have N1 := Lib.hid hn1
  clear hb1 x0 x1 hn1
  go_wp2
  go_ret
  exact ⟨⟨_, _, rfl, new_low N1.out B0.size⟩, B1.out⟩
set_option maxHeartbeats 800000 in
set_option maxRecDepth 100000 in
theorem specEmptySets (n : Int) (s : ByteArray) (k : Int) (hs : s.size ≤ 9223372036854775807) (w : World) :
    Calls Tryz.prog 16 #[sg n s, .int .i64 k] w fun e w' => Got w.heap.size (cvZ n s.data.toList k true) e w' ∧ Below w.heap.size w w' := by
  have HA := Lib.hid (fun W => l8Sets_emp n s k hs W)
  have HS := Lib.hid (box_made w n s 25)
  obtain ⟨x0, x1, B0⟩ := HS.out
  generalize cvZ n s.data.toList k true = zs at HA ⊢
  go_enter Tryz.func16, Tryz.ntmps16
  go_wp2_with fail
  refine (HA.out _).mono ?_
  rintro e w1 ⟨⟨a1, c1, rfl, hn1⟩, hb1⟩
  have B1 := Lib.hid (HS.out.on hb1).2.2
  have N1 := Lib.hid hn1
  clear hb1 x0 x1 hn1
  go_wp2
  go_ret
  exact ⟨⟨_, _, rfl, new_low N1.out B0.size⟩, B1.out⟩
end Go.Proofs.YtflcpgdgoencgaaGreatDoor.Sg
/- Convex sets, as spec tells them: LargestConvex, EvenSum. -/
namespace Go.Proofs.YtflcpgdgoencgaaGreatDoor.Sg
open Go.RowKit Pt NewI
theorem cvZ_len {n : Nat} {s : List UInt8} (h : aciB n s = true) {k : Nat} (h3 : 3 ≤ k) (hn : k ≤ n) : (cvZ n s k false).length = cvN (sgnF (lookS n s)) n k ∧ (cvZ n s k true).length = emN (sgnF (lookS n s)) n k := by
  have hin : inB (k : Int) 3 (n : Int) = true := inB_yes (by omega) (by omega)
  unfold cvZ cvN emN setsTo
  rw [if_pos ⟨h, hin⟩, if_pos ⟨h, hin⟩, List.length_map, List.length_map, ← List.countP_eq_length_filter, ← List.countP_eq_length_filter, Int.toNat_natCast]
  constructor
  · refine List.countP_congr fun S _ => ?_
    rw [beq_cast]; simp
  · refine List.countP_congr fun S _ => ?_
    rw [beq_cast]; simp
theorem cnt_le128 (q : Nat → Bool) {n : Nat} (h7 : n ≤ 7) : (List.range (2 ^ n)).countP q ≤ 128 := by
  refine Nat.le_trans List.countP_le_length ?_
  rw [List.length_range]
  exact pow_le7 h7
set_option maxHeartbeats 1600000 in
set_option maxRecDepth 100000 in
theorem specLargest (n : Int) (s : ByteArray) (hs : s.size ≤ 9223372036854775807) (w : World) :
    Calls Tryz.prog 20 #[sg n s] w fun e w' => e = .returned (.int .i64 (lcZ n s.data.toList)) ∧ Below w.heap.size w w' := by
  have HA := Lib.hid (fun W => specAci n s hs W)
  have HS := Lib.hid (box_made w n s 25)
  obtain ⟨x0, x1, -⟩ := HS.out
  cases h : aciB n s.data.toList
  · have HE : Hid (lcZ n s.data.toList = -1) := Lib.hid (by unfold lcZ; rw [h]; rfl)
    rw [h] at HA
    clear h
    go_enter Tryz.func20, Tryz.ntmps20
    go_wp2_with fail
    refine (HA.out _).mono ?_
    rintro e w1 ⟨rfl, hb1⟩
    have B1 := Lib.hid (HS.out.on hb1).2.2
    clear hb1 x0 x1
    go_wp2
    go_ret
    exact ⟨ret_int HE.out.symm, B1.out⟩
  · obtain ⟨h3, h7⟩ := aciB_n h
    obtain ⟨m, rfl⟩ : ∃ m : Nat, n = m := ⟨n.toNat, by omega⟩
    have h7 : m ≤ 7 := by omega
    have HE : Hid (lcZ m s.data.toList = (lcTo (cvN (sgnF (lookS m s.data.toList)) m) m : Nat)) := Lib.hid (by unfold lcZ; rw [if_pos h, Int.toNat_natCast])
    have hlc := (lc_facts h).2.2
    have HC : Hid (∀ k : Nat, 3 ≤ k → k ≤ m → ∀ W, Calls Tryz.prog 61 #[sg m s, .int .i64 k, .bool false] W fun e w' => (∃ a c, e = .returned (.slice a (cvN (sgnF (lookS m s.data.toList)) m k) c)) ∧ Below W.heap.size W w') := Lib.hid (fun k k1 k2 W => (l8Sets_all m s k hs W).mono fun e w' ⟨⟨a, c, he, _⟩, hb⟩ => ⟨⟨a, c, by rw [he, (cvZ_len h k1 k2).1]⟩, hb⟩)
    rw [h] at HA
    rw [HE.out]
    generalize cvN (sgnF (lookS m s.data.toList)) m = c at HC hlc ⊢
    have HL1 : Hid (∀ k, c (k + 1) = 0 → lcTo c (k + 1) = lcTo c k) := Lib.hid (fun k e => by rw [lcTo, if_pos e])
    have HL2 : Hid (∀ k, c (k + 1) ≠ 0 → lcTo c (k + 1) = k + 1) := Lib.hid (fun k e => by rw [lcTo, if_neg e])
    have HL0 : Hid (∀ k, lcTo c k ≤ k) := Lib.hid (fun k => by
      induction k with
      | zero => exact Nat.le_refl _
      | succ k ih => rw [lcTo]; split <;> omega)
    generalize lcTo c = lc at HL1 HL2 HL0 hlc ⊢
    clear h HE
    go_enter Tryz.func20, Tryz.ntmps20
    go_wp2_with fail
    refine (HA.out _).mono ?_
    rintro e w1 ⟨rfl, hb1⟩
    have X1 := Lib.hid (HS.out.on hb1)
    clear hb1 x0 x1
    obtain ⟨x0, x1, -⟩ := X1.out
    go_wp2
    go_loopw [3] (fun x wr => ∃ k : Nat, k ≤ m ∧ x = .int .i64 k ∧ Hid (lc k = lc m) ∧ Hid (Box w m s wr)) (fun x _ => (intOf x).toNat)
    case atStart => exact ⟨m, Nat.le_refl _, rfl, Lib.hid rfl, X1⟩
    case round =>
      obtain ⟨k, hk, rfl, HK, HB⟩ := hrel
      obtain ⟨c0, c1, -⟩ := HB.out
      have hk0 := HL0.out k
      have hke := HK.out
      have HCK := Lib.hid (HC.out k (by omega) hk)
      obtain ⟨j, rfl⟩ : ∃ j, k = j + 1 := ⟨k - 1, by omega⟩
      have HN1 := Lib.hid (fun e => HL1.out j e)
      have HN2 := Lib.hid (fun e => HL2.out j e)
      generalize c (j + 1) = cc at HCK HN1 HN2
      by_cases hz : cc = 0
      · subst hz
        have HN3 : Hid (lc j = lc m) := Lib.hid (by rw [← HN1.out rfl]; exact HK.out)
        clear HN1 HN2 hk0 hke
        go_wp2_with fail
        refine (HCK.out _).mono ?_
        rintro e w2 ⟨⟨a2, c2, rfl⟩, hb2⟩
        have X2 := Lib.hid (HB.out.on hb2)
        clear hb2 c0 c1
        go_wp2
        exact ⟨⟨j, by omega, by go_num, HN3, X2⟩, by simp only [intOf]; omega⟩
      · have HN3 : Hid (lc m = j + 1) := Lib.hid (by rw [← HK.out]; exact HN2.out hz)
        have b0 : ((cc : Int) == 0) = false := beq_eq_false_iff_ne.2 (by omega)
        clear HN1 HN2 hk0 hke
        go_wp2_with fail
        refine (HCK.out _).mono ?_
        rintro e w2 ⟨⟨a2, c2, rfl⟩, hb2⟩
        have B2 := Lib.hid (HB.out.on hb2).2.2
        clear hb2 c0 c1
        go_wp2
        go_ret
        exact ⟨ret_int (by rw [HN3.out]; omega), B2.out⟩
set_option maxHeartbeats 1600000 in
set_option maxRecDepth 100000 in
theorem specEvenSum (n : Int) (s : ByteArray) (hs : s.size ≤ 9223372036854775807) (w : World) :
    Calls Tryz.prog 24 #[sg n s] w fun e w' => e = .returned (.int .i64 (evZ n s.data.toList)) ∧ Below w.heap.size w w' := by
  have HA := Lib.hid (fun W => specAci n s hs W)
  have HS := Lib.hid (box_made w n s 25)
  obtain ⟨x0, x1, -⟩ := HS.out
  cases h : aciB n s.data.toList
  · have HE : Hid (evZ n s.data.toList = -1) := Lib.hid (by unfold evZ; rw [h]; rfl)
    rw [h] at HA
    clear h
    go_enter Tryz.func24, Tryz.ntmps24
    go_wp2_with fail
    refine (HA.out _).mono ?_
    rintro e w1 ⟨rfl, hb1⟩
    have B1 := Lib.hid (HS.out.on hb1).2.2
    clear hb1 x0 x1
    go_wp2
    go_ret
    exact ⟨ret_int HE.out.symm, B1.out⟩
  · obtain ⟨h3, h7⟩ := aciB_n h
    obtain ⟨m, rfl⟩ : ∃ m : Nat, n = m := ⟨n.toNat, by omega⟩
    have h7 : m ≤ 7 := by omega
    have HE : Hid (evZ m s.data.toList = evTo (emN (sgnF (lookS m s.data.toList)) m) (m + 1)) := Lib.hid (by unfold evZ; rw [if_pos h, Int.toNat_natCast])
    have HC : Hid (∀ k : Nat, 3 ≤ k → k ≤ m → ∀ W, Calls Tryz.prog 61 #[sg m s, .int .i64 k, .bool true] W fun e w' => (∃ a c, e = .returned (.slice a (emN (sgnF (lookS m s.data.toList)) m k) c)) ∧ Below W.heap.size W w') := Lib.hid (fun k k1 k2 W => (l8Sets_emp m s k hs W).mono fun e w' ⟨⟨a, c, he, _⟩, hb⟩ => ⟨⟨a, c, by rw [he, (cvZ_len h k1 k2).2]⟩, hb⟩)
    have HCL : Hid (∀ k, emN (sgnF (lookS m s.data.toList)) m k ≤ 128) := Lib.hid (fun k => cnt_le128 _ h7)
    rw [h] at HA
    rw [HE.out]
    generalize emN (sgnF (lookS m s.data.toList)) m = c at HC HCL ⊢
    have HB0 : Hid (∀ k : Nat, k ≤ 8 → -(128 * (k : Int)) ≤ evTo c k ∧ evTo c k ≤ 128 * (k : Int)) := Lib.hid (fun k => by
      induction k with
      | zero => intro _; exact ⟨by simp [evTo], by simp [evTo]⟩
      | succ k ih =>
        intro hk
        have := ih (by omega)
        have := HCL.out k
        rw [evTo]
        split
        · omega
        · split <;> omega)
    have HO : Hid (∀ k, 3 ≤ k → evTo c (k + 1) = evTo c k + (if k % 2 = 1 then 1 else -1) * (c k : Int)) := Lib.hid (fun k hk => by
      rw [evTo, if_neg (by omega)]
      split <;> simp)
    have H3 : Hid (evTo c 3 = 0) := Lib.hid rfl
    generalize evTo c = ev at HB0 HO H3 ⊢
    clear h HE
    go_enter Tryz.func24, Tryz.ntmps24
    go_wp2_with fail
    refine (HA.out _).mono ?_
    rintro e w1 ⟨rfl, hb1⟩
    have X1 := Lib.hid (HS.out.on hb1)
    clear hb1 x0 x1
    obtain ⟨x0, x1, -⟩ := X1.out
    go_wp2
    go_loopw [3, 4, 5] (fun sv gv x wr => ∃ k : Nat, 3 ≤ k ∧ k ≤ m + 1 ∧ x = .int .i64 k ∧ sv = .int .i64 (ev k) ∧ gv = .int .i64 (if k % 2 = 1 then 1 else -1) ∧ Hid (Box w m s wr)) (fun _ _ x _ => m + 1 - (intOf x).toNat)
    case atStart => exact ⟨3, Nat.le_refl _, by omega, rfl, by rw [H3.out], rfl, X1⟩
    case round =>
      obtain ⟨k, hk3, hk, rfl, rfl, rfl, HB⟩ := hrel
      obtain ⟨c0, c1, B0⟩ := HB.out
      by_cases hlt : k ≤ m
      · have HCK := Lib.hid (HC.out k hk3 hlt)
        have hcl := HCL.out k
        have hb := HB0.out k (by omega)
        have HN := Lib.hid (HO.out k hk3)
        generalize c k = cc at HCK hcl HN
        obtain ⟨sg, hsg, hsg2⟩ : ∃ sg : Int, sg = (if k % 2 = 1 then 1 else -1) ∧ (sg = 1 ∨ sg = -1) := ⟨_, rfl, by split <;> simp⟩
        have HSG : Hid ((if (k + 1) % 2 = 1 then (1 : Int) else -1) = -sg) := Lib.hid (by rw [hsg]; split <;> split <;> omega)
        rw [← hsg] at HN ⊢
        obtain ⟨P, hP⟩ : ∃ P : Int, P = sg * (cc : Int) := ⟨_, rfl⟩
        have hPb : -128 ≤ P ∧ P ≤ 128 := by rcases hsg2 with e | e <;> rw [e] at hP <;> omega
        have v1 : IntKind.i64.wrap (sg * (cc : Int)) = P := by rw [← hP]; exact IntWalk.i64_in _ (by omega)
        rw [← hP] at HN
        generalize ev k = E at hb HN ⊢
        have v2 : IntKind.i64.wrap (E + P) = E + P := IntWalk.i64_in _ (by omega)
        have v3 : IntKind.i64.wrap (-sg) = -sg := IntWalk.i64_in _ (by omega)
        have l1 : decide ((k : Int) ≤ (m : Int)) = true := decide_eq_true (by omega)
        clear hsg hP
        go_wp2_with fail
        refine (HCK.out _).mono ?_
        rintro e w2 ⟨⟨a2, c2, rfl⟩, hb2⟩
        have X2 := Lib.hid (HB.out.on hb2)
        clear hb2 c0 c1 B0
        go_wp2
        exact ⟨⟨k + 1, by omega, by omega, by go_num, by rw [HN.out], by rw [HSG.out], X2⟩, by simp only [intOf]; omega⟩
      · obtain rfl : k = m + 1 := by omega
        generalize (if (m + 1) % 2 = 1 then (1 : Int) else -1) = g
        go_wp2
        go_ret
        exact ⟨rfl, B0⟩
end Go.Proofs.YtflcpgdgoencgaaGreatDoor.Sg
/- Caps and cups, as spec tells them: l8Chain, CapOf, CupOf (draft). -/
namespace Go.Proofs.YtflcpgdgoencgaaGreatDoor.Sg
open Go.RowKit Pt NewI
theorem lt_of_cel8 {w : World} {a : Addr} {v : Value} (h : w.cell? a = some v) : a.block < w.heap.size := by
  rcases Nat.lt_or_ge a.block w.heap.size with h1 | h1
  · exact h1
  · simp [World.cell?, Array.getElem?_eq_none h1] at h
/-- A list of elements as a slice in memory from B on. -/
def SlH (W : World) (B : Nat) (a : Option Addr) (L : List Nat) : Prop := New W B W.heap.size a L.length (zc (zl L))
theorem SlH.on {W W' : World} {B : Nat} {a : Option Addr} {L : List Nat} (h : SlH W B a L) (hb : Below W.heap.size W W') : SlH W' B a L := by
  rcases h with h | ⟨b, h1, h2, h3, h4⟩
  · exact .inl h
  · exact .inr ⟨b, h1, h2, Nat.lt_of_lt_of_le h3 hb.size, h4.on hb⟩
theorem SlH.cell {W : World} {B : Nat} {a : Option Addr} {L : List Nat} (h : SlH W B a L) {i : Nat} (hi : i < L.length) : ∃ b, a = some ⟨b, 0, none⟩ ∧ W.cell? ⟨b, i, none⟩ = some (.int .i64 (L.getD i 0 : Nat)) := by
  rcases h with h | ⟨b, h1, -, -, h4⟩
  · omega
  · exact ⟨b, h1, by rw [h4.cell i hi, zc_zl hi]⟩
/-- The law for append of a slice, empty or not, at a step of a region that draws its order. -/
theorem step_app {P : Program} (w : World) {ops : Array Oper} {o : Oper} {a : Act} {K : Act → World → Prop} {Q : Exit → Act → World → Prop} {E : Prop} (hgd : o.guard = none) (s x : Operand) (t : TypeId)
    (ho : o.op = .call { callee := .builtin .append, args := #[s, x], argTypes := #[t, t] })
    (base : Nat) (e : TypeId) (i : TypeInfo) (z : Value) (size bytes : Nat) (ht : P.underlying t = some (.slice e)) (hi : P.info? e = some i) (hz : i.zero = some z)
    (hsize : i.size = size) (hby : i.bytes = bytes) (hzs : z.cells.size = size) (hsz : 0 < size)
    (v : Value) (n : Nat) (xs : List Value) (hs : a.eval s = v) (hown : w.ownsRow base e size v n xs)
    (ad : Addr) (m c : Nat) (news : List Value) (hx : a.eval x = .slice (some ad) m c) (hl : news.length = m * size) (hnews : ∀ j u, news[j]? = some u → w.cell? (ad.add j) = some u) (h1 : ∀ u ∈ news, u.oneCell' = true)
    (h63 : n + m ≤ maxLen) (hbytes : (n + m) * bytes ≤ 140737488355328) (hbase : base ≤ w.heap.size)
    (h : ∀ v' w', w'.ownsRow base e size v' (n + m) (xs ++ news) → w.grownBy w' v.ownBlock → (v' = .slice none 0 0 ↔ v = .slice none 0 0 ∧ m = 0) → K (a.put o.dst v') w') :
    if Region.wanted o (yielded ops a.tmps) = true then Oper.wp P o a w K Q else E := by
  have hw : Region.wanted o (yielded ops a.tmps) = true := by simp [Region.wanted, hgd]
  rw [if_pos hw]
  exact wp_append_own w s x t ho base e i z size bytes ht hi hz hsize hby hzs hsz v n xs hs hown ad m c news hx hl hnews h1 h63 hbytes hbase h
theorem slh_news {W : World} {B : Nat} {ad : Addr} {L : List Nat} (h : SlH W B (some ad) L) : ∀ (j : Nat) u, ((zl L).map (Value.int .i64))[j]? = some u → W.cell? (ad.add j) = some u := fun j u hu => by
  rw [List.getElem?_map] at hu
  obtain ⟨x, hx, rfl⟩ := Option.map_eq_some_iff.1 hu
  obtain ⟨hj, rfl⟩ := List.getElem?_eq_some_iff.1 hx
  rw [zl_length] at hj
  rcases h with h | ⟨b, h1, -, -, h4⟩
  · omega
  · injection h1 with h1
    subst h1
    rw [WideShapes.add_plain, Nat.zero_add, h4.cell j hj, zc_lt (by rw [zl_length]; exact hj)]
theorem one_news {W : World} {b : Nat} {v : Value} (h : W.cell? ⟨b, 0, none⟩ = some v) : ∀ (j : Nat) u, [v][j]? = some u → W.cell? (Addr.add ⟨b, 0, none⟩ j) = some u
  | 0, u, hu => by rw [WideShapes.add_plain, Nat.add_zero, h]; simpa using hu
  | j + 1, u, hu => by simp at hu
set_option maxHeartbeats 6400000 in
set_option maxRecDepth 100000 in
theorem chain_core (n : Nat) (s : ByteArray) (h : arB n s.data.toList = true) (sn : Int) (f : Nat) (head : List Nat) (hasc : Asc n head)
    (HR : ∀ x, fromC head ≤ x → x < n → ∀ (B : Nat) (a : Option Addr) (c : Nat) (W : World), B ≤ W.heap.size → SlH W B a (head ++ [x]) → (∃ ad, a = some ad) → Calls Tryz.prog 67 #[sg n s, .int .i64 sn, .slice a (head ++ [x]).length c] W fun e w' => (∃ a' c', e = .returned (.slice a' (chF (okC (sgnF (lookS n s.data.toList)) sn) n f (head ++ [x])).length c') ∧ SlH w' B a' (chF (okC (sgnF (lookS n s.data.toList)) sn) n f (head ++ [x]))) ∧ Below W.heap.size W w')
    (B : Nat) (a : Option Addr) (c : Nat) (w : World) (hB : B ≤ w.heap.size) (hh : SlH w B a head) (had : ∃ ad, a = some ad) :
    Calls Tryz.prog 67 #[sg n s, .int .i64 sn, .slice a head.length c] w fun e w' => (∃ a' c', e = .returned (.slice a' (chF (okC (sgnF (lookS n s.data.toList)) sn) n (f + 1) head).length c') ∧ SlH w' B a' (chF (okC (sgnF (lookS n s.data.toList)) sn) n (f + 1) head)) ∧ Below w.heap.size w w' := by
  obtain ⟨_, h7, -, -⟩ := arB_yes h
  have h7 : n ≤ 7 := by omega
  obtain ⟨ad, rfl⟩ := had
  have hlen := asc_len hasc
  have HS := Lib.hid (box_made w n s 25)
  have HH := Lib.hid hh
  have HASC := Lib.hid hasc
  have hfr := hasc.2.2
  have HAT : Hid (∀ i j : Nat, i < j → j < head.length → ∀ x, fromC head ≤ x → x < n → ∀ W, Calls Tryz.prog 104 #[sg n s, .int .i64 (head.getD i 0 : Nat), .int .i64 (head.getD j 0 : Nat), .int .i64 x] W fun e w' => e = .returned (.int .i64 (sgnF (lookS n s.data.toList) (head.getD i 0 : Nat) (head.getD j 0 : Nat) x)) ∧ Below W.heap.size W w') := Lib.hid (fun i j hij hj x h1 h2 W => by
    obtain ⟨k1, k2⟩ := asc_get hasc hij hj
    exact l3At_any n s _ _ _ h (by omega) (by omega) h2 (by omega) (by omega) (by omega) W)
  have HRR := Lib.hid HR
  have HEND : Hid (chB (okC (sgnF (lookS n s.data.toList)) sn) n f head n = chF (okC (sgnF (lookS n s.data.toList)) sn) n (f + 1) head) := Lib.hid (chB_end _ _ _ _)
  have HOI0 : Hid (∀ x, okI (sgnF (lookS n s.data.toList)) sn head x 0 = true) := Lib.hid (fun x => okI_zero _ _ _ _)
  have HOIS := Lib.hid (fun x i => okI_succ (sgnF (lookS n s.data.toList)) sn head x i)
  have HOIE := Lib.hid (fun x => okI_all (sgnF (lookS n s.data.toList)) sn head x)
  have HOJ0 := Lib.hid (fun x i => okJ_zero (sgnF (lookS n s.data.toList)) sn head x i)
  have HOJS := Lib.hid (fun x i j (hij : i < j) => okJ_succ (sgnF (lookS n s.data.toList)) sn head (x := x) hij)
  have HOP : Hid (∀ x i j, okP (sgnF (lookS n s.data.toList)) sn head x i j = (sgnF (lookS n s.data.toList) (head.getD i 0 : Nat) (head.getD j 0 : Nat) x == sn)) := Lib.hid (fun x i j => rfl)
  have HCB0 := Lib.hid (chB_zero (okC (sgnF (lookS n s.data.toList)) sn) n f head)
  have HCBS := Lib.hid (fun x (hx : fromC head ≤ x) => chB_succ (okC (sgnF (lookS n s.data.toList)) sn) n f head hx)
  have HCL : Hid (∀ x, fromC head ≤ x → x < n → (chF (okC (sgnF (lookS n s.data.toList)) sn) n f (head ++ [x])).length ≤ n) := Lib.hid (fun x h1 h2 => asc_len (chF_asc f _ (asc_snoc hasc h1 h2)))
  have HCBL : Hid (∀ x, fromC head ≤ x → x ≤ n → (chB (okC (sgnF (lookS n s.data.toList)) sn) n f head x).length ≤ n) := Lib.hid (fun x h1 h2 => asc_len (chB_asc hasc h1 h2))
  rw [← HEND.out]
  generalize chF (okC (sgnF (lookS n s.data.toList)) sn) n f = rc at HRR HCBS HCL
  generalize chB (okC (sgnF (lookS n s.data.toList)) sn) n f head = cb at HCB0 HCBS HCBL ⊢
  generalize okC (sgnF (lookS n s.data.toList)) sn head = ok at HOIE HCBS
  generalize okI (sgnF (lookS n s.data.toList)) sn head = oi at HOI0 HOIS HOIE
  generalize okJ (sgnF (lookS n s.data.toList)) sn head = oj at HOIS HOJ0 HOJS
  generalize okP (sgnF (lookS n s.data.toList)) sn head = op at HOJS HOP
  generalize sgnF (lookS n s.data.toList) = F at HAT HOP
  obtain ⟨i0, hi, hz0, hz1, hz2⟩ := info_parts infoI
  clear hh HR HEND h
  go_enter Tryz.func67, Tryz.ntmps67
  go_upto_if 17 with fail
  go_cut [8] (fun fv wx => fv = .int .i64 (fromC head : Nat) ∧ Hid (Box w n s wx))
  case first =>
    as_aux_lemma =>
    have HX := Lib.hid (HH.out.on HS.out.2.2)
    cases hd : head with
    | nil =>
      subst hd
      clear HH HX HASC HAT HRR HOI0 HOIS HOIE HOJ0 HOJS HOP HCB0 HCBS HCL HCBL
      go_wp2_with fail
      go_meet
      exact ⟨rfl, HS⟩
    | cons y L =>
      have hl : head.length ≠ 0 := by rw [hd]; simp
      rw [← hd]
      obtain ⟨b, hbe, hc⟩ := HX.out.cell (i := head.length - 1) (by omega)
      injection hbe with hbe
      subst hbe
      have hfl := fromC_last (head := head) (by rw [hd]; simp)
      rw [hfl] at hfr
      have HFL := Lib.hid hfl
      generalize head.getD (head.length - 1) 0 = lst at hc hfr HFL
      clear hd hfl HH HX HASC HAT HRR HOI0 HOIS HOIE HOJ0 HOJS HOP HCB0 HCBS HCL HCBL
      have w1 : IntKind.i64.wrap ((head.length : Int) - 1) = ((head.length - 1 : Nat) : Int) := by rw [show (head.length : Int) - 1 = ((head.length - 1 : Nat) : Int) by omega]; exact IntWalk.i64_in _ (by omega)
      have w2 : IntKind.i64.wrap ((lst : Int) + 1) = ((lst + 1 : Nat) : Int) := IntWalk.i64_in _ (by omega)
      have g1 : decide ((0 : Int) < (head.length : Int)) = true := decide_eq_true (by omega)
      go_wp2_with fail
      go_meet
      exact ⟨by rw [HFL.out]; rfl, HS⟩
  case rest =>
    obtain ⟨rfl, HB0⟩ := hcut
    have HX := Lib.hid (HH.out.on HB0.out.2.2)
    go_wp2
    go_loopw [7, 9] (fun bv xv wr => ∃ x : Nat, fromC head ≤ x ∧ x ≤ n ∧ xv = .int .i64 x ∧ (∃ a' c', bv = .slice a' (cb x).length c' ∧ Hid (SlH wr B a' (cb x))) ∧ Hid (Box w n s wr)) (fun _ xv _ => n - (intOf xv).toNat)
    case atStart => exact ⟨fromC head, Nat.le_refl _, hfr, rfl, ⟨some ad, c, by rw [HCB0.out], Lib.hid (by rw [HCB0.out]; exact HX.out)⟩, HB0⟩
    case round =>
      rename World => wA
      obtain ⟨x, hx1, hx2, rfl, ⟨ab, cc, rfl, HSL⟩, HBX⟩ := hrel
      obtain ⟨c0, c1, -⟩ := HBX.out
      by_cases hlt : x < n
      · have HIT := Lib.hid (fun i j hij hj W => HAT.out i j hij hj x hx1 hlt W)
        have HRX := Lib.hid (HRR.out x hx1 hlt)
        have HNX := Lib.hid (HCBS.out x hx1)
        go_wp2
        go_loopw [10, 11] (fun fv iv wq => ∃ i : Nat, i ≤ head.length ∧ iv = .int .i64 i ∧ fv = .bool (oi x i) ∧ Hid (Below wA.heap.size wA wq)) (fun _ iv _ => head.length - (intOf iv).toNat)
        case atStart => exact ⟨0, Nat.zero_le _, rfl, by rw [HOI0.out], Lib.hid (Below.refl _ _)⟩
        case round =>
          obtain ⟨i, hi1, rfl, rfl, HQ⟩ := hrel
          by_cases hil : i < head.length
          · go_wp2
            go_loopw [10, 12] (fun fv jv wp => ∃ j : Nat, i + 1 ≤ j ∧ j ≤ head.length ∧ jv = .int .i64 j ∧ fv = .bool (oi x i && oj x i j) ∧ Hid (Below wA.heap.size wA wp)) (fun _ jv _ => head.length - (intOf jv).toNat)
            case atStart => exact ⟨i + 1, Nat.le_refl _, by omega, by go_num, by rw [HOJ0.out, Bool.and_true], HQ⟩
            case round =>
              obtain ⟨j, hj1, hj2, rfl, rfl, HP⟩ := hrel
              by_cases hjl : j < head.length
              · have HJN := Lib.hid (HOJS.out x i j hj1)
                have HBP := Lib.hid (HBX.out.on HP.out)
                have HHP := Lib.hid (HH.out.on HBP.out.2.2)
                obtain ⟨p0, p1, -⟩ := HBP.out
                obtain ⟨bh, hbh, hci⟩ := HHP.out.cell hil
                obtain ⟨bh', hbh', hcj⟩ := HHP.out.cell hjl
                obtain rfl : bh' = bh := by rw [hbh] at hbh'; simpa using hbh'.symm
                clear hbh'
                injection hbh with hbh
                subst hbh
                have hij : i < j := hj1
                have HPS := HOP.out x i j
                have HAC := HIT.out i j hij hjl
                clear HBX HSL HX HHP HRX HNX HBP HQ HIT HH HOI0 HOIS HOIE HOJ0 HOP HAT HRR HCB0 HCBS HCL HCBL HASC HOJS c0 c1
                generalize hps : F (head.getD i 0 : Nat) (head.getD j 0 : Nat) x = ps at HPS HAC
                clear hps
                have hS0 : wr.drew.cell? ⟨w.heap.size, 0, none⟩ = some (.int .i64 n) ∧ wr.drew.cell? ⟨w.heap.size, 1, none⟩ = some (.string s) ∧ wr.drew.cell? ⟨bh', i, none⟩ = some (.int .i64 (head.getD i 0 : Nat)) ∧ wr.drew.cell? ⟨bh', j, none⟩ = some (.int .i64 (head.getD j 0 : Nat)) ∧ Below wA.heap.size wA wr.drew := ⟨p0, p1, hci, hcj, HP.out.drew⟩
                have HD1 : Hid (∀ W, (fun W => W.cell? ⟨w.heap.size, 0, none⟩ = some (.int .i64 n) ∧ W.cell? ⟨w.heap.size, 1, none⟩ = some (.string s) ∧ W.cell? ⟨bh', i, none⟩ = some (.int .i64 (head.getD i 0 : Nat)) ∧ W.cell? ⟨bh', j, none⟩ = some (.int .i64 (head.getD j 0 : Nat)) ∧ Below wA.heap.size wA W) W → Calls Tryz.prog 104 #[sg n s, .int .i64 (head.getD i 0 : Nat), .int .i64 (head.getD j 0 : Nat), .int .i64 x] W fun e w' => e = .returned (.int .i64 ps) ∧ w'.cell? ⟨w.heap.size, 0, none⟩ = some (.int .i64 n) ∧ w'.cell? ⟨w.heap.size, 1, none⟩ = some (.string s) ∧ w'.cell? ⟨bh', i, none⟩ = some (.int .i64 (head.getD i 0 : Nat)) ∧ w'.cell? ⟨bh', j, none⟩ = some (.int .i64 (head.getD j 0 : Nat)) ∧ Below wA.heap.size wA w') := Lib.hid (fun W hW => by
                  obtain ⟨q0, q1, q2, q3, q4⟩ := hW
                  refine (HAC W).mono fun e w' ⟨he, hb⟩ => ?_
                  exact ⟨he, (hb.cell (lt_of_cel8 q0)).trans q0, (hb.cell (lt_of_cel8 q1)).trans q1, (hb.cell (lt_of_cel8 q2)).trans q2, (hb.cell (lt_of_cel8 q3)).trans q3, q4.trans (hb.mono q4.size)⟩)
                clear HAC
                generalize head.getD i 0 = vi at hci hS0 HD1
                generalize head.getD j 0 = vj at hcj hS0 HD1
                cases hfo : (oi x i && oj x i j)
                · have HR : Hid ((oi x i && oj x i (j + 1)) = false) := Lib.hid (by rw [HJN.out, ← Bool.and_assoc, hfo]; rfl)
                  clear HD1 HPS HJN
                  go_wp2
                  refine wp_region_held (S := fun W => W.cell? ⟨w.heap.size, 0, none⟩ = some (.int .i64 n) ∧ W.cell? ⟨w.heap.size, 1, none⟩ = some (.string s) ∧ W.cell? ⟨bh', i, none⟩ = some (.int .i64 (vi : Nat)) ∧ W.cell? ⟨bh', j, none⟩ = some (.int .i64 (vj : Nat)) ∧ Below wA.heap.size wA W) rfl ?_
                  have hHeld := (hS0)
                  (refine Held.takeH (i := 0) (k := 46) (v := .bool false) rfl (by as_aux_lemma => kernel_rfl) (by as_aux_lemma => kernel_rfl) (by as_aux_lemma => kernel_rfl) (by as_aux_lemma => kernel_rfl) (fun _ _ _ h => h) (Or.inl ⟨by rfl, ?_⟩) (by assumption) ?_; (focus (intro w hSw; (try dsimp only at hSw); go_simp; (try rfl))); (simp only [List.setIfInBounds_toArray, List.set_cons_zero, List.set_cons_succ]))
                  (refine Held.takeH (i := 1) (k := 47) (v := .bool false) rfl (by as_aux_lemma => kernel_rfl) (by as_aux_lemma => kernel_rfl) (by as_aux_lemma => kernel_rfl) (by as_aux_lemma => kernel_rfl) (fun _ _ _ h => h) (Or.inl ⟨by rfl, ?_⟩) (by assumption) ?_; (focus (intro w hSw; (try dsimp only at hSw); go_simp; (try rfl))); (simp only [List.setIfInBounds_toArray, List.set_cons_zero, List.set_cons_succ]))
                  (refine Held.takeH (i := 2) (k := 48) (v := undef) rfl (by as_aux_lemma => kernel_rfl) (by as_aux_lemma => kernel_rfl) (by as_aux_lemma => kernel_rfl) (by as_aux_lemma => kernel_rfl) (fun _ _ _ h => h) (Or.inr ⟨by rfl, rfl⟩) (by assumption) ?_; (simp only [List.setIfInBounds_toArray, List.set_cons_zero, List.set_cons_succ]))
                  (refine Held.takeH (i := 3) (k := 49) (v := undef) rfl (by as_aux_lemma => kernel_rfl) (by as_aux_lemma => kernel_rfl) (by as_aux_lemma => kernel_rfl) (by as_aux_lemma => kernel_rfl) (fun _ _ _ h => h) (Or.inr ⟨by rfl, rfl⟩) (by assumption) ?_; (simp only [List.setIfInBounds_toArray, List.set_cons_zero, List.set_cons_succ]))
                  (refine Held.takeH (i := 4) (k := 50) (v := undef) rfl (by as_aux_lemma => kernel_rfl) (by as_aux_lemma => kernel_rfl) (by as_aux_lemma => kernel_rfl) (by as_aux_lemma => kernel_rfl) (fun _ _ _ h => h) (Or.inr ⟨by rfl, rfl⟩) (by assumption) ?_; (simp only [List.setIfInBounds_toArray, List.set_cons_zero, List.set_cons_succ]))
                  (refine Held.takeH (i := 5) (k := 51) (v := undef) rfl (by as_aux_lemma => kernel_rfl) (by as_aux_lemma => kernel_rfl) (by as_aux_lemma => kernel_rfl) (by as_aux_lemma => kernel_rfl) (fun _ _ _ h => h) (Or.inr ⟨by rfl, rfl⟩) (by assumption) ?_; (simp only [List.setIfInBounds_toArray, List.set_cons_zero, List.set_cons_succ]))
                  (refine Held.takeH (i := 6) (k := 52) (v := undef) rfl (by as_aux_lemma => kernel_rfl) (by as_aux_lemma => kernel_rfl) (by as_aux_lemma => kernel_rfl) (by as_aux_lemma => kernel_rfl) (fun _ _ _ h => h) (Or.inr ⟨by rfl, rfl⟩) (by assumption) ?_; (simp only [List.setIfInBounds_toArray, List.set_cons_zero, List.set_cons_succ]))
                  (refine Held.takeH (i := 7) (k := 53) (v := undef) rfl (by as_aux_lemma => kernel_rfl) (by as_aux_lemma => kernel_rfl) (by as_aux_lemma => kernel_rfl) (by as_aux_lemma => kernel_rfl) (fun _ _ _ h => h) (Or.inr ⟨by rfl, rfl⟩) (by assumption) ?_; (simp only [List.setIfInBounds_toArray, List.set_cons_zero, List.set_cons_succ]))
                  (refine Held.takeH (i := 8) (k := 54) (v := undef) rfl (by as_aux_lemma => kernel_rfl) (by as_aux_lemma => kernel_rfl) (by as_aux_lemma => kernel_rfl) (by as_aux_lemma => kernel_rfl) (fun _ _ _ h => h) (Or.inr ⟨by rfl, rfl⟩) (by assumption) ?_; (simp only [List.setIfInBounds_toArray, List.set_cons_zero, List.set_cons_succ]))
                  (refine Held.takeH (i := 9) (k := 55) (v := undef) rfl (by as_aux_lemma => kernel_rfl) (by as_aux_lemma => kernel_rfl) (by as_aux_lemma => kernel_rfl) (by as_aux_lemma => kernel_rfl) (fun _ _ _ h => h) (Or.inr ⟨by rfl, rfl⟩) (by assumption) ?_; (simp only [List.setIfInBounds_toArray, List.set_cons_zero, List.set_cons_succ]))
                  (refine Held.takeH (i := 10) (k := 56) (v := undef) rfl (by as_aux_lemma => kernel_rfl) (by as_aux_lemma => kernel_rfl) (by as_aux_lemma => kernel_rfl) (by as_aux_lemma => kernel_rfl) (fun _ _ _ h => h) (Or.inr ⟨by rfl, rfl⟩) (by assumption) ?_; (simp only [List.setIfInBounds_toArray, List.set_cons_zero, List.set_cons_succ]))
                  (refine Held.takeH (i := 11) (k := 57) (v := undef) rfl (by as_aux_lemma => kernel_rfl) (by as_aux_lemma => kernel_rfl) (by as_aux_lemma => kernel_rfl) (by as_aux_lemma => kernel_rfl) (fun _ _ _ h => h) (Or.inr ⟨by rfl, rfl⟩) (by assumption) ?_; (simp only [List.setIfInBounds_toArray, List.set_cons_zero, List.set_cons_succ]))
                  (refine Held.takeH (i := 12) (k := 58) (v := undef) rfl (by as_aux_lemma => kernel_rfl) (by as_aux_lemma => kernel_rfl) (by as_aux_lemma => kernel_rfl) (by as_aux_lemma => kernel_rfl) (fun _ _ _ h => h) (Or.inr ⟨by rfl, rfl⟩) (by assumption) ?_; (simp only [List.setIfInBounds_toArray, List.set_cons_zero, List.set_cons_succ]))
                  (refine Held.takeH (i := 13) (k := 59) (v := undef) rfl (by as_aux_lemma => kernel_rfl) (by as_aux_lemma => kernel_rfl) (by as_aux_lemma => kernel_rfl) (by as_aux_lemma => kernel_rfl) (fun _ _ _ h => h) (Or.inr ⟨by rfl, rfl⟩) (by assumption) ?_; (simp only [List.setIfInBounds_toArray, List.set_cons_zero, List.set_cons_succ]))
                  (refine Held.takeH (i := 14) (k := 60) (v := undef) rfl (by as_aux_lemma => kernel_rfl) (by as_aux_lemma => kernel_rfl) (by as_aux_lemma => kernel_rfl) (by as_aux_lemma => kernel_rfl) (fun _ _ _ h => h) (Or.inr ⟨by rfl, rfl⟩) (by assumption) ?_; (simp only [List.setIfInBounds_toArray, List.set_cons_zero, List.set_cons_succ]))
                  (refine Held.takeH (i := 15) (k := 61) (v := .bool false) rfl (by as_aux_lemma => kernel_rfl) (by as_aux_lemma => kernel_rfl) (by as_aux_lemma => kernel_rfl) (by as_aux_lemma => kernel_rfl) (fun _ _ _ h => h) (Or.inl ⟨by rfl, ?_⟩) (by assumption) ?_; (focus (intro w hSw; (try dsimp only at hSw); go_simp; (try rfl))); (simp only [List.setIfInBounds_toArray, List.set_cons_zero, List.set_cons_succ]))
                  (refine Held.takeH (i := 16) (k := 10) (v := .bool false) rfl (by as_aux_lemma => kernel_rfl) (by as_aux_lemma => kernel_rfl) (by as_aux_lemma => kernel_rfl) (by as_aux_lemma => kernel_rfl) (fun _ _ _ h => h) (Or.inl ⟨by rfl, ?_⟩) (by assumption) ?_; (focus (intro w hSw; (try dsimp only at hSw); go_simp; (try rfl))); (simp only [List.setIfInBounds_toArray, List.set_cons_zero, List.set_cons_succ]))
                  refine wpAnyH_done (by as_aux_lemma => kernel_rfl) ?_ _
                  go_wp2_with fail
                  exact ⟨⟨j + 1, by omega, by omega, by go_num, by rw [HR.out], Lib.hid hHeld.2.2.2.2⟩, by simp only [intOf]; omega⟩
                · have HR : Hid ((oi x i && oj x i (j + 1)) = (ps == sn)) := Lib.hid (by rw [HJN.out, ← Bool.and_assoc, hfo, HPS]; rfl)
                  clear HPS HJN
                  go_wp2
                  refine wp_region_held (S := fun W => W.cell? ⟨w.heap.size, 0, none⟩ = some (.int .i64 n) ∧ W.cell? ⟨w.heap.size, 1, none⟩ = some (.string s) ∧ W.cell? ⟨bh', i, none⟩ = some (.int .i64 (vi : Nat)) ∧ W.cell? ⟨bh', j, none⟩ = some (.int .i64 (vj : Nat)) ∧ Below wA.heap.size wA W) rfl ?_
                  have hHeld := (hS0)
                  (refine Held.takeH (i := 0) (k := 46) (v := .bool true) rfl (by as_aux_lemma => kernel_rfl) (by as_aux_lemma => kernel_rfl) (by as_aux_lemma => kernel_rfl) (by as_aux_lemma => kernel_rfl) (fun _ _ _ h => h) (Or.inl ⟨by rfl, ?_⟩) (by assumption) ?_; (focus (intro w hSw; (try dsimp only at hSw); go_simp; (try rfl))); (simp only [List.setIfInBounds_toArray, List.set_cons_zero, List.set_cons_succ]))
                  (refine Held.takeH (i := 1) (k := 47) (v := .bool true) rfl (by as_aux_lemma => kernel_rfl) (by as_aux_lemma => kernel_rfl) (by as_aux_lemma => kernel_rfl) (by as_aux_lemma => kernel_rfl) (fun _ _ _ h => h) (Or.inl ⟨by rfl, ?_⟩) (by assumption) ?_; (focus (intro w hSw; (try dsimp only at hSw); go_simp; (try rfl))); (simp only [List.setIfInBounds_toArray, List.set_cons_zero, List.set_cons_succ]))
                  (refine Held.takeH (i := 2) (k := 48) (v := ?_) rfl (by as_aux_lemma => kernel_rfl) (by as_aux_lemma => kernel_rfl) (by as_aux_lemma => kernel_rfl) (by as_aux_lemma => kernel_rfl) (fun _ _ _ h => h) (Or.inl ⟨by rfl, ?_⟩) (by assumption) ?_; rotate_left; (focus (intro w hSw; (try dsimp only at hSw); go_simp; (try with_reducible rfl))); (simp only [List.setIfInBounds_toArray, List.set_cons_zero, List.set_cons_succ]))
                  (refine Held.takeH (i := 3) (k := 49) (v := ?_) rfl (by as_aux_lemma => kernel_rfl) (by as_aux_lemma => kernel_rfl) (by as_aux_lemma => kernel_rfl) (by as_aux_lemma => kernel_rfl) (fun _ _ _ h => h) (Or.inl ⟨by rfl, ?_⟩) (by assumption) ?_; rotate_left; (focus (intro w hSw; (try dsimp only at hSw); go_simp; (try with_reducible rfl))); (simp only [List.setIfInBounds_toArray, List.set_cons_zero, List.set_cons_succ]))
                  (refine Held.takeH (i := 4) (k := 50) (v := ?_) rfl (by as_aux_lemma => kernel_rfl) (by as_aux_lemma => kernel_rfl) (by as_aux_lemma => kernel_rfl) (by as_aux_lemma => kernel_rfl) (fun _ _ _ h => h) (Or.inl ⟨by rfl, ?_⟩) (by assumption) ?_; rotate_left; (focus (intro w hSw; (try dsimp only at hSw); go_simp; (try with_reducible rfl))); (simp only [List.setIfInBounds_toArray, List.set_cons_zero, List.set_cons_succ]))
                  (refine Held.takeH (i := 5) (k := 51) (v := ?_) rfl (by as_aux_lemma => kernel_rfl) (by as_aux_lemma => kernel_rfl) (by as_aux_lemma => kernel_rfl) (by as_aux_lemma => kernel_rfl) (fun _ _ _ h => h) (Or.inl ⟨by rfl, ?_⟩) (by assumption) ?_; rotate_left; (focus (intro w hSw; (try dsimp only at hSw); go_simp; (try with_reducible rfl))); (simp only [List.setIfInBounds_toArray, List.set_cons_zero, List.set_cons_succ]))
                  (refine Held.takeH (i := 6) (k := 52) (v := ?_) rfl (by as_aux_lemma => kernel_rfl) (by as_aux_lemma => kernel_rfl) (by as_aux_lemma => kernel_rfl) (by as_aux_lemma => kernel_rfl) (fun _ _ _ h => h) (Or.inl ⟨by rfl, ?_⟩) (by assumption) ?_; rotate_left; (focus (intro w hSw; (try dsimp only at hSw); go_simp; (try with_reducible rfl))); (simp only [List.setIfInBounds_toArray, List.set_cons_zero, List.set_cons_succ]))
                  (refine Held.takeH (i := 7) (k := 53) (v := ?_) rfl (by as_aux_lemma => kernel_rfl) (by as_aux_lemma => kernel_rfl) (by as_aux_lemma => kernel_rfl) (by as_aux_lemma => kernel_rfl) (fun _ _ _ h => h) (Or.inl ⟨by rfl, ?_⟩) (by assumption) ?_; rotate_left; (focus (intro w hSw; (try dsimp only at hSw); go_simp; (try with_reducible rfl))); (simp only [List.setIfInBounds_toArray, List.set_cons_zero, List.set_cons_succ]))
                  (refine Held.takeH (i := 8) (k := 54) (v := ?_) rfl (by as_aux_lemma => kernel_rfl) (by as_aux_lemma => kernel_rfl) (by as_aux_lemma => kernel_rfl) (by as_aux_lemma => kernel_rfl) (fun _ _ _ h => h) (Or.inl ⟨by rfl, ?_⟩) (by assumption) ?_; rotate_left; (focus (intro w hSw; (try dsimp only at hSw); go_simp; (try with_reducible rfl))); (simp only [List.setIfInBounds_toArray, List.set_cons_zero, List.set_cons_succ]))
                  (refine Held.takeH (i := 9) (k := 55) (v := ?_) rfl (by as_aux_lemma => kernel_rfl) (by as_aux_lemma => kernel_rfl) (by as_aux_lemma => kernel_rfl) (by as_aux_lemma => kernel_rfl) (fun _ _ _ h => h) (Or.inl ⟨by rfl, ?_⟩) (by assumption) ?_; rotate_left; (focus (intro w hSw; (try dsimp only at hSw); go_simp; (try with_reducible rfl))); (simp only [List.setIfInBounds_toArray, List.set_cons_zero, List.set_cons_succ]))
                  (refine Held.takeH (i := 10) (k := 56) (v := ?_) rfl (by as_aux_lemma => kernel_rfl) (by as_aux_lemma => kernel_rfl) (by as_aux_lemma => kernel_rfl) (by as_aux_lemma => kernel_rfl) (fun _ _ _ h => h) (Or.inl ⟨by rfl, ?_⟩) (by assumption) ?_; rotate_left; (focus (intro w hSw; (try dsimp only at hSw); go_simp; (try with_reducible rfl))); (simp only [List.setIfInBounds_toArray, List.set_cons_zero, List.set_cons_succ]))
                  (refine Held.takeH (i := 11) (k := 57) (v := ?_) rfl (by as_aux_lemma => kernel_rfl) (by as_aux_lemma => kernel_rfl) (by as_aux_lemma => kernel_rfl) (by as_aux_lemma => kernel_rfl) (fun _ _ _ h => h) (Or.inl ⟨by rfl, ?_⟩) (by assumption) ?_; rotate_left; (focus (intro w hSw; (try dsimp only at hSw); go_simp; (try with_reducible rfl))); (simp only [List.setIfInBounds_toArray, List.set_cons_zero, List.set_cons_succ]))
                  (refine Held.takeH (i := 13) (k := 59) (v := ?_) rfl (by as_aux_lemma => kernel_rfl) (by as_aux_lemma => kernel_rfl) (by as_aux_lemma => kernel_rfl) (by as_aux_lemma => kernel_rfl) (fun _ _ _ h => h) (Or.inl ⟨by rfl, ?_⟩) (by assumption) ?_; rotate_left; (focus (intro w hSw; (try dsimp only at hSw); go_simp; (try with_reducible rfl))); (simp only [List.setIfInBounds_toArray, List.set_cons_zero, List.set_cons_succ]))
                  refine wpAnyH_ready (rs := [12]) (by as_aux_lemma => kernel_rfl) (by simp) ?_
                  refine AllReadyH.cons rfl (fun K hK => ?_) AllReadyH.nil
                  go_simp
                  refine (HD1.out _ hHeld).mono ?_
                  rintro e' w' ⟨rfl, hS'⟩
                  refine hK.out _ _ hS' (fun hHeld => ?_)
                  clear hK K
                  try simp only [Act.put, List.setIfInBounds_toArray, List.set_cons_zero, List.set_cons_succ]
                  (refine Held.takeH (i := 14) (k := 60) (v := .bool (ps == sn)) rfl (by as_aux_lemma => kernel_rfl) (by as_aux_lemma => kernel_rfl) (by as_aux_lemma => kernel_rfl) (by as_aux_lemma => kernel_rfl) (fun _ _ _ h => h) (Or.inl ⟨by rfl, ?_⟩) (by assumption) ?_; (focus (intro w hSw; (try dsimp only at hSw); go_simp; (try rfl))); (simp only [List.setIfInBounds_toArray, List.set_cons_zero, List.set_cons_succ]))
                  (refine Held.takeH (i := 15) (k := 61) (v := .bool (ps == sn)) rfl (by as_aux_lemma => kernel_rfl) (by as_aux_lemma => kernel_rfl) (by as_aux_lemma => kernel_rfl) (by as_aux_lemma => kernel_rfl) (fun _ _ _ h => h) (Or.inl ⟨by rfl, ?_⟩) (by assumption) ?_; (focus (intro w hSw; (try dsimp only at hSw); go_simp; (try rfl))); (simp only [List.setIfInBounds_toArray, List.set_cons_zero, List.set_cons_succ]))
                  (refine Held.takeH (i := 16) (k := 10) (v := .bool (ps == sn)) rfl (by as_aux_lemma => kernel_rfl) (by as_aux_lemma => kernel_rfl) (by as_aux_lemma => kernel_rfl) (by as_aux_lemma => kernel_rfl) (fun _ _ _ h => h) (Or.inl ⟨by rfl, ?_⟩) (by assumption) ?_; (focus (intro w hSw; (try dsimp only at hSw); go_simp; (try rfl))); (simp only [List.setIfInBounds_toArray, List.set_cons_zero, List.set_cons_succ]))
                  refine wpAnyH_done (by as_aux_lemma => kernel_rfl) ?_ _
                  go_wp2_with fail
                  exact ⟨⟨j + 1, by omega, by omega, by go_num, by rw [HR.out], Lib.hid hHeld.2.2.2.2⟩, by simp only [intOf]; omega⟩
              · obtain rfl : j = head.length := by omega
                go_wp2
                exact ⟨⟨i + 1, by omega, by go_num, by rw [HOIS.out], HP⟩, by simp only [intOf]; omega⟩
          · obtain rfl : i = head.length := by omega
            rw [HOIE.out]
            have HBQ := Lib.hid (HBX.out.on HQ.out)
            cases hok : ok x
            · have HN0 : Hid (cb (x + 1) = cb x) := Lib.hid (by rw [HNX.out, hok]; rfl)
              go_wp2
              exact ⟨⟨x + 1, by omega, by omega, by go_num, ⟨ab, cc, by rw [HN0.out], Lib.hid (by rw [HN0.out]; exact HSL.out.on HQ.out)⟩, HBQ⟩, by simp only [intOf]; omega⟩
            · have HN0 : Hid (cb (x + 1) = betC (cb x) (rc (head ++ [x]))) := Lib.hid (by rw [HNX.out, hok]; rfl)
              clear c0 c1
              obtain ⟨c0, c1, -⟩ := HBQ.out
              -- region 17 (tools/gen_cv17.py)
              go_upto_region 17 with fail
              go_cut [13] (fun lv wx => ∃ a' c', lv = .slice a' (rc (head ++ [x])).length c' ∧ Hid (SlH wx B a' (rc (head ++ [x]))) ∧ Hid (Below wr.heap.size wr wx))
              case first =>
                as_aux_lemma =>
                generalize hLX : head ++ [x] = LX at HRX ⊢
                have HLX := Lib.hid hLX
                have HLL : Hid (LX.length = 0 + head.length + 1) := Lib.hid (by rw [← hLX]; simp)
                clear hLX
                have HSH := Lib.hid (HH.out.on HBQ.out.2.2)
                have hwb : w.heap.size < wr.heap.size := Kit.cell_lt c0
                have HSB : Hid (∀ W, Below wr.heap.size wr W → W.cell? ⟨w.heap.size, 0, none⟩ = some (.int .i64 n) ∧ W.cell? ⟨w.heap.size, 1, none⟩ = some (.string s)) := Lib.hid (fun W hW => ⟨(hW.cell hwb).trans c0, (hW.cell hwb).trans c1⟩)
                have HB0 : Hid (Below wr.heap.size wr wr.drew) := Lib.hid (Below.refl _ _).drew
                have HNW : Hid (∀ W, Below wr.heap.size wr W → ∀ (j : Nat) u, ((zl head).map (Value.int .i64))[j]? = some u → W.cell? (ad.add j) = some u) := Lib.hid (fun W hW => slh_news (HSH.out.on hW))
                have hBr : B ≤ wr.heap.size := by omega
                have hl8 : head.length ≤ 7 := by omega
                clear HBX HSL HX HQ HIT HH HOI0 HOIS HOIE HOJ0 HOJS HOP HAT HRR HCB0 HCBS HCL HCBL HASC HNX HN0 HSH
                refine wp_region_held (S := fun W => W.cell? ⟨w.heap.size, 0, none⟩ = some (.int .i64 n) ∧ W.cell? ⟨w.heap.size, 1, none⟩ = some (.string s)) rfl ?_
                have hHeld := HSB.out _ HB0.out
                (refine Held.takeH (i := 0) (k := 64) (v := ?_) rfl (by as_aux_lemma => kernel_rfl) (by as_aux_lemma => kernel_rfl) (by as_aux_lemma => kernel_rfl) (by as_aux_lemma => kernel_rfl) (fun _ _ _ h => h) (Or.inl ⟨by rfl, ?_⟩) (by assumption) ?_; rotate_left; (focus (intro w hSw; (try dsimp only at hSw); go_simp; (try with_reducible rfl))); (simp only [List.setIfInBounds_toArray, List.set_cons_zero, List.set_cons_succ]))
                (refine Held.takeH (i := 1) (k := 65) (v := ?_) rfl (by as_aux_lemma => kernel_rfl) (by as_aux_lemma => kernel_rfl) (by as_aux_lemma => kernel_rfl) (by as_aux_lemma => kernel_rfl) (fun _ _ _ h => h) (Or.inl ⟨by rfl, ?_⟩) (by assumption) ?_; rotate_left; (focus (intro w hSw; (try dsimp only at hSw); go_simp; (try with_reducible rfl))); (simp only [List.setIfInBounds_toArray, List.set_cons_zero, List.set_cons_succ]))
                (refine Held.takeH (i := 3) (k := 67) (v := ?_) rfl (by as_aux_lemma => kernel_rfl) (by as_aux_lemma => kernel_rfl) (by as_aux_lemma => kernel_rfl) (by as_aux_lemma => kernel_rfl) (fun _ _ _ h => h) (Or.inl ⟨by rfl, ?_⟩) (by assumption) ?_; rotate_left; (focus (intro w hSw; (try dsimp only at hSw); go_simp; (try with_reducible rfl))); (simp only [List.setIfInBounds_toArray, List.set_cons_zero, List.set_cons_succ]))
                (refine Held.takeH (i := 5) (k := 69) (v := ?_) rfl (by as_aux_lemma => kernel_rfl) (by as_aux_lemma => kernel_rfl) (by as_aux_lemma => kernel_rfl) (by as_aux_lemma => kernel_rfl) (fun _ _ _ h => h) (Or.inl ⟨by rfl, ?_⟩) (by assumption) ?_; rotate_left; (focus (intro w hSw; (try dsimp only at hSw); go_simp; (try with_reducible rfl))); (simp only [List.setIfInBounds_toArray, List.set_cons_zero, List.set_cons_succ]))
                refine wpAnyH_ready (rs := [2, 6]) (by as_aux_lemma => kernel_rfl) (by simp) ?_
                refine AllReadyH.cons rfl (fun K hK => ?_) (AllReadyH.cons rfl (fun K hK => ?_) AllReadyH.nil)
                · go_simp
                  have HB1 := Lib.hid (HB0.out.alloc HB0.out.size (.cells #[] 3))
                  refine hK.out _ _ (HSB.out _ HB1.out) (fun hHeld => ?_)
                  clear hK K
                  try simp only [Act.put, List.setIfInBounds_toArray, List.set_cons_zero, List.set_cons_succ]
                  have HO : Hid (wr.drew.alloc (.cells #[] 3) |>.ownsRow wr.heap.size 3 1 (.slice (some ⟨wr.heap.size, 0, none⟩) 0 0) 0 []) := Lib.hid (World.ownsRow_made (base := wr.heap.size) (e := 3) (size := 1) wr.drew #[] 0 HB0.out.size (by decide) rfl)
                  refine wpAnyH_ready (rs := [4, 6]) (by as_aux_lemma => kernel_rfl) (by simp) ?_
                  refine AllReadyH.cons rfl (fun K hK => ?_) (AllReadyH.cons rfl (fun K hK => ?_) AllReadyH.nil)
                  · refine step_app _ (by rfl) _ _ _ (by rfl) wr.heap.size 3 i0 _ 1 8 Tryz.underlying28 hi hz0 hz1 hz2 rfl (by omega) (.slice (some ⟨wr.heap.size, 0, none⟩) 0 0) 0 [] (by rfl) HO.out ad head.length c ((zl head).map (Value.int .i64)) (by rfl) (by rw [List.length_map, zl_length, Nat.mul_one]) (HNW.out _ HB1.out) (ints_one _) (by simp only [maxLen]; omega) (by omega) HB1.out.size ?_
                    intro v1 w1 hown1 hg1 _
                    have HBA : Hid (Below wr.heap.size wr w1) := Lib.hid (HB1.out.grown hg1 HB1.out.size (fun q hq => (World.ownsRow.lt HO.out q hq).1))
                    refine hK.out _ _ (HSB.out _ HBA.out) (fun hHeld => ?_)
                    clear hK K
                    try simp only [Act.put, List.setIfInBounds_toArray]
                    have HO1 : Hid (w1.alloc (.cells #[.int .i64 (x : Nat)] 3) |>.ownsRow wr.heap.size 3 1 v1 (0 + head.length) ([] ++ (zl head).map (Value.int .i64))) := Lib.hid (World.ownsRow.alloc hown1 _)
                    clear hown1 hg1
                    refine wpAnyH_ready (rs := [6]) (by as_aux_lemma => kernel_rfl) (by simp) ?_
                    refine AllReadyH.cons rfl (fun K hK => ?_) AllReadyH.nil
                    go_simp
                    have HBB := Lib.hid (HBA.out.alloc HBA.out.size (.cells #[.int .i64 (x : Nat)] 3))
                    refine hK.out _ _ (HSB.out _ HBB.out) (fun hHeld => ?_)
                    clear hK K
                    try simp only [Act.put, List.setIfInBounds_toArray, List.set_cons_zero, List.set_cons_succ]
                    refine wpAnyH_ready (rs := [7]) (by as_aux_lemma => kernel_rfl) (by simp) ?_
                    refine AllReadyH.cons rfl (fun K hK => ?_) AllReadyH.nil
                    refine step_app _ (by rfl) _ _ _ (by rfl) wr.heap.size 3 i0 _ 1 8 Tryz.underlying28 hi hz0 hz1 hz2 rfl (by omega) v1 (0 + head.length) ([] ++ (zl head).map (Value.int .i64)) (by rfl) HO1.out ⟨w1.heap.size, 0, none⟩ 1 1 [.int .i64 (x : Nat)] (by rfl) (by rfl) (news1 _ _ _) (one1 _) (by simp only [maxLen]; omega) (by omega) HBB.out.size ?_
                    intro v2 w2 hown2 hg2 _
                    have HBE : Hid (Below wr.heap.size wr w2) := Lib.hid (HBB.out.grown hg2 HBB.out.size (fun q hq => (World.ownsRow.lt HO1.out q hq).1))
                    have HZ : Hid (OwnsZ w2 wr.heap.size v2 (zl LX)) := Lib.hid (by
                      have e : (zl LX).length = 0 + head.length + 1 := by rw [zl_length]; exact HLL.out
                      unfold OwnsZ
                      rw [e]
                      rw [← HLX.out]
                      simpa [zl] using hown2)
                    refine hK.out _ _ (HSB.out _ HBE.out) (fun hHeld => ?_)
                    clear hK K hown2 hg2
                    try simp only [Act.put, List.setIfInBounds_toArray]
                    obtain ⟨a2, c2, hv2, hn2, hs2⟩ := New.of_own HZ.out
                    rw [zl_length] at hv2
                    rw [zl_length] at hn2
                    subst hv2
                    have HS2 : Hid (SlH w2 B a2 LX) := Lib.hid (new_low hn2 hBr)
                    have hsm : ∃ ad, a2 = some ad := by
                      have := hs2 (fun e0 => by have h1 := HLL.out; rw [zl_nil e0] at h1; simp at h1)
                      cases a2 with
                      | none => cases this
                      | some ad => exact ⟨ad, rfl⟩
                    clear hn2 hs2
                    refine wpAnyH_ready (rs := [8]) (by as_aux_lemma => kernel_rfl) (by simp) ?_
                    refine AllReadyH.cons rfl (fun K hK => ?_) AllReadyH.nil
                    go_simp
                    refine (HRX.out B a2 c2 w2 (Nat.le_trans hBr HBE.out.size) HS2.out hsm).mono ?_
                    rintro e' w3 ⟨⟨a3, c3, rfl, hs3⟩, hb3⟩
                    have HB3 : Hid (Below wr.heap.size wr w3) := Lib.hid (HBE.out.trans (hb3.mono HBE.out.size))
                    have HS3 := Lib.hid hs3
                    refine hK.out _ _ (HSB.out _ HB3.out) (fun hHeld => ?_)
                    clear hK K hs3 hb3
                    try simp only [Act.put, List.setIfInBounds_toArray, List.set_cons_zero, List.set_cons_succ]
                    (refine Held.takeH (i := 9) (k := 13) (v := .slice a3 (rc LX).length c3) rfl (by as_aux_lemma => kernel_rfl) (by as_aux_lemma => kernel_rfl) (by as_aux_lemma => kernel_rfl) (by as_aux_lemma => kernel_rfl) (fun _ _ _ h => h) (Or.inl ⟨by rfl, ?_⟩) (by assumption) ?_; (focus (intro w hSw; (try dsimp only at hSw); go_simp; (try rfl))); (simp only [List.setIfInBounds_toArray, List.set_cons_zero, List.set_cons_succ]))
                    refine wpAnyH_done (by as_aux_lemma => kernel_rfl) ?_ _
                    go_wp2_with fail
                    go_meet
                    exact ⟨a3, c3, by rw [HLX.out], by rw [HLX.out]; exact HS3, HB3⟩
                  · go_simp
                    have HB2 := Lib.hid (HB1.out.alloc HB1.out.size (.cells #[.int .i64 (x : Nat)] 3))
                    refine hK.out _ _ (HSB.out _ HB2.out) (fun hHeld => ?_)
                    clear hK K
                    try simp only [Act.put, List.setIfInBounds_toArray, List.set_cons_zero, List.set_cons_succ]
                    have HOx := Lib.hid (World.ownsRow.alloc HO.out (.cells #[.int .i64 (x : Nat)] 3))
                    clear HO; rename _ => HO
                    have HXC : Hid (((wr.drew.alloc (.cells #[] 3)).alloc (.cells #[.int .i64 (x : Nat)] 3)).cell? ⟨wr.heap.size + 1, 0, none⟩ = some (.int .i64 (x : Nat))) := Lib.hid (by go_simp)
                    refine wpAnyH_ready (rs := [4]) (by as_aux_lemma => kernel_rfl) (by simp) ?_
                    refine AllReadyH.cons rfl (fun K hK => ?_) AllReadyH.nil
                    refine step_app _ (by rfl) _ _ _ (by rfl) wr.heap.size 3 i0 _ 1 8 Tryz.underlying28 hi hz0 hz1 hz2 rfl (by omega) (.slice (some ⟨wr.heap.size, 0, none⟩) 0 0) 0 [] (by rfl) HO.out ad head.length c ((zl head).map (Value.int .i64)) (by rfl) (by rw [List.length_map, zl_length, Nat.mul_one]) (HNW.out _ HB2.out) (ints_one _) (by simp only [maxLen]; omega) (by omega) HB2.out.size ?_
                    intro v1 w1 hown1 hg1 _
                    have HBA : Hid (Below wr.heap.size wr w1) := Lib.hid (HB2.out.grown hg1 HB2.out.size (fun q hq => (World.ownsRow.lt HO.out q hq).1))
                    refine hK.out _ _ (HSB.out _ HBA.out) (fun hHeld => ?_)
                    clear hK K
                    try simp only [Act.put, List.setIfInBounds_toArray]
                    have HXD : Hid (∀ (j : Nat) u, [Value.int .i64 (x : Nat)][j]? = some u → w1.cell? (Addr.add ⟨wr.heap.size + 1, 0, none⟩ j) = some u) := Lib.hid (one_news (by rw [hg1.cell HXC.out (by simp [Value.ownBlock])]))
                    have HO1 := Lib.hid hown1
                    clear hown1 hg1
                    refine wpAnyH_ready (rs := [7]) (by as_aux_lemma => kernel_rfl) (by simp) ?_
                    refine AllReadyH.cons rfl (fun K hK => ?_) AllReadyH.nil
                    refine step_app _ (by rfl) _ _ _ (by rfl) wr.heap.size 3 i0 _ 1 8 Tryz.underlying28 hi hz0 hz1 hz2 rfl (by omega) v1 (0 + head.length) ([] ++ (zl head).map (Value.int .i64)) (by rfl) HO1.out ⟨wr.heap.size + 1, 0, none⟩ 1 1 [.int .i64 (x : Nat)] (by rfl) (by rfl) HXD.out (one1 _) (by simp only [maxLen]; omega) (by omega) HBA.out.size ?_
                    intro v2 w2 hown2 hg2 _
                    have HBE : Hid (Below wr.heap.size wr w2) := Lib.hid (HBA.out.grown hg2 HBA.out.size (fun q hq => (World.ownsRow.lt HO1.out q hq).1))
                    have HZ : Hid (OwnsZ w2 wr.heap.size v2 (zl LX)) := Lib.hid (by
                      have e : (zl LX).length = 0 + head.length + 1 := by rw [zl_length]; exact HLL.out
                      unfold OwnsZ
                      rw [e]
                      rw [← HLX.out]
                      simpa [zl] using hown2)
                    refine hK.out _ _ (HSB.out _ HBE.out) (fun hHeld => ?_)
                    clear hK K hown2 hg2
                    try simp only [Act.put]
                    obtain ⟨a2, c2, hv2, hn2, hs2⟩ := New.of_own HZ.out
                    rw [zl_length] at hv2
                    rw [zl_length] at hn2
                    subst hv2
                    have HS2 : Hid (SlH w2 B a2 LX) := Lib.hid (new_low hn2 hBr)
                    have hsm : ∃ ad, a2 = some ad := by
                      have := hs2 (fun e0 => by have h1 := HLL.out; rw [zl_nil e0] at h1; simp at h1)
                      cases a2 with
                      | none => cases this
                      | some ad => exact ⟨ad, rfl⟩
                    clear hn2 hs2
                    refine wpAnyH_ready (rs := [8]) (by as_aux_lemma => kernel_rfl) (by simp) ?_
                    refine AllReadyH.cons rfl (fun K hK => ?_) AllReadyH.nil
                    go_simp
                    refine (HRX.out B a2 c2 w2 (Nat.le_trans hBr HBE.out.size) HS2.out hsm).mono ?_
                    rintro e' w3 ⟨⟨a3, c3, rfl, hs3⟩, hb3⟩
                    have HB3 : Hid (Below wr.heap.size wr w3) := Lib.hid (HBE.out.trans (hb3.mono HBE.out.size))
                    have HS3 := Lib.hid hs3
                    refine hK.out _ _ (HSB.out _ HB3.out) (fun hHeld => ?_)
                    clear hK K hs3 hb3
                    try simp only [Act.put, List.setIfInBounds_toArray, List.set_cons_zero, List.set_cons_succ]
                    (refine Held.takeH (i := 9) (k := 13) (v := .slice a3 (rc LX).length c3) rfl (by as_aux_lemma => kernel_rfl) (by as_aux_lemma => kernel_rfl) (by as_aux_lemma => kernel_rfl) (by as_aux_lemma => kernel_rfl) (fun _ _ _ h => h) (Or.inl ⟨by rfl, ?_⟩) (by assumption) ?_; (focus (intro w hSw; (try dsimp only at hSw); go_simp; (try rfl))); (simp only [List.setIfInBounds_toArray, List.set_cons_zero, List.set_cons_succ]))
                    refine wpAnyH_done (by as_aux_lemma => kernel_rfl) ?_ _
                    go_wp2_with fail
                    go_meet
                    exact ⟨a3, c3, by rw [HLX.out], by rw [HLX.out]; exact HS3, HB3⟩
                · go_simp
                  have HB1 := Lib.hid (HB0.out.alloc HB0.out.size (.cells #[.int .i64 (x : Nat)] 3))
                  refine hK.out _ _ (HSB.out _ HB1.out) (fun hHeld => ?_)
                  clear hK K
                  try simp only [Act.put, List.setIfInBounds_toArray, List.set_cons_zero, List.set_cons_succ]
                  refine wpAnyH_ready (rs := [2]) (by as_aux_lemma => kernel_rfl) (by simp) ?_
                  refine AllReadyH.cons rfl (fun K hK => ?_) AllReadyH.nil
                  go_simp
                  have HB2 := Lib.hid (HB1.out.alloc HB1.out.size (.cells #[] 3))
                  refine hK.out _ _ (HSB.out _ HB2.out) (fun hHeld => ?_)
                  clear hK K
                  try simp only [Act.put, List.setIfInBounds_toArray, List.set_cons_zero, List.set_cons_succ]
                  have HO : Hid ((wr.drew.alloc (.cells #[.int .i64 (x : Nat)] 3)).alloc (.cells #[] 3) |>.ownsRow wr.heap.size 3 1 (.slice (some ⟨wr.heap.size + 1, 0, none⟩) 0 0) 0 []) := Lib.hid (by have h := World.ownsRow_made (base := wr.heap.size) (e := 3) (size := 1) (wr.drew.alloc (.cells #[.int .i64 (x : Nat)] 3)) #[] 0 HB1.out.size (by decide) rfl; rw [World.size_alloc] at h; exact h)
                  have HXC : Hid (((wr.drew.alloc (.cells #[.int .i64 (x : Nat)] 3)).alloc (.cells #[] 3)).cell? ⟨wr.heap.size, 0, none⟩ = some (.int .i64 (x : Nat))) := Lib.hid (by go_simp)
                  refine wpAnyH_ready (rs := [4]) (by as_aux_lemma => kernel_rfl) (by simp) ?_
                  refine AllReadyH.cons rfl (fun K hK => ?_) AllReadyH.nil
                  refine step_app _ (by rfl) _ _ _ (by rfl) wr.heap.size 3 i0 _ 1 8 Tryz.underlying28 hi hz0 hz1 hz2 rfl (by omega) (.slice (some ⟨wr.heap.size + 1, 0, none⟩) 0 0) 0 [] (by rfl) HO.out ad head.length c ((zl head).map (Value.int .i64)) (by rfl) (by rw [List.length_map, zl_length, Nat.mul_one]) (HNW.out _ HB2.out) (ints_one _) (by simp only [maxLen]; omega) (by omega) HB2.out.size ?_
                  intro v1 w1 hown1 hg1 _
                  have HBA : Hid (Below wr.heap.size wr w1) := Lib.hid (HB2.out.grown hg1 HB2.out.size (fun q hq => (World.ownsRow.lt HO.out q hq).1))
                  refine hK.out _ _ (HSB.out _ HBA.out) (fun hHeld => ?_)
                  clear hK K
                  try simp only [Act.put, List.setIfInBounds_toArray]
                  have HXD : Hid (∀ (j : Nat) u, [Value.int .i64 (x : Nat)][j]? = some u → w1.cell? (Addr.add ⟨wr.heap.size, 0, none⟩ j) = some u) := Lib.hid (one_news (by rw [hg1.cell HXC.out (by simp [Value.ownBlock])]))
                  have HO1 := Lib.hid hown1
                  clear hown1 hg1
                  refine wpAnyH_ready (rs := [7]) (by as_aux_lemma => kernel_rfl) (by simp) ?_
                  refine AllReadyH.cons rfl (fun K hK => ?_) AllReadyH.nil
                  refine step_app _ (by rfl) _ _ _ (by rfl) wr.heap.size 3 i0 _ 1 8 Tryz.underlying28 hi hz0 hz1 hz2 rfl (by omega) v1 (0 + head.length) ([] ++ (zl head).map (Value.int .i64)) (by rfl) HO1.out ⟨wr.heap.size, 0, none⟩ 1 1 [.int .i64 (x : Nat)] (by rfl) (by rfl) HXD.out (one1 _) (by simp only [maxLen]; omega) (by omega) HBA.out.size ?_
                  intro v2 w2 hown2 hg2 _
                  have HBE : Hid (Below wr.heap.size wr w2) := Lib.hid (HBA.out.grown hg2 HBA.out.size (fun q hq => (World.ownsRow.lt HO1.out q hq).1))
                  have HZ : Hid (OwnsZ w2 wr.heap.size v2 (zl LX)) := Lib.hid (by
                    have e : (zl LX).length = 0 + head.length + 1 := by rw [zl_length]; exact HLL.out
                    unfold OwnsZ
                    rw [e]
                    rw [← HLX.out]
                    simpa [zl] using hown2)
                  refine hK.out _ _ (HSB.out _ HBE.out) (fun hHeld => ?_)
                  clear hK K hown2 hg2
                  try simp only [Act.put]
                  obtain ⟨a2, c2, hv2, hn2, hs2⟩ := New.of_own HZ.out
                  rw [zl_length] at hv2
                  rw [zl_length] at hn2
                  subst hv2
                  have HS2 : Hid (SlH w2 B a2 LX) := Lib.hid (new_low hn2 hBr)
                  have hsm : ∃ ad, a2 = some ad := by
                    have := hs2 (fun e0 => by have h1 := HLL.out; rw [zl_nil e0] at h1; simp at h1)
                    cases a2 with
                    | none => cases this
                    | some ad => exact ⟨ad, rfl⟩
                  clear hn2 hs2
                  refine wpAnyH_ready (rs := [8]) (by as_aux_lemma => kernel_rfl) (by simp) ?_
                  refine AllReadyH.cons rfl (fun K hK => ?_) AllReadyH.nil
                  go_simp
                  refine (HRX.out B a2 c2 w2 (Nat.le_trans hBr HBE.out.size) HS2.out hsm).mono ?_
                  rintro e' w3 ⟨⟨a3, c3, rfl, hs3⟩, hb3⟩
                  have HB3 : Hid (Below wr.heap.size wr w3) := Lib.hid (HBE.out.trans (hb3.mono HBE.out.size))
                  have HS3 := Lib.hid hs3
                  refine hK.out _ _ (HSB.out _ HB3.out) (fun hHeld => ?_)
                  clear hK K hs3 hb3
                  try simp only [Act.put, List.setIfInBounds_toArray, List.set_cons_zero, List.set_cons_succ]
                  (refine Held.takeH (i := 9) (k := 13) (v := .slice a3 (rc LX).length c3) rfl (by as_aux_lemma => kernel_rfl) (by as_aux_lemma => kernel_rfl) (by as_aux_lemma => kernel_rfl) (by as_aux_lemma => kernel_rfl) (fun _ _ _ h => h) (Or.inl ⟨by rfl, ?_⟩) (by assumption) ?_; (focus (intro w hSw; (try dsimp only at hSw); go_simp; (try rfl))); (simp only [List.setIfInBounds_toArray, List.set_cons_zero, List.set_cons_succ]))
                  refine wpAnyH_done (by as_aux_lemma => kernel_rfl) ?_ _
                  go_wp2_with fail
                  go_meet
                  exact ⟨a3, c3, by rw [HLX.out], by rw [HLX.out]; exact HS3, HB3⟩
              case rest =>
                obtain ⟨a3, c3, rfl, HS3, HB3⟩ := hcut
                have HBZ := Lib.hid (HBQ.out.on HB3.out)
                have HSB2 := Lib.hid ((HSL.out.on HQ.out).on HB3.out)
                have hr1 := HCL.out x hx1 hlt
                have hr2 := HCBL.out x hx1 hx2
                by_cases hgt : (cb x).length < (rc (head ++ [x])).length
                · have HN1 : Hid (cb (x + 1) = rc (head ++ [x])) := Lib.hid (by rw [HN0.out]; unfold betC; rw [if_pos hgt])
                  have g1 : decide (((rc (head ++ [x])).length : Int) > ((cb x).length : Int)) = true := decide_eq_true (by omega)
                  have g2 : decide (((cb x).length : Int) < ((rc (head ++ [x])).length : Int)) = true := decide_eq_true (by omega)
                  have g3 : decide ((cb x).length < (rc (head ++ [x])).length) = true := decide_eq_true hgt
                  clear hgt
                  go_wp2
                  exact ⟨⟨x + 1, by omega, by omega, by go_num, ⟨a3, c3, by rw [HN1.out], Lib.hid (by rw [HN1.out]; exact HS3.out)⟩, HBZ⟩, by simp only [intOf]; omega⟩
                · have HN1 : Hid (cb (x + 1) = cb x) := Lib.hid (by rw [HN0.out]; unfold betC; rw [if_neg hgt])
                  have g1 : decide (((rc (head ++ [x])).length : Int) > ((cb x).length : Int)) = false := decide_eq_false (by omega)
                  have g2 : decide (((cb x).length : Int) < ((rc (head ++ [x])).length : Int)) = false := decide_eq_false (by omega)
                  have g3 : decide ((cb x).length < (rc (head ++ [x])).length) = false := decide_eq_false hgt
                  clear hgt
                  go_wp2
                  exact ⟨⟨x + 1, by omega, by omega, by go_num, ⟨ab, cc, by rw [HN1.out], Lib.hid (by rw [HN1.out]; exact HSB2.out)⟩, HBZ⟩, by simp only [intOf]; omega⟩
      · obtain rfl : x = n := by omega
        go_wp2
        go_ret
        exact ⟨⟨ab, cc, rfl, HSL.out⟩, HBX.out.2.2⟩
theorem l8Chain_any (n : Nat) (s : ByteArray) (h : arB n s.data.toList = true) (sn : Int) : ∀ (f : Nat) (head : List Nat), Asc n head → n ≤ fromC head + f → ∀ (B : Nat) (a : Option Addr) (c : Nat) (w : World), B ≤ w.heap.size → SlH w B a head → (∃ ad, a = some ad) →
    Calls Tryz.prog 67 #[sg n s, .int .i64 sn, .slice a head.length c] w fun e w' => (∃ a' c', e = .returned (.slice a' (chF (okC (sgnF (lookS n s.data.toList)) sn) n f head).length c') ∧ SlH w' B a' (chF (okC (sgnF (lookS n s.data.toList)) sn) n f head)) ∧ Below w.heap.size w w'
  | 0, head, hasc, hf, B, a, c, w, hB, hh, had => by
    have := chain_core n s h sn 0 head hasc (fun x h1 h2 => by omega) B a c w hB hh had
    rw [chF_none (okC (sgnF (lookS n s.data.toList)) sn) (0 + 1) (by omega)] at this
    exact this
  | f + 1, head, hasc, hf, B, a, c, w, hB, hh, had => chain_core n s h sn f head hasc (fun x h1 h2 B a c W hB hW ha => l8Chain_any n s h sn f (head ++ [x]) (asc_snoc hasc h1 h2) (by rw [fromC_snoc]; omega) B a c W hB hW ha) B a c w hB hh had
end Go.Proofs.YtflcpgdgoencgaaGreatDoor.Sg
/- CapOf and CupOf of spec (draft). -/
namespace Go.Proofs.YtflcpgdgoencgaaGreatDoor.Sg
open Go.RowKit Pt NewI
set_option maxHeartbeats 1600000 in
set_option maxRecDepth 100000 in
theorem specCapOf (n : Int) (s : ByteArray) (hs : s.size ≤ 9223372036854775807) (w : World) :
    Calls Tryz.prog 21 #[sg n s] w fun e w' => (∃ a c, e = .returned (.slice a (capL n s.data.toList (-1)).length c) ∧ SlH w' w.heap.size a (capL n s.data.toList (-1))) ∧ Below w.heap.size w w' := by
  have HA := Lib.hid (fun W => specAre_sg n s hs W)
  have HS := Lib.hid (box_made w n s 25)
  obtain ⟨x0, x1, -⟩ := HS.out
  cases h : arB n s.data.toList
  · have HE : Hid (capL n s.data.toList (-1) = []) := Lib.hid (cap_no h _)
    rw [h] at HA
    rw [HE.out]
    clear h HE
    go_enter Tryz.func21, Tryz.ntmps21
    go_wp2_with fail
    refine (HA.out _).mono ?_
    rintro e w1 ⟨rfl, hb1⟩
    have B1 := Lib.hid (HS.out.on hb1).2.2
    have B2 := Lib.hid (B1.out.alloc B1.out.size (.cells #[] 3))
    clear hb1 x0 x1
    go_wp2
    go_ret
    exact ⟨⟨_, _, rfl, .inl rfl⟩, B2.out⟩
  · obtain ⟨h3, h7, -, -⟩ := arB_yes h
    obtain ⟨m, rfl⟩ : ∃ m : Nat, n = m := ⟨n.toNat, by omega⟩
    have HE : Hid (capL m s.data.toList (-1) = chF (okC (sgnF (lookS m s.data.toList)) (-1)) m m []) := Lib.hid (by unfold capL; rw [if_pos h, Int.toNat_natCast])
    have HC := Lib.hid (fun (B : Nat) (a : Addr) (c : Nat) (W : World) (hB : B ≤ W.heap.size) => l8Chain_any m s h (-1) m [] (asc_nil m) (by rw [fromC_nil]; omega) B (some a) c W hB (.inl rfl) ⟨a, rfl⟩)
    rw [h] at HA
    rw [HE.out]
    generalize chF (okC (sgnF (lookS m s.data.toList)) (-1)) m m [] = L at HC ⊢
    clear h HE
    go_enter Tryz.func21, Tryz.ntmps21
    go_wp2_with fail
    refine (HA.out _).mono ?_
    rintro e w1 ⟨rfl, hb1⟩
    have X1 := Lib.hid (HS.out.on hb1)
    clear hb1 x0 x1
    obtain ⟨x0, x1, -⟩ := X1.out
    have B2 := Lib.hid (X1.out.2.2.alloc X1.out.2.2.size (.cells #[] 3))
    go_wp2_with fail
    refine (HC.out w.heap.size _ _ _ B2.out.size).mono ?_
    rintro e w2 ⟨⟨a2, c2, rfl, hL⟩, hb2⟩
    have HL := Lib.hid hL
    have B3 := Lib.hid (B2.out.trans (hb2.mono B2.out.size))
    clear hL hb2 x0 x1
    go_wp2
    go_ret
    exact ⟨⟨a2, c2, rfl, HL.out⟩, B3.out⟩
set_option maxHeartbeats 1600000 in
set_option maxRecDepth 100000 in
theorem specCupOf (n : Int) (s : ByteArray) (hs : s.size ≤ 9223372036854775807) (w : World) :
    Calls Tryz.prog 22 #[sg n s] w fun e w' => (∃ a c, e = .returned (.slice a (capL n s.data.toList (1)).length c) ∧ SlH w' w.heap.size a (capL n s.data.toList (1))) ∧ Below w.heap.size w w' := by
  have HA := Lib.hid (fun W => specAre_sg n s hs W)
  have HS := Lib.hid (box_made w n s 25)
  obtain ⟨x0, x1, -⟩ := HS.out
  cases h : arB n s.data.toList
  · have HE : Hid (capL n s.data.toList (1) = []) := Lib.hid (cap_no h _)
    rw [h] at HA
    rw [HE.out]
    clear h HE
    go_enter Tryz.func22, Tryz.ntmps22
    go_wp2_with fail
    refine (HA.out _).mono ?_
    rintro e w1 ⟨rfl, hb1⟩
    have B1 := Lib.hid (HS.out.on hb1).2.2
    have B2 := Lib.hid (B1.out.alloc B1.out.size (.cells #[] 3))
    clear hb1 x0 x1
    go_wp2
    go_ret
    exact ⟨⟨_, _, rfl, .inl rfl⟩, B2.out⟩
  · obtain ⟨h3, h7, -, -⟩ := arB_yes h
    obtain ⟨m, rfl⟩ : ∃ m : Nat, n = m := ⟨n.toNat, by omega⟩
    have HE : Hid (capL m s.data.toList (1) = chF (okC (sgnF (lookS m s.data.toList)) (1)) m m []) := Lib.hid (by unfold capL; rw [if_pos h, Int.toNat_natCast])
    have HC := Lib.hid (fun (B : Nat) (a : Addr) (c : Nat) (W : World) (hB : B ≤ W.heap.size) => l8Chain_any m s h (1) m [] (asc_nil m) (by rw [fromC_nil]; omega) B (some a) c W hB (.inl rfl) ⟨a, rfl⟩)
    rw [h] at HA
    rw [HE.out]
    generalize chF (okC (sgnF (lookS m s.data.toList)) (1)) m m [] = L at HC ⊢
    clear h HE
    go_enter Tryz.func22, Tryz.ntmps22
    go_wp2_with fail
    refine (HA.out _).mono ?_
    rintro e w1 ⟨rfl, hb1⟩
    have X1 := Lib.hid (HS.out.on hb1)
    clear hb1 x0 x1
    obtain ⟨x0, x1, -⟩ := X1.out
    have B2 := Lib.hid (X1.out.2.2.alloc X1.out.2.2.size (.cells #[] 3))
    go_wp2_with fail
    refine (HC.out w.heap.size _ _ _ B2.out.size).mono ?_
    rintro e w2 ⟨⟨a2, c2, rfl, hL⟩, hb2⟩
    have HL := Lib.hid hL
    have B3 := Lib.hid (B2.out.trans (hb2.mono B2.out.size))
    clear hL hb2 x0 x1
    go_wp2
    go_ret
    exact ⟨⟨a2, c2, rfl, HL.out⟩, B3.out⟩
end Go.Proofs.YtflcpgdgoencgaaGreatDoor.Sg
