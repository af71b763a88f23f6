/- IsAcyclic, as impl and spec answer it; the law. -/
import Derived.Test.YtfjimdmoindepaaRuAc
import Derived.Test.YtfjimdmoindepaaRuCircSpec
import Derived.Test.YtfjimdmoindepaaRuMat
namespace Go.Proofs.Ytfjimdmoindepaa.Sg
open Go.RowKit Pt NewI
/-- No circuit of one kind ahead of four elements. -/
def NoS (f : Int → Int → Int → Int) (n a b c d : Nat) : Prop := ∀ a' b' c' d' : Nat, a' < b' → b' < c' → c' < d' → d' < n → Lt4 a' b' c' d' a b c d → posC f a' b' c' d' = false
section
variable {f : Int → Int → Int → Int} {n a b c d : Nat}
theorem noS_zero : NoS f n 0 (0 + 1) (0 + 1 + 1) (0 + 1 + 1 + 1) := fun q1 q2 q3 q4 h1 h2 h3 h4 hl => by unfold Lt4 at hl; omega
theorem noS_step (h : NoS f n a b c d) (hb : posC f a b c d = false) : NoS f n a b c (d + 1) := fun q1 q2 q3 q4 h1 h2 h3 h4 hl => by
  by_cases e : q1 = a ∧ q2 = b ∧ q3 = c ∧ q4 = d
  · obtain ⟨rfl, rfl, rfl, rfl⟩ := e; exact hb
  · exact h q1 q2 q3 q4 h1 h2 h3 h4 (by unfold Lt4 at hl ⊢; omega)
theorem noS_d (h : NoS f n a b c n) : NoS f n a b (c + 1) (c + 1 + 1) := fun q1 q2 q3 q4 h1 h2 h3 h4 hl => h q1 q2 q3 q4 h1 h2 h3 h4 (by unfold Lt4 at hl ⊢; omega)
theorem noS_c (h : NoS f n a b n (n + 1)) : NoS f n a (b + 1) (b + 1 + 1) (b + 1 + 1 + 1) := fun q1 q2 q3 q4 h1 h2 h3 h4 hl => h q1 q2 q3 q4 h1 h2 h3 h4 (by unfold Lt4 at hl ⊢; omega)
theorem noS_b (h : NoS f n a n (n + 1) (n + 1 + 1)) : NoS f n (a + 1) (a + 1 + 1) (a + 1 + 1 + 1) (a + 1 + 1 + 1 + 1) := fun q1 q2 q3 q4 h1 h2 h3 h4 hl => h q1 q2 q3 q4 h1 h2 h3 h4 (by unfold Lt4 at hl ⊢; omega)
theorem noS_end (h7 : n ≤ 7) (h : NoS f n n (n + 1) (n + 1 + 1) (n + 1 + 1 + 1)) : acB f n = true := (acB_iff h7).2 fun a b c d h1 h2 h3 h4 => h a b c d h1 h2 h3 h4 (by unfold Lt4; omega)
end
theorem acB_hit4 {f : Int → Int → Int → Int} {n a b c d : Nat} (h7 : n ≤ 7) (h1 : a < b) (h2 : b < c) (h3 : c < d) (h4 : d < n) (hp : posC f a b c d = true) : acB f n = false := acB_hit (t := (a, b, c, d)) (fours_has h7 h1 h2 h3 h4) hp
/-- A circuit's text is ++++ if it is of one kind. -/
theorem cirT_pos {f : Int → Int → Int → Int} {a b c d : Nat} {v0 v1 v2 v3 : Int} (h0 : f b c d = v0) (h1 : f a c d = v1) (h2 : f a b d = v2) (h3 : f a b c = v3) (s0 : v0 = 1 ∨ v0 = -1) (s1 : v1 = 1 ∨ v1 = -1) (s2 : v2 = 1 ∨ v2 = -1) (s3 : v3 = 1 ∨ v3 = -1) :
    posC f a b c d = (cirT (cir f a b c d) == [43, 43, 43, 43]) := by
  unfold posC cir
  rw [h0, h1, h2, h3]
  rcases s0 with rfl | rfl <;> rcases s1 with rfl | rfl <;> rcases s2 with rfl | rfl <;> rcases s3 with rfl | rfl <;> rfl
set_option maxHeartbeats 3200000 in
set_option maxRecDepth 100000 in
theorem l4Acyclic_any (n : Nat) (s : ByteArray) (h : arB n s.data.toList = true) (w : World) :
    Calls Try.prog 48 #[sg n s] w fun e w' => e = .returned (.bool (acB (sgnF (lookS n s.data.toList)) n)) ∧ Below w.heap.size w w' := by
  obtain ⟨_, h7, -, -⟩ := arB_yes h
  have h7 : n ≤ 7 := by omega
  have HS := Lib.hid (box_made w n s 25)
  have HC : Hid (∀ a b c d : Nat, a < b → b < c → c < d → d < n → ∃ L : List UInt8, posC (sgnF (lookS n s.data.toList)) a b c d = (L == [43, 43, 43, 43]) ∧ ∀ W, Calls Try.prog 57 #[sg n s, .int .i64 a, .int .i64 b, .int .i64 c, .int .i64 d] W fun e w' => e = .returned (.string ⟨L.toArray⟩) ∧ Below W.heap.size W w') := Lib.hid (fun a b c d h1 h2 h3 h4 =>
    ⟨_, cirT_pos (f := sgnF (lookS n s.data.toList)) rfl rfl rfl rfl (sgn_one h (by omega) (by omega) (by omega) (by omega) (by omega) (by omega)) (sgn_one h (by omega) (by omega) (by omega) (by omega) (by omega) (by omega)) (sgn_one h (by omega) (by omega) (by omega) (by omega) (by omega) (by omega)) (sgn_one h (by omega) (by omega) (by omega) (by omega) (by omega) (by omega)),
      fun W => l4Circuit_any n s a b c d h (by omega) (by omega) (by omega) (by omega) (by omega) (by omega) (by omega) (by omega) (by omega) (by omega) W⟩)
  generalize sgnF (lookS n s.data.toList) = F at HC ⊢
  clear h
  go_enter Try.func48, Try.ntmps48
  go_wp2
  go_loopw [3] (fun x wr => ∃ a : Nat, a ≤ n ∧ x = .int .i64 a ∧ Hid (NoS F n a (a + 1) (a + 1 + 1) (a + 1 + 1 + 1)) ∧ Hid (Box w n s wr)) (fun x _ => n - (intOf x).toNat)
  case atStart => exact ⟨0, Nat.zero_le _, rfl, Lib.hid noS_zero, HS⟩
  case round =>
    obtain ⟨a, han, rfl, HN, HB⟩ := hrel
    obtain ⟨c0, c1, B0⟩ := HB.out
    by_cases hlt : a < n
    · go_wp2
      go_loopw [4] (fun x wr => ∃ b : Nat, a < b ∧ b ≤ n ∧ x = .int .i64 b ∧ Hid (NoS F n a b (b + 1) (b + 1 + 1)) ∧ Hid (Box w n s wr)) (fun x _ => n - (intOf x).toNat)
      case atStart => exact ⟨a + 1, by omega, by omega, by go_num, HN, HB⟩
      case round =>
        obtain ⟨b, hab, hbn, rfl, HN, HB⟩ := hrel
        obtain ⟨c0, c1, B0⟩ := HB.out
        by_cases hlt2 : b < n
        · go_wp2
          go_loopw [5] (fun x wr => ∃ c : Nat, b < c ∧ c ≤ n ∧ x = .int .i64 c ∧ Hid (NoS F n a b c (c + 1)) ∧ Hid (Box w n s wr)) (fun x _ => n - (intOf x).toNat)
          case atStart => exact ⟨b + 1, by omega, by omega, by go_num, HN, HB⟩
          case round =>
            obtain ⟨c, hbc, hcn, rfl, HN, HB⟩ := hrel
            obtain ⟨c0, c1, B0⟩ := HB.out
            by_cases hlt3 : c < n
            · go_wp2
              go_loopw [6] (fun x wr => ∃ d : Nat, c < d ∧ d ≤ n ∧ x = .int .i64 d ∧ Hid (NoS F n a b c d) ∧ Hid (Box w n s wr)) (fun x _ => n - (intOf x).toNat)
              case atStart => exact ⟨c + 1, by omega, by omega, by go_num, HN, HB⟩
              case round =>
                obtain ⟨d, hcd, hdn, rfl, HN, HB⟩ := hrel
                obtain ⟨c0, c1, B0⟩ := HB.out
                by_cases hlt4 : d < n
                · obtain ⟨L, hL, hcall⟩ := HC.out a b c d hab hbc hcd hlt4
                  have HCALL := Lib.hid hcall
                  clear hcall
                  have htest : (L == [43, 43, 43, 43]) = posC F a b c d := hL.symm
                  cases hpc : posC F a b c d
                  · have HN2 := Lib.hid (noS_step HN.out hpc)
                    rw [hpc] at htest
                    clear hpc hL
                    go_wp2_with fail
                    refine (HCALL.out _).mono ?_
                    rintro e w2 ⟨rfl, hb2⟩
                    have HB2 := Lib.hid (HB.out.on hb2)
                    go_wp2
                    exact ⟨⟨d + 1, by omega, by omega, by go_num, HN2, HB2⟩, by simp only [intOf]; omega⟩
                  · have HF := Lib.hid (acB_hit4 h7 hab hbc hcd hlt4 hpc)
                    rw [hpc] at htest
                    clear hpc hL
                    go_wp2_with fail
                    refine (HCALL.out _).mono ?_
                    rintro e w2 ⟨rfl, hb2⟩
                    have HB2 := Lib.hid (HB.out.on hb2)
                    go_wp2
                    go_ret
                    exact ⟨ret_bool HF.out.symm, HB2.out.2.2⟩
                · have HN2 : Hid (NoS F n a b (c + 1) (c + 1 + 1)) := Lib.hid (noS_d (by have e : d = n := (by omega); subst e; exact HN.out))
                  go_wp2
                  exact ⟨⟨c + 1, by omega, by omega, by go_num, HN2, HB⟩, by simp only [intOf]; omega⟩
            · have HN2 : Hid (NoS F n a (b + 1) (b + 1 + 1) (b + 1 + 1 + 1)) := Lib.hid (noS_c (by have e : c = n := (by omega); subst e; exact HN.out))
              go_wp2
              exact ⟨⟨b + 1, by omega, by omega, by go_num, HN2, HB⟩, by simp only [intOf]; omega⟩
        · have HN2 : Hid (NoS F n (a + 1) (a + 1 + 1) (a + 1 + 1 + 1) (a + 1 + 1 + 1 + 1)) := Lib.hid (noS_b (by have e : b = n := (by omega); subst e; exact HN.out))
          go_wp2
          exact ⟨⟨a + 1, by omega, by go_num, HN2, HB⟩, by simp only [intOf]; omega⟩
    · obtain rfl : a = n := by omega
      have HF := Lib.hid (noS_end h7 HN.out)
      go_wp2
      go_ret
      exact ⟨ret_bool HF.out.symm, B0⟩
end Go.Proofs.Ytfjimdmoindepaa.Sg
