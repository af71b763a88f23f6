/- Several texts in one: RuCircOf, RuCircSpec, RuAcSpec, RuAcLaw. -/
import Derived.Test.YtinlnafkmoabbaaGreatDoorMgQ
import Derived.Test.YtinlnafkmoabbaaGreatDoorMgF
/- CircuitOf, as impl answers it. -/
namespace Go.Proofs.YtinlnafkmoabbaaGreatDoor.Sg
open Go.RowKit Pt
/-- The text of a circuit; empty if a sign is 0. -/
def cirT (x : Int × Int × Int × Int) : List UInt8 := if x.1 = 0 ∨ x.2.1 = 0 ∨ x.2.2.1 = 0 ∨ x.2.2.2 = 0 then [] else [byteOf x.1, byteOf x.2.1, byteOf x.2.2.1, byteOf x.2.2.2]
end Go.Proofs.YtinlnafkmoabbaaGreatDoor.Sg
/- CircuitOf, as spec answers it. -/
namespace Go.Proofs.YtinlnafkmoabbaaGreatDoor.Sg
open Go.RowKit Pt
theorem sgn_one {n : Nat} {s : List UInt8} (h : arB n s = true) {x y z : Nat} (hx : x < n) (hy : y < n) (hz : z < n) (h1 : x ≠ y) (h2 : y ≠ z) (h3 : x ≠ z) : sgnF (lookS n s) x y z = 1 ∨ sgnF (lookS n s) x y z = -1 := by
  obtain ⟨f1, f2, f3, f4, f5⟩ := srt_facts (x : Int) y z
  have hp : (srt (x : Int) y z).2.2.2 = 1 ∨ (srt (x : Int) y z).2.2.2 = -1 := by
    unfold srt
    by_cases a1 : (y : Int) < x
    · by_cases a2 : (z : Int) < x
      · by_cases a3 : (z : Int) < y
        · simp [a1, a2, a3]
        · simp [a1, a2, a3]
      · have a3 : ¬ (x : Int) < y := by omega
        simp [a1, a2, a3]
    · by_cases a2 : (z : Int) < y
      · by_cases a3 : (z : Int) < x
        · simp [a1, a2, a3]
        · simp [a1, a2, a3]
      · simp [a1, a2]
  have hs : (srt (x : Int) y z).1 < (srt (x : Int) y z).2.1 ∧ (srt (x : Int) y z).2.1 < (srt (x : Int) y z).2.2.1 ∧ 0 ≤ (srt (x : Int) y z).1 ∧ (srt (x : Int) y z).2.2.1 < n := by
    unfold srt
    by_cases a1 : (y : Int) < x
    · by_cases a2 : (z : Int) < x
      · by_cases a3 : (z : Int) < y
        · simp [a1, a2, a3]; omega
        · simp [a1, a2, a3]; omega
      · have a3 : ¬ (x : Int) < y := by omega
        simp [a1, a2, a3]; omega
    · by_cases a2 : (z : Int) < y
      · by_cases a3 : (z : Int) < x
        · simp [a1, a2, a3]; omega
        · simp [a1, a2, a3]; omega
      · simp [a1, a2]; omega
  have hl : look n s (srt (x : Int) y z).1 (srt (x : Int) y z).2.1 (srt (x : Int) y z).2.2.1 = 1 ∨ look n s (srt (x : Int) y z).1 (srt (x : Int) y z).2.1 (srt (x : Int) y z).2.2.1 = -1 := by
    unfold look
    rw [if_pos ⟨hs.2.2.1, hs.1, hs.2.1, hs.2.2.2⟩]
    unfold sgn1
    split
    · exact .inl rfl
    · exact .inr rfl
  rw [lookS_yes h, Int.toNat_natCast]
  unfold sgnF
  rcases hp with hp | hp <;> rcases hl with hl | hl <;> rw [hp, hl] <;> omega
theorem cirT_sum {f : Int → Int → Int → Int} {a b c d : Nat} {v0 v1 v2 v3 : Int} (h0 : f b c d = v0) (h1 : f a c d = v1) (h2 : f a b d = v2) (h3 : f a b c = v3) (s0 : v0 = 1 ∨ v0 = -1) (s1 : v1 = 1 ∨ v1 = -1) (s2 : v2 = 1 ∨ v2 = -1) (s3 : v3 = 1 ∨ v3 = -1) :
    cirT (cir f a b c d) = [43, byteOf (-v0 * v1), byteOf (v0 * v2), byteOf (-v0 * v3)] := by
  unfold cir
  rw [h0, h1, h2, h3]
  rcases s0 with rfl | rfl <;> rcases s1 with rfl | rfl <;> rcases s2 with rfl | rfl <;> rcases s3 with rfl | rfl <;> rfl
set_option maxHeartbeats 3200000 in
set_option maxRecDepth 100000 in
theorem l4Circuit_any (n : Nat) (s : ByteArray) (a b c d : Nat) (h : arB n s.data.toList = true) (ha : a < n) (hb : b < n) (hc : c < n) (hd : d < n) (d1 : a ≠ b) (d2 : a ≠ c) (d3 : a ≠ d) (d4 : b ≠ c) (d5 : b ≠ d) (d6 : c ≠ d) (w : World) :
    Calls Tryz.prog 139 #[sg n s, .int .i64 a, .int .i64 b, .int .i64 c, .int .i64 d] w fun e w' => e = .returned (.string ⟨(cirT (cir (sgnF (lookS n s.data.toList)) a b c d)).toArray⟩) ∧ Below w.heap.size w w' := by
  obtain ⟨G, hG⟩ : ∃ G : Nat → Nat → Nat → Int, ∀ x y z : Nat, sgnF (lookS n s.data.toList) x y z = G x y z := ⟨_, fun _ _ _ => rfl⟩
  have HA : Hid (∀ x y z : Nat, x < n → y < n → z < n → x ≠ y → y ≠ z → x ≠ z → ∀ W, W.cell? ⟨w.heap.size, 0, none⟩ = some (.int .i64 n) ∧ W.cell? ⟨w.heap.size, 1, none⟩ = some (.string s) ∧ Below w.heap.size w W → Calls Tryz.prog 147 #[sg n s, .int .i64 x, .int .i64 y, .int .i64 z] W fun e w' => e = .returned (.int .i64 (G x y z)) ∧ w'.cell? ⟨w.heap.size, 0, none⟩ = some (.int .i64 n) ∧ w'.cell? ⟨w.heap.size, 1, none⟩ = some (.string s) ∧ Below w.heap.size w w') := Lib.hid (fun x y z hx hy hz h1 h2 h3 W hW => by
    rw [← hG]; exact held_box (l3At_any n s x y z h hx hy hz h1 h2 h3 W) hW)
  have s0 : G b c d = 1 ∨ G b c d = -1 := by rw [← hG]; exact sgn_one h hb hc hd d4 d6 d5
  have s1 : G a c d = 1 ∨ G a c d = -1 := by rw [← hG]; exact sgn_one h ha hc hd d2 d6 d3
  have s2 : G a b d = 1 ∨ G a b d = -1 := by rw [← hG]; exact sgn_one h ha hb hd d1 d5 d3
  have s3 : G a b c = 1 ∨ G a b c = -1 := by rw [← hG]; exact sgn_one h ha hb hc d1 d4 d2
  have HE := Lib.hid (cirT_sum (f := sgnF (lookS n s.data.toList)) (hG b c d) (hG a c d) (hG a b d) (hG a b c) s0 s1 s2 s3)
  have m1 := mul_bd (x := -G b c d) (y := G a c d) (by omega) (by omega)
  have m2 := mul_bd (x := G b c d) (y := G a b d) (by omega) (by omega)
  have m3 := mul_bd (x := -G b c d) (y := G a b c) (by omega) (by omega)
  have b0 : -1 ≤ G b c d ∧ G b c d ≤ 1 := by omega
  have HS := Lib.hid (box_made w n s 25)
  have hr1 : ∀ W (x : UInt8), (Op.stringOp .add ⟨#[43]⟩ ⟨#[x]⟩).run Tryz.prog W = .ok (.string ⟨#[43, x]⟩) W := fun W x => run_string_add_sum W _ _ (by show 1 + 1 ≤ _; omega)
  have hr2 : ∀ W (x y : UInt8), (Op.stringOp .add ⟨#[43, x]⟩ ⟨#[y]⟩).run Tryz.prog W = .ok (.string ⟨#[43, x, y]⟩) W := fun W x y => run_string_add_sum W _ _ (by show 2 + 1 ≤ _; omega)
  have hr3 : ∀ W (x y z : UInt8), (Op.stringOp .add ⟨#[43, x, y]⟩ ⟨#[z]⟩).run Tryz.prog W = .ok (.string ⟨#[43, x, y, z]⟩) W := fun W x y z => run_string_add_sum W _ _ (by show 3 + 1 ≤ _; omega)
  clear h hG s0 s1 s2 s3
  obtain ⟨c0, c1, B0⟩ := HS.out
  go_enter Tryz.func139, Tryz.ntmps139
  go_wp2_with fail
  refine (HA.out _ _ _ hb hc hd d4 d6 d5 _ ⟨c0, c1, B0⟩).mono ?_
  clear c0 c1 B0
  rintro e w1 ⟨rfl, c0, c1, B1⟩
  go_wp2
  go_region_held3 (fun W => W.cell? ⟨w.heap.size, 0, none⟩ = some (.int .i64 n) ∧ W.cell? ⟨w.heap.size, 1, none⟩ = some (.string s) ∧ Below w.heap.size w W)
    (first | exact ⟨by assumption, by assumption, by assumption⟩ | exact ⟨by assumption, by assumption, Below.drew (by assumption)⟩)
    (first
    | (go_at_call 147; refine (HA.out _ _ _ (by omega) (by omega) (by omega) (by omega) (by omega) (by omega) _ ?_).mono ?_; (first | exact ⟨by assumption, by assumption, by assumption⟩ | exact ⟨by assumption, by assumption, Below.drew (by assumption)⟩); rintro e' w' ⟨rfl, c1, c2, c3⟩)
    | (go_at_call 161; refine (l3Byte_any _ _).mono ?_; rintro e' w' ⟨rfl, rfl⟩))
  all_goals
    go_wp2_with fail
    refine (HA.out _ _ _ ha hb hc d1 d4 d2 _ ⟨by assumption, by assumption, by assumption⟩).mono ?_
    rintro e' w3 ⟨rfl, k0, k1, B3⟩
    go_wp2_with (go_at_call 161; refine (l3Byte_any _ _).mono ?_; rintro e' w' ⟨rfl, rfl⟩)
    go_ret
    exact ⟨by rw [HE.out]; rfl, B3⟩
end Go.Proofs.YtinlnafkmoabbaaGreatDoor.Sg
/- IsAcyclic, as impl and spec answer it; the law. -/
namespace Go.Proofs.YtinlnafkmoabbaaGreatDoor.Sg
open Go.RowKit Pt NewI
/-- No circuit of one kind ahead of four elements. -/
def NoS (f : Int → Int → Int → Int) (n a b c d : Nat) : Prop := ∀ a' b' c' d' : Nat, a' < b' → b' < c' → c' < d' → d' < n → Lt4 a' b' c' d' a b c d → posC f a' b' c' d' = false
section
variable {f : Int → Int → Int → Int} {n a b c d : Nat}
theorem noS_zero : NoS f n 0 (0 + 1) (0 + 1 + 1) (0 + 1 + 1 + 1) := fun q1 q2 q3 q4 h1 h2 h3 h4 hl => by unfold Lt4 at hl; omega
theorem noS_step (h : NoS f n a b c d) (hb : posC f a b c d = false) : NoS f n a b c (d + 1) := fun q1 q2 q3 q4 h1 h2 h3 h4 hl => by
  by_cases e : q1 = a ∧ q2 = b ∧ q3 = c ∧ q4 = d
  · obtain ⟨rfl, rfl, rfl, rfl⟩ := e; exact hb
  · exact h q1 q2 q3 q4 h1 h2 h3 h4 (by unfold Lt4 at hl ⊢; omega)
theorem noS_d (h : NoS f n a b c n) : NoS f n a b (c + 1) (c + 1 + 1) := fun q1 q2 q3 q4 h1 h2 h3 h4 hl => h q1 q2 q3 q4 h1 h2 h3 h4 (by unfold Lt4 at hl ⊢; omega)
theorem noS_c (h : NoS f n a b n (n + 1)) : NoS f n a (b + 1) (b + 1 + 1) (b + 1 + 1 + 1) := fun q1 q2 q3 q4 h1 h2 h3 h4 hl => h q1 q2 q3 q4 h1 h2 h3 h4 (by unfold Lt4 at hl ⊢; omega)
theorem noS_b (h : NoS f n a n (n + 1) (n + 1 + 1)) : NoS f n (a + 1) (a + 1 + 1) (a + 1 + 1 + 1) (a + 1 + 1 + 1 + 1) := fun q1 q2 q3 q4 h1 h2 h3 h4 hl => h q1 q2 q3 q4 h1 h2 h3 h4 (by unfold Lt4 at hl ⊢; omega)
theorem noS_end (h7 : n ≤ 7) (h : NoS f n n (n + 1) (n + 1 + 1) (n + 1 + 1 + 1)) : acB f n = true := (acB_iff h7).2 fun a b c d h1 h2 h3 h4 => h a b c d h1 h2 h3 h4 (by unfold Lt4; omega)
end
theorem acB_hit4 {f : Int → Int → Int → Int} {n a b c d : Nat} (h7 : n ≤ 7) (h1 : a < b) (h2 : b < c) (h3 : c < d) (h4 : d < n) (hp : posC f a b c d = true) : acB f n = false := acB_hit (t := (a, b, c, d)) (fours_has h7 h1 h2 h3 h4) hp
/-- A circuit's text is ++++ if it is of one kind. -/
theorem cirT_pos {f : Int → Int → Int → Int} {a b c d : Nat} {v0 v1 v2 v3 : Int} (h0 : f b c d = v0) (h1 : f a c d = v1) (h2 : f a b d = v2) (h3 : f a b c = v3) (s0 : v0 = 1 ∨ v0 = -1) (s1 : v1 = 1 ∨ v1 = -1) (s2 : v2 = 1 ∨ v2 = -1) (s3 : v3 = 1 ∨ v3 = -1) :
    posC f a b c d = (cirT (cir f a b c d) == [43, 43, 43, 43]) := by
  unfold posC cir
  rw [h0, h1, h2, h3]
  rcases s0 with rfl | rfl <;> rcases s1 with rfl | rfl <;> rcases s2 with rfl | rfl <;> rcases s3 with rfl | rfl <;> rfl
set_option maxHeartbeats 3200000 in
set_option maxRecDepth 100000 in
theorem l4Acyclic_any (n : Nat) (s : ByteArray) (h : arB n s.data.toList = true) (w : World) :
    Calls Tryz.prog 93 #[sg n s] w fun e w' => e = .returned (.bool (acB (sgnF (lookS n s.data.toList)) n)) ∧ Below w.heap.size w w' := by
  obtain ⟨_, h7, -, -⟩ := arB_yes h
  have h7 : n ≤ 7 := by omega
  have HS := Lib.hid (box_made w n s 25)
  have HC : Hid (∀ a b c d : Nat, a < b → b < c → c < d → d < n → ∃ L : List UInt8, posC (sgnF (lookS n s.data.toList)) a b c d = (L == [43, 43, 43, 43]) ∧ ∀ W, Calls Tryz.prog 139 #[sg n s, .int .i64 a, .int .i64 b, .int .i64 c, .int .i64 d] W fun e w' => e = .returned (.string ⟨L.toArray⟩) ∧ Below W.heap.size W w') := Lib.hid (fun a b c d h1 h2 h3 h4 =>
    ⟨_, cirT_pos (f := sgnF (lookS n s.data.toList)) rfl rfl rfl rfl (sgn_one h (by omega) (by omega) (by omega) (by omega) (by omega) (by omega)) (sgn_one h (by omega) (by omega) (by omega) (by omega) (by omega) (by omega)) (sgn_one h (by omega) (by omega) (by omega) (by omega) (by omega) (by omega)) (sgn_one h (by omega) (by omega) (by omega) (by omega) (by omega) (by omega)),
      fun W => l4Circuit_any n s a b c d h (by omega) (by omega) (by omega) (by omega) (by omega) (by omega) (by omega) (by omega) (by omega) (by omega) W⟩)
  generalize sgnF (lookS n s.data.toList) = F at HC ⊢
  clear h
  go_enter Tryz.func93, Tryz.ntmps93
  go_wp2
  go_loopw [3] (fun x wr => ∃ a : Nat, a ≤ n ∧ x = .int .i64 a ∧ Hid (NoS F n a (a + 1) (a + 1 + 1) (a + 1 + 1 + 1)) ∧ Hid (Box w n s wr)) (fun x _ => n - (intOf x).toNat)
  case atStart => exact ⟨0, Nat.zero_le _, rfl, Lib.hid noS_zero, HS⟩
  case round =>
    obtain ⟨a, han, rfl, HN, HB⟩ := hrel
    obtain ⟨c0, c1, B0⟩ := HB.out
    by_cases hlt : a < n
    · go_wp2
      go_loopw [4] (fun x wr => ∃ b : Nat, a < b ∧ b ≤ n ∧ x = .int .i64 b ∧ Hid (NoS F n a b (b + 1) (b + 1 + 1)) ∧ Hid (Box w n s wr)) (fun x _ => n - (intOf x).toNat)
      case atStart => exact ⟨a + 1, by omega, by omega, by go_num, HN, HB⟩
      case round =>
        obtain ⟨b, hab, hbn, rfl, HN, HB⟩ := hrel
        obtain ⟨c0, c1, B0⟩ := HB.out
        by_cases hlt2 : b < n
        · go_wp2
          go_loopw [5] (fun x wr => ∃ c : Nat, b < c ∧ c ≤ n ∧ x = .int .i64 c ∧ Hid (NoS F n a b c (c + 1)) ∧ Hid (Box w n s wr)) (fun x _ => n - (intOf x).toNat)
          case atStart => exact ⟨b + 1, by omega, by omega, by go_num, HN, HB⟩
          case round =>
            obtain ⟨c, hbc, hcn, rfl, HN, HB⟩ := hrel
            obtain ⟨c0, c1, B0⟩ := HB.out
            by_cases hlt3 : c < n
            · go_wp2
              go_loopw [6] (fun x wr => ∃ d : Nat, c < d ∧ d ≤ n ∧ x = .int .i64 d ∧ Hid (NoS F n a b c d) ∧ Hid (Box w n s wr)) (fun x _ => n - (intOf x).toNat)
              case atStart => exact ⟨c + 1, by omega, by omega, by go_num, HN, HB⟩
              case round =>
                obtain ⟨d, hcd, hdn, rfl, HN, HB⟩ := hrel
                obtain ⟨c0, c1, B0⟩ := HB.out
                by_cases hlt4 : d < n
                · obtain ⟨L, hL, hcall⟩ := HC.out a b c d hab hbc hcd hlt4
                  have HCALL := Lib.hid hcall
                  clear hcall
                  have htest : (L == [43, 43, 43, 43]) = posC F a b c d := hL.symm
                  cases hpc : posC F a b c d
                  · have HN2 := Lib.hid (noS_step HN.out hpc)
                    rw [hpc] at htest
                    clear hpc hL
                    go_wp2_with fail
                    refine (HCALL.out _).mono ?_
                    rintro e w2 ⟨rfl, hb2⟩
                    have HB2 := Lib.hid (HB.out.on hb2)
                    go_wp2
                    exact ⟨⟨d + 1, by omega, by omega, by go_num, HN2, HB2⟩, by simp only [intOf]; omega⟩
                  · have HF := Lib.hid (acB_hit4 h7 hab hbc hcd hlt4 hpc)
                    rw [hpc] at htest
                    clear hpc hL
                    go_wp2_with fail
                    refine (HCALL.out _).mono ?_
                    rintro e w2 ⟨rfl, hb2⟩
                    have HB2 := Lib.hid (HB.out.on hb2)
                    go_wp2
                    go_ret
                    exact ⟨ret_bool HF.out.symm, HB2.out.2.2⟩
                · have HN2 : Hid (NoS F n a b (c + 1) (c + 1 + 1)) := Lib.hid (noS_d (by have e : d = n := (by omega); subst e; exact HN.out))
                  go_wp2
                  exact ⟨⟨c + 1, by omega, by omega, by go_num, HN2, HB⟩, by simp only [intOf]; omega⟩
            · have HN2 : Hid (NoS F n a (b + 1) (b + 1 + 1) (b + 1 + 1 + 1)) := Lib.hid (noS_c (by have e : c = n := (by omega); subst e; exact HN.out))
              go_wp2
              exact ⟨⟨b + 1, by omega, by omega, by go_num, HN2, HB⟩, by simp only [intOf]; omega⟩
        · have HN2 : Hid (NoS F n (a + 1) (a + 1 + 1) (a + 1 + 1 + 1) (a + 1 + 1 + 1 + 1)) := Lib.hid (noS_b (by have e : b = n := (by omega); subst e; exact HN.out))
          go_wp2
          exact ⟨⟨a + 1, by omega, by go_num, HN2, HB⟩, by simp only [intOf]; omega⟩
    · obtain rfl : a = n := by omega
      have HF := Lib.hid (noS_end h7 HN.out)
      go_wp2
      go_ret
      exact ⟨ret_bool HF.out.symm, B0⟩
end Go.Proofs.YtinlnafkmoabbaaGreatDoor.Sg
/- IsAcyclic, as impl and spec answer it; the law. -/
namespace Go.Proofs.YtinlnafkmoabbaaGreatDoor.Sg
open Go.RowKit Pt NewI
/-- Is the rule kept, and no circuit of one kind? -/
def aciB (n : Int) (s : List UInt8) : Bool := matB n s && acB (sgnF (lookS n s)) n.toNat
theorem matB_ar {n : Int} {s : List UInt8} (h : matB n s = true) : arB n s = true := by
  unfold matB at h
  exact (Bool.and_eq_true_iff.1 h).1
set_option maxHeartbeats 1600000 in
set_option maxRecDepth 100000 in
theorem specAci (n : Int) (s : ByteArray) (hs : s.size ≤ 9223372036854775807) (w : World) :
    Calls Tryz.prog 27 #[sg n s] w fun e w' => e = .returned (.bool (aciB n s.data.toList)) ∧ Below w.heap.size w w' := by
  have HM := Lib.hid (fun W => specMat n s hs W)
  have HS := Lib.hid (fun t => box_made w n s t)
  cases h : matB n s.data.toList
  · have HE : Hid (aciB n s.data.toList = false) := Lib.hid (by unfold aciB; rw [h]; rfl)
    rw [h] at HM
    go_enter Tryz.func27, Tryz.ntmps27
    go_wp2_with fail
    refine (HM.out _).mono ?_
    rintro e w1 ⟨rfl, hb1⟩
    have B1 := ((HS.out _).on hb1).2.2
    go_wp2
    go_ret
    exact ⟨ret_bool HE.out.symm, B1⟩
  · have HE : Hid (aciB n s.data.toList = acB (sgnF (lookS n s.data.toList)) n.toNat) := Lib.hid (by unfold aciB; rw [h]; rfl)
    have har := matB_ar h
    obtain ⟨h3, -⟩ := arB_yes har
    obtain ⟨m, rfl⟩ : ∃ m : Nat, n = m := ⟨n.toNat, by omega⟩
    have HC := Lib.hid (fun W => l4Acyclic_any m s har W)
    rw [h] at HM
    rw [Int.toNat_natCast] at HE
    clear h har
    generalize acB (sgnF (lookS m s.data.toList)) m = b at HC HE
    go_enter Tryz.func27, Tryz.ntmps27
    go_wp2_with fail
    refine (HM.out _).mono ?_
    rintro e w1 ⟨rfl, hb1⟩
    obtain ⟨c0, c1, B1⟩ := (HS.out _).on hb1
    go_wp2_with fail
    refine (HC.out _).mono ?_
    rintro e w2 ⟨rfl, hb2⟩
    have B2 := B1.trans (hb2.mono B1.size)
    go_wp2
    go_ret
    exact ⟨ret_bool HE.out.symm, B2⟩
set_option maxHeartbeats 3200000 in
set_option maxRecDepth 100000 in
theorem implAci_yes (n : Nat) (s : ByteArray) (h : matB n s.data.toList = true) (w : World) :
    Calls Tryz.prog 143 #[sg n s] w fun e w' => e = .returned (.bool (acB (sgnF (lookS n s.data.toList)) n)) ∧ Below w.heap.size w w' := by
  have har := matB_ar h
  obtain ⟨h3, h7, hl, -⟩ := arB_yes har
  have h3 : 3 ≤ n := by omega
  have h7 : n ≤ 7 := by omega
  have hs35 : s.size ≤ 35 := by have := cnt_le h7; have : s.size = cnt n := by simpa using hl
                                omega
  have HS := Lib.hid (box_made w n s 25)
  obtain ⟨P0, P1, P2, b, HP0, HMA, HMO, HFO, HAC, HB⟩ : ∃ (P0 : World → Prop) (P1 : World → Nat → Prop) (P2 : World → Nat → Option Addr → Prop) (b : Bool),
      Hid (∀ W, Box w n s W → P0 W) ∧
      Hid (∀ W, P0 W → Calls Tryz.prog 170 #[sg n s] W fun e w' => e = .returned (.bool true) ∧ (w'.cell? ⟨w.heap.size, 0, none⟩ = some (.int .i64 n) ∧ w'.cell? ⟨w.heap.size, 1, none⟩ = some (.string s)) ∧ P0 w') ∧
      Hid (∀ W, P0 W → Calls Tryz.prog 123 #[sg n s] W fun e w' => ∃ b, e = .returned (.map (some b)) ∧ (w'.cell? ⟨w.heap.size, 0, none⟩ = some (.int .i64 n) ∧ w'.cell? ⟨w.heap.size, 1, none⟩ = some (.string s)) ∧ P1 w' b) ∧
      Hid (∀ b W, P1 W b → Calls Tryz.prog 172 #[.int .i64 n] W fun e w' => ∃ a c, e = .returned (.slice a (fours n).length c) ∧ (w'.cell? ⟨w.heap.size, 0, none⟩ = some (.int .i64 n) ∧ w'.cell? ⟨w.heap.size, 1, none⟩ = some (.string s)) ∧ P2 w' b a) ∧
      Hid (∀ mb a c W, P2 W mb a → Calls Tryz.prog 171 #[.map (some mb), .slice a (fours n).length c] W fun e w' => e = .returned (.bool b) ∧ (w'.cell? ⟨w.heap.size, 0, none⟩ = some (.int .i64 n) ∧ w'.cell? ⟨w.heap.size, 1, none⟩ = some (.string s)) ∧ Below w.heap.size w w') ∧
      Hid (acB (sgnF (lookS n s.data.toList)) n = b) :=
    ⟨fun W => Box w n s W, fun W mb => Box w n s W ∧ MapIs W mb (lookS n s.data.toList), fun W mb a => Box w n s W ∧ MapIs W mb (lookS n s.data.toList) ∧ Row4 W a (fours n), _,
      Lib.hid (fun W h => h),
      Lib.hid (fun W hW => (implMat n s (by omega) W).mono fun e w' ⟨he, hb⟩ => ⟨by rw [he, h], ⟨(hW.on hb).1, (hW.on hb).2.1⟩, hW.on hb⟩),
      Lib.hid (fun W hW => (mapOf_sg n s (by omega) W).mono fun e w' ⟨b, he, _, hm, hb⟩ => ⟨b, he, ⟨(hW.on hb).1, (hW.on hb).2.1⟩, hW.on hb, hm⟩),
      Lib.hid (fun b W hW => (foursOf_any n h3 h7 W).mono fun e w' ⟨v, he, hv, hb⟩ => by
        obtain ⟨a, c, rfl, hr⟩ := owns4_row hv
        exact ⟨a, c, he, ⟨(hW.1.on hb).1, (hW.1.on hb).2.1⟩, hW.1.on hb, hW.2.on hb, fun hne => by obtain ⟨g, h1, _, h2, h4⟩ := hr hne; exact ⟨g, h1, h2, h4⟩⟩),
      Lib.hid (fun mb a c W hW => (isAcyclic_any mb (lookS n s.data.toList) n h7 a c W hW.2.1 hW.2.2).mono fun e w' ⟨he, hb⟩ => ⟨he, ⟨(hW.1.on hb).1, (hW.1.on hb).2.1⟩, (hW.1.on hb).2.2⟩),
      Lib.hid rfl⟩
  rw [HB.out]
  obtain ⟨x0, x1, -⟩ := HS.out
  have W1 := Lib.hid (HP0.out _ HS.out.drew)
  have hl4 := fours_len h7
  clear h har hl HB HP0
  go_enter Tryz.func143, Tryz.ntmps143
  go_wp2
  go_region_held3 (fun W => W.cell? ⟨w.heap.size, 0, none⟩ = some (.int .i64 n) ∧ W.cell? ⟨w.heap.size, 1, none⟩ = some (.string s))
    (first | exact ⟨x0, x1⟩ | exact ⟨by assumption, by assumption⟩)
    (first
    | (go_at_call 170; refine (HMA.out _ W1.out).mono ?_; rintro e w' ⟨rfl, ⟨y0, y1⟩, HQ0⟩)
    | (go_at_call 123; refine (HMO.out _ HQ0).mono ?_; rintro e w' ⟨mb, rfl, ⟨y2, y3⟩, HQ1⟩)
    | (go_at_call 172; refine (HFO.out _ _ HQ1).mono ?_; rintro e w' ⟨fa, fc, rfl, ⟨y4, y5⟩, HQ2⟩)
    | (go_at_call 171; refine (HAC.out _ _ _ _ HQ2).mono ?_; rintro e w' ⟨rfl, ⟨y6, y7⟩, BF⟩))
  all_goals go_wp2
  all_goals go_ret
  all_goals exact ⟨rfl, BF⟩
set_option maxHeartbeats 1600000 in
set_option maxRecDepth 100000 in
theorem implAci_no (n : Int) (s : ByteArray) (hs : s.size ≤ 9223372036854775807) (h : matB n s.data.toList = false) (w : World) :
    Calls Tryz.prog 143 #[sg n s] w fun e w' => e = .returned (.bool false) ∧ Below w.heap.size w w' := by
  have HS := Lib.hid (box_made w n s 25)
  have HMA : Hid (∀ W, Box w n s W → Calls Tryz.prog 170 #[sg n s] W fun e w' => e = .returned (.bool false) ∧ (w'.cell? ⟨w.heap.size, 0, none⟩ = some (.int .i64 n) ∧ w'.cell? ⟨w.heap.size, 1, none⟩ = some (.string s)) ∧ Below w.heap.size w w') := Lib.hid (fun W hW => (implMat n s hs W).mono fun e w' ⟨he, hb⟩ => ⟨by rw [he, h], ⟨(hW.on hb).1, (hW.on hb).2.1⟩, (hW.on hb).2.2⟩)
  obtain ⟨x0, x1, -⟩ := HS.out
  clear h
  go_enter Tryz.func143, Tryz.ntmps143
  go_wp2
  have hS0 := (⟨x0, x1⟩ : (w.alloc (.cells #[.int .i64 n, .string s] 25)).drew.cell? ⟨w.heap.size, 0, none⟩ = some (.int .i64 n) ∧ (w.alloc (.cells #[.int .i64 n, .string s] 25)).drew.cell? ⟨w.heap.size, 1, none⟩ = some (.string s))
  refine wp_region_held_drew (S := fun W => W.cell? ⟨w.heap.size, 0, none⟩ = some (.int .i64 n) ∧ W.cell? ⟨w.heap.size, 1, none⟩ = some (.string s)) (by kernel_rfl) hS0 (fun hHeld => ?_)
  clear x0 x1
  (refine wpAnyH_take (i := 0) (v := ?_) rfl (by kernel_rfl) (by kernel_rfl) (by kernel_rfl) (fun _ _ _ h => h) (Or.inl ⟨by rfl, ?_⟩) (by assumption) ?_; rotate_left; (focus (intro w hSw; (try dsimp only at hSw); go_simp; (try with_reducible rfl))); (simp only [Act.put, List.setIfInBounds_toArray]))
  refine wpAnyH_ready (rs := [1]) (by kernel_rfl) (by simp) ?_
  refine AllReadyH.cons rfl (fun K hK => ?_) AllReadyH.nil
  go_simp
  refine (HMA.out _ HS.out.drew).mono ?_
  clear hHeld
  rintro e w2 ⟨rfl, hc, BF⟩
  refine hK.out _ _ hc (fun hHeld => ?_)
  clear hK K hc
  try simp only [Act.put, List.setIfInBounds_toArray, List.set_cons_zero, List.set_cons_succ]
  (refine wpAnyH_take (i := 2) (v := ?_) rfl (by kernel_rfl) (by kernel_rfl) (by kernel_rfl) (fun _ _ _ h => h) (Or.inl ⟨by rfl, ?_⟩) (by assumption) ?_; rotate_left; (focus (intro w hSw; (try dsimp only at hSw); go_simp; (try with_reducible rfl))); (simp only [Act.put, List.setIfInBounds_toArray]))
  refine wpAnyH_take (i := 3) (v := undef) rfl (by kernel_rfl) (by kernel_rfl) (by kernel_rfl) (fun _ _ _ h => h) (Or.inr ⟨by rfl, rfl⟩) (by assumption) ?_
  simp only [Act.put]
  refine wpAnyH_take (i := 4) (v := undef) rfl (by kernel_rfl) (by kernel_rfl) (by kernel_rfl) (fun _ _ _ h => h) (Or.inr ⟨by rfl, rfl⟩) (by assumption) ?_
  simp only [Act.put]
  refine wpAnyH_take (i := 5) (v := undef) rfl (by kernel_rfl) (by kernel_rfl) (by kernel_rfl) (fun _ _ _ h => h) (Or.inr ⟨by rfl, rfl⟩) (by assumption) ?_
  simp only [Act.put]
  refine wpAnyH_take (i := 6) (v := undef) rfl (by kernel_rfl) (by kernel_rfl) (by kernel_rfl) (fun _ _ _ h => h) (Or.inr ⟨by rfl, rfl⟩) (by assumption) ?_
  simp only [Act.put]
  refine wpAnyH_take (i := 7) (v := undef) rfl (by kernel_rfl) (by kernel_rfl) (by kernel_rfl) (fun _ _ _ h => h) (Or.inr ⟨by rfl, rfl⟩) (by assumption) ?_
  simp only [Act.put]
  refine wpAnyH_take (i := 8) (v := undef) rfl (by kernel_rfl) (by kernel_rfl) (by kernel_rfl) (fun _ _ _ h => h) (Or.inr ⟨by rfl, rfl⟩) (by assumption) ?_
  simp only [Act.put]
  (refine wpAnyH_take (i := 9) (oi := { dst := some 12, op := Op.pick (Operand.tmp 5) (Operand.tmp 11) (Operand.const (Value.bool false)), type := 4, pos := "l04_rule.go:84", after := #[{ on := 2, ground := Ground.data }, { on := 8, ground := Ground.data }], guard := none }) (v := ?_) rfl (by kernel_rfl) (by kernel_rfl) (by kernel_rfl) (fun _ _ _ h => h) (Or.inl ⟨by rfl, ?_⟩) (by assumption) ?_; rotate_left; (focus (intro w hSw; (try dsimp only at hSw); go_simp; (try with_reducible rfl))))
  simp only [Act.put]
  (refine wpAnyH_take (i := 10) (oi := { dst := some 2, op := Op.assign (Operand.tmp 12), type := 4, pos := "l04_rule.go:84", after := #[{ on := 9, ground := Ground.data }, { on := 8, ground := Ground.chain }, { on := 0, ground := Ground.phase }, { on := 1, ground := Ground.phase }, { on := 2, ground := Ground.phase }, { on := 3, ground := Ground.phase }, { on := 4, ground := Ground.phase }, { on := 5, ground := Ground.phase }, { on := 6, ground := Ground.phase }, { on := 7, ground := Ground.phase }, { on := 8, ground := Ground.phase }, { on := 9, ground := Ground.phase }], guard := none }) (v := ?_) rfl (by kernel_rfl) (by kernel_rfl) (by kernel_rfl) (fun _ _ _ h => h) (Or.inl ⟨by rfl, ?_⟩) (by assumption) ?_; rotate_left; (focus (intro w hSw; (try dsimp only at hSw); go_simp; (try with_reducible rfl))))
  simp only [Act.put]
  refine wpAnyH_done (by kernel_rfl) ?_ _
  go_wp2
  go_ret
  exact ⟨by simp, BF⟩
theorem implAci (n : Int) (s : ByteArray) (hs : s.size ≤ 9223372036854775807) (w : World) :
    Calls Tryz.prog 143 #[sg n s] w fun e w' => e = .returned (.bool (aciB n s.data.toList)) ∧ Below w.heap.size w w' := by
  cases h : matB n s.data.toList
  · have HE : aciB n s.data.toList = false := by unfold aciB; rw [h]; rfl
    rw [HE]
    exact implAci_no n s hs h w
  · obtain ⟨h3, -⟩ := arB_yes (matB_ar h)
    obtain ⟨m, rfl⟩ : ∃ m : Nat, n = m := ⟨n.toNat, by omega⟩
    have HE : aciB m s.data.toList = acB (sgnF (lookS m s.data.toList)) m := by unfold aciB; rw [h, Int.toNat_natCast]; rfl
    rw [HE]
    exact implAci_yes m s h w
end Go.Proofs.YtinlnafkmoabbaaGreatDoor.Sg
