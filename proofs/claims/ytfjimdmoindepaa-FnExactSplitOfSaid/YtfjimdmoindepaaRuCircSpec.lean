/- CircuitOf, as spec answers it. -/
import Derived.Test.YtfjimdmoindepaaRuCircOf
import Derived.Test.YtfjimdmoindepaaSgOppSpec
namespace Go.Proofs.Ytfjimdmoindepaa.Sg
open Go.RowKit Pt
theorem sgn_one {n : Nat} {s : List UInt8} (h : arB n s = true) {x y z : Nat} (hx : x < n) (hy : y < n) (hz : z < n) (h1 : x ≠ y) (h2 : y ≠ z) (h3 : x ≠ z) : sgnF (lookS n s) x y z = 1 ∨ sgnF (lookS n s) x y z = -1 := by
  obtain ⟨f1, f2, f3, f4, f5⟩ := srt_facts (x : Int) y z
  have hp : (srt (x : Int) y z).2.2.2 = 1 ∨ (srt (x : Int) y z).2.2.2 = -1 := by
    unfold srt
    by_cases a1 : (y : Int) < x
    · by_cases a2 : (z : Int) < x
      · by_cases a3 : (z : Int) < y
        · simp [a1, a2, a3]
        · simp [a1, a2, a3]
      · have a3 : ¬ (x : Int) < y := by omega
        simp [a1, a2, a3]
    · by_cases a2 : (z : Int) < y
      · by_cases a3 : (z : Int) < x
        · simp [a1, a2, a3]
        · simp [a1, a2, a3]
      · simp [a1, a2]
  have hs : (srt (x : Int) y z).1 < (srt (x : Int) y z).2.1 ∧ (srt (x : Int) y z).2.1 < (srt (x : Int) y z).2.2.1 ∧ 0 ≤ (srt (x : Int) y z).1 ∧ (srt (x : Int) y z).2.2.1 < n := by
    unfold srt
    by_cases a1 : (y : Int) < x
    · by_cases a2 : (z : Int) < x
      · by_cases a3 : (z : Int) < y
        · simp [a1, a2, a3]; omega
        · simp [a1, a2, a3]; omega
      · have a3 : ¬ (x : Int) < y := by omega
        simp [a1, a2, a3]; omega
    · by_cases a2 : (z : Int) < y
      · by_cases a3 : (z : Int) < x
        · simp [a1, a2, a3]; omega
        · simp [a1, a2, a3]; omega
      · simp [a1, a2]; omega
  have hl : look n s (srt (x : Int) y z).1 (srt (x : Int) y z).2.1 (srt (x : Int) y z).2.2.1 = 1 ∨ look n s (srt (x : Int) y z).1 (srt (x : Int) y z).2.1 (srt (x : Int) y z).2.2.1 = -1 := by
    unfold look
    rw [if_pos ⟨hs.2.2.1, hs.1, hs.2.1, hs.2.2.2⟩]
    unfold sgn1
    split
    · exact .inl rfl
    · exact .inr rfl
  rw [lookS_yes h, Int.toNat_natCast]
  unfold sgnF
  rcases hp with hp | hp <;> rcases hl with hl | hl <;> rw [hp, hl] <;> omega
theorem cirT_sum {f : Int → Int → Int → Int} {a b c d : Nat} {v0 v1 v2 v3 : Int} (h0 : f b c d = v0) (h1 : f a c d = v1) (h2 : f a b d = v2) (h3 : f a b c = v3) (s0 : v0 = 1 ∨ v0 = -1) (s1 : v1 = 1 ∨ v1 = -1) (s2 : v2 = 1 ∨ v2 = -1) (s3 : v3 = 1 ∨ v3 = -1) :
    cirT (cir f a b c d) = [43, byteOf (-v0 * v1), byteOf (v0 * v2), byteOf (-v0 * v3)] := by
  unfold cir
  rw [h0, h1, h2, h3]
  rcases s0 with rfl | rfl <;> rcases s1 with rfl | rfl <;> rcases s2 with rfl | rfl <;> rcases s3 with rfl | rfl <;> rfl
set_option maxHeartbeats 3200000 in
set_option maxRecDepth 100000 in
theorem l4Circuit_any (n : Nat) (s : ByteArray) (a b c d : Nat) (h : arB n s.data.toList = true) (ha : a < n) (hb : b < n) (hc : c < n) (hd : d < n) (d1 : a ≠ b) (d2 : a ≠ c) (d3 : a ≠ d) (d4 : b ≠ c) (d5 : b ≠ d) (d6 : c ≠ d) (w : World) :
    Calls Try.prog 57 #[sg n s, .int .i64 a, .int .i64 b, .int .i64 c, .int .i64 d] w fun e w' => e = .returned (.string ⟨(cirT (cir (sgnF (lookS n s.data.toList)) a b c d)).toArray⟩) ∧ Below w.heap.size w w' := by
  obtain ⟨G, hG⟩ : ∃ G : Nat → Nat → Nat → Int, ∀ x y z : Nat, sgnF (lookS n s.data.toList) x y z = G x y z := ⟨_, fun _ _ _ => rfl⟩
  have HA : Hid (∀ x y z : Nat, x < n → y < n → z < n → x ≠ y → y ≠ z → x ≠ z → ∀ W, W.cell? ⟨w.heap.size, 0, none⟩ = some (.int .i64 n) ∧ W.cell? ⟨w.heap.size, 1, none⟩ = some (.string s) ∧ Below w.heap.size w W → Calls Try.prog 71 #[sg n s, .int .i64 x, .int .i64 y, .int .i64 z] W fun e w' => e = .returned (.int .i64 (G x y z)) ∧ w'.cell? ⟨w.heap.size, 0, none⟩ = some (.int .i64 n) ∧ w'.cell? ⟨w.heap.size, 1, none⟩ = some (.string s) ∧ Below w.heap.size w w') := Lib.hid (fun x y z hx hy hz h1 h2 h3 W hW => by
    rw [← hG]; exact held_box (l3At_any n s x y z h hx hy hz h1 h2 h3 W) hW)
  have s0 : G b c d = 1 ∨ G b c d = -1 := by rw [← hG]; exact sgn_one h hb hc hd d4 d6 d5
  have s1 : G a c d = 1 ∨ G a c d = -1 := by rw [← hG]; exact sgn_one h ha hc hd d2 d6 d3
  have s2 : G a b d = 1 ∨ G a b d = -1 := by rw [← hG]; exact sgn_one h ha hb hd d1 d5 d3
  have s3 : G a b c = 1 ∨ G a b c = -1 := by rw [← hG]; exact sgn_one h ha hb hc d1 d4 d2
  have HE := Lib.hid (cirT_sum (f := sgnF (lookS n s.data.toList)) (hG b c d) (hG a c d) (hG a b d) (hG a b c) s0 s1 s2 s3)
  have m1 := mul_bd (x := -G b c d) (y := G a c d) (by omega) (by omega)
  have m2 := mul_bd (x := G b c d) (y := G a b d) (by omega) (by omega)
  have m3 := mul_bd (x := -G b c d) (y := G a b c) (by omega) (by omega)
  have b0 : -1 ≤ G b c d ∧ G b c d ≤ 1 := by omega
  have HS := Lib.hid (box_made w n s 25)
  have hr1 : ∀ W (x : UInt8), (Op.stringOp .add ⟨#[43]⟩ ⟨#[x]⟩).run Try.prog W = .ok (.string ⟨#[43, x]⟩) W := fun W x => run_string_add_sum W _ _ (by show 1 + 1 ≤ _; omega)
  have hr2 : ∀ W (x y : UInt8), (Op.stringOp .add ⟨#[43, x]⟩ ⟨#[y]⟩).run Try.prog W = .ok (.string ⟨#[43, x, y]⟩) W := fun W x y => run_string_add_sum W _ _ (by show 2 + 1 ≤ _; omega)
  have hr3 : ∀ W (x y z : UInt8), (Op.stringOp .add ⟨#[43, x, y]⟩ ⟨#[z]⟩).run Try.prog W = .ok (.string ⟨#[43, x, y, z]⟩) W := fun W x y z => run_string_add_sum W _ _ (by show 3 + 1 ≤ _; omega)
  clear h hG s0 s1 s2 s3
  obtain ⟨c0, c1, B0⟩ := HS.out
  go_enter Try.func57, Try.ntmps57
  go_wp2_with fail
  refine (HA.out _ _ _ hb hc hd d4 d6 d5 _ ⟨c0, c1, B0⟩).mono ?_
  clear c0 c1 B0
  rintro e w1 ⟨rfl, c0, c1, B1⟩
  go_wp2
  go_region_held3 (fun W => W.cell? ⟨w.heap.size, 0, none⟩ = some (.int .i64 n) ∧ W.cell? ⟨w.heap.size, 1, none⟩ = some (.string s) ∧ Below w.heap.size w W)
    (first | exact ⟨by assumption, by assumption, by assumption⟩ | exact ⟨by assumption, by assumption, Below.drew (by assumption)⟩)
    (first
    | (go_at_call 71; refine (HA.out _ _ _ (by omega) (by omega) (by omega) (by omega) (by omega) (by omega) _ ?_).mono ?_; (first | exact ⟨by assumption, by assumption, by assumption⟩ | exact ⟨by assumption, by assumption, Below.drew (by assumption)⟩); rintro e' w' ⟨rfl, c1, c2, c3⟩)
    | (go_at_call 72; refine (l3Byte_any _ _).mono ?_; rintro e' w' ⟨rfl, rfl⟩))
  all_goals
    go_wp2_with fail
    refine (HA.out _ _ _ ha hb hc d1 d4 d2 _ ⟨by assumption, by assumption, by assumption⟩).mono ?_
    rintro e' w3 ⟨rfl, k0, k1, B3⟩
    go_wp2_with (go_at_call 72; refine (l3Byte_any _ _).mono ?_; rintro e' w' ⟨rfl, rfl⟩)
    go_ret
    exact ⟨by rw [HE.out]; rfl, B3⟩
/-- What spec.SignAt answers is 0 or a sign. -/
theorem cirT_zero {f : Int → Int → Int → Int} {a b c d : Int} (h : f b c d = 0 ∨ f a c d = 0 ∨ f a b d = 0 ∨ f a b c = 0) : cirT (cir f a b c d) = [] := by
  unfold cirT cir
  rw [if_pos]
  simp only
  rcases h with h | h | h | h <;> rw [h] <;> simp
end Go.Proofs.Ytfjimdmoindepaa.Sg
