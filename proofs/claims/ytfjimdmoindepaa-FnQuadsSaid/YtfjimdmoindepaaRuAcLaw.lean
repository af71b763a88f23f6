/- IsAcyclic, as impl and spec answer it; the law. -/
import Derived.Test.YtfjimdmoindepaaRuAcSpec
namespace Go.Proofs.Ytfjimdmoindepaa.Sg
open Go.RowKit Pt NewI
/-- Is the rule kept, and no circuit of one kind? -/
def aciB (n : Int) (s : List UInt8) : Bool := matB n s && acB (sgnF (lookS n s)) n.toNat
theorem matB_ar {n : Int} {s : List UInt8} (h : matB n s = true) : arB n s = true := by
  unfold matB at h
  exact (Bool.and_eq_true_iff.1 h).1
set_option maxHeartbeats 1600000 in
set_option maxRecDepth 100000 in
theorem specAci (n : Int) (s : ByteArray) (hs : s.size ≤ 9223372036854775807) (w : World) :
    Calls Try.prog 25 #[sg n s] w fun e w' => e = .returned (.bool (aciB n s.data.toList)) ∧ Below w.heap.size w w' := by
  have HM := Lib.hid (fun W => specMat n s hs W)
  have HS := Lib.hid (fun t => box_made w n s t)
  cases h : matB n s.data.toList
  · have HE : Hid (aciB n s.data.toList = false) := Lib.hid (by unfold aciB; rw [h]; rfl)
    rw [h] at HM
    go_enter Try.func25, Try.ntmps25
    go_wp2_with fail
    refine (HM.out _).mono ?_
    rintro e w1 ⟨rfl, hb1⟩
    have B1 := ((HS.out _).on hb1).2.2
    go_wp2
    go_ret
    exact ⟨ret_bool HE.out.symm, B1⟩
  · have HE : Hid (aciB n s.data.toList = acB (sgnF (lookS n s.data.toList)) n.toNat) := Lib.hid (by unfold aciB; rw [h]; rfl)
    have har := matB_ar h
    obtain ⟨h3, -⟩ := arB_yes har
    obtain ⟨m, rfl⟩ : ∃ m : Nat, n = m := ⟨n.toNat, by omega⟩
    have HC := Lib.hid (fun W => l4Acyclic_any m s har W)
    rw [h] at HM
    rw [Int.toNat_natCast] at HE
    clear h har
    generalize acB (sgnF (lookS m s.data.toList)) m = b at HC HE
    go_enter Try.func25, Try.ntmps25
    go_wp2_with fail
    refine (HM.out _).mono ?_
    rintro e w1 ⟨rfl, hb1⟩
    obtain ⟨c0, c1, B1⟩ := (HS.out _).on hb1
    go_wp2_with fail
    refine (HC.out _).mono ?_
    rintro e w2 ⟨rfl, hb2⟩
    have B2 := B1.trans (hb2.mono B1.size)
    go_wp2
    go_ret
    exact ⟨ret_bool HE.out.symm, B2⟩
set_option maxHeartbeats 3200000 in
set_option maxRecDepth 100000 in
theorem implAci_yes (n : Nat) (s : ByteArray) (h : matB n s.data.toList = true) (w : World) :
    Calls Try.prog 52 #[sg n s] w fun e w' => e = .returned (.bool (acB (sgnF (lookS n s.data.toList)) n)) ∧ Below w.heap.size w w' := by
  have har := matB_ar h
  obtain ⟨h3, h7, hl, -⟩ := arB_yes har
  have h3 : 3 ≤ n := by omega
  have h7 : n ≤ 7 := by omega
  have hs35 : s.size ≤ 35 := by have := cnt_le h7; have : s.size = cnt n := by simpa using hl
                                omega
  have HS := Lib.hid (box_made w n s 25)
  obtain ⟨P0, P1, P2, b, HP0, HMA, HMO, HFO, HAC, HB⟩ : ∃ (P0 : World → Prop) (P1 : World → Nat → Prop) (P2 : World → Nat → Option Addr → Prop) (b : Bool),
      Hid (∀ W, Box w n s W → P0 W) ∧
      Hid (∀ W, P0 W → Calls Try.prog 66 #[sg n s] W fun e w' => e = .returned (.bool true) ∧ (w'.cell? ⟨w.heap.size, 0, none⟩ = some (.int .i64 n) ∧ w'.cell? ⟨w.heap.size, 1, none⟩ = some (.string s)) ∧ P0 w') ∧
      Hid (∀ W, P0 W → Calls Try.prog 53 #[sg n s] W fun e w' => ∃ b, e = .returned (.map (some b)) ∧ (w'.cell? ⟨w.heap.size, 0, none⟩ = some (.int .i64 n) ∧ w'.cell? ⟨w.heap.size, 1, none⟩ = some (.string s)) ∧ P1 w' b) ∧
      Hid (∀ b W, P1 W b → Calls Try.prog 61 #[.int .i64 n] W fun e w' => ∃ a c, e = .returned (.slice a (fours n).length c) ∧ (w'.cell? ⟨w.heap.size, 0, none⟩ = some (.int .i64 n) ∧ w'.cell? ⟨w.heap.size, 1, none⟩ = some (.string s)) ∧ P2 w' b a) ∧
      Hid (∀ mb a c W, P2 W mb a → Calls Try.prog 67 #[.map (some mb), .slice a (fours n).length c] W fun e w' => e = .returned (.bool b) ∧ (w'.cell? ⟨w.heap.size, 0, none⟩ = some (.int .i64 n) ∧ w'.cell? ⟨w.heap.size, 1, none⟩ = some (.string s)) ∧ Below w.heap.size w w') ∧
      Hid (acB (sgnF (lookS n s.data.toList)) n = b) :=
    ⟨fun W => Box w n s W, fun W mb => Box w n s W ∧ MapIs W mb (lookS n s.data.toList), fun W mb a => Box w n s W ∧ MapIs W mb (lookS n s.data.toList) ∧ Row4 W a (fours n), _,
      Lib.hid (fun W h => h),
      Lib.hid (fun W hW => (implMat n s (by omega) W).mono fun e w' ⟨he, hb⟩ => ⟨by rw [he, h], ⟨(hW.on hb).1, (hW.on hb).2.1⟩, hW.on hb⟩),
      Lib.hid (fun W hW => (mapOf_sg n s (by omega) W).mono fun e w' ⟨b, he, _, hm, hb⟩ => ⟨b, he, ⟨(hW.on hb).1, (hW.on hb).2.1⟩, hW.on hb, hm⟩),
      Lib.hid (fun b W hW => (foursOf_any n h3 h7 W).mono fun e w' ⟨v, he, hv, hb⟩ => by
        obtain ⟨a, c, rfl, hr⟩ := owns4_row hv
        exact ⟨a, c, he, ⟨(hW.1.on hb).1, (hW.1.on hb).2.1⟩, hW.1.on hb, hW.2.on hb, fun hne => by obtain ⟨g, h1, _, h2, h4⟩ := hr hne; exact ⟨g, h1, h2, h4⟩⟩),
      Lib.hid (fun mb a c W hW => (isAcyclic_any mb (lookS n s.data.toList) n h7 a c W hW.2.1 hW.2.2).mono fun e w' ⟨he, hb⟩ => ⟨he, ⟨(hW.1.on hb).1, (hW.1.on hb).2.1⟩, (hW.1.on hb).2.2⟩),
      Lib.hid rfl⟩
  rw [HB.out]
  obtain ⟨x0, x1, -⟩ := HS.out
  have W1 := Lib.hid (HP0.out _ HS.out.drew)
  have hl4 := fours_len h7
  clear h har hl HB HP0
  go_enter Try.func52, Try.ntmps52
  go_wp2
  go_region_held3 (fun W => W.cell? ⟨w.heap.size, 0, none⟩ = some (.int .i64 n) ∧ W.cell? ⟨w.heap.size, 1, none⟩ = some (.string s))
    (first | exact ⟨x0, x1⟩ | exact ⟨by assumption, by assumption⟩)
    (first
    | (go_at_call 66; refine (HMA.out _ W1.out).mono ?_; rintro e w' ⟨rfl, ⟨y0, y1⟩, HQ0⟩)
    | (go_at_call 53; refine (HMO.out _ HQ0).mono ?_; rintro e w' ⟨mb, rfl, ⟨y2, y3⟩, HQ1⟩)
    | (go_at_call 61; refine (HFO.out _ _ HQ1).mono ?_; rintro e w' ⟨fa, fc, rfl, ⟨y4, y5⟩, HQ2⟩)
    | (go_at_call 67; refine (HAC.out _ _ _ _ HQ2).mono ?_; rintro e w' ⟨rfl, ⟨y6, y7⟩, BF⟩))
  all_goals go_wp2
  all_goals go_ret
  all_goals exact ⟨rfl, BF⟩
set_option maxHeartbeats 1600000 in
set_option maxRecDepth 100000 in
theorem implAci_no (n : Int) (s : ByteArray) (hs : s.size ≤ 9223372036854775807) (h : matB n s.data.toList = false) (w : World) :
    Calls Try.prog 52 #[sg n s] w fun e w' => e = .returned (.bool false) ∧ Below w.heap.size w w' := by
  have HS := Lib.hid (box_made w n s 25)
  have HMA : Hid (∀ W, Box w n s W → Calls Try.prog 66 #[sg n s] W fun e w' => e = .returned (.bool false) ∧ (w'.cell? ⟨w.heap.size, 0, none⟩ = some (.int .i64 n) ∧ w'.cell? ⟨w.heap.size, 1, none⟩ = some (.string s)) ∧ Below w.heap.size w w') := Lib.hid (fun W hW => (implMat n s hs W).mono fun e w' ⟨he, hb⟩ => ⟨by rw [he, h], ⟨(hW.on hb).1, (hW.on hb).2.1⟩, (hW.on hb).2.2⟩)
  obtain ⟨x0, x1, -⟩ := HS.out
  clear h
  go_enter Try.func52, Try.ntmps52
  go_wp2
  have hS0 := (⟨x0, x1⟩ : (w.alloc (.cells #[.int .i64 n, .string s] 25)).drew.cell? ⟨w.heap.size, 0, none⟩ = some (.int .i64 n) ∧ (w.alloc (.cells #[.int .i64 n, .string s] 25)).drew.cell? ⟨w.heap.size, 1, none⟩ = some (.string s))
  refine wp_region_held_drew (S := fun W => W.cell? ⟨w.heap.size, 0, none⟩ = some (.int .i64 n) ∧ W.cell? ⟨w.heap.size, 1, none⟩ = some (.string s)) (by kernel_rfl) hS0 (fun hHeld => ?_)
  clear x0 x1
  (refine wpAnyH_take (i := 0) (v := ?_) rfl (by kernel_rfl) (by kernel_rfl) (by kernel_rfl) (fun _ _ _ h => h) (Or.inl ⟨by rfl, ?_⟩) (by assumption) ?_; rotate_left; (focus (intro w hSw; (try dsimp only at hSw); go_simp; (try with_reducible rfl))); (simp only [Act.put, List.setIfInBounds_toArray]))
  refine wpAnyH_ready (rs := [1]) (by kernel_rfl) (by simp) ?_
  refine AllReadyH.cons rfl (fun K hK => ?_) AllReadyH.nil
  go_simp
  refine (HMA.out _ HS.out.drew).mono ?_
  clear hHeld
  rintro e w2 ⟨rfl, hc, BF⟩
  refine hK.out _ _ hc (fun hHeld => ?_)
  clear hK K hc
  try simp only [Act.put, List.setIfInBounds_toArray, List.set_cons_zero, List.set_cons_succ]
  (refine wpAnyH_take (i := 2) (v := ?_) rfl (by kernel_rfl) (by kernel_rfl) (by kernel_rfl) (fun _ _ _ h => h) (Or.inl ⟨by rfl, ?_⟩) (by assumption) ?_; rotate_left; (focus (intro w hSw; (try dsimp only at hSw); go_simp; (try with_reducible rfl))); (simp only [Act.put, List.setIfInBounds_toArray]))
  refine wpAnyH_take (i := 3) (v := undef) rfl (by kernel_rfl) (by kernel_rfl) (by kernel_rfl) (fun _ _ _ h => h) (Or.inr ⟨by rfl, rfl⟩) (by assumption) ?_
  simp only [Act.put]
  refine wpAnyH_take (i := 4) (v := undef) rfl (by kernel_rfl) (by kernel_rfl) (by kernel_rfl) (fun _ _ _ h => h) (Or.inr ⟨by rfl, rfl⟩) (by assumption) ?_
  simp only [Act.put]
  refine wpAnyH_take (i := 5) (v := undef) rfl (by kernel_rfl) (by kernel_rfl) (by kernel_rfl) (fun _ _ _ h => h) (Or.inr ⟨by rfl, rfl⟩) (by assumption) ?_
  simp only [Act.put]
  refine wpAnyH_take (i := 6) (v := undef) rfl (by kernel_rfl) (by kernel_rfl) (by kernel_rfl) (fun _ _ _ h => h) (Or.inr ⟨by rfl, rfl⟩) (by assumption) ?_
  simp only [Act.put]
  refine wpAnyH_take (i := 7) (v := undef) rfl (by kernel_rfl) (by kernel_rfl) (by kernel_rfl) (fun _ _ _ h => h) (Or.inr ⟨by rfl, rfl⟩) (by assumption) ?_
  simp only [Act.put]
  refine wpAnyH_take (i := 8) (v := undef) rfl (by kernel_rfl) (by kernel_rfl) (by kernel_rfl) (fun _ _ _ h => h) (Or.inr ⟨by rfl, rfl⟩) (by assumption) ?_
  simp only [Act.put]
  (refine wpAnyH_take (i := 9) (oi := { dst := some 12, op := Op.pick (Operand.tmp 5) (Operand.tmp 11) (Operand.const (Value.bool false)), type := 4, pos := "l04_rule.go:84", after := #[{ on := 2, ground := Ground.data }, { on := 8, ground := Ground.data }], guard := none }) (v := ?_) rfl (by kernel_rfl) (by kernel_rfl) (by kernel_rfl) (fun _ _ _ h => h) (Or.inl ⟨by rfl, ?_⟩) (by assumption) ?_; rotate_left; (focus (intro w hSw; (try dsimp only at hSw); go_simp; (try with_reducible rfl))))
  simp only [Act.put]
  (refine wpAnyH_take (i := 10) (oi := { dst := some 2, op := Op.assign (Operand.tmp 12), type := 4, pos := "l04_rule.go:84", after := #[{ on := 9, ground := Ground.data }, { on := 8, ground := Ground.chain }, { on := 0, ground := Ground.phase }, { on := 1, ground := Ground.phase }, { on := 2, ground := Ground.phase }, { on := 3, ground := Ground.phase }, { on := 4, ground := Ground.phase }, { on := 5, ground := Ground.phase }, { on := 6, ground := Ground.phase }, { on := 7, ground := Ground.phase }, { on := 8, ground := Ground.phase }, { on := 9, ground := Ground.phase }], guard := none }) (v := ?_) rfl (by kernel_rfl) (by kernel_rfl) (by kernel_rfl) (fun _ _ _ h => h) (Or.inl ⟨by rfl, ?_⟩) (by assumption) ?_; rotate_left; (focus (intro w hSw; (try dsimp only at hSw); go_simp; (try with_reducible rfl))))
  simp only [Act.put]
  refine wpAnyH_done (by kernel_rfl) ?_ _
  go_wp2
  go_ret
  exact ⟨by simp, BF⟩
theorem implAci (n : Int) (s : ByteArray) (hs : s.size ≤ 9223372036854775807) (w : World) :
    Calls Try.prog 52 #[sg n s] w fun e w' => e = .returned (.bool (aciB n s.data.toList)) ∧ Below w.heap.size w w' := by
  cases h : matB n s.data.toList
  · have HE : aciB n s.data.toList = false := by unfold aciB; rw [h]; rfl
    rw [HE]
    exact implAci_no n s hs h w
  · obtain ⟨h3, -⟩ := arB_yes (matB_ar h)
    obtain ⟨m, rfl⟩ : ∃ m : Nat, n = m := ⟨n.toNat, by omega⟩
    have HE : aciB m s.data.toList = acB (sgnF (lookS m s.data.toList)) m := by unfold aciB; rw [h, Int.toNat_natCast]; rfl
    rw [HE]
    exact implAci_yes m s h w
end Go.Proofs.Ytfjimdmoindepaa.Sg
