/- A slice of slices of ints as an argument: measured and copied by the laws' helpers. -/
import Derived.Test.YtfpbehnpaedpmaaRowsArg
import Derived.Test.YtfpbehnpaedpmaaWjSwaps
namespace Go.Proofs.Ytfpbehnpaedpmaa.NewII
open Go.RowKit NewI Sg
set_option maxHeartbeats 400000 in
set_option maxRecDepth 100000 in
theorem szS_any (a : Option Addr) (n c : Nat) (left : Int) (hn : n ≤ 9223372036854775807) (h0 : 0 ≤ left) (h1 : left ≤ 1048576) (w : World) :
    Calls Try.prog 35 #[.slice a n c, .int .i64 left] w fun e w' => e = .returned (.int .i64 (if (n : Int) ≤ left then left - n else -1)) ∧ w = w' := by
  have v0 : IntKind.i64.wrap (left - (n : Int)) = left - n := IntWalk.i64_in _ (by omega)
  by_cases h : (n : Int) ≤ left
  · have k0 : decide (left - (n : Int) < 0) = false := decide_eq_false (by omega)
    rw [if_pos h]
    go_enter Try.func35, Try.ntmps35
    go_wp2
    go_ret
    exact ⟨rfl, rfl⟩
  · have k0 : decide (left - (n : Int) < 0) = true := decide_eq_true (by omega)
    rw [if_neg h]
    go_enter Try.func35, Try.ntmps35
    go_wp2
    go_ret
    exact ⟨rfl, rfl⟩
theorem pre_step (S : List (List Int)) (k : Nat) : pre S (k + 1) = pre S k + (S.getD k []).length := rfl
set_option maxHeartbeats 1600000 in
set_option maxRecDepth 100000 in
theorem szSS_any (v : Value) (S : List (List Int)) (w : World) (h : Kit.RowsArg w v S) :
    Calls Try.prog 22 #[v, .int .i64 1048576] w fun e w' => (∃ r : Int, e = .returned (.int .i64 r) ∧ (r = -1 ∨ 0 ≤ r ∧ r = 1048577 - (S.length : Int) - (pre S S.length : Nat))) ∧ w = w' := by
  obtain ⟨a, c, rfl, hl, hrows⟩ := h
  have HR := Lib.hid hrows
  clear hrows
  have v0 : IntKind.i64.wrap (1048576 - (S.length : Int)) = 1048576 - (S.length : Int) := IntWalk.i64_in _ (by omega)
  by_cases hS : 1048576 < S.length
  · have k0 : decide (1048576 - (S.length : Int) < 0) = true := decide_eq_true (by omega)
    go_enter Try.func22, Try.ntmps22
    go_wp2
    go_ret
    exact ⟨⟨-1, rfl, .inl rfl⟩, rfl⟩
  · have k0 : decide (1048576 - (S.length : Int) < 0) = false := decide_eq_false (by omega)
    have HP0 : Hid (pre S 0 = 1) := Lib.hid rfl
    have HPS := Lib.hid (pre_step S)
    have HPP := Lib.hid (pre_pos S)
    generalize pre S = P at HP0 HPS HPP ⊢
    go_enter Try.func22, Try.ntmps22
    go_wp2
    go_loop [1, 5] (fun lv i => ∃ k : Nat, k ≤ S.length ∧ i = .int .i64 k ∧ lv = .int .i64 (1048577 - (S.length : Int) - (P k : Nat)) ∧ 0 ≤ 1048577 - (S.length : Int) - (P k : Nat)) (fun _ i => S.length - (intOf i).toNat)
    case atStart => exact ⟨0, Nat.zero_le _, rfl, by rw [HP0.out]; congr 1; omega, by rw [HP0.out]; omega⟩
    case round =>
      obtain ⟨k, hk, rfl, rfl, hge⟩ := hrel
      by_cases hlt : k < S.length
      · obtain ⟨b, o, ra, rc, rfl, hbb, hc, -, -, -, hlen, -⟩ := HR.out k hlt
        have hps := HPS.out k
        have hpp := HPP.out k
        have HSZ := Lib.hid (szS_any ra (S.getD k []).length rc (1048577 - (S.length : Int) - (P k : Nat)) hlen hge (by omega) w)
        generalize (S.getD k []).length = n at hc hps HSZ hlen
        obtain ⟨L, hL⟩ : ∃ L : Int, L = 1048577 - (S.length : Int) - (P k : Nat) := ⟨_, rfl⟩
        rw [← hL] at HSZ
        rw [← hL]
        by_cases hn : (n : Int) ≤ L
        · rw [if_pos hn] at HSZ
          have k1 : decide (L - (n : Int) < 0) = false := decide_eq_false (by omega)
          have HE : Hid (L - (n : Int) = 1048577 - (S.length : Int) - (P (k + 1) : Nat)) := Lib.hid (by rw [hps]; omega)
          clear hps hL hpp hge
          go_wp2_with fail
          refine HSZ.out.mono ?_
          rintro e w' ⟨rfl, rfl⟩
          go_wp2
          go_round
          case rel => exact ⟨k + 1, by omega, by go_num, by rw [HE.out], by rw [← HE.out]; omega⟩
          case measure => simp [intOf]; omega
        · rw [if_neg hn] at HSZ
          have k1 : decide ((-1 : Int) < 0) = true := by decide
          clear hps hL hpp hge
          go_wp2_with fail
          refine HSZ.out.mono ?_
          rintro e w' ⟨rfl, rfl⟩
          go_wp2
          go_ret
          exact ⟨⟨-1, rfl, .inl rfl⟩, rfl⟩
      · obtain rfl : k = S.length := by omega
        go_wp2
        go_ret
        exact ⟨⟨_, rfl, .inr ⟨hge, rfl⟩⟩, rfl⟩
set_option maxHeartbeats 1600000 in
set_option maxRecDepth 100000 in
theorem toSS_any (v : Value) (S : List (List Int)) (hl : S.length ≤ 1048576) (hp : pre S S.length ≤ 1048577) (w0 : World) (h : Kit.RowsArg w0 v S) (w : World) (hb : Below w0.heap.size w0 w) :
    Calls Try.prog 24 #[v] w fun e w' => e = .returned (.slice (some ⟨w.heap.size, 0, none⟩) S.length S.length) ∧ (∃ gs, NewII.Rows w' w.heap.size w'.heap.size w.heap.size gs S (org S)) ∧ Below w.heap.size w w' := by
  obtain ⟨a, c, rfl, -, hrows⟩ := h
  have hmk := run_make_row' (P := Try.prog) 29 22 (.slice none 0 0) 24 Try.underlying29 Sg.infoZZ rfl .i64 .i64 S.length (by omega) (by omega)
  have HF0 := Lib.hid (FillL.made w w.heap.size S.length (Nat.le_refl _))
  have HB0 := Lib.hid ((Below.refl w.heap.size w).alloc (Nat.le_refl _) (.cells (madeCells #[.slice none 0 0] S.length) 22))
  have HROW : Hid (∀ k, k < S.length → ∃ b o ra rc, a = some ⟨b, o, none⟩ ∧ (∀ W, Below w.heap.size w W → W.cell? ⟨b, o + k, none⟩ = some (.slice ra (S.getD k []).length rc)) ∧ ∀ W, Below w.heap.size w W → Calls Try.prog 10 #[.slice ra (S.getD k []).length rc] W fun e w' => e = .returned (.slice (some ⟨W.heap.size, 0, none⟩) (S.getD k []).length (S.getD k []).length) ∧ RowZ w' W.heap.size (S.getD k []) ∧ Below W.heap.size W w') := Lib.hid (fun k hk => by
    obtain ⟨b, o, ra, rc, rfl, hbb, hc, hi⟩ := hrows k hk
    have hk2 := pre_mono S (show k + 1 ≤ S.length by omega)
    rw [pre_step] at hk2
    have hk3 := pre_pos S k
    refine ⟨b, o, ra, rc, rfl, fun W hW => by rw [hW.cell (Nat.lt_of_lt_of_le hbb hb.size), hb.cell hbb]; exact hc, fun W hW => toI_arg _ (S.getD k []) (by omega) w0 hi W (hb.trans (hW.mono hb.size))⟩)
  have HT0 : Hid (S.take 0 = []) := Lib.hid rfl
  have HTS : Hid (∀ k, k < S.length → S.take (k + 1) = S.take k ++ [S.getD k []]) := Lib.hid (fun k hk => by rw [List.take_add_one, List.getElem?_eq_getElem hk, List.getD_eq_getElem?_getD, List.getElem?_eq_getElem hk]; rfl)
  have HTL : Hid (∀ k, k ≤ S.length → (S.take k).length = k) := Lib.hid (fun k hk => by rw [List.length_take]; omega)
  have HTA : Hid (S.take S.length = S) := Lib.hid (by rw [List.take_length])
  clear hrows hb hp
  go_enter Try.func24, Try.ntmps24
  go_wp2
  go_loopw [4] (fun i wr => ∃ (k : Nat) (fs : List (Nat × Nat)), k ≤ S.length ∧ i = .int .i64 k ∧ Hid (FillL wr w.heap.size w.heap.size S.length fs (S.take k)) ∧ Hid (Below w.heap.size w wr)) (fun i _ => S.length - (intOf i).toNat)
  case atStart => exact ⟨0, [], Nat.zero_le _, rfl, by rw [HT0.out]; exact HF0, HB0⟩
  case round =>
    obtain ⟨k, fs, hk, rfl, HF, HB⟩ := hrel
    by_cases hlt : k < S.length
    · obtain ⟨b, o, ra, rc, rfl, hcw, hto⟩ := HROW.out k hlt
      have hc := hcw _ HB.out
      have HTO := Lib.hid (hto _ HB.out)
      have HTK := Lib.hid (HTS.out k hlt)
      have hkl := HTL.out k hk
      generalize S.getD k [] = s at hc HTO HTK
      clear hcw hto
      go_wp2_with fail
      refine HTO.out.mono ?_
      rintro e w2 ⟨rfl, hr2, hb2⟩
      have hF2 := (HF.out.on hb2).dst (by omega)
      rw [hkl] at hF2
      have hfz := (HF.out.on hb2).out.frozen k
      have hFS := HF.out.step (zs := s) (G := wr.heap.size) (c := s.length) hb2 (by omega) (Nat.le_refl _) HB.out.size ⟨fun j hj => World.rowIs.cell hr2 hj, World.rowIs.frozen hr2, World.rowIs.lt hr2⟩
      rw [hkl, ← HTK.out] at hFS
      have HF3 := Lib.hid hFS
      have HB3 := Lib.hid ((HB.out.trans (hb2.mono HB.out.size)).setCell (p := ⟨w.heap.size, k, none⟩) (Nat.le_refl _) (rowV (wr.heap.size, s.length) s.length))
      clear hr2 hb2 hFS HTO HF HB
      go_wp2
      exact ⟨⟨k + 1, _, by omega, by go_num, HF3, HB3⟩, by simp only [intOf]; omega⟩
    · obtain rfl : k = S.length := by omega
      have hF := HF.out
      rw [HTA.out] at hF
      have HR := Lib.hid (hF.rows rfl)
      clear HF hF
      go_wp2
      go_ret
      exact ⟨rfl, ⟨fs, HR.out⟩, HB.out⟩
end Go.Proofs.Ytfpbehnpaedpmaa.NewII
