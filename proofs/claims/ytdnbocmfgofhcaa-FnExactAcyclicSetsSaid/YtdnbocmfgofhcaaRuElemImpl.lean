/- ReverseElement, as impl answers it. -/
import Derived.Test.YtdnbocmfgofhcaaRuElem
namespace Go.Proofs.Ytdnbocmfgofhcaa.Sg
open Go.RowKit Pt
set_option maxHeartbeats 3200000 in
set_option maxRecDepth 100000 in
theorem implRev_good (n : Nat) (s : ByteArray) (i : Nat) (h : arB n s.data.toList = true) (hi : i < n) (w : World) :
    Calls Try.prog 14 #[sg n s, .int .i64 i] w fun e w' => e = .returned (revV n s i) ∧ Below w.heap.size w w' := by
  have hmf : ∀ (fn : Fn) (first cap : Array Value) (w : World), (Instr.makeFunc fn first cap).run Try.prog w = .ok (.func fn first cap) w := fun _ _ _ _ => rfl
  obtain ⟨h3, h7, hl, -⟩ := arB_yes h
  have h3 : 3 ≤ n := by omega
  have h7 : n ≤ 7 := by omega
  have hs35 : s.size ≤ 35 := by have := cnt_le h7; have : s.size = cnt n := by simpa using hl
                                omega
  have HA := Lib.hid (fun W => implAre_sg n s (by omega) W)
  rw [h] at HA
  have HM := Lib.hid (wAt_made w n s 25)
  have hp : 2 ^ i < 1024 := by
    rcases (by omega : i = 0 ∨ i = 1 ∨ i = 2 ∨ i = 3 ∨ i = 4 ∨ i = 5 ∨ i = 6) with rfl | rfl | rfl | rfl | rfl | rfl | rfl <;> decide
  obtain ⟨P, Q, T, HMO, HRV, HBY, HV⟩ : ∃ (P Q : World → Nat → Prop) (T : Array UInt8),
      Hid (∀ W, WAt w n s W → Calls Try.prog 41 #[sg n s] W fun e w' => ∃ b, e = .returned (.map (some b)) ∧ (w'.cell? ⟨w.heap.size, 0, none⟩ = some (.int .i64 n) ∧ w'.cell? ⟨w.heap.size, 1, none⟩ = some (.string s)) ∧ P w' b) ∧
      Hid (∀ b W, P W b → Calls Try.prog 47 #[.map (some b), .int .i64 (2 ^ i)] W fun e w' => ∃ b', e = .returned (.map (some b')) ∧ (w'.cell? ⟨w.heap.size, 0, none⟩ = some (.int .i64 n) ∧ w'.cell? ⟨w.heap.size, 1, none⟩ = some (.string s)) ∧ Q w' b') ∧
      Hid (∀ b W, Q W b → Calls Try.prog 46 #[.int .i64 n, .func (.func 48) #[.map (some b)] #[]] W fun e w' => e = .returned (sg n ⟨T⟩) ∧ (w'.cell? ⟨w.heap.size, 0, none⟩ = some (.int .i64 n) ∧ w'.cell? ⟨w.heap.size, 1, none⟩ = some (.string s)) ∧ (w'.cell? ⟨w.heap.size + 1, 0, none⟩ = some (.int .i64 0) ∧ w'.cell? ⟨w.heap.size + 1, 1, none⟩ = some (.string ⟨#[]⟩)) ∧ (w'.frozen? ⟨w.heap.size + 1, 0, none⟩ = false ∧ w'.frozen? ⟨w.heap.size + 1, 1, none⟩ = false) ∧ Below w.heap.size w w') ∧
      Hid (revV n s i = .tuple #[sg n ⟨T⟩, .bool true]) :=
    ⟨fun W b => Hid (WAt w n s W ∧ MapK W b (lookS n s.data.toList)), fun W b => Hid (WAt w n s W ∧ MapIs W b (revF (2 ^ i) (lookS n s.data.toList))), _,
      Lib.hid (fun W hW => mapK_at w n s (by omega) W hW), Lib.hid (fun b W hW => rev_at w n s i b _ hp W hW), Lib.hid (fun b W hW => by_at w n s b _ h3 h7 W hW), Lib.hid (by rw [text_rev h7]; rfl)⟩
  have hpc : ((2 ^ i : Nat) : Int) = 2 ^ i := by push_cast; rfl
  have hpb : 0 ≤ ((2 ^ i : Nat) : Int) ∧ ((2 ^ i : Nat) : Int) < 1024 := by
    generalize 2 ^ i = q at hp ⊢
    omega
  rw [hpc] at hpb
  have hd : decide ((i : Int) < 0) = false := by simp
  have hd2 : decide ((n : Int) ≤ i) = false := by simp; omega
  have hd3 : decide (n ≤ i) = false := by simp; omega
  have n1 : w.heap.size + 1 ≠ w.heap.size := by omega
  have hwq : IntKind.i64.wrap ((2 : Int) ^ i) = 2 ^ i := IntWalk.i64_in _ (by omega)
  clear h hl hpc hp hpb
  obtain ⟨q, hq⟩ : ∃ q, q = (2 : Int) ^ i := ⟨_, rfl⟩
  have hwq2 : IntKind.i64.wrap ((2 : Int) ^ i) = q := by rw [hwq, hq]
  rw [← hq] at HRV
  clear hwq hq
  go_enter Try.func14, Try.ntmps14
  go_wp2_with fail
  refine (HA.out _).mono ?_
  rintro e w1 ⟨rfl, hb1⟩
  have W1 := Lib.hid (HM.out.on hb1)
  obtain ⟨x0, x1, -, -, -, -, -⟩ := W1.out
  clear hb1
  go_wp2
  go_region_held3 (fun W => W.cell? ⟨w.heap.size, 0, none⟩ = some (.int .i64 n) ∧ W.cell? ⟨w.heap.size, 1, none⟩ = some (.string s))
    (first | exact ⟨x0, x1⟩ | (refine ⟨?_, ?_⟩ <;> first | assumption | (rw [World.cell?_setCell_far _ _ _ _ n1, World.cell?_setCell_far _ _ _ _ n1]; assumption)))
    (first
    | (go_at_call 41; refine (HMO.out _ W1.out.drew).mono ?_; rintro e w' ⟨b, rfl, ⟨y0, y1⟩, HAT⟩)
    | (go_at_call 47; refine (HRV.out _ _ HAT).mono ?_; rintro e w' ⟨b', rfl, ⟨y2, y3⟩, HAT2⟩)
    | (go_at_call 46; refine (HBY.out _ _ HAT2).mono ?_; rintro e w' ⟨rfl, ⟨y4, y5⟩, ⟨r0, r1⟩, ⟨z0, z1⟩, B⟩))
  all_goals obtain ⟨k0, k1⟩ := ret_sg r0 r1 (.int .i64 n) (.string ⟨T⟩)
  all_goals go_wp2
  all_goals exact bodyPost_ret (v := .tuple #[.agg #[.int .i64 n, .string ⟨T⟩], .bool true]) (by simp [results, Try.results14, go_sem, k0, k1]) rfl ⟨ret_v HV.out.symm, (B.setCell (by simp) _).setCell (by simp) _⟩
theorem reverse_both (n : Int) (s : ByteArray) (i : Int) (hs : s.size ≤ 9223372036854775807) : ∃ m t b,
    (∀ W, Calls Try.prog 15 #[sg n s, .int .i64 i] W fun e w' => e = .returned (.tuple #[sg m t, .bool b]) ∧ Below W.heap.size W w') ∧
    (∀ W, Calls Try.prog 14 #[sg n s, .int .i64 i] W fun e w' => e = .returned (.tuple #[sg m t, .bool b]) ∧ Below W.heap.size W w') := by
  by_cases hb : arB n s.data.toList = true ∧ 0 ≤ i ∧ i < n
  · obtain ⟨h, hi0, hi⟩ := hb
    obtain ⟨h3, -⟩ := arB_yes h
    obtain ⟨m, rfl⟩ : ∃ m : Nat, n = m := ⟨n.toNat, by omega⟩
    obtain ⟨k, rfl⟩ : ∃ k : Nat, i = k := ⟨i.toNat, by omega⟩
    exact ⟨_, _, _, fun W => specRev_good m s k h (by omega) W, fun W => implRev_good m s k h (by omega) W⟩
  · exact ⟨_, _, _, fun W => specRev_bad n s i hs hb W, fun W => implRev_bad n s i hs hb W⟩
set_option maxHeartbeats 1600000 in
set_option maxRecDepth 100000 in
theorem walkReverseElement (n : Int) (_ : -9223372036854775808 ≤ n ∧ n ≤ 9223372036854775807) (s : ByteArray) (hs : s.size ≤ 9223372036854775807) (i : Int) (_ : (Lit.int .i64 i).wf = true) (w : World) :
    Calls Try.prog 6 #[sg n s, .int .i64 i] w fun e w' => e = .returned (.bool true) ∧ Below w.heap.size w w' := by
  have HS := Lib.hid (fun t => box_made w n s t)
  by_cases hz : (1048576 : Int) - s.size < 0
  · have z1 := left_neg (left := 1048576) hz
    go_enter Try.func6, Try.ntmps6
    go_wp2_with fail
    refine (sz_sg n s _ (by omega) (by omega) hs _).mono ?_
    rintro e w1 ⟨rfl, hb1⟩
    have B1 := ((HS.out _).on hb1).2.2
    go_wp2
    go_ret
    exact ⟨rfl, B1⟩
  · have z1 := left_pos (left := 1048576) (s := s) (by omega)
    obtain ⟨m, t, b, h1, h2⟩ := reverse_both n s i hs
    have HA := Lib.hid h1
    have HI := Lib.hid h2
    have hself : (b != b) = false := by simp
    have HQ := Lib.hid (fun W => eq_sg m t W)
    clear h1 h2
    go_enter Try.func6, Try.ntmps6
    go_wp2_with fail
    refine (sz_sg n s _ (by omega) (by omega) hs _).mono ?_
    rintro e w1 ⟨rfl, hb1⟩
    obtain ⟨c1, c2, B1⟩ := (HS.out _).on hb1
    go_wp2_with fail
    refine (to_sg n s _).mono ?_
    rintro e w2 ⟨rfl, hb2⟩
    have X2 := Lib.hid (Box.on ⟨c1, c2, B1⟩ hb2)
    clear c1 c2
    go_wp2_with fail
    refine (HA.out _).mono ?_
    rintro e w3 ⟨rfl, hb3⟩
    have Y3 := Lib.hid (box_made w3 m t 25)
    obtain ⟨c1, c2, B3⟩ := (X2.out.on hb3).alloc (.cells #[.int .i64 m, .string t] 25)
    go_wp2_with fail
    refine (to_sg n s _).mono ?_
    rintro e w4 ⟨rfl, hb4⟩
    have B4 := B3.trans (hb4.mono B3.size)
    have Y4 := Lib.hid (Y3.out.on hb4)
    clear c1 c2
    go_wp2_with fail
    refine (HI.out _).mono ?_
    rintro e w5 ⟨rfl, hb5⟩
    have B5 := B4.trans (hb5.mono B4.size)
    obtain ⟨x0, x1, -⟩ := (Y4.out.on hb5).alloc (.cells #[.int .i64 m, .string t] 25)
    have B5' := B5.alloc B5.size (.cells #[.int .i64 m, .string t] 25)
    go_wp2_with fail
    refine (HQ.out _).mono ?_
    rintro e w6 ⟨rfl, hb6⟩
    have B6 := B5'.trans (hb6.mono B5'.size)
    go_wp2
    go_ret
    exact ⟨rfl, B6⟩
end Go.Proofs.Ytdnbocmfgofhcaa.Sg
