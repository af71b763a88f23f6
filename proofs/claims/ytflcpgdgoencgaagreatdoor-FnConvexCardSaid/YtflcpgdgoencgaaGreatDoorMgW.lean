/- Several texts in one: LawInts, LawLists, LeTot. -/
import Derived.Test.YtflcpgdgoencgaaGreatDoorNewI
import Derived.Test.YtflcpgdgoencgaaGreatDoorMgU
import Derived.BigQuiet
import Derived.Test.YtflcpgdgoencgaaGreatDoorMgO
import Derived.Test.YtflcpgdgoencgaaGreatDoorQuFacts
import Derived.Test.YtflcpgdgoencgaaGreatDoorKit
/- What the laws use of lists of numbers: big, sameInts of equal ones, hasInt. -/
namespace Go.Proofs.YtflcpgdgoencgaaGreatDoor.NewI
open Go.RowKit
theorem New.get {w : World} {lo hi : Nat} {a : Option Addr} {zs : List Int} (h : New w lo hi a zs.length (zc zs)) (k : Nat) (hk : k < zs.length) : ∃ b, a = some ⟨b, 0, none⟩ ∧ b < w.heap.size ∧ w.cell? ⟨b, k, none⟩ = some (.int .i64 zs[k]) := by
  rcases h with h | ⟨b, rfl, -, -, hc⟩
  · omega
  · exact ⟨b, rfl, hc.lt, by rw [hc.cell k hk, zc_lt hk]⟩
set_option maxRecDepth 100000 in
theorem big_any (v : Value) (n : Nat) (w : World) (hv : Cur.Bytes w v n w.heap.size) :
    Calls Tryz.prog 5 #[v] w fun e w' => e = .returned (.bool (decide ((n : Int) > 1048576))) ∧ w' = w := by
  obtain ⟨a, c, rfl, hn, _⟩ := hv
  go_enter Tryz.func5, Tryz.ntmps5
  go_wp2
  go_ret
  exact ⟨rfl, rfl⟩
set_option maxHeartbeats 800000 in
set_option maxRecDepth 100000 in
theorem sameInts_eq (a1 a2 : Option Addr) (c1 c2 lo1 hi1 lo2 hi2 : Nat) (zs : List Int) (hl : zs.length ≤ 1048576) (w : World) (h1 : New w lo1 hi1 a1 zs.length (zc zs)) (h2 : New w lo2 hi2 a2 zs.length (zc zs)) :
    Calls Tryz.prog 14 #[.slice a1 zs.length c1, .slice a2 zs.length c2] w fun e w' => e = .returned (.bool true) ∧ Below w.heap.size w w' := by
  have H1 := Lib.hid h1
  have H2 := Lib.hid h2
  have B0 := Lib.hid (Below.refl w.heap.size w)
  clear h1 h2
  go_enter Tryz.func14, Tryz.ntmps14
  go_wp2
  go_loopw [5] (fun c wr => ∃ k : Nat, k ≤ zs.length ∧ c = .int .i64 k ∧ Hid (Below w.heap.size w wr)) (fun c _ => zs.length - (intOf c).toNat)
  case atStart => exact ⟨0, Nat.zero_le _, rfl, B0⟩
  case round =>
    obtain ⟨k, hk, rfl, HB⟩ := hrel
    by_cases hlt : k < zs.length
    · obtain ⟨b1, rfl, hb1, x1⟩ := H1.out.get k hlt
      obtain ⟨b2, rfl, hb2, x2⟩ := H2.out.get k hlt
      have y1 : wr.cell? ⟨b1, k, none⟩ = some (.int .i64 zs[k]) := by rw [HB.out.cell hb1]; exact x1
      have y2 : wr.cell? ⟨b2, k, none⟩ = some (.int .i64 zs[k]) := by rw [HB.out.cell hb2]; exact x2
      clear x1 x2
      generalize zs[k] = z at y1 y2
      go_wp2
      go_quiet (fail)
      go_wp2
      exact ⟨⟨k + 1, by omega, by go_num, Lib.hid (by first | exact HB.out | exact HB.out.drew | exact Sg.drewN_below HB.out _)⟩, by simp only [intOf]; omega⟩
    · go_wp2
      go_ret
      exact ⟨rfl, HB.out⟩
set_option maxHeartbeats 800000 in
set_option maxRecDepth 100000 in
theorem hasInt_any (a1 : Option Addr) (c1 lo1 hi1 : Nat) (zs : List Int) (hl : zs.length ≤ 1048576) (z : Int) (w : World) (h1 : New w lo1 hi1 a1 zs.length (zc zs)) :
    Calls Tryz.prog 25 #[.slice a1 zs.length c1, .int .i64 z] w fun e w' => e = .returned (.bool (decide (z ∈ zs))) ∧ Below w.heap.size w w' := by
  have H1 := Lib.hid h1
  have B0 := Lib.hid (Below.refl w.heap.size w)
  clear h1
  go_enter Tryz.func25, Tryz.ntmps25
  go_wp2
  go_loopw [5] (fun c wr => ∃ k : Nat, k ≤ zs.length ∧ c = .int .i64 k ∧ Hid (∀ j (hj : j < zs.length), j < k → zs[j] ≠ z) ∧ Hid (Below w.heap.size w wr)) (fun c _ => zs.length - (intOf c).toNat)
  case atStart => exact ⟨0, Nat.zero_le _, rfl, Lib.hid (fun j _ h => by omega), B0⟩
  case round =>
    obtain ⟨k, hk, rfl, HN, HB⟩ := hrel
    by_cases hlt : k < zs.length
    · obtain ⟨b1, rfl, hb1, x1⟩ := H1.out.get k hlt
      have y1 : wr.cell? ⟨b1, k, none⟩ = some (.int .i64 zs[k]) := by rw [HB.out.cell hb1]; exact x1
      clear x1
      by_cases hz : zs[k] = z
      · have hm : z ∈ zs := hz ▸ List.getElem_mem hlt
        rw [hz] at y1
        clear hz
        go_wp2
        go_ret
        exact ⟨by simp [hm], HB.out⟩
      · have HN2 : Hid (∀ j (hj : j < zs.length), j < k + 1 → zs[j] ≠ z) := Lib.hid (fun j hj hjk => by
          rcases Nat.lt_or_ge j k with h | h
          · exact HN.out j hj h
          · obtain rfl : j = k := by omega
            exact hz)
        have hz2 : (zs[k] == z) = false := by simpa using hz
        generalize zs[k] = y at y1 hz2
        clear hz
        go_wp2
        exact ⟨⟨k + 1, by omega, by go_num, HN2, HB⟩, by simp only [intOf]; omega⟩
    · have hm : ¬ z ∈ zs := fun h => by
        obtain ⟨j, hj, e⟩ := List.mem_iff_getElem.1 h
        exact HN.out j hj (by omega) e
      go_wp2
      go_ret
      exact ⟨by simp [hm], HB.out⟩
end Go.Proofs.YtflcpgdgoencgaaGreatDoor.NewI
/- What FnQuads uses of lists of lists and of sets: sameLists of equal ones, the number of a set's elements. -/
namespace Go.Proofs.YtflcpgdgoencgaaGreatDoor.NewII
open Go.RowKit NewI
set_option maxHeartbeats 1600000 in
set_option maxRecDepth 100000 in
theorem same_rows (lo hi b c lo2 hi2 b2 c2 : Nat) (gs gs2 : List (Nat × Nat)) (xss : List (List Int)) (hp : pre xss xss.length ≤ 100000) (hl : xss.length ≤ 100000) (w : World) (h1 : Rows w lo hi b gs xss (org xss)) (h2 : Rows w lo2 hi2 b2 gs2 xss (org xss)) :
    Calls Tryz.prog 41 #[.slice (some ⟨b, 0, none⟩) xss.length c, .slice (some ⟨b2, 0, none⟩) xss.length c2] w fun e w' => e = .returned (.bool true) ∧ Below w.heap.size w w' := by
  have hne : ((xss.length : Int) != (xss.length : Int)) = false := by simp
  have H1 := Lib.hid h1
  have H2 := Lib.hid h2
  clear h1 h2
  go_enter Tryz.func41, Tryz.ntmps41
  go_wp2
  go_loopw [5] (fun i wr => ∃ k : Nat, k ≤ xss.length ∧ i = .int .i64 k ∧ Below w.heap.size w wr) (fun i _ => xss.length - (intOf i).toNat)
  case atStart => exact ⟨0, Nat.zero_le _, rfl, Below.refl _ _⟩
  case round =>
    obtain ⟨k, hk, rfl, HB⟩ := hrel
    by_cases hlt : k < xss.length
    · obtain ⟨g, hg⟩ : ∃ g, gs[k]? = some g := ⟨_, List.getElem?_eq_getElem (by rw [H1.out.len]; exact hlt)⟩
      obtain ⟨g2, hg2⟩ : ∃ g, gs2[k]? = some g := ⟨_, List.getElem?_eq_getElem (by rw [H2.out.len]; exact hlt)⟩
      obtain ⟨-, -, -, r1⟩ := H1.out.row k g hg
      obtain ⟨-, -, -, r2⟩ := H2.out.row k g2 hg2
      have hlk := ln_le (xss := xss) hlt
      have hln : (xss.getD k []).length ≤ 1048576 := by
        have e : ln xss k = (xss.getD k []).length := rfl
        omega
      have HX : Hid (∀ W, Below w.heap.size w W → W.cell? ⟨b, k, none⟩ = some (rowV g (ln xss k)) ∧ W.cell? ⟨b2, k, none⟩ = some (rowV g2 (ln xss k))) := Lib.hid (fun W hW => ⟨by rw [hW.cell H1.out.lt]; exact H1.out.outer k g hg, by rw [hW.cell H2.out.lt]; exact H2.out.outer k g2 hg2⟩)
      have HCC : Hid (∀ W, (W.cell? ⟨b, k, none⟩ = some (rowV g (ln xss k)) ∧ W.cell? ⟨b2, k, none⟩ = some (rowV g2 (ln xss k)) ∧ Below w.heap.size w W) → Calls Tryz.prog 14 #[rowV g (ln xss k), rowV g2 (ln xss k)] W fun e w' => e = .returned (.bool true) ∧ w'.cell? ⟨b, k, none⟩ = some (rowV g (ln xss k)) ∧ w'.cell? ⟨b2, k, none⟩ = some (rowV g2 (ln xss k)) ∧ Below w.heap.size w w') := Lib.hid (fun W hW => (sameInts_eq (some ⟨g.1, 0, none⟩) (some ⟨g2.1, 0, none⟩) g.2 g2.2 0 (g.1 + 1) 0 (g2.1 + 1) (xss.getD k []) hln W (.inr ⟨_, rfl, Nat.zero_le _, Nat.lt_succ_self _, r1.on hW.2.2⟩) (.inr ⟨_, rfl, Nat.zero_le _, Nat.lt_succ_self _, r2.on hW.2.2⟩)).mono fun e w' ⟨he, hb⟩ => by
        have hb2 := hW.2.2.trans (hb.mono hW.2.2.size)
        exact ⟨he, (HX.out _ hb2).1, (HX.out _ hb2).2, hb2⟩)
      obtain ⟨x1, x2⟩ := HX.out _ HB
      clear r1 r2 hg hg2
      go_wp2
      go_region_held3 (fun W => W.cell? ⟨b, k, none⟩ = some (rowV g (ln xss k)) ∧ W.cell? ⟨b2, k, none⟩ = some (rowV g2 (ln xss k)) ∧ Below w.heap.size w W)
        (first | exact ⟨by assumption, by assumption, by assumption⟩ | exact ⟨by assumption, by assumption, Below.drew (by assumption)⟩)
        (first | (go_at_call 14; refine (HCC.out _ ?_).mono ?_; (first | exact ⟨by assumption, by assumption, by assumption⟩ | exact ⟨by assumption, by assumption, Below.drew (by assumption)⟩); rintro e' w' ⟨rfl, q1, q2, q3⟩))
      all_goals
        go_wp2
        exact ⟨⟨k + 1, by omega, by go_num, by assumption⟩, by simp only [intOf]; omega⟩
    · go_wp2
      go_ret
      exact ⟨rfl, HB⟩
set_option maxRecDepth 100000 in
theorem same0 (a a2 : Option Addr) (c c2 : Nat) (w : World) : Calls Tryz.prog 41 #[.slice a 0 c, .slice a2 0 c2] w fun e w' => e = .returned (.bool true) ∧ w = w' := by
  go_enter Tryz.func41, Tryz.ntmps41
  go_wp2
  refine wp_loop_rounds 1 ?_
  rw [rounds_succ]
  go_wp2
  go_ret
  exact ⟨rfl, rfl⟩
theorem same_lists (lo hi lo2 hi2 : Nat) (a a2 : Option Addr) (c c2 : Nat) (xss : List (List Int)) (hp : pre xss xss.length ≤ 100000) (hl : xss.length ≤ 100000) (w : World) (h1 : Lists w lo hi a xss (org xss)) (h2 : Lists w lo2 hi2 a2 xss (org xss)) :
    Calls Tryz.prog 41 #[.slice a xss.length c, .slice a2 xss.length c2] w fun e w' => e = .returned (.bool true) ∧ Below w.heap.size w w' := by
  rcases h1 with rfl | ⟨b, gs, rfl, h1⟩
  · exact (same0 a a2 c c2 w).mono fun _ _ ⟨he, hw⟩ => ⟨he, by subst hw; exact Below.refl _ _⟩
  · rcases h2 with rfl | ⟨b2, gs2, rfl, h2⟩
    · exact (same0 _ a2 c c2 w).mono fun _ _ ⟨he, hw⟩ => ⟨he, by subst hw; exact Below.refl _ _⟩
    · exact same_rows lo hi b c lo2 hi2 b2 c2 gs gs2 xss hp hl w h1 h2
end Go.Proofs.YtflcpgdgoencgaaGreatDoor.NewII
namespace Go.Proofs.YtflcpgdgoencgaaGreatDoor.Sg
open Go.RowKit
set_option maxHeartbeats 800000 in
set_option maxRecDepth 100000 in
theorem size_any (m : Nat) (hm : m < 128) (w : World) :
    Calls Tryz.prog 26 #[.int .i64 m] w fun e w' => e = .returned (.int .i64 (sz m : Nat)) ∧ w = w' := by
  have hsz : sz m ≤ 7 := pcF_le 7 m
  go_enter Tryz.func26, Tryz.ntmps26
  go_wp2
  go_loop [0, 3] (fun x c => ∃ (f y k : Nat), x = .int .i64 y ∧ c = .int .i64 k ∧ y < 2 ^ f ∧ f ≤ 7 ∧ k ≤ 7 ∧ Hid (k + pcF f y = sz m)) (fun x _ => (intOf x).toNat)
  case atStart => exact ⟨7, m, 0, rfl, rfl, hm, by omega, by omega, Lib.hid (by unfold sz; omega)⟩
  case round =>
    obtain ⟨f, y, k, rfl, rfl, hy, hf, hk, HK⟩ := hrel
    by_cases h0 : 0 < y
    · obtain ⟨f, rfl⟩ : ∃ g, f = g + 1 := ⟨f - 1, by
        rcases f with _ | f
        · simp at hy; omega
        · rfl⟩
      have hk2 : k + (y % 2 + pcF f (y / 2)) = sz m := HK.out
      have e1 : (y : Int).tmod 2 = ((y % 2 : Nat) : Int) := by rw [Int.tmod_eq_emod_of_nonneg (by omega)]; rfl
      have e2 : (y : Int).tdiv 2 = ((y / 2 : Nat) : Int) := by rw [Int.tdiv_eq_ediv_of_nonneg (by omega)]; rfl
      have hy2 : y < 128 := Nat.lt_of_lt_of_le hy (Nat.pow_le_pow_right (n := 2) (by omega) hf)
      have hd : y / 2 < 2 ^ f := by rw [Nat.div_lt_iff_lt_mul (by omega)]; rw [Nat.pow_succ] at hy; exact hy
      have H2 := Lib.hid hk2
      have hkb : k + y % 2 ≤ 7 := by omega
      clear HK hk2 hy
      go_wp2
      go_round
      case rel => exact ⟨f, y / 2, k + y % 2, by go_num, by go_num, hd, by omega, hkb, Lib.hid (by have := H2.out; omega)⟩
      case measure => simp only [intOf]; omega
    · obtain rfl : y = 0 := by omega
      have hk2 : k = sz m := by have := HK.out; rw [pcF_zero] at this; omega
      subst hk2
      go_wp2
      go_ret
      exact ⟨rfl, rfl⟩
end Go.Proofs.YtflcpgdgoencgaaGreatDoor.Sg
/- laws.total and laws.fours. -/
namespace Go.Proofs.YtflcpgdgoencgaaGreatDoor.Sg
open Go.RowKit Pt NewI
theorem take_sum (zs : List Int) (k : Nat) (h : k < zs.length) : (zs.take (k + 1)).sum = (zs.take k).sum + zs.getD k 0 := by
  rw [List.take_add_one, List.getElem?_eq_getElem h, List.sum_append, List.getD_eq_getElem?_getD, List.getElem?_eq_getElem h]
  simp
theorem take_sum_bd {zs : List Int} (h : ∀ z ∈ zs, 0 ≤ z ∧ z ≤ 1000) : ∀ k, k ≤ zs.length → 0 ≤ (zs.take k).sum ∧ (zs.take k).sum ≤ 1000 * k
  | 0, _ => by simp
  | k + 1, hk => by
    have ih := take_sum_bd h k (by omega)
    have hm := h (zs.getD k 0) (by rw [List.getD_eq_getElem?_getD, List.getElem?_eq_getElem (by omega)]; exact List.getElem_mem _)
    rw [take_sum zs k (by omega)]
    push_cast
    omega
set_option maxHeartbeats 800000 in
set_option maxRecDepth 100000 in
theorem total_any (lo hi : Nat) (a : Option Addr) (c : Nat) (zs : List Int) (hl : zs.length ≤ 100) (hb : ∀ z ∈ zs, 0 ≤ z ∧ z ≤ 1000) (w : World) (h : NewI.New w lo hi a zs.length (NewI.zc zs)) :
    Calls Tryz.prog 47 #[.slice a zs.length c] w fun e w' => e = .returned (.int .i64 zs.sum) ∧ w = w' := by
  have HC : Hid (∀ k, k < zs.length → ∃ g, a = some ⟨g, 0, none⟩ ∧ w.cell? ⟨g, k, none⟩ = some (.int .i64 (zs.getD k 0))) := Lib.hid (fun k hk => by
    rcases h with h | ⟨g, h1, -, -, h4⟩
    · omega
    · exact ⟨g, h1, by rw [h4.cell k hk]; rfl⟩)
  have HS := Lib.hid (take_sum zs)
  have HB := Lib.hid (take_sum_bd hb)
  have HE : Hid ((zs.take zs.length).sum = zs.sum) := Lib.hid (by rw [List.take_length])
  have HI : Hid (∀ k, k < zs.length → 0 ≤ zs.getD k 0 ∧ zs.getD k 0 ≤ 1000) := Lib.hid (fun k hk => hb _ (by rw [List.getD_eq_getElem?_getD, List.getElem?_eq_getElem hk]; exact List.getElem_mem _))
  have H0 : Hid ((zs.take 0).sum = 0) := Lib.hid (by simp)
  clear h hb
  go_enter Tryz.func47, Tryz.ntmps47
  go_wp2
  go_loop [3, 4] (fun sv iv => ∃ k : Nat, k ≤ zs.length ∧ iv = .int .i64 k ∧ sv = .int .i64 (zs.take k).sum) (fun _ iv => zs.length - (intOf iv).toNat)
  case atStart => exact ⟨0, Nat.zero_le _, rfl, by rw [H0.out]⟩
  case round =>
    obtain ⟨k, hk, rfl, rfl⟩ := hrel
    by_cases hlt : k < zs.length
    · obtain ⟨g, rfl, hd⟩ := HC.out k hlt
      have HN := Lib.hid (HS.out k hlt)
      have hb := HB.out k hk
      have hi := HI.out k hlt
      generalize zs.getD k 0 = z at hd HN hi
      obtain ⟨t, ht⟩ : ∃ t, t = (zs.take k).sum := ⟨_, rfl⟩
      rw [← ht] at HN hb ⊢
      have hw1 : IntKind.i64.wrap (t + z) = t + z := IntWalk.i64_in _ (by omega)
      clear ht
      go_wp2
      go_round
      case rel => exact ⟨k + 1, by omega, by go_num, by rw [HN.out]⟩
      case measure => simp only [intOf]; omega
    · obtain rfl : k = zs.length := by omega
      rw [HE.out]
      go_wp2
      go_ret
      exact ⟨rfl, rfl⟩
set_option maxRecDepth 100000 in
theorem fours_any' (n : Nat) (h3 : 3 ≤ n) (h7 : n ≤ 7) (w : World) :
    Calls Tryz.prog 48 #[.int .i64 n] w fun e w' => e = .returned (.int .i64 ((n * (n - 1) * (n - 2) * (n - 3) / 24 : Nat) : Int)) ∧ w = w' := by
  rcases (by omega : n = 3 ∨ n = 4 ∨ n = 5 ∨ n = 6 ∨ n = 7) with rfl | rfl | rfl | rfl | rfl
  all_goals
    go_enter Tryz.func48, Tryz.ntmps48
    go_wp2
    go_ret
    exact ⟨rfl, rfl⟩
end Go.Proofs.YtflcpgdgoencgaaGreatDoor.Sg
