/- laws.total and laws.fours. -/
import Derived.Test.YtinlnafkmoabbaaGreatDoorNewI
import Derived.Test.YtinlnafkmoabbaaGreatDoorKit
namespace Go.Proofs.YtinlnafkmoabbaaGreatDoor.Sg
open Go.RowKit Pt NewI
theorem take_sum (zs : List Int) (k : Nat) (h : k < zs.length) : (zs.take (k + 1)).sum = (zs.take k).sum + zs.getD k 0 := by
  rw [List.take_add_one, List.getElem?_eq_getElem h, List.sum_append, List.getD_eq_getElem?_getD, List.getElem?_eq_getElem h]
  simp
theorem take_sum_bd {zs : List Int} (h : ∀ z ∈ zs, 0 ≤ z ∧ z ≤ 1000) : ∀ k, k ≤ zs.length → 0 ≤ (zs.take k).sum ∧ (zs.take k).sum ≤ 1000 * k
  | 0, _ => by simp
  | k + 1, hk => by
    have ih := take_sum_bd h k (by omega)
    have hm := h (zs.getD k 0) (by rw [List.getD_eq_getElem?_getD, List.getElem?_eq_getElem (by omega)]; exact List.getElem_mem _)
    rw [take_sum zs k (by omega)]
    push_cast
    omega
set_option maxHeartbeats 800000 in
set_option maxRecDepth 100000 in
theorem total_any (lo hi : Nat) (a : Option Addr) (c : Nat) (zs : List Int) (hl : zs.length ≤ 100) (hb : ∀ z ∈ zs, 0 ≤ z ∧ z ≤ 1000) (w : World) (h : NewI.New w lo hi a zs.length (NewI.zc zs)) :
    Calls Tryz.prog 24 #[.slice a zs.length c] w fun e w' => e = .returned (.int .i64 zs.sum) ∧ w = w' := by
  have HC : Hid (∀ k, k < zs.length → ∃ g, a = some ⟨g, 0, none⟩ ∧ w.cell? ⟨g, k, none⟩ = some (.int .i64 (zs.getD k 0))) := Lib.hid (fun k hk => by
    rcases h with h | ⟨g, h1, -, -, h4⟩
    · omega
    · exact ⟨g, h1, by rw [h4.cell k hk]; rfl⟩)
  have HS := Lib.hid (take_sum zs)
  have HB := Lib.hid (take_sum_bd hb)
  have HE : Hid ((zs.take zs.length).sum = zs.sum) := Lib.hid (by rw [List.take_length])
  have HI : Hid (∀ k, k < zs.length → 0 ≤ zs.getD k 0 ∧ zs.getD k 0 ≤ 1000) := Lib.hid (fun k hk => hb _ (by rw [List.getD_eq_getElem?_getD, List.getElem?_eq_getElem hk]; exact List.getElem_mem _))
  have H0 : Hid ((zs.take 0).sum = 0) := Lib.hid (by simp)
  clear h hb
  go_enter Tryz.func24, Tryz.ntmps24
  go_wp2
  go_loop [3, 4] (fun sv iv => ∃ k : Nat, k ≤ zs.length ∧ iv = .int .i64 k ∧ sv = .int .i64 (zs.take k).sum) (fun _ iv => zs.length - (intOf iv).toNat)
  case atStart => exact ⟨0, Nat.zero_le _, rfl, by rw [H0.out]⟩
  case round =>
    obtain ⟨k, hk, rfl, rfl⟩ := hrel
    by_cases hlt : k < zs.length
    · obtain ⟨g, rfl, hd⟩ := HC.out k hlt
      have HN := Lib.hid (HS.out k hlt)
      have hb := HB.out k hk
      have hi := HI.out k hlt
      generalize zs.getD k 0 = z at hd HN hi
      obtain ⟨t, ht⟩ : ∃ t, t = (zs.take k).sum := ⟨_, rfl⟩
      rw [← ht] at HN hb ⊢
      have hw1 : IntKind.i64.wrap (t + z) = t + z := IntWalk.i64_in _ (by omega)
      clear ht
      go_wp2
      go_round
      case rel => exact ⟨k + 1, by omega, by go_num, by rw [HN.out]⟩
      case measure => simp only [intOf]; omega
    · obtain rfl : k = zs.length := by omega
      rw [HE.out]
      go_wp2
      go_ret
      exact ⟨rfl, rfl⟩
end Go.Proofs.YtinlnafkmoabbaaGreatDoor.Sg
