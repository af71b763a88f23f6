/- Wirings, as impl tells them: WiresAfter. -/
import Derived.Test.YtfpbehnpaedpmaaDoorWjAll
namespace Go.Proofs.YtfpbehnpaedpmaaDoor.Sg
open Go.RowKit Pt NewI NewII Wi
set_option maxHeartbeats 1600000 in
set_option maxRecDepth 100000 in
theorem implWiresAfter (n : Int) (a : Option Addr) (c : Nat) (zs : List Int) (hl : zs.length ≤ 1048576) (k : Int) (W : World) (hs : SrcZ W W.heap.size a zs) :
    Calls Tryd.prog 22 #[.int .i64 n, .slice a zs.length c, .int .i64 k] W fun e w' => Got W.heap.size (wl (wiAft n zs k)) e w' ∧ Below W.heap.size W w' := by
  have HO := Lib.hid (orders_any n a c zs hl W hs)
  have HL := Lib.hid (ordS_len n.toNat zs zs.length)
  have HE : Hid (wiB n zs = true → 0 ≤ k → k ≤ zs.length → wl (wiAft n zs k) = (ordS n.toNat zs zs.length).getD k.toNat []) := Lib.hid (fun hw h0 h1 => by
    rw [ordS_get (by omega)]
    unfold wiAft
    rw [if_pos ⟨hw, by simp only [inB, decide_eq_true_eq]; omega⟩]
    rfl)
  have HN : Hid (wiB n zs = false ∨ k < 0 ∨ (zs.length : Int) < k → wl (wiAft n zs k) = []) := Lib.hid (fun h => by
    unfold wiAft
    rw [if_neg]
    · rfl
    · rintro ⟨h1, h2⟩
      simp only [inB, decide_eq_true_eq] at h2
      rcases h with h | h | h
      · rw [h1] at h; cases h
      · omega
      · omega)
  generalize wl (wiAft n zs k) = R at HE HN ⊢
  generalize wiB n zs = q at HO HE HN
  generalize ordS n.toNat zs zs.length = S at HO HL HE
  clear hs
  go_enter Tryd.func22, Tryd.ntmps22
  go_wp2_with fail
  refine HO.out.mono ?_
  rintro e w1 ⟨⟨rfl, rfl⟩ | ⟨rfl, rb, rc, gs, rfl, hrow⟩, hb1⟩
  · have HB1 := Lib.hid hb1
    have hR := HN.out (.inl rfl)
    subst hR
    clear HO HE HN hb1
    by_cases hk : k < 0
    · have k0 : decide (k < 0) = true := decide_eq_true hk
      go_wp2
      go_ret
      exact ⟨⟨_, _, rfl, .inl rfl⟩, HB1.out⟩
    · have k0 : decide (k < 0) = false := decide_eq_false hk
      have k1 : decide (k ≥ 0) = true := decide_eq_true (by omega)
      go_wp2
      go_ret
      exact ⟨⟨_, _, rfl, .inl rfl⟩, HB1.out⟩
  · have HB1 := Lib.hid hb1
    have HRW := Lib.hid hrow
    clear HO hb1 hrow
    by_cases hk : k < 0
    · have hR := HN.out (.inr (.inl hk))
      subst hR
      have k0 : decide (k < 0) = true := decide_eq_true hk
      clear HE HN
      go_wp2
      go_ret
      exact ⟨⟨_, _, rfl, .inl rfl⟩, HB1.out⟩
    · have k0 : decide (k < 0) = false := decide_eq_false hk
      have hSl := HL.out
      by_cases hk2 : (zs.length : Int) < k
      · have hR := HN.out (.inr (.inr hk2))
        subst hR
        have k1 : decide (k ≥ (S.length : Int)) = true := decide_eq_true (by omega)
        clear HE HN hSl
        go_wp2
        go_ret
        exact ⟨⟨_, _, rfl, .inl rfl⟩, HB1.out⟩
      · obtain ⟨j, rfl⟩ : ∃ j : Nat, k = j := ⟨k.toNat, by omega⟩
        have hR := HE.out rfl (by omega) (by omega)
        rw [Int.toNat_natCast] at hR
        have hj : j < S.length := by omega
        have k1 : decide ((j : Int) ≥ (S.length : Int)) = false := decide_eq_false (by omega)
        obtain ⟨g, hg⟩ : ∃ g, gs[j]? = some g := ⟨_, List.getElem?_eq_getElem (by rw [HRW.out.len]; exact hj)⟩
        have hc0 : w1.cell? ⟨rb, j, none⟩ = some (.slice (some ⟨g.1, 0, none⟩) (S.getD j []).length g.2) := HRW.out.outer j g hg
        obtain ⟨r1, r2, -, r4⟩ := HRW.out.row j g hg
        have HG : Hid (NewI.New w1 W.heap.size w1.heap.size (some ⟨g.1, 0, none⟩) (S.getD j []).length (zc (S.getD j []))) := Lib.hid (.inr ⟨g.1, rfl, r1, r2, r4⟩)
        generalize S.getD j [] = s at hc0 HG hR
        subst hR
        clear HE HN r1 r2 r4 hg hSl hk hk2
        go_wp2
        go_ret
        exact ⟨⟨_, _, rfl, HG.out⟩, HB1.out⟩
end Go.Proofs.YtfpbehnpaedpmaaDoor.Sg
