/- Wirings, as spec tells them: WiresAfter. -/
import Derived.Test.YtfpbehnpaedpmaaWiIs
namespace Go.Proofs.Ytfpbehnpaedpmaa.Sg
open Go.RowKit Pt NewI Wi
theorem goZ_take {L : List Nat} {zs : List Int} (h : goZ L zs ≠ none) (k : Nat) : ∃ M, goZ L (zs.take k) = some M := by
  cases e : goZ L (zs.take k) with
  | some M => exact ⟨M, rfl⟩
  | none =>
    have := goZ_none L (zs.take k) (zs.drop k) e
    rw [List.take_append_drop] at this
    exact absurd this h
theorem wiB_go {n : Int} {zs : List Int} (h : wiB n zs = true) : inB n 3 6 = true ∧ zs.length = n.toNat * (n.toNat - 1) / 2 ∧ goZ (List.range n.toNat) zs ≠ none := by
  unfold wiB at h
  rw [Bool.and_eq_true, Bool.and_eq_true, decide_eq_true_eq] at h
  exact ⟨h.1.1, h.1.2, fun e => by rw [e] at h; simp at h⟩
theorem wiB_step {n : Nat} {zs : List Int} (h : goZ (List.range n) zs ≠ none) {k : Nat} (hk : k < zs.length) {M : List Nat} (hM : goZ (List.range n) (zs.take k) = some M) : swB M (zs.getD k 0) = true ∧ goZ (List.range n) (zs.take (k + 1)) = some (swp M (zs.getD k 0).toNat) := by
  obtain ⟨g1, g2⟩ := goZ_step hk hM
  cases e : swB M (zs.getD k 0) with
  | false => exact absurd (g2 e) h
  | true =>
    have := g1 e
    unfold swD at this
    rw [if_pos e] at this
    exact ⟨rfl, this⟩
/-- What WiresAfter answers. -/
def wiAft (n : Int) (zs : List Int) (k : Int) : List Nat := if wiB n zs = true ∧ inB k 0 zs.length = true then (goZ (List.range n.toNat) (zs.take k.toNat)).getD [] else []
set_option maxHeartbeats 3200000 in
set_option maxRecDepth 100000 in
theorem specWiresAfter (n : Int) (a : Option Addr) (c : Nat) (zs : List Int) (k : Int) (hl : zs.length ≤ 1048576) (w : World) (hs : SrcZ w w.heap.size a zs) :
    Calls Try.prog 13 #[.int .i64 n, .slice a zs.length c, .int .i64 k] w fun e w' => Got w.heap.size (wl (wiAft n zs k)) e w' ∧ Below w.heap.size w w' := by
  have HIS := Lib.hid (specIsWiring n a c zs hl w hs)
  have HIN := Lib.hid (fun W => l1In_any k 0 (zs.length : Int) W)
  have HBE := Lib.hid (fun W (hW : Below w.heap.size w W) => hW.alloc hW.size (.cells #[] 3))
  cases hw : wiB n zs
  · have e : wiAft n zs k = [] := by unfold wiAft; rw [if_neg (by rw [hw]; simp)]
    rw [e]
    rw [hw] at HIS
    clear e hw hs HIN
    go_enter Try.func13, Try.ntmps13
    go_wp2_with fail
    refine HIS.out.mono ?_
    rintro e w1 ⟨rfl, hb1⟩
    go_wp2
    go_ret
    exact ⟨⟨_, _, rfl, .inl rfl⟩, HBE.out _ hb1⟩
  rw [hw] at HIS
  cases hk : inB k 0 zs.length
  · have e : wiAft n zs k = [] := by unfold wiAft; rw [if_neg (by rw [hk]; simp)]
    rw [e]
    rw [hk] at HIN
    clear e hw hs hk
    go_enter Try.func13, Try.ntmps13
    go_wp2_with fail
    refine HIS.out.mono ?_
    rintro e w1 ⟨rfl, hb1⟩
    go_wp2_with fail
    refine (HIN.out _).mono ?_
    rintro e w' ⟨rfl, rfl⟩
    go_wp2
    go_ret
    exact ⟨⟨_, _, rfl, .inl rfl⟩, HBE.out _ hb1⟩
  obtain ⟨h36, -, hgo⟩ := wiB_go hw
  obtain ⟨h3, h6⟩ := inB_mem h36
  obtain ⟨m, rfl⟩ : ∃ m : Nat, n = m := ⟨n.toNat, by omega⟩
  obtain ⟨k0, k1⟩ := inB_mem hk
  obtain ⟨q, rfl⟩ : ∃ q : Nat, k = q := ⟨k.toNat, by omega⟩
  rw [Int.toNat_natCast] at hgo
  obtain ⟨R, hR⟩ := goZ_take hgo q
  have e : wiAft m zs q = R := by unfold wiAft; rw [if_pos ⟨hw, hk⟩, Int.toNat_natCast, Int.toNat_natCast, hR]; rfl
  rw [e]
  rw [hk] at HIN
  have hq : q ≤ zs.length := by omega
  have HST := Lib.hid (fun W => l12Start_any m (by omega) W)
  have HSW := Lib.hid (fun b c L p hm hL W h => l12Swap_any b m c L p hm (by omega) (by omega) hL W h)
  have HSRC := Lib.hid (fun W (hW : Below w.heap.size w W) => hs.on hW)
  have HGO := Lib.hid hgo
  have HRR := Lib.hid hR
  clear e hw hk hs h36 hgo hR k0 k1 HBE
  go_enter Try.func13, Try.ntmps13
  go_wp2_with fail
  refine HIS.out.mono ?_
  rintro e w0 ⟨rfl, hb0⟩
  have HB0 := Lib.hid hb0
  clear hb0 HIS
  go_wp2_with fail
  refine (HIN.out _).mono ?_
  rintro e w' ⟨rfl, rfl⟩
  go_wp2_with fail
  refine (HST.out _).mono ?_
  rintro e w1 ⟨⟨v, rfl, hO⟩, hb1⟩
  have HB1 := Lib.hid (HB0.out.trans (hb1.mono HB0.out.size))
  have hm1 : (wl (List.range m)).length = m := by rw [wl_length, List.length_range]
  obtain ⟨a1, c1, rfl, hnw, -⟩ := New.of_own hO
  rw [hm1] at hnw ⊢
  rcases hnw with h0 | ⟨bw, rfl, hlo0, hhi, hC⟩
  · omega
  have hlo : w.heap.size ≤ bw := Nat.le_trans HB0.out.size hlo0
  have HC1 := Lib.hid hC
  clear hO hb1 hC HST HIN hm1 HB0 hlo0
  go_wp2_with fail
  go_loopw [8] (fun x wr => ∃ (k : Nat) (L : List Nat), k ≤ q ∧ x = .int .i64 k ∧ goZ (List.range m) (zs.take k) = some L ∧ L.Nodup ∧ L.length = m ∧ Hid (Cells wr bw m (zc (wl L))) ∧ Hid (Below w.heap.size w wr)) (fun x _ => q - (intOf x).toNat)
  case atStart => exact ⟨0, List.range m, Nat.zero_le _, rfl, rfl, List.nodup_range, List.length_range, HC1, HB1⟩
  case round =>
    obtain ⟨k, L, hk, rfl, hgo, hnd, hlL, HC, HB⟩ := hrel
    by_cases hlt : k < q
    · have hkl : k < zs.length := by omega
      obtain ⟨b, o, rfl, hbb, hcz⟩ := HSRC.out _ HB.out k hkl
      obtain ⟨g1, g2⟩ := goZ_step hkl hgo
      have HG1 : Hid (goZ (List.range m) (zs.take (k + 1)) = some (swD L (zs.getD k 0))) := Lib.hid (g1 (wiB_step HGO.out hkl hgo).1)
      clear g1 g2 hgo
      generalize zs.getD k 0 = z at hcz HG1
      go_wp2_with fail
      refine (HSW.out bw c1 L z hlL hnd _ HC.out).mono ?_
      rintro e w2 ⟨rfl, hC2, hO2⟩
      have HC2 := Lib.hid hC2
      have HB2 := Lib.hid (HB.out.trans (hO2.below hlo HB.out.size))
      have hnd2 := swD_nodup hnd z
      have hlL2 : (swD L z).length = m := by rw [swD_len, hlL]
      clear hC2 hO2 HC HB
      go_wp2
      exact ⟨⟨k + 1, swD L z, by omega, by go_num, HG1.out, hnd2, hlL2, HC2, HB2⟩, by simp only [intOf]; omega⟩
    · obtain rfl : k = q := by omega
      obtain rfl : L = R := by have := HRR.out; rw [hgo] at this; injection this
      have hwl : (wl L).length = m := by rw [wl_length, hlL]
      clear hgo
      go_wp2
      go_ret
      exact ⟨⟨some ⟨bw, 0, none⟩, c1, by rw [hwl]; rfl, .inr ⟨bw, rfl, hlo, HC.out.lt, by rw [hwl]; exact HC.out⟩⟩, HB.out⟩
end Go.Proofs.Ytfpbehnpaedpmaa.Sg
