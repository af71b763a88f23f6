/- WithoutElement, as impl and spec answer it; the law. -/
import Derived.Test.YtohihlhkheeemaaSgOthers
namespace Go.Proofs.Ytohihlhkheeemaa.Sg
open Go.RowKit Pt
/-- What WithoutElement answers. -/
def withV (n : Nat) (s : ByteArray) (i : Nat) : Value := .tuple #[sg ((n - 1 : Nat) : Int) ⟨(text3 (n - 1) (pickF n s.data.toList (othersTo i n))).toArray⟩, .bool true]
def zeroV : Value := .tuple #[sg 0 ⟨#[]⟩, .bool false]
theorem pick_eq {n i : Nat} (h : i < n) (s : List UInt8) : text3 (othersTo i n).length (pickF n s (othersTo i n)) = text3 (n - 1) (pickF n s (othersTo i n)) := by rw [othersTo_length h]
set_option maxHeartbeats 1600000 in
set_option maxRecDepth 100000 in
theorem specWithout_bad (n : Int) (s : ByteArray) (i : Int) (hs : s.size ≤ 9223372036854775807) (hb : ¬ (arB n s.data.toList = true ∧ n ≠ 3 ∧ 0 ≤ i ∧ i < n)) (w : World) :
    Calls Try.prog 27 #[sg n s, .int .i64 i] w fun e w' => e = .returned zeroV ∧ Below w.heap.size w w' := by
  have HA := Lib.hid (fun W => specAre_sg n s hs W)
  have HM := Lib.hid (wAt_made w n s 26)
  cases h : arB n s.data.toList
  · rw [h] at HA
    clear h hb
    go_enter Try.func27, Try.ntmps27
    go_wp2_with fail
    refine (HA.out _).mono ?_
    rintro e w1 ⟨rfl, hb1⟩
    obtain ⟨x0, x1, e0, e1, z0, z1, B⟩ := HM.out.on hb1
    obtain ⟨g0, g1⟩ := ret_sg e0 e1 (.int .i64 0) (.string ⟨#[]⟩)
    clear hb1
    go_wp2
    exact bodyPost_ret (v := .tuple #[.agg #[.int .i64 0, .string ⟨#[]⟩], .bool false]) (by simp [results, Try.results27, go_sem, g0, g1]) rfl ⟨rfl, (B.setCell (by simp) _).setCell (by simp) _⟩
  · rw [h] at HA
    obtain ⟨h3, h7, -⟩ := arB_yes h
    by_cases hn : n = 3
    · have hn3 : (n == 3) = true := by simpa using hn
      clear h hb hn
      go_enter Try.func27, Try.ntmps27
      go_wp2_with fail
      refine (HA.out _).mono ?_
      rintro e w1 ⟨rfl, hb1⟩
      obtain ⟨x0, x1, e0, e1, z0, z1, B⟩ := HM.out.on hb1
      obtain ⟨g0, g1⟩ := ret_sg e0 e1 (.int .i64 0) (.string ⟨#[]⟩)
      clear hb1
      go_wp2
      exact bodyPost_ret (v := .tuple #[.agg #[.int .i64 0, .string ⟨#[]⟩], .bool false]) (by simp [results, Try.results27, go_sem, g0, g1]) rfl ⟨rfl, (B.setCell (by simp) _).setCell (by simp) _⟩
    · have hn3 : (n == 3) = false := by simpa using hn
      have hin : inB i 0 (n - 1) = false := by
        cases hc : inB i 0 (n - 1)
        · rfl
        · exact absurd ⟨h, hn, inB_range hc⟩ hb
      clear h hb hn
      go_enter Try.func27, Try.ntmps27
      go_wp2_with fail
      refine (HA.out _).mono ?_
      rintro e w1 ⟨rfl, hb1⟩
      obtain ⟨x0, x1, e0, e1, z0, z1, B⟩ := HM.out.on hb1
      obtain ⟨g0, g1⟩ := ret_sg e0 e1 (.int .i64 0) (.string ⟨#[]⟩)
      clear hb1
      go_wp2_with (go_at_call 29; refine (l1In_any _ _ _ _).mono ?_; rintro e w' ⟨rfl, rfl⟩)
      exact bodyPost_ret (v := .tuple #[.agg #[.int .i64 0, .string ⟨#[]⟩], .bool false]) (by simp [results, Try.results27, go_sem, g0, g1]) rfl ⟨rfl, (B.setCell (by simp) _).setCell (by simp) _⟩
set_option maxHeartbeats 1600000 in
set_option maxRecDepth 100000 in
theorem implWithout_bad (n : Int) (s : ByteArray) (i : Int) (hs : s.size ≤ 9223372036854775807) (hb : ¬ (arB n s.data.toList = true ∧ n ≠ 3 ∧ 0 ≤ i ∧ i < n)) (w : World) :
    Calls Try.prog 28 #[sg n s, .int .i64 i] w fun e w' => e = .returned zeroV ∧ Below w.heap.size w w' := by
  have HA := Lib.hid (fun W => implAre_sg n s hs W)
  have HM := Lib.hid (wAt_made w n s 26)
  cases h : arB n s.data.toList
  · rw [h] at HA
    clear h hb
    go_enter Try.func28, Try.ntmps28
    go_wp2_with fail
    refine (HA.out _).mono ?_
    rintro e w1 ⟨rfl, hb1⟩
    obtain ⟨x0, x1, e0, e1, z0, z1, B⟩ := HM.out.on hb1
    obtain ⟨g0, g1⟩ := ret_sg e0 e1 (.int .i64 0) (.string ⟨#[]⟩)
    clear hb1
    go_wp2
    exact bodyPost_ret (v := .tuple #[.agg #[.int .i64 0, .string ⟨#[]⟩], .bool false]) (by simp [results, Try.results28, go_sem, g0, g1]) rfl ⟨rfl, (B.setCell (by simp) _).setCell (by simp) _⟩
  · rw [h] at HA
    obtain ⟨h3, h7, -⟩ := arB_yes h
    rcases (show n = 3 ∨ (n ≠ 3 ∧ i < 0) ∨ (n ≠ 3 ∧ 0 ≤ i ∧ n ≤ i) by
      by_cases h1 : n = 3
      · exact .inl h1
      · by_cases h2 : i < 0
        · exact .inr (.inl ⟨h1, h2⟩)
        · exact .inr (.inr ⟨h1, by omega, by
            rcases Int.lt_or_le i n with h4 | h4
            · exact absurd ⟨h, h1, by omega, h4⟩ hb
            · exact h4⟩)) with hn | ⟨hn, hi⟩ | ⟨hn, hi0, hi⟩
    · have hn3 : (n == 3) = true := by simpa using hn
      clear h hb hn
      go_enter Try.func28, Try.ntmps28
      go_wp2_with fail
      refine (HA.out _).mono ?_
      rintro e w1 ⟨rfl, hb1⟩
      obtain ⟨x0, x1, e0, e1, z0, z1, B⟩ := HM.out.on hb1
      obtain ⟨g0, g1⟩ := ret_sg e0 e1 (.int .i64 0) (.string ⟨#[]⟩)
      clear hb1
      go_wp2
      exact bodyPost_ret (v := .tuple #[.agg #[.int .i64 0, .string ⟨#[]⟩], .bool false]) (by simp [results, Try.results28, go_sem, g0, g1]) rfl ⟨rfl, (B.setCell (by simp) _).setCell (by simp) _⟩
    all_goals
      have hn3 : (n == 3) = false := by simpa using hn
      clear h hb hn
      go_enter Try.func28, Try.ntmps28
      go_wp2_with fail
      refine (HA.out _).mono ?_
      rintro e w1 ⟨rfl, hb1⟩
      obtain ⟨x0, x1, e0, e1, z0, z1, B⟩ := HM.out.on hb1
      obtain ⟨g0, g1⟩ := ret_sg e0 e1 (.int .i64 0) (.string ⟨#[]⟩)
      clear hb1
      go_wp2
      exact bodyPost_ret (v := .tuple #[.agg #[.int .i64 0, .string ⟨#[]⟩], .bool false]) (by simp [results, Try.results28, go_sem, g0, g1]) rfl ⟨rfl, (B.setCell (by simp) _).setCell (by simp) _⟩
set_option maxHeartbeats 1600000 in
set_option maxRecDepth 100000 in
theorem implWithout_good (n : Nat) (s : ByteArray) (i : Nat) (h : arB n s.data.toList = true) (hn3 : n ≠ 3) (hi : i < n) (w : World) :
    Calls Try.prog 28 #[sg n s, .int .i64 i] w fun e w' => e = .returned (withV n s i) ∧ Below w.heap.size w w' := by
  obtain ⟨h3, h7, hl, -⟩ := arB_yes h
  have h3 : 3 ≤ n := by omega
  have h7 : n ≤ 7 := by omega
  have hs35 : s.size ≤ 35 := by have := cnt_le h7; have : s.size = cnt n := by simpa using hl
                                omega
  have HA := Lib.hid (fun W => implAre_sg n s (by omega) W)
  rw [h] at HA
  have HM := Lib.hid (wAt_made w n s 26)
  have hnb : ((n : Int) == 3) = false := by simp; omega
  have hg1 : decide ((i : Int) < 0) = false := by simp
  have hg2 : decide ((n : Int) ≤ (i : Int)) = false := by simp; omega
  have hg3 : decide (n ≤ i) = false := by simp; omega
  have HLE := Lib.hid (othersTo_le i)
  have HLN := Lib.hid (othersTo_length hi)
  have HEQ := Lib.hid (pick_eq hi s.data.toList)
  have HEL := Lib.hid (fun b c W hat hb => signsOfEl_any n s (by omega) (othersTo i n) b c (by rw [othersTo_length hi]; omega) (by rw [othersTo_length hi]; omega) (fun x hx => by have := othersTo_lt x hx; omega) W hat hb)
  obtain ⟨i0, hi0, hz0, hz1, hz2⟩ := info_parts infoI
  clear h hl
  go_enter Try.func28, Try.ntmps28
  go_wp2_with fail
  refine (HA.out _).mono ?_
  rintro e w1 ⟨rfl, hb1⟩
  have W1 := Lib.hid (HM.out.on hb1)
  obtain ⟨x0, x1, -, -, -, -, -⟩ := W1.out
  have hl1 : w.heap.size + 1 < w1.heap.size := Kit.cell_lt W1.out.r0
  clear hb1
  go_wp2
  clear x0 x1
  have HO : Hid (OwnsI w1 w1.heap.size (.slice none 0 0) (othersTo i 0)) := Lib.hid (World.ownsRow_nil _ _ _ _)
  go_loopw [6, 29] (fun vv c wr => ∃ k : Nat, k ≤ n ∧ c = .int .i64 k ∧ Hid (OwnsI wr w1.heap.size vv (othersTo i k)) ∧ Below w1.heap.size w1 wr) (fun _ c _ => n - (intOf c).toNat)
  case atStart => exact ⟨0, Nat.zero_le _, rfl, HO, Below.refl _ _⟩
  case round =>
    obtain ⟨k, hk, rfl, HV, hb⟩ := hrel
    by_cases hlt : k < n
    · by_cases e : k = i
      · have ht : ((k : Int) != (i : Int)) = false := by simp; omega
        have HV2 : Hid (OwnsI wr w1.heap.size u6 (othersTo i (k + 1))) := Lib.hid (by subst e; rw [othersTo_same]; exact HV.out)
        go_wp2
        exact ⟨⟨k + 1, by omega, by go_num, HV2, hb⟩, by simp only [intOf]; omega⟩
      · have ht : ((k : Int) != (i : Int)) = true := by simp; omega
        have HS := Lib.hid (othersTo_step e)
        have hyl := HLE.out k
        generalize othersTo i k = ys at HV HS hyl
        go_wp2_with (at_builtin; refine wpList_append_own _ rfl (.tmp 35) (.tmp 37) 41 rfl w1.heap.size 3 i0 _ 1 8 Try.underlying41 hi0 hz0 hz1 hz2 rfl (by decide) _ _ _ rfl (World.ownsRow.alloc HV.out _) ⟨wr.heap.size, 0, none⟩ 1 1 [.int .i64 k] rfl rfl ?_ ?_ ?_ ?_ ?_ ?_)
        · exact news1 _ _ _
        · exact one1 _
        · simp only [maxLen]; omega
        · omega
        · have := hb.size; simp; omega
        intro v1 w3 hown1 hg1 _
        have hb1 := ((hb.alloc hb.size (.cells #[.int .i64 k] 3)).grown hg1 (by have := hb.size; simp; omega) (fun q hq => (World.ownsRow.lt HV.out q hq).1))
        have HV1 := Lib.hid (ownsI_snoc hown1)
        rw [← HS.out] at HV1
        clear hown1
        go_wp2
        exact ⟨⟨k + 1, by omega, by go_num, HV1, hb1⟩, by simp only [intOf]; omega⟩
    · obtain rfl : k = n := by omega
      obtain ⟨b, c, hv, -, hbl, hat⟩ := ownsI_row HV.out (by rw [HLN.out]; omega)
      subst hv
      have HCALL := Lib.hid (HEL.out b c wr hat hbl)
      have W2 := Lib.hid (W1.out.on hb)
      obtain ⟨x0, x1, -, -, -, -, -⟩ := W2.out
      rw [HLN.out] at HCALL
      rw [HLN.out]
      clear hat HEL
      go_wp2_with fail
      refine HCALL.out.mono ?_
      rintro e w4 ⟨rfl, hb4⟩
      obtain ⟨-, -, e0, e1, z0, z1, B⟩ := W2.out.on hb4
      generalize hT : (text3 (k - 1) (pickF k s.data.toList (othersTo i k))).toArray = T
      have HT := Lib.hid hT
      obtain ⟨k0, k1⟩ := ret_sg e0 e1 (.int .i64 ((k - 1 : Nat) : Int)) (.string ⟨T⟩)
      clear x0 x1 hb4 hT
      go_wp2
      exact bodyPost_ret (v := .tuple #[.agg #[.int .i64 ((k - 1 : Nat) : Int), .string ⟨T⟩], .bool true]) (by simp [results, Try.results28, go_sem, k0, k1]) rfl ⟨ret_v (by unfold withV; rw [HT.out]), (B.setCell (by simp) _).setCell (by simp) _⟩
end Go.Proofs.Ytohihlhkheeemaa.Sg
