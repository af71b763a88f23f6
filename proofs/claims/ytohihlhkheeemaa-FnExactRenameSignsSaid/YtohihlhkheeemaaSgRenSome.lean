/- RenameSigns, as impl answers it, where there are as many names as elements. -/
import Derived.Test.YtohihlhkheeemaaSgRenImpl
namespace Go.Proofs.Ytohihlhkheeemaa.Sg
open Go.RowKit Pt
set_option maxHeartbeats 3200000 in
set_option maxRecDepth 100000 in
theorem implRen_some (n : Nat) (s : ByteArray) (b c : Nat) (zs : List Int) (h : arB n s.data.toList = true) (hl : zs.length = n) (w : World) (hr : RowZ w b zs) :
    Calls Try.prog 25 #[sg n s, .slice (some ⟨b, 0, none⟩) n c] w fun e w' => e = .returned (renV n s zs) ∧ Below w.heap.size w w' := by
  obtain ⟨h3, h7, hsl, -⟩ := arB_yes h
  have h3 : 3 ≤ n := by omega
  have h7 : n ≤ 7 := by omega
  have hs35 : s.size ≤ 35 := by have := cnt_le h7; have : s.size = cnt n := by simpa using hsl
                                omega
  have HA := Lib.hid (fun W => implAre_sg n s (by omega) W)
  rw [h] at HA
  have HM := Lib.hid (wAt_made w n s 26)
  have hne : ((n : Int) != (n : Int)) = false := by simp
  have hmk := run_make_row' (P := Try.prog) 41 3 (.int .i64 0) 8 Try.underlying41 infoZ rfl .i64 .i64 n (by omega) (by omega)
  have htk : zs.take n = zs := by rw [← hl]; exact List.take_length
  have HIX : Hid (∀ W, Below w.heap.size w W → ∀ x : Nat, Calls Try.prog 49 #[.slice (some ⟨b, 0, none⟩) n c, .int .i64 x] W fun e w' => e = .returned (.int .i64 (Lib.idxOf zs (x : Int))) ∧ w' = W) := Lib.hid (fun W hW x => by
    have := Try.slices_Index_int b 0 n c zs x W (by omega) (by omega) (fun j hj => by
      have := (hr.on hW).at.get hj
      rw [this, List.getD_eq_getElem?_getD, List.getElem?_eq_getElem hj]; rfl)
    rw [htk] at this
    exact this)
  have HEL := Lib.hid (fun (hk : namesOk n zs) g c W (hat : IntsAt W g (turnedL n zs)) hb => signsOfEl_any n s (by omega) (turnedL n zs) g c (by rw [turnedL_length]; omega) (by rw [turnedL_length]; omega) (fun x hx => by have := turnedL_lt hk x hx; omega) W hat hb)
  have HLN := Lib.hid (turnedL_length n zs)
  have HZL := Lib.hid hl
  have HBD := Lib.hid (fun x => idx_bound zs x)
  clear h hsl hr hl htk
  go_enter Try.func25, Try.ntmps25
  go_wp2_with fail
  refine (HA.out _).mono ?_
  rintro e w1 ⟨rfl, hb1⟩
  have W1 := Lib.hid (HM.out.on hb1)
  obtain ⟨x0, x1, -, -, -, -, -⟩ := W1.out
  have hl1 : w.heap.size + 1 < w1.heap.size := Kit.cell_lt W1.out.r0
  clear hb1
  go_wp2
  clear x0 x1 hmk
  have H0 := Lib.hid ((World.rowIs_made w1 (.int .i64 0) n 3).congr (g := elCell zs 0) (fun i _ => by simp [elCell]))
  have HB0 := Lib.hid ((Below.refl w1.heap.size w1).alloc (Nat.le_refl _) (.cells (madeCells #[.int .i64 0] n) 3))
  go_loopw [24] (fun cv wr => ∃ k : Nat, k ≤ n ∧ cv = .int .i64 k ∧ Hid (∀ x : Nat, x < k → (x : Int) ∈ zs) ∧ wr.rowIs w1.heap.size 3 n (elCell zs k) ∧ Below w1.heap.size w1 wr) (fun cv _ => n - (intOf cv).toNat)
  case atStart => exact ⟨0, Nat.zero_le _, rfl, Lib.hid (fun x hx => by omega), H0.out, HB0.out⟩
  case round =>
    obtain ⟨k, hk, rfl, HIN, hrow, hb⟩ := hrel
    by_cases hlt : k < n
    · have HC := Lib.hid (HIX.out wr (W1.out.below.trans (hb.mono (by omega))) k)
      obtain ⟨v0, v1, v2, v3⟩ := HBD.out (k : Int)
      have HV2 := Lib.hid v2
      have HV3 := Lib.hid v3
      rw [HZL.out] at v1
      have hd := hrow.cell hlt
      have hfz := hrow.frozen k
      have HR := Lib.hid ((hrow.set k (.int .i64 (Lib.idxOf zs (k : Int)))).congr (g := elCell zs (k + 1)) (fun i _ => elCell_step zs k i))
      have HB := Lib.hid (hb.setCell (p := ⟨w1.heap.size, k, none⟩) (Nat.le_refl _) (.int .i64 (Lib.idxOf zs (k : Int))))
      generalize Lib.idxOf zs (k : Int) = v at HC v0 v1 HV2 HV3 HR HB
      clear hrow v2 v3
      by_cases hneg : v < 0
      · have HE : Hid (renV n s zs = .tuple #[sg 0 ⟨#[]⟩, .bool false]) := Lib.hid (renV_no (namesB_no (fun hok => HV3.out hneg (names_all hok hlt))))
        have hdv : decide (v < 0) = true := by simpa using hneg
        obtain ⟨-, -, e0, e1, z0, z1, B⟩ := W1.out.on (HB.out.mono (Nat.le_refl _))
        obtain ⟨g0, g1⟩ := ret_sg e0 e1 (.int .i64 0) (.string ⟨#[]⟩)
        go_wp2_with fail
        refine HC.out.mono ?_
        rintro e w' ⟨rfl, rfl⟩
        go_wp2
        exact bodyPost_ret (v := .tuple #[.agg #[.int .i64 0, .string ⟨#[]⟩], .bool false]) (by simp [results, Try.results25, go_sem, g0, g1]) rfl ⟨ret_v HE.out.symm, (B.setCell (by simp) _).setCell (by simp) _⟩
      · have hdv : decide (v < 0) = false := by simp; omega
        have HIN2 : Hid (∀ x : Nat, x < k + 1 → (x : Int) ∈ zs) := Lib.hid (fun x hx => by
          by_cases e : x = k
          · subst e; exact HV2.out (by omega)
          · exact HIN.out x (by omega))
        go_wp2_with fail
        refine HC.out.mono ?_
        rintro e w' ⟨rfl, rfl⟩
        go_wp2
        exact ⟨⟨k + 1, by omega, by go_num, HIN2, HR.out, HB.out⟩, by simp only [intOf]; omega⟩
    · obtain rfl : k = n := by omega
      have hok : namesOk k zs := names_of_all HZL.out HIN.out
      have HI : Hid (IntsAt wr w1.heap.size (turnedL k zs)) := Lib.hid (fun j x hj => by
        have hjl := (List.getElem?_eq_some_iff.1 hj).1
        rw [turnedL_length] at hjl
        rw [hrow.cell hjl]
        unfold elCell
        rw [if_pos hjl]
        obtain ⟨p, hp, -, -, hp4⟩ := turnedL_at hok hjl
        rw [hj] at hp4
        obtain rfl := Option.some.inj hp4
        rw [hp])
      have hgl := hrow.lt
      have HE := Lib.hid (renV_yes (s := s) (namesB_yes hok))
      have HCALL := Lib.hid (fun c' => HEL.out hok w1.heap.size c' wr HI.out hgl)
      rw [HLN.out] at HCALL
      have W2 := Lib.hid (W1.out.on hb)
      obtain ⟨x0, x1, -, -, -, -, -⟩ := W2.out
      generalize (text3 k (pickF k s.data.toList (turnedL k zs))).toArray = T at HCALL HE
      clear hrow hok HEL
      go_wp2_with fail
      refine (HCALL.out _).mono ?_
      rintro e w4 ⟨rfl, hb4⟩
      obtain ⟨-, -, e0, e1, z0, z1, B⟩ := W2.out.on hb4
      obtain ⟨k0, k1⟩ := ret_sg e0 e1 (.int .i64 k) (.string ⟨T⟩)
      clear x0 x1 hb4
      go_wp2
      exact bodyPost_ret (v := .tuple #[.agg #[.int .i64 k, .string ⟨T⟩], .bool true]) (by simp [results, Try.results25, go_sem, k0, k1]) rfl ⟨ret_v HE.out.symm, (B.setCell (by simp) _).setCell (by simp) _⟩
end Go.Proofs.Ytohihlhkheeemaa.Sg
