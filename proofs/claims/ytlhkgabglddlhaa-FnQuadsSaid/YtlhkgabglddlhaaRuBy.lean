/- impl.signsBy over a method of a map: the signs that it tells of each three. -/
import Derived.Test.YtlhkgabglddlhaaSgBy
namespace Go.Proofs.Ytlhkgabglddlhaa.Sg
open Go.RowKit Pt
set_option maxHeartbeats 3200000 in
set_option maxRecDepth 100000 in
theorem signsByM_any (n : Nat) (h3 : 3 ≤ n) (h7 : n ≤ 7) (g mb : Nat) (f : Nat → Nat → Nat → Int) (eg : ∀ args w, (callFunc g args).run Try.prog w = .ok (.enter g args) w) (w : World)
    (HF : Hid (∀ (W : World) (i j k : Nat), Below w.heap.size w W → i < j → j < k → k < n → Calls Try.prog g #[.map (some mb), .int .i64 i, .int .i64 j, .int .i64 k] W fun e w' => e = .returned (.int .i64 (f i j k)) ∧ Below W.heap.size W w')) :
    Calls Try.prog 66 #[.int .i64 n, .func (.func g) #[.map (some mb)] #[]] w fun e w' => e = .returned (sg n ⟨(text3 n f).toArray⟩) ∧ Below w.heap.size w w' := by
  have hc35 := cnt_le h7
  have HT := Lib.hid (threes_length h7)
  have hcp : 0 < cnt n := by rcases (by omega : n = 3 ∨ n = 4 ∨ n = 5 ∨ n = 6 ∨ n = 7) with rfl | rfl | rfl | rfl | rfl <;> decide
  have HM := Lib.hid (resC_made w 25)
  have hmk := run_make_row' (P := Try.prog) 22 5 (.int .u8 0) 1 Try.underlying22 info8 rfl .i64 .i64 (cnt n) (by omega) (by omega)
  obtain ⟨L, hL⟩ : ∃ L, L = text3 n f := ⟨_, rfl⟩
  have HL := Lib.hid hL
  have HLL : Hid (L.length = cnt n) := Lib.hid (by rw [hL]; exact text3_length h7 f)
  rw [← hL]
  clear hL
  go_enter Try.func66, Try.ntmps66
  go_wp2_with fail
  refine (threesOf_any n h3 h7 _).mono ?_
  rintro e w1 ⟨v, rfl, hv, hb1⟩
  obtain ⟨g3, c, rfl, hg1, hg2, h3a⟩ := owns3_row hv (by rw [HT.out]; exact hcp)
  rw [HT.out]
  have HR := Lib.hid (HM.out.on hb1)
  have HA3 := Lib.hid h3a
  clear hv h3a hb1
  go_wp2
  have hrl := HR.out.lt
  have H0 := Lib.hid ((World.rowIs_made w1 (.int .u8 0) (cnt n) 5).congr (g := byteSofar L 0) (fun i _ => by simp [byteSofar]))
  have HB0 := Lib.hid ((Below.refl w1.heap.size w1).alloc (Nat.le_refl _) (.cells (madeCells #[.int .u8 0] (cnt n)) 5))
  clear hmk
  go_loopw [16] (fun i wr => ∃ p : Nat, p ≤ cnt n ∧ i = .int .i64 p ∧ wr.rowIs w1.heap.size 5 (cnt n) (byteSofar L p) ∧ Below w1.heap.size w1 wr) (fun i _ => cnt n - (intOf i).toNat)
  case atStart => exact ⟨0, Nat.zero_le _, rfl, H0.out, HB0.out⟩
  case round =>
    obtain ⟨p, hp, rfl, hrow, hb⟩ := hrel
    by_cases hlt : p < cnt n
    · obtain ⟨t, ht⟩ : ∃ t, (threes n)[p]? = some t := ⟨_, List.getElem?_eq_getElem (by rw [HT.out]; exact hlt)⟩
      obtain ⟨x0, x1, x2⟩ := (HA3.out.on hb hg2) p t ht
      have hbt : L[p]? = some (byteOf (f t.1 t.2.1 t.2.2)) := by rw [HL.out]; unfold text3; rw [List.getElem?_map, ht]; rfl
      obtain ⟨t1, t2, t3⟩ := threes_mem h7 (List.mem_of_getElem? ht)
      have HW := Lib.hid (HR.out.on hb).2.2
      have HC := Lib.hid (fun W hW => HF.out W t.1 t.2.1 t.2.2 hW t1 t2 t3)
      have HS := Lib.hid (fun i => byteSofar_step L p _ hbt i)
      generalize f t.1 t.2.1 t.2.2 = x at HC HS
      have HRW := Lib.hid hrow
      clear ht hbt hrow
      go_wp2_with fail
      refine (HC.out _ (HW.out.alloc HW.out.size _)).mono ?_
      rintro e w3 ⟨rfl, hb3⟩
      have B3 := (hb.alloc hb.size (.cells #[.int .i64 t.1, .int .i64 t.2.1, .int .i64 t.2.2] 99)).trans (hb3.mono (by have := hb.size; simp; omega))
      have hrl3 : w1.heap.size < (wr.alloc (.cells #[.int .i64 t.1, .int .i64 t.2.1, .int .i64 t.2.2] 99)).heap.size := by have := HRW.out.lt; simp; omega
      have hrow3 := (HRW.out.alloc (.cells #[.int .i64 t.1, .int .i64 t.2.1, .int .i64 t.2.2] 99)).of_block (hb3.block _ hrl3)
      have hd := hrow3.cell hlt
      have hfz := hrow3.frozen p
      have HR3 := Lib.hid ((hrow3.set p (.int .u8 ((byteOf x).toNat : Nat))).congr (g := byteSofar L (p + 1)) (fun i _ => HS.out i))
      have HB3 := Lib.hid (B3.setCell (p := ⟨w1.heap.size, p, none⟩) (Nat.le_refl _) (.int .u8 ((byteOf x).toNat : Nat)))
      clear hrow3 x0 x1 x2
      go_wp2_with fail
      refine (byteOf_any _ _).mono ?_
      rintro e w' ⟨rfl, rfl⟩
      go_wp2
      exact ⟨⟨p + 1, by omega, by go_num, HR3.out, HB3.out⟩, by simp only [intOf]; omega⟩
    · obtain rfl : p = cnt n := by omega
      have hcv : ∀ c, (convert 22 9 (.slice (some ⟨w1.heap.size, 0, none⟩) (cnt n) c)).run Try.prog wr = .ok (.string ⟨L.toArray⟩) wr := fun c => by
        rw [← HLL.out]
        refine run_convert_bytes_back (P := Try.prog) wr 22 9 5 ⟨w1.heap.size, 0, none⟩ c L Try.underlying22 Try.underlying5 Try.underlying9 (fun j hj => ?_)
        rw [WideShapes.add_plain, Nat.zero_add, hrow.cell (by rw [← HLL.out]; exact hj)]
        unfold byteSofar
        rw [if_pos (by rw [← HLL.out]; exact hj), List.getD_eq_getElem?_getD, List.getElem?_eq_getElem hj]
        rfl
      have hcv2 := hcv (cnt n)
      obtain ⟨⟨e0, e1⟩, ⟨z0, z1⟩, B⟩ := HR.out.on hb
      obtain ⟨k0, k1⟩ := ret_sg e0 e1 (.int .i64 n) (.string ⟨L.toArray⟩)
      clear hcv hrow
      go_wp2
      exact bodyPost_ret (v := .agg #[.int .i64 n, .string ⟨L.toArray⟩]) (by simp [results, Try.results66, go_sem, k0, k1]) rfl ⟨rfl, (B.setCell (by simp) _).setCell (by simp) _⟩
end Go.Proofs.Ytlhkgabglddlhaa.Sg
