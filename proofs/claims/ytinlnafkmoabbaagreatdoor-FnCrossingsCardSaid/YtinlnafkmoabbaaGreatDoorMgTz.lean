/- Several texts in one: HuImpl, LeArg. -/
import Derived.Test.YtinlnafkmoabbaaGreatDoorMgE
import Derived.Test.YtinlnafkmoabbaaGreatDoorMgK
import Derived.Test.YtinlnafkmoabbaaGreatDoorShelf
import Derived.Test.YtinlnafkmoabbaaGreatDoorMgM
/- IsExtreme, HullSize, IsConvex and InHull, as impl answers them. -/
namespace Go.Proofs.YtinlnafkmoabbaaGreatDoor.Sg
open Go.RowKit Pt NewI
theorem els_len {n : Nat} {s : List UInt8} (h : aciB n s = true) : (elsN n s).length = n := by
  have h7 := (aciB_n h).2
  rw [elsN_yes h]
  have := pcS_all n (by omega)
  unfold pcS at this
  rwa [setsTo_elt, zl_length] at this
end Go.Proofs.YtinlnafkmoabbaaGreatDoor.Sg
/- What lies left, as impl counts it: the elements as a slice, leftCount, LeftCount. -/
namespace Go.Proofs.YtinlnafkmoabbaaGreatDoor.Sg
open Go.RowKit Pt NewI
theorem elt_all0 : ∀ n, n < 8 → eltN (2 ^ n - 1) = List.range n := by decide +kernel
theorem elsN_range {n : Nat} {s : List UInt8} (h : aciB n s = true) : elsN n s = List.range n := by
  have h7 := (aciB_n h).2
  rw [elsN_yes h]; exact elt_all0 n (by omega)
/-- The elements, ascending, in block g. -/
def ElsIs (W : World) (g m : Nat) : Prop := ∀ k : Nat, k < m → W.cell? ⟨g, k, none⟩ = some (.int .i64 k)
theorem ElsIs.on {W W' : World} {g m : Nat} (h : ElsIs W g m) (hb : Below W.heap.size W W') : ElsIs W' g m := fun k hk => by
  rw [hb.cell (Kit.cell_lt (h k hk))]; exact h k hk
/-- orderOf of order signs, and of others. -/
theorem orderOf_yes (n : Nat) (s : ByteArray) (hs : s.size ≤ 9223372036854775807) (h : aciB n s.data.toList = true) (w : World) (hT : Tab w) :
    Calls Tryz.prog 97 #[sg n s] w fun e w' => ∃ b g c, e = .returned (.tuple #[.map (some b), .slice (some ⟨g, 0, none⟩) n c]) ∧ MapIs w' b (lookS n s.data.toList) ∧ ElsIs w' g n ∧ ResZ w' 0 (.slice (some ⟨g, 0, none⟩) n c) (zl (elsN n s.data.toList)) ∧ Below w.heap.size w w' := by
  refine (orderOf_any n s hs w hT).mono ?_
  rintro e w' ⟨b, v, rfl, hm, hv, hb⟩
  have h3 := (aciB_n h).1
  have hl := els_len h
  rw [ordF_yes h] at hm
  have hr := elsN_range h
  rcases hv with ⟨h0, -⟩ | ⟨h0, g, c, rfl, h1, h2, h4, h5, h6⟩
  · have := zl_nil h0
    rw [this] at hl
    simp at hl; omega
  · have hzl : (zl (elsN n s.data.toList)).length = n := by rw [zl_length, hl]
    have hv : Value.slice (some ⟨g, 0, none⟩) (zl (elsN n s.data.toList)).length c = .slice (some ⟨g, 0, none⟩) n c := by rw [hzl]
    refine ⟨b, g, c, by rw [hv], hm, fun k hk => ?_, .inr ⟨h0, g, c, hv.symm, Nat.zero_le _, h2, h4, h5, h6⟩, hb⟩
    rw [h6.cell k (by omega), zc_zl (by omega), hr, List.getD_eq_getElem?_getD, List.getElem?_range hk]
    rfl
theorem orderOf_no (n : Int) (s : ByteArray) (hs : s.size ≤ 9223372036854775807) (h : aciB n s.data.toList = false) (w : World) (hT : Tab w) :
    Calls Tryz.prog 97 #[sg n s] w fun e w' => ∃ b, e = .returned (.tuple #[.map (some b), .slice none 0 0]) ∧ Below w.heap.size w w' := by
  refine (orderOf_any n s hs w hT).mono ?_
  rintro e w' ⟨b, v, rfl, hm, hv, hb⟩
  rw [elsN_no h] at hv
  rcases hv with ⟨-, rfl⟩ | ⟨h0, -⟩
  · exact ⟨b, rfl, hb⟩
  · exact absurd rfl h0
/-- How many of the first k elements are to the left of two, as impl counts them. -/
def leK (F : Int → Int → Int → Int) (i j k : Nat) : Nat := (List.range k).countP fun (k : Nat) => F i j k == 1
theorem leK_succ (F : Int → Int → Int → Int) (i j k : Nat) : leK F i j (k + 1) = leK F i j k + bit (F i j k == 1) := by
  unfold leK
  rw [List.range_succ, List.countP_append, List.countP_singleton]
  cases (F i j k == 1) <;> rfl
theorem leK_le (F : Int → Int → Int → Int) (i j k : Nat) : leK F i j k ≤ k := by
  unfold leK
  have := List.countP_le_length (p := fun (k : Nat) => F i j k == 1) (l := List.range k)
  rwa [List.length_range] at this
theorem leK_eq {n : Nat} {s : List UInt8} (h : arB n s = true) {i j : Nat} (hi : i < n) (hj : j < n) (hij : i ≠ j) : leK (sgnF (lookS n s)) i j n = leftN (sgnF (lookS n s)) n i j := by
  unfold leK leftN
  refine List.countP_congr fun k hk => ?_
  have hk := List.mem_range.1 hk
  by_cases e1 : k = i
  · rw [sgnF_bad h (by omega)]; simp [e1]
  · by_cases e2 : k = j
    · rw [sgnF_bad h (by omega)]; simp [e2]
    · have k1 : (k != i) = true := by simpa using e1
      have k2 : (k != j) = true := by simpa using e2
      rw [k1, k2]
      rcases sgn_one h (x := i) (y := j) (z := k) hi hj hk hij (fun e => e2 e.symm) (fun e => e1 e.symm) with e | e <;> rw [e] <;> decide
set_option maxHeartbeats 1600000 in
set_option maxRecDepth 100000 in
theorem leftCount_any (b g c m : Nat) (h7 : m ≤ 7) (f : Int → Int → Int → Int) (i j : Nat) (hi : i < 8) (hj : j < 8) (w : World) (hm : MapIs w b f) (he : ElsIs w g m) :
    Calls Tryz.prog 104 #[.map (some b), .slice (some ⟨g, 0, none⟩) m c, .int .i64 i, .int .i64 j] w fun e w' => e = .returned (.int .i64 (leK (sgnF f) i j m : Nat)) ∧ Below w.heap.size w w' := by
  have HA : Hid (∀ k : Nat, k < m → ∀ W, Below w.heap.size w W → Calls Tryz.prog 146 #[.map (some b), .int .i64 i, .int .i64 j, .int .i64 k] W fun e w' => e = .returned (.int .i64 (sgnF f i j k)) ∧ W = w') := Lib.hid (fun k hk W hW => at_any b f i j k (by omega) (by omega) (by omega) W (hm.on hW))
  have HE := Lib.hid he
  generalize sgnF f = F at HA ⊢
  have HSU := Lib.hid (leK_succ F i j)
  have HLE := Lib.hid (leK_le F i j)
  have H0 : Hid (leK F i j 0 = 0) := Lib.hid rfl
  generalize leK F i j = q at HSU HLE H0 ⊢
  clear hm he
  go_enter Tryz.func104, Tryz.ntmps104
  go_wp2
  go_loopw [9, 14] (fun cv iv wr => ∃ p : Nat, p ≤ m ∧ iv = .int .i64 p ∧ cv = .int .i64 (q p : Nat) ∧ Hid (Below w.heap.size w wr)) (fun _ iv _ => m - (intOf iv).toNat)
  case atStart => exact ⟨0, Nat.zero_le _, rfl, by rw [H0.out]; rfl, Lib.hid (Below.refl _ _)⟩
  case round =>
    obtain ⟨p, hp, rfl, rfl, HB⟩ := hrel
    by_cases hlt : p < m
    · have hd := HE.out.on HB.out p hlt
      have HC := Lib.hid (HA.out p hlt _ HB.out)
      have HS := Lib.hid (HSU.out p)
      have hq := HLE.out p
      generalize F i j p = v at HC HS
      cases hv : (v == 1)
      · have HN : Hid (q (p + 1) = q p) := Lib.hid (by rw [HS.out, hv]; rfl)
        clear HS
        go_wp2_with fail
        refine HC.out.mono ?_
        rintro e w' ⟨rfl, rfl⟩
        go_wp2
        exact ⟨⟨p + 1, by omega, by go_num, by rw [HN.out], HB⟩, by simp only [intOf]; omega⟩
      · have HN : Hid (q (p + 1) = q p + 1) := Lib.hid (by rw [HS.out, hv]; rfl)
        clear HS
        go_wp2_with fail
        refine HC.out.mono ?_
        rintro e w' ⟨rfl, rfl⟩
        go_wp2
        exact ⟨⟨p + 1, by omega, by go_num, by rw [HN.out]; go_num, HB⟩, by simp only [intOf]; omega⟩
    · obtain rfl : p = m := by omega
      go_wp2
      go_ret
      exact ⟨rfl, HB.out⟩
end Go.Proofs.YtinlnafkmoabbaaGreatDoor.Sg
