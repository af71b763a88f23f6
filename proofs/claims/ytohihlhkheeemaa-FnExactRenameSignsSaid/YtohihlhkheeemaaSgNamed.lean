/- Names asked (spec.l3Names) and turned (spec.l3Turned). -/
import Derived.Test.YtohihlhkheeemaaSgInts
namespace Go.Proofs.Ytohihlhkheeemaa.Sg
open Go.RowKit Pt
/-- The first k of them are in range, and none is twice. -/
def namesTo (n : Nat) (zs : List Int) (k : Nat) : Prop := (∀ z ∈ zs.take k, 0 ≤ z ∧ z < n) ∧ (zs.take k).Nodup
theorem namesTo_zero (n : Nat) (zs : List Int) : namesTo n zs 0 := ⟨fun z h => by simp at h, by simp⟩
theorem take_snoc {zs : List Int} {k : Nat} {z : Int} (h : zs[k]? = some z) : zs.take (k + 1) = zs.take k ++ [z] := by rw [List.take_add_one, h]; rfl
theorem namesTo_step {n : Nat} {zs : List Int} {k : Nat} {z : Int} (h : namesTo n zs k) (hz : zs[k]? = some z) (hr : 0 ≤ z ∧ z < n) (hm : z ∉ zs.take k) : namesTo n zs (k + 1) := by
  unfold namesTo
  rw [take_snoc hz]
  refine ⟨fun y hy => ?_, ?_⟩
  · rcases List.mem_append.1 hy with hy | hy
    · exact h.1 y hy
    · obtain rfl := List.mem_singleton.1 hy; exact hr
  · rw [List.nodup_append]
    refine ⟨h.2, by simp, fun a ha b hb e => ?_⟩
    obtain rfl := List.mem_singleton.1 hb
    subst e
    exact hm ha
theorem names_range {n : Nat} {zs : List Int} {k : Nat} {z : Int} (hz : zs[k]? = some z) (h : ¬ (0 ≤ z ∧ z < n)) : namesB n zs = false := namesB_no (fun hk => h (hk.2.1 z (List.mem_of_getElem? hz)))
theorem names_twice {n : Nat} {zs : List Int} {k : Nat} {z : Int} (hz : zs[k]? = some z) (h : z ∈ zs.take k) : namesB n zs = false := namesB_no (fun hk => by
  have hs := List.Nodup.sublist (List.take_sublist (k + 1) zs) hk.2.2
  rw [take_snoc hz, List.nodup_append] at hs
  exact hs.2.2 z h z (by simp) rfl)
theorem names_end {n : Nat} {zs : List Int} (h : namesTo n zs zs.length) : ((zs.length : Int) == (n : Int)) = namesB n zs := by
  unfold namesTo at h
  rw [List.take_length] at h
  by_cases e : zs.length = n
  · rw [namesB_yes ⟨e, h.1, h.2⟩]; simp [e]
  · rw [namesB_no (fun hk => e hk.1)]; simp; omega
open Classical in
/-- Which numbers have been seen. -/
noncomputable def seenCell (zs : List Int) (k j : Nat) : Value := .bool (decide ((j : Int) ∈ zs.take k))
open Classical in
theorem seenCell_step {zs : List Int} {k x : Nat} (hz : zs[k]? = some (x : Int)) (i : Nat) : (if i = x then Value.bool true else seenCell zs k i) = seenCell zs (k + 1) i := by
  unfold seenCell
  rw [take_snoc hz]
  by_cases e : i = x
  · subst e; rw [if_pos rfl]; simp
  · rw [if_neg e]
    have : ¬ ((i : Int) = (x : Int)) := by omega
    simp [this]
open Classical in
theorem seenCell_zero (zs : List Int) (i : Nat) : seenCell zs 0 i = .bool false := by unfold seenCell; simp
set_option maxRecDepth 100000 in
theorem infoB : (Try.prog.info? 4).map (fun i => (i.zero, i.size, i.bytes)) = some (some (.bool false), 1, 1) := by kernel_rfl
set_option maxRecDepth 100000 in
theorem max_any (n : Nat) (hn : 1 ≤ n) (hn2 : n ≤ 7) (w : World) : Calls Try.prog 63 #[.int .i64 0, .int .i64 n] w fun e w' => e = .returned (.int .i64 n) ∧ w = w' := by
  go_enter Try.func63, Try.ntmps63
  go_wp2
  go_ret
  exact ⟨rfl, rfl⟩
set_option maxHeartbeats 1600000 in
set_option maxRecDepth 100000 in
theorem l3Names_any (n : Nat) (hn3 : 3 ≤ n) (hn7 : n ≤ 7) (b c : Nat) (zs : List Int) (hx : zs.length ≤ 1048576) (w : World) (hr : RowZ w b zs) :
    Calls Try.prog 46 #[.slice (some ⟨b, 0, none⟩) zs.length c, .int .i64 n] w fun e w' => e = .returned (.bool (namesB n zs)) ∧ Below w.heap.size w w' := by
  have hmk := run_make_row' (P := Try.prog) 80 4 (.bool false) 1 Try.underlying80 infoB rfl .i64 .i64 n (by omega) (by omega)
  have H0 := Lib.hid ((World.rowIs_made w (.bool false) n 4).congr (g := seenCell zs 0) (fun i _ => (seenCell_zero zs i).symm))
  have HB0 := Lib.hid ((Below.refl w.heap.size w).alloc (Nat.le_refl _) (.cells (madeCells #[.bool false] n) 4))
  have HZ := Lib.hid hr.at
  have hbw := hr.lt
  clear hr
  go_enter Try.func46, Try.ntmps46
  go_wp2_with (go_at_call 63; refine (max_any n (by omega) (by omega) _).mono ?_; rintro e w' ⟨rfl, rfl⟩)
  clear hmk
  go_loopw [6] (fun i wr => ∃ k : Nat, k ≤ zs.length ∧ i = .int .i64 k ∧ Hid (namesTo n zs k) ∧ wr.rowIs w.heap.size 4 n (seenCell zs k) ∧ Below w.heap.size w wr) (fun i _ => zs.length - (intOf i).toNat)
  case atStart => exact ⟨0, Nat.zero_le _, rfl, Lib.hid (namesTo_zero n zs), H0.out, HB0.out⟩
  case round =>
    obtain ⟨k, hk, rfl, HN, hrow, hb⟩ := hrel
    by_cases hlt : k < zs.length
    · have hcell := (HZ.out.on hb hbw).get hlt
      have hz := List.getElem?_eq_getElem hlt
      simp only [Nat.zero_add] at hcell
      generalize zs[k] = z at hcell hz
      cases hin : inB z 0 ((n : Int) - 1)
      · have HE := Lib.hid (names_range hz (inB_norange hin))
        clear hz hrow
        go_wp2_with (go_at_call 29; refine (l1In_any _ _ _ _).mono ?_; rintro e w' ⟨rfl, rfl⟩)
        go_ret
        exact ⟨ret_bool HE.out.symm, hb⟩
      · have hzr := inB_range hin
        obtain ⟨x, rfl⟩ : ∃ x : Nat, z = x := ⟨z.toNat, by omega⟩
        have hxn : x < n := by omega
        have hd := hrow.cell hxn
        have hfz := hrow.frozen x
        by_cases hm : (x : Int) ∈ zs.take k
        · have HE := Lib.hid (names_twice (n := n) hz hm)
          have hd2 : wr.cell? ⟨w.heap.size, x, none⟩ = some (.bool true) := by rw [hd]; unfold seenCell; simp [hm]
          clear hz hrow hd hm
          go_wp2_with (go_at_call 29; refine (l1In_any _ _ _ _).mono ?_; rintro e w' ⟨rfl, rfl⟩)
          go_ret
          exact ⟨ret_bool HE.out.symm, hb⟩
        · have HS := Lib.hid (namesTo_step HN.out hz (by omega) hm)
          have hd2 : wr.cell? ⟨w.heap.size, x, none⟩ = some (.bool false) := by rw [hd]; unfold seenCell; simp [hm]
          have HR := Lib.hid ((hrow.set x (.bool true)).congr (g := seenCell zs (k + 1)) (fun i _ => seenCell_step hz i))
          have HB := Lib.hid (hb.setCell (p := ⟨w.heap.size, x, none⟩) (Nat.le_refl _) (.bool true))
          clear hz hrow hd hm
          go_wp2_with (go_at_call 29; refine (l1In_any _ _ _ _).mono ?_; rintro e w' ⟨rfl, rfl⟩)
          exact ⟨⟨k + 1, by omega, by go_num, HS, HR.out, HB.out⟩, by simp only [intOf]; omega⟩
    · obtain rfl : k = zs.length := by omega
      have HE := Lib.hid (names_end HN.out)
      clear hrow
      go_wp2
      go_ret
      exact ⟨ret_bool HE.out, hb⟩
/-- The cells of the turned list, where k names have been asked. -/
def turnedCell (n : Nat) (zs : List Int) (k j : Nat) : Value := .int .i64 (if (turnedL n zs).getD j 0 < k then ((turnedL n zs).getD j 0 : Nat) else (0 : Int))
theorem turnedCell_step {n : Nat} {zs : List Int} (h : namesOk n zs) {k x : Nat} (hk : k < n) (hz : zs[k]? = some (x : Int)) (i : Nat) (hi : i < n) : (if i = x then Value.int .i64 k else turnedCell n zs k i) = turnedCell n zs (k + 1) i := by
  unfold turnedCell
  by_cases e : i = x
  · subst e
    have := turnedL_back h hk hz
    simp only [Int.toNat_natCast] at this
    rw [if_pos rfl, List.getD_eq_getElem?_getD, this]
    simp
  · rw [if_neg e]
    obtain ⟨p, -, h2, h3, h4⟩ := turnedL_at h hi
    have hp : p ≠ k := fun e2 => by subst e2; rw [hz] at h3; have := Option.some.inj h3; omega
    rw [List.getD_eq_getElem?_getD, h4]
    simp only [Option.getD_some]
    by_cases h5 : p < k
    · rw [if_pos h5, if_pos (by omega)]
    · rw [if_neg h5, if_neg (by omega)]
set_option maxHeartbeats 1600000 in
set_option maxRecDepth 100000 in
theorem l3Turned_any (n : Nat) (hn7 : n ≤ 7) (b c : Nat) (zs : List Int) (h : namesOk n zs) (w : World) (hr : RowZ w b zs) :
    Calls Try.prog 48 #[.slice (some ⟨b, 0, none⟩) zs.length c] w fun e w' => ∃ g c, e = .returned (.slice (some ⟨g, 0, none⟩) n c) ∧ IntsAt w' g (turnedL n zs) ∧ g < w'.heap.size ∧ Below w.heap.size w w' := by
  have hl := h.1
  have hmk := run_make_row' (P := Try.prog) 41 3 (.int .i64 0) 8 Try.underlying41 infoZ rfl .i64 .i64 n (by omega) (by omega)
  have H0 := Lib.hid ((World.rowIs_made w (.int .i64 0) n 3).congr (g := turnedCell n zs 0) (fun i _ => by simp [turnedCell]))
  have HB0 := Lib.hid ((Below.refl w.heap.size w).alloc (Nat.le_refl _) (.cells (madeCells #[.int .i64 0] n) 3))
  have HZ := Lib.hid hr.at
  have hbw := hr.lt
  have HOK := Lib.hid h
  rw [hl]
  clear hr h
  go_enter Try.func48, Try.ntmps48
  go_wp2
  clear hmk
  go_loopw [4] (fun i wr => ∃ k : Nat, k ≤ n ∧ i = .int .i64 k ∧ wr.rowIs w.heap.size 3 n (turnedCell n zs k) ∧ Below w.heap.size w wr) (fun i _ => n - (intOf i).toNat)
  case atStart => exact ⟨0, Nat.zero_le _, rfl, H0.out, HB0.out⟩
  case round =>
    obtain ⟨k, hk, rfl, hrow, hb⟩ := hrel
    by_cases hlt : k < n
    · have hkl : k < zs.length := by omega
      have hcell := (HZ.out.on hb hbw).get hkl
      have hz := List.getElem?_eq_getElem hkl
      simp only [Nat.zero_add] at hcell
      generalize zs[k] = z at hcell hz
      have hzr := HOK.out.2.1 z (List.mem_of_getElem? hz)
      obtain ⟨x, rfl⟩ : ∃ x : Nat, z = x := ⟨z.toNat, by omega⟩
      have hxn : x < n := by omega
      have hd := hrow.cell hxn
      have hfz := hrow.frozen x
      have HR := Lib.hid ((hrow.set x (.int .i64 k)).congr (g := turnedCell n zs (k + 1)) (fun i hi => turnedCell_step HOK.out hlt hz i hi))
      have HB := Lib.hid (hb.setCell (p := ⟨w.heap.size, x, none⟩) (Nat.le_refl _) (.int .i64 k))
      clear hz hrow
      go_wp2
      exact ⟨⟨k + 1, by omega, by go_num, HR.out, HB.out⟩, by simp only [intOf]; omega⟩
    · obtain rfl : k = n := by omega
      have HI : Hid (IntsAt wr w.heap.size (turnedL k zs) ∧ w.heap.size < wr.heap.size) := Lib.hid ⟨fun j x hj => by
        have hjl := (List.getElem?_eq_some_iff.1 hj).1
        rw [turnedL_length] at hjl
        rw [hrow.cell hjl]
        have hx := turnedL_lt HOK.out x (List.mem_of_getElem? hj)
        unfold turnedCell
        rw [List.getD_eq_getElem?_getD, hj]
        simp [hx], hrow.lt⟩
      clear hrow
      go_wp2
      go_ret
      exact ⟨_, _, rfl, HI.out.1, HI.out.2, hb⟩
end Go.Proofs.Ytohihlhkheeemaa.Sg
