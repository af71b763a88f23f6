/- OppositeSigns, as spec answers it; the law. -/
import Derived.Test.YtohihlhkheeemaaSgOpp
import Derived.Test.YtohihlhkheeemaaPtTurn
import Derived.Laws.Strings
namespace Go.Proofs.Ytohihlhkheeemaa.Sg
open Go.RowKit Pt
set_option maxRecDepth 100000 in
theorem l3Byte_any (x : Int) (w : World) : Calls Try.prog 36 #[.int .i64 x] w fun e w' => e = .returned (.string ⟨#[byteOf x]⟩) ∧ w' = w := by
  by_cases h : 0 < x
  · have HE : Hid (byteOf x = 43) := Lib.hid (if_pos h)
    go_enter Try.func36, Try.ntmps36
    go_wp2
    go_ret
    exact ⟨by rw [HE.out]; rfl, rfl⟩
  · have HE : Hid (byteOf x = 45) := Lib.hid (if_neg h)
    go_enter Try.func36, Try.ntmps36
    go_wp2
    go_ret
    exact ⟨by rw [HE.out]; rfl, rfl⟩
def bitI (b : Bool) : Int := if b = true then 1 else 0
theorem bit_any (b : Bool) (w : World) : Calls Try.prog 44 #[.bool b] w fun e w' => e = .returned (.int .i64 (bitI b)) ∧ w' = w := by
  cases b
  · exact (bit_no w).mono fun _ _ ⟨h, e⟩ => ⟨h, e.symm⟩
  · exact (bit_yes w).mono fun _ _ ⟨h, e⟩ => ⟨h, e.symm⟩
/-- Signs in the making, in block Bo. -/
def OutC (Bo : Nat) (n : Int) (x : ByteArray) (W : World) : Prop := (W.cell? ⟨Bo, 0, none⟩ = some (.int .i64 n) ∧ W.cell? ⟨Bo, 1, none⟩ = some (.string x)) ∧ (W.frozen? ⟨Bo, 0, none⟩ = false ∧ W.frozen? ⟨Bo, 1, none⟩ = false)
theorem outC_made (w : World) (n : Int) (x : ByteArray) (t : TypeId) : OutC w.heap.size n x (w.alloc (.cells #[.int .i64 n, .string x] t)) := by
  refine ⟨⟨?_, ?_⟩, ⟨?_, ?_⟩⟩
  all_goals go_simp
theorem OutC.set {Bo : Nat} {n : Int} {x : ByteArray} {W : World} (h : OutC Bo n x W) (y : ByteArray) : OutC Bo n y (W.setCell ⟨Bo, 1, none⟩ (.string y)) := by
  obtain ⟨⟨h1, h2⟩, ⟨h3, h4⟩⟩ := h
  exact ⟨⟨by rw [World.cell?_setCell_other _ _ _ _ (by simp)]; exact h1, World.cell?_setCell_same _ _ _ h2⟩, ⟨by rw [World.frozen?_setCell]; exact h3, by rw [World.frozen?_setCell]; exact h4⟩⟩
theorem OutC.on {Bo : Nat} {n : Int} {x : ByteArray} {W W' : World} (h : OutC Bo n x W) (hb : Below W.heap.size W W') : OutC Bo n x W' := by
  obtain ⟨⟨h1, h2⟩, ⟨h3, h4⟩⟩ := h
  have hl : Bo < W.heap.size := Kit.cell_lt h1
  exact ⟨⟨by rw [hb.cell hl]; exact h1, by rw [hb.cell hl]; exact h2⟩, ⟨by rw [hb.frozen hl]; exact h3, by rw [hb.frozen hl]; exact h4⟩⟩
theorem Box.on' {w0 : World} {n : Int} {s : ByteArray} {w w' : World} {B : Nat} (h : Box w0 n s w) (hb : Below B w w') (hl : w0.heap.size < B) (hs : B ≤ w.heap.size) : Box w0 n s w' :=
  ⟨by rw [hb.cell hl]; exact h.1, by rw [hb.cell hl]; exact h.2.1, h.2.2.trans (hb.mono (by omega))⟩
theorem bytes_snoc (l : List UInt8) (b : UInt8) : (⟨l.toArray⟩ : ByteArray) ++ ⟨#[b]⟩ = ⟨(l ++ [b]).toArray⟩ := by
  apply ByteArray.ext
  rw [ByteArray.data_append]
  simp
set_option maxHeartbeats 800000 in
set_option maxRecDepth 100000 in
theorem specOpp_no (n : Int) (s : ByteArray) (hs : s.size ≤ 9223372036854775807) (h : arB n s.data.toList = false) (w : World) :
    Calls Try.prog 21 #[sg n s] w fun e w' => e = .returned (oppV n s) ∧ Below w.heap.size w w' := by
  have HA := Lib.hid (fun W => specAre_sg n s hs W)
  rw [h] at HA
  have HR := Lib.hid (oppV_no h)
  have HM := Lib.hid (resC_made (w.alloc (.cells #[.int .i64 n, .string s] 26)) 26)
  have hsz : (w.alloc (.cells #[.int .i64 n, .string s] 26)).heap.size = w.heap.size + 1 := by simp
  have HB := Lib.hid ((Below.refl w.heap.size w).alloc (Nat.le_refl _) (.cells #[.int .i64 n, .string s] 26))
  clear h
  go_enter Try.func21, Try.ntmps21
  go_wp2_with fail
  refine (HA.out _).mono ?_
  rintro e w1 ⟨rfl, hb1⟩
  obtain ⟨⟨e0, e1⟩, ⟨z0, z1⟩, B1⟩ := HM.out.on hb1
  have B := HB.out.trans (B1.mono (by rw [hsz]; omega))
  rw [hsz] at e0 e1 z0 z1
  obtain ⟨g0, g1⟩ := ret_sg e0 e1 (.int .i64 0) (.string ⟨#[]⟩)
  clear B1 hb1
  go_wp2
  exact bodyPost_ret (v := .tuple #[.agg #[.int .i64 0, .string ⟨#[]⟩], .bool false]) (by simp [results, Try.results21, go_sem, g0, g1]) rfl ⟨ret_v HR.out.symm, (B.setCell (by simp) _).setCell (by simp) _⟩
set_option maxHeartbeats 1600000 in
set_option maxRecDepth 100000 in
theorem specOpp_yes (n : Nat) (s : ByteArray) (hs : s.size ≤ 9223372036854775807) (h : arB n s.data.toList = true) (w : World) :
    Calls Try.prog 21 #[sg n s] w fun e w' => e = .returned (oppV n s) ∧ Below w.heap.size w w' := by
  have HA := Lib.hid (fun W => specAre_sg n s hs W)
  rw [h] at HA
  have HR := Lib.hid (oppV_yes h)
  obtain ⟨h3, h7, hl, -⟩ := arB_yes h
  have h7 : n ≤ 7 := by omega
  have hs35 : s.size ≤ 35 := by have := cnt_le h7; have : s.size = cnt n := by simpa using hl
                                omega
  have HM := Lib.hid (resC_made (w.alloc (.cells #[.int .i64 n, .string s] 26)) 26)
  have HX := Lib.hid ((box_made w n s 26).alloc (.cells #[.int .i64 0, .string ⟨#[]⟩] 26))
  have hsz : (w.alloc (.cells #[.int .i64 n, .string s] 26)).heap.size = w.heap.size + 1 := by simp
  have HB := Lib.hid ((Below.refl w.heap.size w).alloc (Nat.le_refl _) (.cells #[.int .i64 n, .string s] 26))
  clear h hl
  go_enter Try.func21, Try.ntmps21
  go_wp2_with fail
  refine (HA.out _).mono ?_
  rintro e w1 ⟨rfl, hb1⟩
  have R1 := Lib.hid (HM.out.on hb1)
  have X1 := Lib.hid (HX.out.on hb1)
  obtain ⟨x0, x1, -⟩ := X1.out
  have hrl := R1.out.lt
  rw [hsz] at hrl
  clear hb1
  go_wp2
  have O0 := Lib.hid (outC_made w1 n ⟨#[]⟩ 26)
  have B0 := Lib.hid ((Below.refl w1.heap.size w1).alloc (Nat.le_refl _) (.cells #[.int .i64 n, .string ⟨#[]⟩] 26))
  clear x0 x1
  go_loopw [5] (fun i wr => ∃ k : Nat, k ≤ s.size ∧ i = .int .i64 k ∧ Hid (OutC w1.heap.size n ⟨((s.data.toList.map flip1).take k).toArray⟩ wr) ∧ Hid (Below w1.heap.size w1 wr)) (fun i _ => s.size - (intOf i).toNat)
  case atStart => exact ⟨0, Nat.zero_le _, rfl, O0, B0⟩
  case round =>
    obtain ⟨k, hk, rfl, HO, HBB⟩ := hrel
    obtain ⟨x0, x1, -⟩ := X1.out.on' HBB.out (by omega) (Nat.le_refl _)
    by_cases hlt : k < s.size
    · obtain ⟨X, hX⟩ : ∃ X : ByteArray, X = ⟨((s.data.toList.map flip1).take k).toArray⟩ := ⟨_, rfl⟩
      rw [← hX] at HO
      have hXs : X.size ≤ 35 := by rw [hX]; show (List.toArray _).size ≤ 35; simp; omega
      have HN : Hid (X ++ ⟨#[byteOf (bitI (((s[k].toNat : Int)) == 45))]⟩ = ⟨((s.data.toList.map flip1).take (k + 1)).toArray⟩) := Lib.hid (by
        have hk' : k < s.data.toList.length := by simpa using hlt
        rw [hX, bytes_snoc, List.take_add_one, List.getElem?_map, List.getElem?_eq_getElem hk']
        simp only [Option.map_some, Option.toList_some]
        have e : s.data.toList[k] = s[k] := rfl
        rw [e]
        congr 4
        unfold flip1 bitI
        by_cases hb : s[k] = 45
        · rw [hb]; rfl
        · rw [if_neg hb, neI45 hb]; rfl)
      obtain ⟨⟨o0, o1⟩, ⟨f0, f1⟩⟩ := HO.out
      have hr1 : ∀ W (b : UInt8), (Op.stringOp .add X ⟨#[b]⟩).run Try.prog W = .ok (.string (X ++ ⟨#[b]⟩)) W := fun W b => run_string_add_sum W _ _ (by show X.size + 1 ≤ _; omega)
      clear hX
      go_wp2
      refine region_tail 11 (by kernel_rfl) (by kernel_rfl) ?_
      intro W hW
      have g1 : W.cell? ⟨w.heap.size, 1, none⟩ = some (.string s) := by rw [hW]; exact x1
      have g2 : W.cell? ⟨w1.heap.size, 1, none⟩ = some (.string X) := by rw [hW]; exact o1
      have g3 : W.frozen? ⟨w1.heap.size, 1, none⟩ = false := by rw [hW]; exact f1
      have HOW : Hid (OutC w1.heap.size n X W) := Lib.hid (by rw [hW]; exact HO.out)
      have HBW : Hid (Below w1.heap.size w1 W) := Lib.hid (by rw [hW]; exact HBB.out.drew)
      clear hW x0 x1 o0 o1 f0 f1
      simp only [List.take_succ_cons, List.take_zero, List.drop_succ_cons, List.drop_zero]
      still_step
      still_step
      still_step
      still_step
      still_step
      still_step
      still_step
      still_call (bit_any _ _)
      still_call (l3Byte_any _ _)
      still_step
      still_step
      refine wpStill_nil ?_
      change wpList _ _ _ _ _ W
      have HOW2 : Hid (OutC w1.heap.size n ⟨((s.data.toList.map flip1).take (k + 1)).toArray⟩ (W.setCell ⟨w1.heap.size, 1, none⟩ (.string (X ++ ⟨#[byteOf (bitI (((s[k].toNat : Int)) == 45))]⟩)))) := Lib.hid (by
        have := HOW.out.set (X ++ ⟨#[byteOf (bitI (((s[k].toNat : Int)) == 45))]⟩)
        rw [HN.out] at this ⊢
        exact this)
      have HBW2 := Lib.hid (HBW.out.setCell (p := ⟨w1.heap.size, 1, none⟩) (Nat.le_refl _) (.string (X ++ ⟨#[byteOf (bitI (((s[k].toNat : Int)) == 45))]⟩)))
      go_wp2
      exact ⟨⟨k + 1, by omega, by go_num, HOW2, HBW2⟩, by simp only [intOf]; omega⟩
    · have e : (s.data.toList.map flip1).take k = s.data.toList.map flip1 := List.take_of_length_le (by simp; omega)
      rw [e] at HO
      obtain ⟨⟨o0, o1⟩, -⟩ := HO.out
      obtain ⟨⟨e0, e1⟩, ⟨z0, z1⟩, B1⟩ := R1.out.on' HBB.out (by rw [hsz]; omega) (Nat.le_refl _)
      have B := HB.out.trans (B1.mono (by rw [hsz]; omega))
      rw [hsz] at e0 e1 z0 z1
      obtain ⟨k0, k1⟩ := ret_sg e0 e1 (.int .i64 n) (.string ⟨(s.data.toList.map flip1).toArray⟩)
      generalize (s.data.toList.map flip1).toArray = L at k0 k1 HR o1
      clear B1 e HO
      go_wp2
      exact bodyPost_ret (v := .tuple #[.agg #[.int .i64 n, .string ⟨L⟩], .bool true]) (by simp [results, Try.results21, go_sem, k0, k1]) rfl ⟨ret_v HR.out.symm, (B.setCell (by simp) _).setCell (by simp) _⟩
theorem specOpp (n : Int) (s : ByteArray) (hs : s.size ≤ 9223372036854775807) (w : World) :
    Calls Try.prog 21 #[sg n s] w fun e w' => e = .returned (oppV n s) ∧ Below w.heap.size w w' := by
  cases h : arB n s.data.toList
  · exact specOpp_no n s hs h w
  · obtain ⟨h3, -⟩ := arB_yes h
    obtain ⟨m, rfl⟩ : ∃ m : Nat, n = m := ⟨n.toNat, by omega⟩
    exact specOpp_yes m s hs h w
theorem oppV_ex (n : Int) (s : ByteArray) : ∃ m t b, oppV n s = .tuple #[sg m t, .bool b] := by
  cases h : arB n s.data.toList
  · exact ⟨_, _, _, oppV_no h⟩
  · exact ⟨_, _, _, oppV_yes h⟩
set_option maxHeartbeats 1600000 in
set_option maxRecDepth 100000 in
theorem walkOppositeSigns (n : Int) (_ : -9223372036854775808 ≤ n ∧ n ≤ 9223372036854775807) (s : ByteArray) (hs : s.size ≤ 9223372036854775807) (w : World) :
    Calls Try.prog 6 #[sg n s] w fun e w' => e = .returned (.bool true) ∧ Below w.heap.size w w' := by
  have HS := Lib.hid (fun t => box_made w n s t)
  by_cases hz : (1048576 : Int) - s.size < 0
  · have z1 := left_neg (left := 1048576) hz
    go_enter Try.func6, Try.ntmps6
    go_wp2_with fail
    refine (sz_sg n s _ (by omega) (by omega) hs _).mono ?_
    rintro e w1 ⟨rfl, hb1⟩
    have B1 := ((HS.out _).on hb1).2.2
    go_wp2
    go_ret
    exact ⟨rfl, B1⟩
  · have z1 := left_pos (left := 1048576) (s := s) (by omega)
    obtain ⟨m, t, b, ho⟩ := oppV_ex n s
    have HA : Hid (∀ W, Calls Try.prog 21 #[sg n s] W fun e w' => e = .returned (.tuple #[sg m t, .bool b]) ∧ Below W.heap.size W w') := Lib.hid (fun W => by rw [← ho]; exact specOpp n s hs W)
    have HI : Hid (∀ W, Calls Try.prog 22 #[sg n s] W fun e w' => e = .returned (.tuple #[sg m t, .bool b]) ∧ Below W.heap.size W w') := Lib.hid (fun W => by rw [← ho]; exact implOpp n s hs W)
    have hself : (b != b) = false := by simp
    have HQ := Lib.hid (fun W => eq_sg m t W)
    clear ho
    go_enter Try.func6, Try.ntmps6
    go_wp2_with fail
    refine (sz_sg n s _ (by omega) (by omega) hs _).mono ?_
    rintro e w1 ⟨rfl, hb1⟩
    obtain ⟨c1, c2, B1⟩ := (HS.out _).on hb1
    go_wp2_with fail
    refine (to_sg n s _).mono ?_
    rintro e w2 ⟨rfl, hb2⟩
    have X2 := Lib.hid (Box.on ⟨c1, c2, B1⟩ hb2)
    clear c1 c2
    go_wp2_with fail
    refine (HA.out _).mono ?_
    rintro e w3 ⟨rfl, hb3⟩
    have Y3 := Lib.hid (box_made w3 m t 26)
    obtain ⟨c1, c2, B3⟩ := (X2.out.on hb3).alloc (.cells #[.int .i64 m, .string t] 26)
    go_wp2_with fail
    refine (to_sg n s _).mono ?_
    rintro e w4 ⟨rfl, hb4⟩
    have B4 := B3.trans (hb4.mono B3.size)
    have Y4 := Lib.hid (Y3.out.on hb4)
    clear c1 c2
    go_wp2_with fail
    refine (HI.out _).mono ?_
    rintro e w5 ⟨rfl, hb5⟩
    have B5 := B4.trans (hb5.mono B4.size)
    obtain ⟨x0, x1, -⟩ := (Y4.out.on hb5).alloc (.cells #[.int .i64 m, .string t] 26)
    have B5' := B5.alloc B5.size (.cells #[.int .i64 m, .string t] 26)
    go_wp2_with fail
    refine (HQ.out _).mono ?_
    rintro e w6 ⟨rfl, hb6⟩
    have B6 := B5'.trans (hb6.mono B5'.size)
    go_wp2
    go_ret
    exact ⟨rfl, B6⟩
end Go.Proofs.Ytohihlhkheeemaa.Sg
