/- RenameSigns, as spec answers it. -/
import Derived.Test.YtohihlhkheeemaaSgNamed
import Derived.Test.YtohihlhkheeemaaSgOthers
import Derived.Test.YtohihlhkheeemaaShelf
namespace Go.Proofs.Ytohihlhkheeemaa.Sg
open Go.RowKit Pt
/-- What RenameSigns answers, if the signs are signs. -/
noncomputable def renV (n : Nat) (s : ByteArray) (zs : List Int) : Value := if namesB n zs = true then .tuple #[sg n ⟨(text3 n (pickF n s.data.toList (turnedL n zs))).toArray⟩, .bool true] else .tuple #[sg 0 ⟨#[]⟩, .bool false]
theorem renV_yes {n : Nat} {s : ByteArray} {zs : List Int} (h : namesB n zs = true) : renV n s zs = .tuple #[sg n ⟨(text3 n (pickF n s.data.toList (turnedL n zs))).toArray⟩, .bool true] := by unfold renV; rw [if_pos h]
theorem renV_no {n : Nat} {s : ByteArray} {zs : List Int} (h : namesB n zs = false) : renV n s zs = .tuple #[sg 0 ⟨#[]⟩, .bool false] := by unfold renV; rw [h]; rfl
theorem turned_at (w : World) (n : Nat) (s : ByteArray) (hn7 : n ≤ 7) (b c : Nat) (zs : List Int) (hk : namesOk n zs) (W : World) (hr : RowZ W b zs) (hW : WAt w n s W) :
    Calls Try.prog 48 #[.slice (some ⟨b, 0, none⟩) zs.length c] W fun e w' => ∃ g c, e = .returned (.slice (some ⟨g, 0, none⟩) n c) ∧ (w'.cell? ⟨w.heap.size, 0, none⟩ = some (.int .i64 n) ∧ w'.cell? ⟨w.heap.size, 1, none⟩ = some (.string s)) ∧ Hid (WAt w n s w' ∧ IntsAt w' g (turnedL n zs) ∧ g < w'.heap.size) :=
  (l3Turned_any n hn7 b c zs hk W hr).mono fun e w' ⟨g, c, he, hat, hg, hbl⟩ => ⟨g, c, he, ⟨(hW.on hbl).b0, (hW.on hbl).b1⟩, Lib.hid ⟨hW.on hbl, hat, hg⟩⟩
theorem pickT_at (w : World) (n : Nat) (s : ByteArray) (zs : List Int) (h : arB n s.data.toList = true) (hk : namesOk n zs) (b c : Nat) (W : World) (hW : Hid (WAt w n s W ∧ IntsAt W b (turnedL n zs) ∧ b < W.heap.size)) :
    Calls Try.prog 47 #[sg n s, .slice (some ⟨b, 0, none⟩) n c] W fun e w' => e = .returned (sg n ⟨(text3 n (pickF n s.data.toList (turnedL n zs))).toArray⟩) ∧ (w'.cell? ⟨w.heap.size, 0, none⟩ = some (.int .i64 n) ∧ w'.cell? ⟨w.heap.size, 1, none⟩ = some (.string s)) ∧ (w'.cell? ⟨w.heap.size + 1, 0, none⟩ = some (.int .i64 0) ∧ w'.cell? ⟨w.heap.size + 1, 1, none⟩ = some (.string ⟨#[]⟩)) ∧ (w'.frozen? ⟨w.heap.size + 1, 0, none⟩ = false ∧ w'.frozen? ⟨w.heap.size + 1, 1, none⟩ = false) ∧ Below w.heap.size w w' := by
  obtain ⟨h3, h7, -⟩ := arB_yes h
  have h3 : 3 ≤ n := by omega
  have h7 : n ≤ 7 := by omega
  have hl := turnedL_length n zs
  have := l3Pick_any n s (turnedL n zs) b c h (by omega) (by omega) (turnedL_lt hk) (turnedL_nodup hk) W hW.out.2.1 hW.out.2.2
  rw [hl] at this
  refine this.mono fun e w' ⟨he, hb⟩ => ?_
  obtain ⟨x0, x1, r0, r1, z0, z1, B⟩ := hW.out.1.on hb
  exact ⟨he, ⟨x0, x1⟩, ⟨r0, r1⟩, ⟨z0, z1⟩, B⟩
set_option maxHeartbeats 1600000 in
set_option maxRecDepth 100000 in
theorem specRen_none (n : Int) (s : ByteArray) (b c : Nat) (zs : List Int) (hs : s.size ≤ 9223372036854775807) (h : arB n s.data.toList = false) (w : World) :
    Calls Try.prog 23 #[sg n s, .slice (some ⟨b, 0, none⟩) zs.length c] w fun e w' => e = .returned (.tuple #[sg 0 ⟨#[]⟩, .bool false]) ∧ Below w.heap.size w w' := by
  have HA := Lib.hid (fun W => specAre_sg n s hs W)
  rw [h] at HA
  have HM := Lib.hid (wAt_made w n s 26)
  clear h
  go_enter Try.func23, Try.ntmps23
  go_wp2_with fail
  refine (HA.out _).mono ?_
  rintro e w1 ⟨rfl, hb1⟩
  obtain ⟨x0, x1, e0, e1, z0, z1, B⟩ := HM.out.on hb1
  obtain ⟨g0, g1⟩ := ret_sg e0 e1 (.int .i64 0) (.string ⟨#[]⟩)
  clear hb1
  go_wp2
  exact bodyPost_ret (v := .tuple #[.agg #[.int .i64 0, .string ⟨#[]⟩], .bool false]) (by simp [results, Try.results23, go_sem, g0, g1]) rfl ⟨rfl, (B.setCell (by simp) _).setCell (by simp) _⟩
set_option maxHeartbeats 3200000 in
set_option maxRecDepth 100000 in
theorem specRen_some (n : Nat) (s : ByteArray) (b c : Nat) (zs : List Int) (hx : zs.length ≤ 1048576) (h : arB n s.data.toList = true) (w : World) (hr : RowZ w b zs) :
    Calls Try.prog 23 #[sg n s, .slice (some ⟨b, 0, none⟩) zs.length c] w fun e w' => e = .returned (renV n s zs) ∧ Below w.heap.size w w' := by
  obtain ⟨h3, h7, hl, -⟩ := arB_yes h
  have h3 : 3 ≤ n := by omega
  have h7 : n ≤ 7 := by omega
  have hs35 : s.size ≤ 35 := by have := cnt_le h7; have : s.size = cnt n := by simpa using hl
                                omega
  have HA := Lib.hid (fun W => specAre_sg n s (by omega) W)
  rw [h] at HA
  have HM := Lib.hid (wAt_made w n s 26)
  have HNM := Lib.hid (fun W (hW : Below w.heap.size w W) => l3Names_any n h3 h7 b c zs hx W (hr.on hW))
  have HRW := Lib.hid hr
  have HAR := Lib.hid h
  clear h hl hr
  cases hk : namesB n zs
  · have HR := Lib.hid (renV_no (s := s) hk)
    rw [hk] at HNM
    clear hk
    go_enter Try.func23, Try.ntmps23
    go_wp2_with fail
    refine (HA.out _).mono ?_
    rintro e w1 ⟨rfl, hb1⟩
    have W1 := Lib.hid (HM.out.on hb1)
    obtain ⟨x0, x1, -, -, -, -, -⟩ := W1.out
    clear hb1
    go_wp2_with fail
    refine (HNM.out _ W1.out.below).mono ?_
    rintro e w2 ⟨rfl, hb2⟩
    clear x0 x1
    obtain ⟨x0, x1, e0, e1, z0, z1, B⟩ := W1.out.on hb2
    obtain ⟨g0, g1⟩ := ret_sg e0 e1 (.int .i64 0) (.string ⟨#[]⟩)
    clear hb2
    go_wp2
    exact bodyPost_ret (v := .tuple #[.agg #[.int .i64 0, .string ⟨#[]⟩], .bool false]) (by simp [results, Try.results23, go_sem, g0, g1]) rfl ⟨ret_v HR.out.symm, (B.setCell (by simp) _).setCell (by simp) _⟩
  · have HR := Lib.hid (renV_yes (s := s) hk)
    have hok := namesB_ok hk
    rw [hk] at HNM
    have HTU := Lib.hid (fun W (hrW : RowZ W b zs) (hW : WAt w n s W) => turned_at w n s h7 b c zs hok W hrW hW)
    have HPK := Lib.hid (fun g c W hW => pickT_at w n s zs HAR.out hok g c W hW)
    have n1 : w.heap.size + 1 ≠ w.heap.size := by omega
    generalize (text3 n (pickF n s.data.toList (turnedL n zs))).toArray = T at HPK HR
    clear hk hok
    go_enter Try.func23, Try.ntmps23
    go_wp2_with fail
    refine (HA.out _).mono ?_
    rintro e w1 ⟨rfl, hb1⟩
    have W1 := Lib.hid (HM.out.on hb1)
    obtain ⟨x0, x1, -, -, -, -, -⟩ := W1.out
    clear hb1
    go_wp2_with fail
    refine (HNM.out _ W1.out.below).mono ?_
    rintro e w2 ⟨rfl, hb2⟩
    have W2 := Lib.hid (W1.out.on hb2)
    clear x0 x1 hb2
    obtain ⟨x0, x1, -, -, -, -, -⟩ := W2.out
    have R2 := Lib.hid (HRW.out.on W2.out.below.drew)
    go_wp2
    go_region_held3 (fun W => W.cell? ⟨w.heap.size, 0, none⟩ = some (.int .i64 n) ∧ W.cell? ⟨w.heap.size, 1, none⟩ = some (.string s))
      (first | exact ⟨x0, x1⟩ | (refine ⟨?_, ?_⟩ <;> first | assumption | (rw [World.cell?_setCell_far _ _ _ _ n1, World.cell?_setCell_far _ _ _ _ n1]; assumption)))
      (first
      | (go_at_call 48; refine (HTU.out _ R2.out W2.out.drew).mono ?_; rintro e w' ⟨g, c', rfl, ⟨y0, y1⟩, HAT⟩)
      | (go_at_call 47; refine (HPK.out _ _ _ HAT).mono ?_; rintro e w' ⟨rfl, ⟨y2, y3⟩, ⟨r0, r1⟩, ⟨z0, z1⟩, B⟩))
    all_goals obtain ⟨k0, k1⟩ := ret_sg r0 r1 (.int .i64 n) (.string ⟨T⟩)
    all_goals go_wp2
    all_goals exact bodyPost_ret (v := .tuple #[.agg #[.int .i64 n, .string ⟨T⟩], .bool true]) (by simp [results, Try.results23, go_sem, k0, k1]) rfl ⟨ret_v HR.out.symm, (B.setCell (by simp) _).setCell (by simp) _⟩
end Go.Proofs.Ytohihlhkheeemaa.Sg
