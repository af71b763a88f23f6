/- FnExactRenameSigns: for every signs and every list of names impl.RenameSigns and spec.RenameSigns answer alike, and the list is left as it was. -/
import Derived.Test.YtohihlhkheeemaaSgRenSome
namespace Go.Proofs.Ytohihlhkheeemaa.Sg
open Go.RowKit Pt
theorem ren_both (n : Int) (s : ByteArray) (hs : s.size ≤ 9223372036854775807) (zs : List Int) (hx : zs.length ≤ 1048576) : ∃ m t z,
    (∀ b c W, RowZ W b zs → Calls Try.prog 23 #[sg n s, .slice (some ⟨b, 0, none⟩) zs.length c] W fun e w' => e = .returned (.tuple #[sg m t, .bool z]) ∧ Below W.heap.size W w') ∧
    (∀ b c W, RowZ W b zs → Calls Try.prog 25 #[sg n s, .slice (some ⟨b, 0, none⟩) zs.length c] W fun e w' => e = .returned (.tuple #[sg m t, .bool z]) ∧ Below W.heap.size W w') := by
  cases h : arB n s.data.toList
  · exact ⟨0, ⟨#[]⟩, false, fun b c W _ => specRen_none n s b c zs hs h W, fun b c W _ => implRen_none n s b c zs hs h W⟩
  · obtain ⟨h3, -⟩ := arB_yes h
    obtain ⟨m, rfl⟩ : ∃ m : Nat, n = m := ⟨n.toNat, by omega⟩
    obtain ⟨m', t, z, hv⟩ : ∃ (m' : Int) (t : ByteArray) (z : Bool), renV m s zs = .tuple #[sg m' t, .bool z] := by
      cases hk : namesB m zs
      · exact ⟨_, _, _, renV_no hk⟩
      · exact ⟨_, _, _, renV_yes hk⟩
    refine ⟨m', t, z, fun b c W hr => ?_, fun b c W hr => ?_⟩
    · have := specRen_some m s b c zs hx h W hr
      rw [hv] at this
      exact this
    · by_cases hl : zs.length = m
      · have := implRen_some m s b c zs h hl W hr
        rw [hv] at this
        rw [hl]
        exact this
      · have := implRen_len m s b c zs hx h hl W
        rw [hv] at this
        exact this
theorem ints_len {w : World} {v : Value} {zs : List Int} (h : Kit.IntsArg w v zs) : ∃ a c, v = .slice a zs.length c ∧ zs.length ≤ 9223372036854775807 := by
  obtain ⟨a, c, rfl, h1, -⟩ := h
  exact ⟨a, c, rfl, by omega⟩
set_option maxHeartbeats 400000 in
set_option maxRecDepth 100000 in
theorem walkRen_big (n : Int) (s : ByteArray) (a : Option Addr) (c m : Nat) (hm : m ≤ 9223372036854775807) (hb : 1048576 < m) (w : World) :
    Calls Try.prog 7 #[sg n s, .slice a m c] w fun e w' => e = .returned (.bool true) ∧ Below w.heap.size w w' := by
  have HS := Lib.hid (box_made w n s 23)
  have hd : decide ((1048576 : Int) < (m : Int)) = true := by simp; omega
  go_enter Try.func7, Try.ntmps7
  go_wp2
  go_ret
  exact ⟨rfl, HS.out.2.2⟩
set_option maxHeartbeats 1600000 in
set_option maxRecDepth 100000 in
theorem walkRen_in (n : Int) (s : ByteArray) (hs : s.size ≤ 9223372036854775807) (v : Value) (a : Option Addr) (c : Nat) (zs : List Int) (hx : zs.length ≤ 1048576) (w : World) (h : Kit.IntsArg w v zs) (hv : v = .slice a zs.length c) :
    Calls Try.prog 7 #[sg n s, .slice a zs.length c] w fun e w' => e = .returned (.bool true) ∧ Below w.heap.size w w' := by
  have HS := Lib.hid (box_made w n s 23)
  have hd : decide ((1048576 : Int) < (zs.length : Int)) = false := by simp; omega
  by_cases hz : (1048576 : Int) - s.size < 0
  · have z1 := left_neg (left := 1048576) hz
    go_enter Try.func7, Try.ntmps7
    go_wp2_with fail
    refine (sz_sg n s _ (by omega) (by omega) hs _).mono ?_
    rintro e w1 ⟨rfl, hb1⟩
    have B1 := (HS.out.on hb1).2.2
    go_wp2
    go_ret
    exact ⟨rfl, B1⟩
  · have z1 := left_pos (left := 1048576) (s := s) (by omega)
    subst hv
    have HX := Lib.hid (fun W hb => toI_arg (.slice a zs.length c) zs hx w h W hb)
    obtain ⟨m, t, z, h1, h2⟩ := ren_both n s hs zs hx
    have HA := Lib.hid h1
    have HI := Lib.hid h2
    have hself : (z != z) = false := by simp
    have HQ := Lib.hid (fun W => eq_sg m t W)
    have HE := Lib.hid (fun b c b2 c2 W h1 h2 => eqI_any b c b2 c2 zs hx W h1 h2)
    clear h1 h2 h
    go_enter Try.func7, Try.ntmps7
    go_wp2_with fail
    refine (sz_sg n s _ (by omega) (by omega) hs _).mono ?_
    rintro e w1 ⟨rfl, hb1⟩
    obtain ⟨c1, c2, B1⟩ := HS.out.on hb1
    go_wp2_with fail
    refine (to_sg n s _).mono ?_
    rintro e w2 ⟨rfl, hb2⟩
    have X2 := Lib.hid (Box.on ⟨c1, c2, B1⟩ hb2)
    clear c1 c2
    go_wp2_with fail
    refine (HX.out _ X2.out.2.2).mono ?_
    rintro e w3 ⟨rfl, hr3, hb3⟩
    have X3 := Lib.hid (X2.out.on hb3)
    have R3 := Lib.hid hr3
    clear hr3
    go_wp2_with fail
    refine (HA.out _ _ _ R3.out).mono ?_
    rintro e w4 ⟨rfl, hb4⟩
    have X4 := Lib.hid (X3.out.on hb4)
    have Y4 := Lib.hid (box_made w4 m t 26)
    have X4' := Lib.hid (X4.out.alloc (.cells #[.int .i64 m, .string t] 26))
    go_wp2_with fail
    have hsz4 : (w4.alloc (.cells #[.int .i64 m, .string t] 26)).heap.size = w4.heap.size + 1 := by simp
    refine (HX.out _ X4'.out.2.2).mono ?_
    rintro e w5 ⟨he5, hr5, hb5⟩
    rw [hsz4] at he5 hr5
    subst he5
    clear hsz4
    have Y5 := Lib.hid (Y4.out.on hb5)
    have R5 := Lib.hid hr5
    obtain ⟨c1, c2, B5⟩ := X4'.out.on hb5
    clear hr5
    go_wp2_with fail
    refine (to_sg n s _).mono ?_
    rintro e w6 ⟨rfl, hb6⟩
    have Y6 := Lib.hid (Y5.out.on hb6)
    have R6 := Lib.hid (R5.out.on hb6)
    have B6 := B5.trans (hb6.mono B5.size)
    clear c1 c2
    go_wp2_with fail
    refine (HI.out _ _ _ R6.out).mono ?_
    rintro e w7 ⟨rfl, hb7⟩
    have R7 := Lib.hid (R6.out.on hb7)
    have B7 := B6.trans (hb7.mono B6.size)
    obtain ⟨x0, x1, -⟩ := (Y6.out.on hb7).alloc (.cells #[.int .i64 m, .string t] 26)
    have B7' := B7.alloc B7.size (.cells #[.int .i64 m, .string t] 26)
    have R7' := Lib.hid (R7.out.on ((Below.refl w7.heap.size w7).alloc (Nat.le_refl _) (.cells #[.int .i64 m, .string t] 26)))
    go_wp2_with fail
    refine (HQ.out _).mono ?_
    rintro e w8 ⟨rfl, hb8⟩
    have B8 := B7'.trans (hb8.mono B7'.size)
    have R8 := Lib.hid (R7'.out.on hb8)
    clear x0 x1
    go_wp2_with fail
    refine (HX.out _ B8).mono ?_
    rintro e w9 ⟨rfl, hr9, hb9⟩
    have B9 := B8.trans (hb9.mono B8.size)
    have R9 := Lib.hid (R8.out.on hb9)
    have Q9 := Lib.hid hr9
    clear hr9
    go_wp2_with fail
    refine (HE.out _ _ _ _ _ R9.out Q9.out).mono ?_
    rintro e w10 ⟨rfl, hb10⟩
    have B10 := B9.trans (hb10.mono B9.size)
    go_wp2
    go_ret
    exact ⟨rfl, B10⟩
theorem walkRenameSigns (n : Int) (_ : -9223372036854775808 ≤ n ∧ n ≤ 9223372036854775807) (s : ByteArray) (hs : s.size ≤ 9223372036854775807) (v : Value) (zs : List Int) (w : World) (h : Kit.IntsArg w v zs) :
    Calls Try.prog 7 #[sg n s, v] w fun e w' => e = .returned (.bool true) ∧ Below w.heap.size w w' := by
  obtain ⟨a, c, rfl, hl⟩ := ints_len h
  by_cases hb : zs.length ≤ 1048576
  · exact walkRen_in n s hs _ a c zs hb w h rfl
  · exact walkRen_big n s a c _ hl (by omega) w
end Go.Proofs.Ytohihlhkheeemaa.Sg
