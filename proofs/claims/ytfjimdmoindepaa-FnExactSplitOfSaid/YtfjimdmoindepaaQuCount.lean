/- The elements inside a triangle and the empty triangles, as impl tells them: countInside, CountInside, EmptyTriangles. -/
import Derived.Test.YtfjimdmoindepaaQuOrd
namespace Go.Proofs.Ytfjimdmoindepaa.Sg
open Go.RowKit Pt Go.Maps
theorem i64_nat {x : Nat} (h : x ≤ 1000) : I64 (x : Int) := by unfold I64; omega
set_option maxHeartbeats 1600000 in
set_option maxRecDepth 100000 in
theorem countInside_any (B : Nat) (f : Int → Int → Int → Int) (n : Nat) (h7 : n ≤ 7) (a b c : Int) (ha : I64 a) (hb : I64 b) (hc : I64 c) (w : World) (hm : MapIs w B f) :
    Calls Try.prog 43 #[.map (some B), .int .i64 n, .int .i64 a, .int .i64 b, .int .i64 c] w fun e w' => e = .returned (.int .i64 (cntI (sgnF f) a b c n)) ∧ Below w.heap.size w w' := by
  have HI : Hid (∀ p : Nat, p < n → ∀ W, Below w.heap.size w W → Calls Try.prog 41 #[.map (some B), .int .i64 p, .int .i64 a, .int .i64 b, .int .i64 c] W fun e w' => e = .returned (.bool (isIn (cir (sgnF f) p a b c))) ∧ Below W.heap.size W w') := Lib.hid (fun p hp W hW => isInside_any B f p a b c (i64_nat (by omega)) ha hb hc W (hm.on hW))
  have HLE := Lib.hid (cntI_le (sgnF f) a b c)
  generalize sgnF f = F at HI HLE ⊢
  clear hm ha hb hc
  go_enter Try.func43, Try.ntmps43
  go_wp2
  go_loopw [11, 14] (fun cv i wr => ∃ p : Nat, p ≤ n ∧ i = .int .i64 p ∧ cv = .int .i64 (cntI F a b c p : Nat) ∧ Hid (Below w.heap.size w wr)) (fun _ i _ => n - (intOf i).toNat)
  case atStart => exact ⟨0, Nat.zero_le _, rfl, rfl, Lib.hid (Below.refl _ _)⟩
  case round =>
    obtain ⟨p, hp, rfl, rfl, HB⟩ := hrel
    have hle := HLE.out p
    by_cases hlt : p < n
    · have HC := Lib.hid (HI.out p hlt _ HB.out)
      cases hin : isIn (cir F p a b c)
      · have HN := Lib.hid (cntI_miss (p := p) hin)
        rw [hin] at HC
        clear hin
        go_wp2_with fail
        refine HC.out.mono ?_
        rintro e w2 ⟨rfl, hb2⟩
        have HB2 := Lib.hid (HB.out.trans (hb2.mono HB.out.size))
        go_wp2
        exact ⟨⟨p + 1, by omega, by go_num, by rw [HN.out], HB2⟩, by simp only [intOf]; omega⟩
      · have HN := Lib.hid (cntI_hit (p := p) hin)
        rw [hin] at HC
        clear hin
        go_wp2_with fail
        refine HC.out.mono ?_
        rintro e w2 ⟨rfl, hb2⟩
        have HB2 := Lib.hid (HB.out.trans (hb2.mono HB.out.size))
        go_wp2
        exact ⟨⟨p + 1, by omega, by go_num, by rw [HN.out]; go_num, HB2⟩, by simp only [intOf]; omega⟩
    · obtain rfl : p = n := by omega
      go_wp2
      go_ret
      exact ⟨rfl, HB.out⟩
/-- What CountInside answers. -/
def insN (n : Int) (s : List UInt8) (a b c : Int) : Int := if sgnF (ordF n s) a b c = 0 then -1 else (cntI (sgnF (ordF n s)) a b c n.toNat : Nat)
/-- Signs by an order: there are 3 to 7 elements. -/
theorem sgnO_small {n : Int} {s : List UInt8} {a b c : Int} (h : sgnF (ordF n s) a b c ≠ 0) : aciB n s = true := by
  cases ha : aciB n s
  · exact absurd (sgnO_no ha a b c) h
  · rfl
theorem aciB_n {n : Int} {s : List UInt8} (h : aciB n s = true) : 3 ≤ n ∧ n ≤ 7 := by
  obtain ⟨h3, h7, -⟩ := arB_yes (matB_ar (aciB_mat h))
  omega
set_option maxHeartbeats 1600000 in
set_option maxRecDepth 100000 in
theorem implCountInside (n : Int) (s : ByteArray) (a b c : Int) (ha : I64 a) (hb : I64 b) (hc : I64 c) (hs : s.size ≤ 9223372036854775807) (w : World) :
    Calls Try.prog 20 #[sg n s, .int .i64 a, .int .i64 b, .int .i64 c] w fun e w' => e = .returned (.int .i64 (insN n s.data.toList a b c)) ∧ Below w.heap.size w w' := by
  have HO := Lib.hid (fun W => implOrd n s hs W)
  have HS := Lib.hid (box_made w n s 25)
  have HAT := Lib.hid (fun B W hm => at_any B (ordF n s.data.toList) a b c ha hb hc W hm)
  by_cases hz : sgnF (ordF n s.data.toList) a b c = 0
  · have HE : Hid (insN n s.data.toList a b c = -1) := Lib.hid (by unfold insN; rw [if_pos hz])
    rw [hz] at HAT
    clear ha hb hc hz
    go_enter Try.func20, Try.ntmps20
    go_wp2_with fail
    refine (HO.out _).mono ?_
    rintro e w1 ⟨B, rfl, hm, hb1⟩
    have B1 := Lib.hid (HS.out.on hb1).2.2
    have HM := Lib.hid hm.is
    clear hm hb1
    go_wp2_with fail
    refine (HAT.out _ _ HM.out).mono ?_
    rintro e w2 ⟨rfl, rfl⟩
    go_wp2
    go_ret
    exact ⟨ret_int HE.out.symm, B1.out⟩
  · obtain ⟨h3, h7⟩ := aciB_n (sgnO_small hz)
    obtain ⟨m, rfl⟩ : ∃ m : Nat, n = m := ⟨n.toNat, by omega⟩
    have HE : Hid (insN m s.data.toList a b c = (cntI (sgnF (ordF m s.data.toList)) a b c m : Nat)) := Lib.hid (by unfold insN; rw [if_neg hz, Int.toNat_natCast])
    have HCI := Lib.hid (fun B W hm => countInside_any B (ordF m s.data.toList) m (by omega) a b c ha hb hc W hm)
    have ht : (sgnF (ordF m s.data.toList) a b c == 0) = false := by simpa using hz
    generalize sgnF (ordF m s.data.toList) a b c = v at HAT ht
    clear ha hb hc hz
    go_enter Try.func20, Try.ntmps20
    go_wp2_with fail
    refine (HO.out _).mono ?_
    rintro e w1 ⟨B, rfl, hm, hb1⟩
    obtain ⟨c0, c1, B1⟩ := HS.out.on hb1
    have HM := Lib.hid hm.is
    clear hm hb1
    go_wp2_with fail
    refine (HAT.out _ _ HM.out).mono ?_
    rintro e w2 ⟨rfl, rfl⟩
    go_wp2_with fail
    refine (HCI.out _ _ HM.out).mono ?_
    rintro e w3 ⟨rfl, hb3⟩
    have B3 := B1.trans (hb3.mono B1.size)
    clear hb3 c0 c1
    go_wp2
    go_ret
    exact ⟨ret_int HE.out.symm, B3⟩
/-- What EmptyTriangles answers. -/
def emptyN (n : Int) (s : List UInt8) : Int := if aciB n s = true then (emptyTo (sgnF (ordF n s)) n.toNat (cnt n.toNat) : Nat) else -1
set_option maxHeartbeats 3200000 in
set_option maxRecDepth 100000 in
theorem implEmpty (n : Int) (s : ByteArray) (hs : s.size ≤ 9223372036854775807) (w : World) :
    Calls Try.prog 22 #[sg n s] w fun e w' => e = .returned (.int .i64 (emptyN n s.data.toList)) ∧ Below w.heap.size w w' := by
  have HO := Lib.hid (fun W => implOrd n s hs W)
  have HS := Lib.hid (box_made w n s 25)
  cases h : aciB n s.data.toList
  · have HE : Hid (emptyN n s.data.toList = -1) := Lib.hid (by unfold emptyN; rw [h]; rfl)
    rw [h] at HO
    clear h
    go_enter Try.func22, Try.ntmps22
    go_wp2_with fail
    refine (HO.out _).mono ?_
    rintro e w1 ⟨B, rfl, hm, hb1⟩
    have B1 := Lib.hid (HS.out.on hb1).2.2
    obtain ⟨⟨m, D, hown, hz, -⟩, -⟩ := hm
    have hz : ((Maps.size D : Int) == 0) = true := hz
    have HW := Lib.hid hown
    clear hown hb1
    go_wp2_with (at_len; refine wpList_len_own _ rfl _ 48 rfl 66 3 Try.underlying48 _ B m D rfl HW.out ?_)
    go_ret
    exact ⟨ret_int HE.out.symm, B1.out⟩
  · obtain ⟨h3, h7⟩ := aciB_n h
    obtain ⟨m, rfl⟩ : ∃ m : Nat, n = m := ⟨n.toNat, by omega⟩
    have h3 : 3 ≤ m := by omega
    have h7 : m ≤ 7 := by omega
    have HE : Hid (emptyN m s.data.toList = (emptyTo (sgnF (ordF m s.data.toList)) m (cnt m) : Nat)) := Lib.hid (by unfold emptyN; rw [h, Int.toNat_natCast]; rfl)
    have HCI : Hid (∀ B (a b c : Nat), a ≤ 7 → b ≤ 7 → c ≤ 7 → ∀ W, MapIs W B (ordF m s.data.toList) → Calls Try.prog 43 #[.map (some B), .int .i64 m, .int .i64 a, .int .i64 b, .int .i64 c] W fun e w' => e = .returned (.int .i64 (cntI (sgnF (ordF m s.data.toList)) a b c m)) ∧ Below W.heap.size W w') :=
      Lib.hid (fun B a b c ha hb hc W hm => countInside_any B (ordF m s.data.toList) m h7 a b c (i64_nat (by omega)) (i64_nat (by omega)) (i64_nat (by omega)) W hm)
    have hc35 := cnt_le h7
    have HT := Lib.hid (threes_length h7)
    have hcp : 0 < cnt m := by rcases (by omega : m = 3 ∨ m = 4 ∨ m = 5 ∨ m = 6 ∨ m = 7) with rfl | rfl | rfl | rfl | rfl <;> decide
    have HLE := Lib.hid (emptyTo_le (sgnF (ordF m s.data.toList)) m)
    rw [h] at HO
    clear h
    go_enter Try.func22, Try.ntmps22
    go_wp2_with fail
    refine (HO.out _).mono ?_
    rintro e w1 ⟨B, rfl, hm, hb1⟩
    have X1 := Lib.hid (HS.out.on hb1)
    obtain ⟨c0, c1, -⟩ := X1.out
    have HM1 := Lib.hid hm.is
    obtain ⟨⟨q, D, hown, hz, -⟩, -⟩ := hm
    have hz : ((Maps.size D : Int) == 0) = false := hz
    have HW := Lib.hid hown
    clear hown hb1
    go_wp2_with (at_len; refine wpList_len_own _ rfl _ 48 rfl 66 3 Try.underlying48 _ B q D rfl HW.out ?_)
    refine (threesOf_any m h3 h7 _).mono ?_
    rintro e w2 ⟨v, rfl, hv, hb2⟩
    obtain ⟨g, c, rfl, -, hg2, h3a⟩ := owns3_row hv (by rw [HT.out]; exact hcp)
    rw [HT.out]
    have X2 := Lib.hid (X1.out.on hb2)
    have HM2 := Lib.hid (HM1.out.on hb2)
    have HA3 := Lib.hid h3a
    clear hv h3a c0 c1 hb2 HW hz
    go_wp2
    go_loopw [4, 16] (fun cv i wr => ∃ p : Nat, p ≤ cnt m ∧ i = .int .i64 p ∧ cv = .int .i64 (emptyTo (sgnF (ordF m s.data.toList)) m p : Nat) ∧ Hid (Below w2.heap.size w2 wr)) (fun _ i _ => cnt m - (intOf i).toNat)
    case atStart => exact ⟨0, Nat.zero_le _, rfl, by rw [emptyTo_zero]; rfl, Lib.hid (Below.refl _ _)⟩
    case round =>
      obtain ⟨p, hp, rfl, rfl, HB⟩ := hrel
      have hle := HLE.out p
      have X3 := Lib.hid (X2.out.on HB.out)
      by_cases hlt : p < cnt m
      · obtain ⟨t, ht⟩ : ∃ t, (threes m)[p]? = some t := ⟨_, List.getElem?_eq_getElem (by rw [HT.out]; exact hlt)⟩
        obtain ⟨x0, x1, x2⟩ := (HA3.out.on HB.out hg2) p t ht
        obtain ⟨t1, t2, t3⟩ := threes_mem h7 (List.mem_of_getElem? ht)
        obtain ⟨z0, z1, z2⟩ := box3_made wr t.1 t.2.1 t.2.2 66
        have HBa := Lib.hid (HB.out.alloc HB.out.size (.cells #[.int .i64 t.1, .int .i64 t.2.1, .int .i64 t.2.2] 66))
        have HMa := Lib.hid (HM2.out.on HBa.out)
        have HCC := Lib.hid (HCI.out B t.1 t.2.1 t.2.2 (by omega) (by omega) (by omega) _ HMa.out)
        obtain ⟨c0, c1, -⟩ := (X3.out.alloc (.cells #[.int .i64 t.1, .int .i64 t.2.1, .int .i64 t.2.2] 66))
        have HH := Lib.hid (fun h => emptyTo_hit (f := sgnF (ordF m s.data.toList)) ht h)
        have HX := Lib.hid (fun h => emptyTo_miss (f := sgnF (ordF m s.data.toList)) ht h)
        generalize cntI (sgnF (ordF m s.data.toList)) t.1 t.2.1 t.2.2 m = k at HCC HH HX
        clear ht
        by_cases hk : k = 0
        · subst hk
          have HN := Lib.hid (HH.out rfl)
          go_wp2_with fail
          refine HCC.out.mono ?_
          rintro e w3 ⟨rfl, hb3⟩
          have HB3 := Lib.hid (HBa.out.trans (hb3.mono HBa.out.size))
          clear hb3 HCC
          go_wp2
          exact ⟨⟨p + 1, by omega, by go_num, by rw [HN.out]; go_num, HB3⟩, by simp only [intOf]; omega⟩
        · have HN := Lib.hid (HX.out hk)
          have htest : ((k : Int) == 0) = false := by simp; omega
          go_wp2_with fail
          refine HCC.out.mono ?_
          rintro e w3 ⟨rfl, hb3⟩
          have HB3 := Lib.hid (HBa.out.trans (hb3.mono HBa.out.size))
          clear hb3 HCC
          go_wp2
          exact ⟨⟨p + 1, by omega, by go_num, by rw [HN.out], HB3⟩, by simp only [intOf]; omega⟩
      · obtain rfl : p = cnt m := by omega
        go_wp2
        go_ret
        exact ⟨ret_int HE.out.symm, X3.out.2.2⟩
end Go.Proofs.Ytfjimdmoindepaa.Sg
