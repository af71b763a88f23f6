/- FnNumbers: whatever the code, the integer drawn is parsed from its numeral, and a text that is parsed is a numeral. -/
import Derived.Test.YtillgegbkfhpnaaDoorDrawNum
import Derived.Test.YtillgegbkfhpnaaDoorParseLaw
namespace Go.Proofs.YtillgegbkfhpnaaDoor.Numbers
open Go.RowKit Parse ParseLaw

theorem val_dec (u : Nat) : Num.val 0 (Lib.decDigits u) = some u := by
  induction u using Nat.strongRecOn with
  | _ u ih =>
    by_cases h : u < 10
    · rw [Lib.decDigits_one h]
      have hc : (UInt8.ofNat (48 + u)).toNat = 48 + u := by simp; omega
      simp only [Num.val, hc]
      rw [if_pos (by omega)]
      congr 1
      omega
    · have e : Lib.decDigits u = Lib.decDigits (u / 10) ++ [UInt8.ofNat (48 + u % 10)] := by conv => lhs; rw [Lib.decDigits, dif_neg h]
      have hc : (UInt8.ofNat (48 + u % 10)).toNat = 48 + u % 10 := by simp; omega
      rw [e, Num.val_snoc _ _ _ _ (ih (u / 10) (by omega)) (by unfold Num.digit; omega), hc]
      congr 1
      omega
theorem signed_abs (n : Int) : Num.signed (decide (n < 0)) n.natAbs = n := by
  unfold Num.signed
  by_cases h : n < 0
  · simp [h]; omega
  · simp [h]; omega
/-- What is read of a numeral: its number, where it has at most twelve digits. -/
theorem readS_itoa (n : Int) : Num.readS (Lib.itoa n) 12 = if Lib.nDigits n.natAbs ≤ 12 then some n else none := by
  unfold Num.readS
  rw [Num.body_itoa, Num.neg_itoa, Lib.decDigits_length, val_dec]
  have hp := Lib.nDigits_pos n.natAbs
  by_cases h : Lib.nDigits n.natAbs ≤ 12
  · rw [if_neg (by omega), if_pos h]
    simp only [signed_abs, if_true]
  · rw [if_pos (by omega), if_neg h]
theorem itoa_length (n : Int) : (Lib.itoa n).length = Lib.nDigits n.natAbs + if n < 0 then 1 else 0 := by
  unfold Lib.itoa
  by_cases h : n < 0
  · simp [h, Lib.decDigits_length]
  · simp [h, Lib.decDigits_length, show n.toNat = n.natAbs by omega]
theorem size_mk (l : List UInt8) : (⟨l.toArray⟩ : ByteArray).size = l.length := by show l.toArray.size = _; simp
theorem pos_spec (l : List UInt8) (y : Int) (h : pos (Num.readS l 6) = some y) : 0 ≤ y ∧ Lib.itoa y = l ∧ y ≤ 9223372036854775807 := by
  have h1 : Num.readI 0 999999 l = some y := by rw [number_same]; exact h
  unfold Num.readI at h1
  split at h1
  · split at h1
    · rename_i hh
      injection h1 with h1
      subst h1
      exact ⟨hh.2.1, hh.1, by omega⟩
    · cases h1
  · cases h1

theorem bytes_on {w w' : World} {v : Value} {n : Nat} (hv : Cur.Bytes w v n w.heap.size) (hb : Below w.heap.size w w') : Cur.Bytes w' v n w'.heap.size := by
  obtain ⟨a, c, rfl, hn, h0 | ⟨cb, co, rfl, hcb, hby⟩⟩ := hv
  · exact ⟨a, c, rfl, hn, Or.inl h0⟩
  · refine ⟨_, c, rfl, hn, Or.inr ⟨cb, co, rfl, Nat.lt_of_lt_of_le hcb hb.size, fun j hj => ?_⟩⟩
    obtain ⟨x, hx, hc⟩ := hby j hj
    exact ⟨x, hx, by rw [hb.cell (by exact hcb)]; exact hc⟩

set_option maxHeartbeats 1600000 in
set_option maxRecDepth 100000 in
theorem walk (v : Value) (n : Nat) (w : World) (hv : Cur.Bytes w v n w.heap.size) (a1 a2 a3 : Addr) (tp : TypeId) (H : Held w.heap.size w a1 a2 a3 tp) :
    Calls Tryd.prog 3 #[v] w fun e w' => e = .returned (.bool true) ∧ Below w.heap.size w w' := by
  by_cases hbig : n ≤ 1048576
  · have HBIG : Hid (∀ W : World, Calls Tryd.prog 9 #[v] W fun e w' => e = .returned (.bool false) ∧ w' = W) := by
      obtain ⟨a, c, rfl, hn, _⟩ := hv
      refine Lib.hid fun W => ?_
      go_enter Tryd.func9, Tryd.ntmps9
      go_wp2
      go_ret
      exact ⟨Strs.ret_bool (by simp; omega), rfl⟩
    go_enter Tryd.func3, Tryd.ntmps3
    go_wp2_with fail
    refine (HBIG.out _).mono ?_
    rintro e w0 ⟨rfl, rfl⟩
    go_wp2_with fail
    refine (Cur.drawFormat_any v n (by omega) _ hv).mono ?_
    rintro e w1 ⟨x, ⟨hx0, hx1⟩, rfl, hb1⟩
    have H1 := H.up hb1
    go_wp2_with fail
    refine (fnExactFormatInt.impl_any x hx0 hx1 _ H1.tab.here).mono ?_
    rintro e w2 ⟨rfl, hb2⟩
    have B2 := hb1.trans (hb2.mono hb1.size)
    have H2 := H.up B2
    have hxl := Lib.itoa_length_le x hx0 hx1
    have hpi := parseInt_any ⟨(Lib.itoa x).toArray⟩ (by rw [size_mk]; omega) w2 a1 a2 a3 tp H2
    rw [int_same, show (⟨(Lib.itoa x).toArray⟩ : ByteArray).data.toList = Lib.itoa x by simp, readS_itoa] at hpi
    have HPI := Lib.hid hpi
    have HLen := Lib.hid (itoa_length x)
    clear hpi hxl
    have hself : (Lib.itoa x == Lib.itoa x) = true := by simp
    by_cases hd : Lib.nDigits x.natAbs ≤ 12
    · rw [if_pos hd] at HPI
      unfold Read.pair at HPI
      by_cases hx : x < 0
      · have hl13 : (Lib.itoa x).length ≤ 13 := by rw [HLen.out, if_pos hx]; omega
        by_cases hl12 : (Lib.itoa x).length ≤ 12
        · skip
          skip
          go_wp2_with fail
          refine HPI.out.mono ?_
          rintro e w3 ⟨rfl, hb3⟩
          have B3 := B2.trans (hb3.mono B2.size)
          go_wp2_with fail
          refine (Fmt.spec_any x hx0 hx1 _).mono ?_
          rintro e w4 ⟨rfl, hb4⟩
          have B4 := B3.trans (hb4.mono B3.size)
          have H4 := H.up B4
          have hv4 : Cur.Bytes w4 v n w4.heap.size := bytes_on hv B4
          go_wp2_with fail
          refine (Cur.drawNumber_any v n (by omega) _ hv4).mono ?_
          rintro e w5 ⟨t, ht, rfl, hb5⟩
          have B5 := B4.trans (hb5.mono B4.size)
          have H5 := H.up B5
          have hpn := parseNumber_any t ht w5 a1 a2 a3 tp H5
          rw [number_same] at hpn
          obtain ⟨q, hq⟩ : ∃ q, q = pos (Num.readS t.data.toList 6) := ⟨_, rfl⟩
          have hsp := fun W => specNumber t ht W
          rw [← hq] at hpn hsp
          have HPN := Lib.hid hpn
          have HSP := Lib.hid hsp
          clear hpn hsp
          cases q with
          | some y =>
            obtain ⟨hy0, hyt, hy1⟩ := pos_spec _ _ hq.symm
            unfold Read.pair at HPN HSP
            have hyt2 : (Lib.itoa y == t.toList) = true := by rw [ByteArray.toList_eq, hyt]; simp
            clear hq hyt
            go_wp2_with fail
            refine HPN.out.mono ?_
            rintro e w6 ⟨rfl, hb6⟩
            have B6 := B5.trans (hb6.mono B5.size)
            have H6 := H.up B6
            go_wp2_with fail
            refine (HSP.out w6).mono ?_
            rintro e w7 ⟨rfl, hb7⟩
            have B7 := B6.trans (hb7.mono B6.size)
            have H7 := H.up B7
            go_wp2_with fail
            refine (fnExactFormatInt.impl_any y (by omega) hy1 _ H7.tab.here).mono ?_
            rintro e w8 ⟨rfl, hb8⟩
            have B8 := B7.trans (hb8.mono B7.size)
            go_wp2
            go_ret
            exact ⟨rfl, B8⟩
          | none =>
            unfold Read.pair at HPN HSP
            clear hq
            go_wp2_with fail
            refine HPN.out.mono ?_
            rintro e w6 ⟨rfl, hb6⟩
            have B6 := B5.trans (hb6.mono B5.size)
            go_wp2_with fail
            refine (HSP.out w6).mono ?_
            rintro e w7 ⟨rfl, hb7⟩
            have B7 := B6.trans (hb7.mono B6.size)
            go_wp2
            go_ret
            exact ⟨rfl, B7⟩
        · have d12 : decide (((Lib.itoa x).length : Int) ≤ 12) = false := by simp; omega
          have d13 : decide (((Lib.itoa x).length : Int) ≤ 13) = true := by simp; omega
          have dx : decide (x < 0) = true := by simpa using hx
          skip
          go_wp2_with fail
          refine HPI.out.mono ?_
          rintro e w3 ⟨rfl, hb3⟩
          have B3 := B2.trans (hb3.mono B2.size)
          go_wp2_with fail
          refine (Fmt.spec_any x hx0 hx1 _).mono ?_
          rintro e w4 ⟨rfl, hb4⟩
          have B4 := B3.trans (hb4.mono B3.size)
          have H4 := H.up B4
          have hv4 : Cur.Bytes w4 v n w4.heap.size := bytes_on hv B4
          go_wp2_with fail
          refine (Cur.drawNumber_any v n (by omega) _ hv4).mono ?_
          rintro e w5 ⟨t, ht, rfl, hb5⟩
          have B5 := B4.trans (hb5.mono B4.size)
          have H5 := H.up B5
          have hpn := parseNumber_any t ht w5 a1 a2 a3 tp H5
          rw [number_same] at hpn
          obtain ⟨q, hq⟩ : ∃ q, q = pos (Num.readS t.data.toList 6) := ⟨_, rfl⟩
          have hsp := fun W => specNumber t ht W
          rw [← hq] at hpn hsp
          have HPN := Lib.hid hpn
          have HSP := Lib.hid hsp
          clear hpn hsp
          cases q with
          | some y =>
            obtain ⟨hy0, hyt, hy1⟩ := pos_spec _ _ hq.symm
            unfold Read.pair at HPN HSP
            have hyt2 : (Lib.itoa y == t.toList) = true := by rw [ByteArray.toList_eq, hyt]; simp
            clear hq hyt
            go_wp2_with fail
            refine HPN.out.mono ?_
            rintro e w6 ⟨rfl, hb6⟩
            have B6 := B5.trans (hb6.mono B5.size)
            have H6 := H.up B6
            go_wp2_with fail
            refine (HSP.out w6).mono ?_
            rintro e w7 ⟨rfl, hb7⟩
            have B7 := B6.trans (hb7.mono B6.size)
            have H7 := H.up B7
            go_wp2_with fail
            refine (fnExactFormatInt.impl_any y (by omega) hy1 _ H7.tab.here).mono ?_
            rintro e w8 ⟨rfl, hb8⟩
            have B8 := B7.trans (hb8.mono B7.size)
            go_wp2
            go_ret
            exact ⟨rfl, B8⟩
          | none =>
            unfold Read.pair at HPN HSP
            clear hq
            go_wp2_with fail
            refine HPN.out.mono ?_
            rintro e w6 ⟨rfl, hb6⟩
            have B6 := B5.trans (hb6.mono B5.size)
            go_wp2_with fail
            refine (HSP.out w6).mono ?_
            rintro e w7 ⟨rfl, hb7⟩
            have B7 := B6.trans (hb7.mono B6.size)
            go_wp2
            go_ret
            exact ⟨rfl, B7⟩
      · have hl12 : (Lib.itoa x).length ≤ 12 := by rw [HLen.out, if_neg hx]; omega
        skip
        go_wp2_with fail
        refine HPI.out.mono ?_
        rintro e w3 ⟨rfl, hb3⟩
        have B3 := B2.trans (hb3.mono B2.size)
        go_wp2_with fail
        refine (Fmt.spec_any x hx0 hx1 _).mono ?_
        rintro e w4 ⟨rfl, hb4⟩
        have B4 := B3.trans (hb4.mono B3.size)
        have H4 := H.up B4
        have hv4 : Cur.Bytes w4 v n w4.heap.size := bytes_on hv B4
        go_wp2_with fail
        refine (Cur.drawNumber_any v n (by omega) _ hv4).mono ?_
        rintro e w5 ⟨t, ht, rfl, hb5⟩
        have B5 := B4.trans (hb5.mono B4.size)
        have H5 := H.up B5
        have hpn := parseNumber_any t ht w5 a1 a2 a3 tp H5
        rw [number_same] at hpn
        obtain ⟨q, hq⟩ : ∃ q, q = pos (Num.readS t.data.toList 6) := ⟨_, rfl⟩
        have hsp := fun W => specNumber t ht W
        rw [← hq] at hpn hsp
        have HPN := Lib.hid hpn
        have HSP := Lib.hid hsp
        clear hpn hsp
        cases q with
        | some y =>
          obtain ⟨hy0, hyt, hy1⟩ := pos_spec _ _ hq.symm
          unfold Read.pair at HPN HSP
          have hyt2 : (Lib.itoa y == t.toList) = true := by rw [ByteArray.toList_eq, hyt]; simp
          clear hq hyt
          go_wp2_with fail
          refine HPN.out.mono ?_
          rintro e w6 ⟨rfl, hb6⟩
          have B6 := B5.trans (hb6.mono B5.size)
          have H6 := H.up B6
          go_wp2_with fail
          refine (HSP.out w6).mono ?_
          rintro e w7 ⟨rfl, hb7⟩
          have B7 := B6.trans (hb7.mono B6.size)
          have H7 := H.up B7
          go_wp2_with fail
          refine (fnExactFormatInt.impl_any y (by omega) hy1 _ H7.tab.here).mono ?_
          rintro e w8 ⟨rfl, hb8⟩
          have B8 := B7.trans (hb8.mono B7.size)
          go_wp2
          go_ret
          exact ⟨rfl, B8⟩
        | none =>
          unfold Read.pair at HPN HSP
          clear hq
          go_wp2_with fail
          refine HPN.out.mono ?_
          rintro e w6 ⟨rfl, hb6⟩
          have B6 := B5.trans (hb6.mono B5.size)
          go_wp2_with fail
          refine (HSP.out w6).mono ?_
          rintro e w7 ⟨rfl, hb7⟩
          have B7 := B6.trans (hb7.mono B6.size)
          go_wp2
          go_ret
          exact ⟨rfl, B7⟩
    · rw [if_neg hd] at HPI
      unfold Read.pair at HPI
      by_cases hx : x < 0
      · have hl13 : 13 < (Lib.itoa x).length := by rw [HLen.out, if_pos hx]; omega
        skip
        go_wp2_with fail
        refine HPI.out.mono ?_
        rintro e w3 ⟨rfl, hb3⟩
        have B3 := B2.trans (hb3.mono B2.size)
        go_wp2_with fail
        refine (Fmt.spec_any x hx0 hx1 _).mono ?_
        rintro e w4 ⟨rfl, hb4⟩
        have B4 := B3.trans (hb4.mono B3.size)
        have H4 := H.up B4
        have hv4 : Cur.Bytes w4 v n w4.heap.size := bytes_on hv B4
        go_wp2_with fail
        refine (Cur.drawNumber_any v n (by omega) _ hv4).mono ?_
        rintro e w5 ⟨t, ht, rfl, hb5⟩
        have B5 := B4.trans (hb5.mono B4.size)
        have H5 := H.up B5
        have hpn := parseNumber_any t ht w5 a1 a2 a3 tp H5
        rw [number_same] at hpn
        obtain ⟨q, hq⟩ : ∃ q, q = pos (Num.readS t.data.toList 6) := ⟨_, rfl⟩
        have hsp := fun W => specNumber t ht W
        rw [← hq] at hpn hsp
        have HPN := Lib.hid hpn
        have HSP := Lib.hid hsp
        clear hpn hsp
        cases q with
        | some y =>
          obtain ⟨hy0, hyt, hy1⟩ := pos_spec _ _ hq.symm
          unfold Read.pair at HPN HSP
          have hyt2 : (Lib.itoa y == t.toList) = true := by rw [ByteArray.toList_eq, hyt]; simp
          clear hq hyt
          go_wp2_with fail
          refine HPN.out.mono ?_
          rintro e w6 ⟨rfl, hb6⟩
          have B6 := B5.trans (hb6.mono B5.size)
          have H6 := H.up B6
          go_wp2_with fail
          refine (HSP.out w6).mono ?_
          rintro e w7 ⟨rfl, hb7⟩
          have B7 := B6.trans (hb7.mono B6.size)
          have H7 := H.up B7
          go_wp2_with fail
          refine (fnExactFormatInt.impl_any y (by omega) hy1 _ H7.tab.here).mono ?_
          rintro e w8 ⟨rfl, hb8⟩
          have B8 := B7.trans (hb8.mono B7.size)
          go_wp2
          go_ret
          exact ⟨rfl, B8⟩
        | none =>
          unfold Read.pair at HPN HSP
          clear hq
          go_wp2_with fail
          refine HPN.out.mono ?_
          rintro e w6 ⟨rfl, hb6⟩
          have B6 := B5.trans (hb6.mono B5.size)
          go_wp2_with fail
          refine (HSP.out w6).mono ?_
          rintro e w7 ⟨rfl, hb7⟩
          have B7 := B6.trans (hb7.mono B6.size)
          go_wp2
          go_ret
          exact ⟨rfl, B7⟩
      · have hl12 : 12 < (Lib.itoa x).length := by rw [HLen.out, if_neg hx]; omega
        skip
        go_wp2_with fail
        refine HPI.out.mono ?_
        rintro e w3 ⟨rfl, hb3⟩
        have B3 := B2.trans (hb3.mono B2.size)
        go_wp2_with fail
        refine (Fmt.spec_any x hx0 hx1 _).mono ?_
        rintro e w4 ⟨rfl, hb4⟩
        have B4 := B3.trans (hb4.mono B3.size)
        have H4 := H.up B4
        have hv4 : Cur.Bytes w4 v n w4.heap.size := bytes_on hv B4
        go_wp2_with fail
        refine (Cur.drawNumber_any v n (by omega) _ hv4).mono ?_
        rintro e w5 ⟨t, ht, rfl, hb5⟩
        have B5 := B4.trans (hb5.mono B4.size)
        have H5 := H.up B5
        have hpn := parseNumber_any t ht w5 a1 a2 a3 tp H5
        rw [number_same] at hpn
        obtain ⟨q, hq⟩ : ∃ q, q = pos (Num.readS t.data.toList 6) := ⟨_, rfl⟩
        have hsp := fun W => specNumber t ht W
        rw [← hq] at hpn hsp
        have HPN := Lib.hid hpn
        have HSP := Lib.hid hsp
        clear hpn hsp
        cases q with
        | some y =>
          obtain ⟨hy0, hyt, hy1⟩ := pos_spec _ _ hq.symm
          unfold Read.pair at HPN HSP
          have hyt2 : (Lib.itoa y == t.toList) = true := by rw [ByteArray.toList_eq, hyt]; simp
          clear hq hyt
          go_wp2_with fail
          refine HPN.out.mono ?_
          rintro e w6 ⟨rfl, hb6⟩
          have B6 := B5.trans (hb6.mono B5.size)
          have H6 := H.up B6
          go_wp2_with fail
          refine (HSP.out w6).mono ?_
          rintro e w7 ⟨rfl, hb7⟩
          have B7 := B6.trans (hb7.mono B6.size)
          have H7 := H.up B7
          go_wp2_with fail
          refine (fnExactFormatInt.impl_any y (by omega) hy1 _ H7.tab.here).mono ?_
          rintro e w8 ⟨rfl, hb8⟩
          have B8 := B7.trans (hb8.mono B7.size)
          go_wp2
          go_ret
          exact ⟨rfl, B8⟩
        | none =>
          unfold Read.pair at HPN HSP
          clear hq
          go_wp2_with fail
          refine HPN.out.mono ?_
          rintro e w6 ⟨rfl, hb6⟩
          have B6 := B5.trans (hb6.mono B5.size)
          go_wp2_with fail
          refine (HSP.out w6).mono ?_
          rintro e w7 ⟨rfl, hb7⟩
          have B7 := B6.trans (hb7.mono B6.size)
          go_wp2
          go_ret
          exact ⟨rfl, B7⟩
  · have HBIG : Hid (∀ W : World, Calls Tryd.prog 9 #[v] W fun e w' => e = .returned (.bool true) ∧ w' = W) := by
      obtain ⟨a, c, rfl, hn, _⟩ := hv
      refine Lib.hid fun W => ?_
      go_enter Tryd.func9, Tryd.ntmps9
      go_wp2
      go_ret
      exact ⟨Strs.ret_bool (by simp; omega), rfl⟩
    go_enter Tryd.func3, Tryd.ntmps3
    go_wp2_with fail
    refine (HBIG.out _).mono ?_
    rintro e w0 ⟨rfl, rfl⟩
    go_wp2
    go_ret
    exact ⟨rfl, Below.refl _ _⟩
end Go.Proofs.YtillgegbkfhpnaaDoor.Numbers
