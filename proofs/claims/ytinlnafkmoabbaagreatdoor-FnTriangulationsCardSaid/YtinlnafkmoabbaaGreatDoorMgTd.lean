/- Several texts in one: TrFlip, TrAdd, TrFlips. -/
import Derived.Test.YtinlnafkmoabbaaGreatDoorMgTc
import Derived.Deep.AppendLies
/- Flips, as spec tells them: l10Flip, FlipEdge. -/
namespace Go.Proofs.YtinlnafkmoabbaaGreatDoor.Sg
open Go.RowKit Pt NewI
/-- The edges ahead of x that can stand in the place of edge k. -/
def fitQ (c : Nat → Nat) (E T k x : Nat) : Bool := (x != k) && (!(T - 2 ^ k).testBit x && fullB c E (T - 2 ^ k + 2 ^ x))
def fitTo (c : Nat → Nat) (E T k : Nat) (K : Nat) : List Nat := (List.range K).filter (fitQ c E T k)
def lastX (R : Nat) (L : List Nat) : Nat := match L.getLast? with
  | none => 0
  | some x => R + 2 ^ x
theorem fitTo_succ (c : Nat → Nat) (E T k K : Nat) : fitTo c E T k (K + 1) = fitTo c E T k K ++ (if fitQ c E T k K = true then [K] else []) := by
  unfold fitTo
  rw [List.range_succ, List.filter_append]
  cases h : fitQ c E T k K <;> simp [h]
theorem fitTo_len (c : Nat → Nat) (E T k K : Nat) : (fitTo c E T k K).length ≤ K := by
  unfold fitTo
  exact Nat.le_trans (List.length_filter_le _ _) (by rw [List.length_range]; omega)
theorem lastX_snoc (R : Nat) (L : List Nat) (x : Nat) : lastX R (L ++ [x]) = R + 2 ^ x := by unfold lastX; simp
theorem flip_one {c : Nat → Nat} {E T k : Nat} (h : (fitTo c E T k E).length = 1) : flipP c E T k = (lastX (T - 2 ^ k) (fitTo c E T k E), true) := by
  have e : fitTo c E T k E = fitL c E T k := rfl
  rw [e] at h ⊢
  unfold flipP
  match hL : fitL c E T k, h with
  | [x], _ => rfl
theorem flip_none {c : Nat → Nat} {E T k : Nat} (h : (fitTo c E T k E).length ≠ 1) : flipP c E T k = (0, false) := by
  have e : fitTo c E T k E = fitL c E T k := rfl
  rw [e] at h
  unfold flipP
  match hL : fitL c E T k, h with
  | [], _ => rfl
  | [x], h => exact absurd rfl h
  | x :: y :: l, _ => rfl
set_option maxHeartbeats 1600000 in
set_option maxRecDepth 100000 in
theorem l10Flip_any (E : Nat) (hE : E ≤ 21) (c : Nat → Nat) (hc : ∀ x, c x < 2097152) (T k : Nat) (hT : T < 2 ^ E) (hk : k < E) (hb : T.testBit k = true) (a : Option Addr) (cc : Nat) (w : World) (hr : RdL w a (crTo c E)) :
    Calls Tryz.prog 113 #[.slice a E cc, .int .i64 T, .int .i64 k] w fun e w' => e = .returned (.tuple #[.int .i64 ((flipP c E T k).1 : Nat), .bool (flipP c E T k).2]) ∧ Below w.heap.size w w' := by
  have hp := Nat.pow_le_pow_right (n := 2) (by omega) hE
  have hle := sub_le hb
  have hbit := bit_sub hb
  have hRT := Nat.sub_le T (2 ^ k)
  have hRlt : T - 2 ^ k < 2097152 := by generalize T - 2 ^ k = z at hRT; omega
  have HFX : Hid (∀ x, x < E → (T - 2 ^ k).testBit x = false → T - 2 ^ k + 2 ^ x < 2 ^ E) := Lib.hid (fun x hx h0 => lt_of_bits fun y hy => by
    rw [bit_add h0, hbit, bits_of_lt hT y hy]
    simp; omega)
  have HHA := Lib.hid (fun (x : Nat) (hx : x < 64) W => l6HasE_any (T - 2 ^ k) x (by generalize T - 2 ^ k = z at hRlt; omega) hx W)
  have HF : Hid (∀ x, x < E → (T - 2 ^ k).testBit x = false → ∀ W, Below w.heap.size w W → Calls Tryz.prog 122 #[.slice a E cc, .int .i64 (((T - 2 ^ k : Nat) : Int) + ((2 ^ x : Nat) : Int))] W fun e w' => e = .returned (.bool (fullB c E (T - 2 ^ k + 2 ^ x))) ∧ Below W.heap.size W w') := Lib.hid (fun x hx h0 W hW => by
    have h1 : T - 2 ^ k + 2 ^ x < 2 ^ E := lt_of_bits fun y hy => by
      rw [bit_add h0, hbit, bits_of_lt hT y hy]
      simp; omega
    have := l10Full_any E hE c hc (T - 2 ^ k + 2 ^ x) (by omega) a cc W (hr.on hW)
    rw [show ((T - 2 ^ k + 2 ^ x : Nat) : Int) = ((T - 2 ^ k : Nat) : Int) + ((2 ^ x : Nat) : Int) by omega] at this
    exact this)
  have HFQ : Hid (∀ x, fitQ c E T k x = ((x != k) && (!(T - 2 ^ k).testBit x && fullB c E (T - 2 ^ k + 2 ^ x)))) := Lib.hid (fun _ => rfl)
  have HFS := Lib.hid (fitTo_succ c E T k)
  have HFL := Lib.hid (fitTo_len c E T k)
  have HF0 : Hid (fitTo c E T k 0 = []) := Lib.hid rfl
  have HONE : Hid ((fitTo c E T k E).length = 1 → flipP c E T k = (lastX (T - 2 ^ k) (fitTo c E T k E), true)) := Lib.hid flip_one
  have HNON : Hid ((fitTo c E T k E).length ≠ 1 → flipP c E T k = (0, false)) := Lib.hid flip_none
  have HLX := Lib.hid (lastX_snoc (T - 2 ^ k))
  have HL0 : Hid (lastX (T - 2 ^ k) [] = 0) := Lib.hid rfl
  obtain ⟨wk, -⟩ := shl_edge k (by omega)
  have wR : (T : Int) - ((2 ^ k : Nat) : Int) = ((T - 2 ^ k : Nat) : Int) := by omega
  generalize flipP c E T k = ans at HONE HNON ⊢
  obtain ⟨a1, a2⟩ := ans
  generalize fitTo c E T k = ft at HFS HFL HF0 HONE HNON
  generalize fitQ c E T k = fq at HFQ HFS
  generalize lastX (T - 2 ^ k) = lx at HONE HLX HL0
  have hfb : fullB c E = fun t => fullB c E t := rfl
  generalize fullB c E = fl at HF HFQ
  generalize T - 2 ^ k = R at HFX HHA HF HFQ hRlt wR HLX
  generalize (2 : Nat) ^ k = P at wk wR
  clear hr hfb hbit hle hb hRT
  go_enter Tryz.func113, Tryz.ntmps113
  go_wp2
  go_loopw [9, 10, 11] (fun fv nv xv wr => ∃ x t : Nat, x ≤ E ∧ xv = .int .i64 x ∧ nv = .int .i64 ((ft x).length : Nat) ∧ fv = .int .i64 t ∧ t < 2097152 ∧ Hid (t = lx (ft x)) ∧ Hid (Below w.heap.size w wr)) (fun _ _ xv _ => E - (intOf xv).toNat)
  case atStart => exact ⟨0, 0, Nat.zero_le _, rfl, by rw [HF0.out]; rfl, rfl, by omega, Lib.hid (by rw [HF0.out, HL0.out]), Lib.hid (Below.refl _ _)⟩
  case round =>
    obtain ⟨x, t, hx, rfl, rfl, rfl, ht, HT, HB⟩ := hrel
    have hfl := HFL.out x
    by_cases hlt : x < E
    · have HQX := Lib.hid (HFQ.out x)
      have HSX := Lib.hid (HFS.out x)
      have HA := Lib.hid (HHA.out x (by omega))
      cases hxk : ((x : Int) == (k : Int))
      · have hxk1 : x ≠ k := fun e => by subst e; simp at hxk
        have hxk2 : (x != k) = true := bne_iff_ne.2 hxk1
        have hxk3 : ((x : Int) != (k : Int)) = true := by rw [bne, hxk]; rfl
        clear hxk1
        cases hbx : R.testBit x
        · have HFC := Lib.hid (HF.out x hlt hbx _ HB.out)
          have hlt2 := HFX.out x hlt hbx
          rw [hbx] at HA HQX
          obtain ⟨ws, -⟩ := shl_edge x (by omega)
          have HLXX := Lib.hid (HLX.out (ft x) x)
          rw [hxk2] at HQX
          generalize hfv : fl (R + 2 ^ x) = fb at HFC HQX
          generalize (2 : Nat) ^ x = X at ws HFC hlt2 HLXX
          clear hfv
          cases fb
          · have HN : Hid (ft (x + 1) = ft x) := Lib.hid (by rw [HSX.out, HQX.out]; simp)
            have HT2 : Hid (t = lx (ft (x + 1))) := Lib.hid (by rw [HN.out]; exact HT.out)
            go_wp2_with fail
            refine (HA.out _).mono ?_
            rintro e w' ⟨rfl, rfl⟩
            go_wp2_with fail
            refine HFC.out.mono ?_
            rintro e w2 ⟨rfl, hb2⟩
            have HB2 := Lib.hid (HB.out.trans (hb2.mono HB.out.size))
            clear hb2
            go_wp2
            exact ⟨⟨x + 1, t, by omega, by go_num, by rw [HN.out], by trivial, ht, HT2, HB2⟩, by simp only [intOf]; omega⟩
          · have HN : Hid (ft (x + 1) = ft x ++ [x]) := Lib.hid (by rw [HSX.out, HQX.out]; simp)
            have HT2 : Hid (R + X = lx (ft (x + 1))) := Lib.hid (by rw [HN.out, HLXX.out])
            have hln : Hid ((ft (x + 1)).length = (ft x).length + 1) := Lib.hid (by rw [HN.out, List.length_append]; rfl)
            have hrx : R + X < 2097152 := by omega
            go_wp2_with fail
            refine (HA.out _).mono ?_
            rintro e w' ⟨rfl, rfl⟩
            go_wp2_with fail
            refine HFC.out.mono ?_
            rintro e w2 ⟨rfl, hb2⟩
            have HB2 := Lib.hid (HB.out.trans (hb2.mono HB.out.size))
            clear hb2
            go_wp2
            exact ⟨⟨x + 1, R + X, by omega, by go_num, by rw [hln.out]; go_num, by go_num, hrx, HT2, HB2⟩, by simp only [intOf]; omega⟩
        · have HN : Hid (ft (x + 1) = ft x) := Lib.hid (by rw [HSX.out, HQX.out, hbx]; simp)
          have HT2 : Hid (t = lx (ft (x + 1))) := Lib.hid (by rw [HN.out]; exact HT.out)
          rw [hbx] at HA
          go_wp2_with fail
          refine (HA.out _).mono ?_
          rintro e w' ⟨rfl, rfl⟩
          go_wp2
          exact ⟨⟨x + 1, t, by omega, by go_num, by rw [HN.out], by trivial, ht, HT2, HB⟩, by simp only [intOf]; omega⟩
      · have hxk2 : x = k := by have := eq_of_beq hxk; omega
        have hxk3 : ((x : Int) != (k : Int)) = false := by rw [bne, hxk]; rfl
        have HN : Hid (ft (x + 1) = ft x) := Lib.hid (by rw [HSX.out, HQX.out, hxk2]; simp)
        have HT2 : Hid (t = lx (ft (x + 1))) := Lib.hid (by rw [HN.out]; exact HT.out)
        clear hxk2
        go_wp2
        exact ⟨⟨x + 1, t, by omega, by go_num, by rw [HN.out], by trivial, ht, HT2, HB⟩, by simp only [intOf]; omega⟩
    · obtain rfl : x = E := by omega
      cases h1 : ((((ft x).length : Nat) : Int) == 1)
      · have HR := Lib.hid (HNON.out (fun e => by rw [e] at h1; simp at h1))
        have h2 : ((((ft x).length : Nat) : Int) != 1) = true := by rw [bne, h1]; rfl
        go_wp2
        go_ret2
        exact ⟨by obtain ⟨e1, e2⟩ := Prod.mk.inj HR.out; rw [e1, e2]; rfl, HB.out⟩
      · have HR := Lib.hid (HONE.out (by have := eq_of_beq h1; omega))
        have h2 : ((((ft x).length : Nat) : Int) != 1) = false := by rw [bne, h1]; rfl
        go_wp2
        go_ret2
        exact ⟨by obtain ⟨e1, e2⟩ := Prod.mk.inj HR.out; rw [e1, e2, ← HT.out]; rfl, HB.out⟩
/-- What FlipEdge answers. -/
def flipZ (n : Int) (s : List UInt8) (T k : Int) : Nat × Bool := if itB n s T = true ∧ inB k 0 20 = true ∧ T.toNat.testBit k.toNat = true then flipP (cS n.toNat s) (eN n.toNat) T.toNat k.toNat else (0, false)
theorem itB_parts {n T : Int} {s : List UInt8} (h : itB n s T = true) : ∃ (m t : Nat), n = m ∧ T = t ∧ aciB m s = true ∧ 3 ≤ m ∧ m ≤ 6 ∧ t < 2 ^ eN m ∧ fullB (cS m s) (eN m) t = true := by
  unfold itB at h
  rw [Bool.and_eq_true, Bool.and_eq_true] at h
  obtain ⟨h1, h2, h3⟩ := h
  obtain ⟨hac, h6⟩ := fitB_n h1
  obtain ⟨n3, -⟩ := aciB_n hac
  obtain ⟨m, rfl⟩ : ∃ m : Nat, n = m := ⟨n.toNat, by omega⟩
  obtain ⟨K, hK, -, hK2⟩ := allZ_nat6 (n := m) (by omega) (by omega)
  rw [hK] at h2
  obtain ⟨t0, t1⟩ := inB_mem h2
  obtain ⟨t, rfl⟩ : ∃ t : Nat, T = t := ⟨T.toNat, by omega⟩
  exact ⟨m, t, rfl, rfl, hac, by omega, by omega, by omega, by simpa using h3⟩
set_option maxHeartbeats 1600000 in
set_option maxRecDepth 100000 in
theorem specFlip (n : Int) (s : ByteArray) (hs : s.size ≤ 9223372036854775807) (T k : Int) (w : World) :
    Calls Tryz.prog 55 #[sg n s, .int .i64 T, .int .i64 k] w fun e w' => e = .returned (.tuple #[.int .i64 ((flipZ n s.data.toList T k).1 : Nat), .bool (flipZ n s.data.toList T k).2]) ∧ Below w.heap.size w w' := by
  have HS := Lib.hid (box_made w n s 25)
  have HA := Lib.hid (fun W => specIsTri n s hs T W)
  have HLK := Lib.hid (fun W => l1In_any k 0 20 W)
  obtain ⟨x0, x1, -⟩ := HS.out
  cases h : itB n s.data.toList T
  · have HE : Hid (flipZ n s.data.toList T k = (0, false)) := Lib.hid (by unfold flipZ; rw [h]; simp)
    rw [HE.out]
    rw [h] at HA
    clear h HE
    go_enter Tryz.func55, Tryz.ntmps55
    go_wp2_with fail
    refine (HA.out _).mono ?_
    rintro e w1 ⟨rfl, hb1⟩
    have B1 := Lib.hid (HS.out.on hb1).2.2
    clear hb1 x0 x1
    go_wp2
    go_ret2
    exact ⟨rfl, B1.out⟩
  · cases hin : inB k 0 20
    · have HE : Hid (flipZ n s.data.toList T k = (0, false)) := Lib.hid (by unfold flipZ; rw [hin]; simp)
      rw [HE.out]
      rw [h] at HA
      rw [hin] at HLK
      clear h hin HE
      go_enter Tryz.func55, Tryz.ntmps55
      go_wp2_with fail
      refine (HA.out _).mono ?_
      rintro e w1 ⟨rfl, hb1⟩
      have B1 := Lib.hid (HS.out.on hb1).2.2
      clear hb1 x0 x1
      go_wp2_with fail
      refine (HLK.out _).mono ?_
      rintro e w' ⟨rfl, rfl⟩
      go_wp2
      go_ret2
      exact ⟨rfl, B1.out⟩
    · obtain ⟨k0, k1⟩ := inB_mem hin
      obtain ⟨m, t, rfl, rfl, hac, m3, m6, ht, hfull⟩ := itB_parts h
      obtain ⟨k, rfl⟩ : ∃ x : Nat, k = x := ⟨k.toNat, by omega⟩
      have hE := eN_bd m (by omega)
      have hpE := Nat.pow_le_pow_right (n := 2) (by omega) hE
      have HH := Lib.hid (fun W => l6HasE_any t k (by omega) (by omega) W)
      rw [h] at HA
      rw [hin] at HLK
      cases hbk : t.testBit k
      · have HE : Hid (flipZ m s.data.toList t k = (0, false)) := Lib.hid (by unfold flipZ; rw [Int.toNat_natCast, Int.toNat_natCast, hbk]; simp)
        rw [HE.out]
        rw [hbk] at HH
        clear h hin HE hbk hfull ht
        go_enter Tryz.func55, Tryz.ntmps55
        go_wp2_with fail
        refine (HA.out _).mono ?_
        rintro e w1 ⟨rfl, hb1⟩
        have B1 := Lib.hid (HS.out.on hb1).2.2
        clear hb1 x0 x1
        go_wp2_with fail
        refine (HLK.out _).mono ?_
        rintro e w' ⟨rfl, rfl⟩
        go_wp2_with fail
        refine (HH.out _).mono ?_
        rintro e w' ⟨rfl, rfl⟩
        go_wp2
        go_ret2
        exact ⟨rfl, B1.out⟩
      · have hkE : k < eN m := by
          refine Classical.byContradiction fun hc => ?_
          rw [bits_of_lt ht k (by omega)] at hbk
          cases hbk
        have HE : Hid (flipZ m s.data.toList t k = flipP (cS m s.data.toList) (eN m) t k) := Lib.hid (by unfold flipZ; rw [if_pos ⟨h, hin, by rw [Int.toNat_natCast, Int.toNat_natCast]; exact hbk⟩, Int.toNat_natCast, Int.toNat_natCast, Int.toNat_natCast])
        rw [HE.out]
        have HP := Lib.hid (fun W => specPairs m s hac W)
        have HF := Lib.hid (fun a cc W hr => l10Flip_any (eN m) hE (cS m s.data.toList) (cS_lt (by omega) s.data.toList) t k ht hkE hbk a cc W hr)
        rw [hbk] at HH
        generalize flipP (cS m s.data.toList) (eN m) t k = ans at HF ⊢
        obtain ⟨a1, a2⟩ := ans
        generalize cS m s.data.toList = c at HP HF
        generalize eN m = E at HP HF
        clear h hin HE hbk hfull ht hE hpE hkE hac
        go_enter Tryz.func55, Tryz.ntmps55
        go_wp2_with fail
        refine (HA.out _).mono ?_
        rintro e w1 ⟨rfl, hb1⟩
        have X1 := Lib.hid (HS.out.on hb1)
        clear hb1 x0 x1
        obtain ⟨x0, x1, B1⟩ := X1.out
        go_wp2_with fail
        refine (HLK.out _).mono ?_
        rintro e w' ⟨rfl, rfl⟩
        go_wp2_with fail
        refine (HH.out _).mono ?_
        rintro e w' ⟨rfl, rfl⟩
        go_wp2_with fail
        refine (HP.out _).mono ?_
        rintro e w2 ⟨⟨a, cc, rfl, hr⟩, hb2⟩
        have R2 := Lib.hid hr.rd
        have B2 := Lib.hid (B1.trans (hb2.mono B1.size))
        clear hr hb2 x0 x1
        go_wp2_with fail
        refine (HF.out _ _ _ R2.out).mono ?_
        rintro e w3 ⟨rfl, hb3⟩
        have B3 := Lib.hid (B2.out.trans (hb3.mono B2.out.size))
        clear hb3
        go_wp2
        go_ret2
        exact ⟨rfl, B3.out⟩
end Go.Proofs.YtinlnafkmoabbaaGreatDoor.Sg
/- A number put into an ascending list, as spec does it: l10Add. -/
namespace Go.Proofs.YtinlnafkmoabbaaGreatDoor.Sg
open Go.RowKit Pt NewI
theorem addN_at {x : Nat} : ∀ (L : List Nat) (p : Nat), p ≤ L.length → (∀ j, j < p → L.getD j 0 < x) → (p < L.length → ¬ L.getD p 0 < x) → addN x L = if p < L.length ∧ L.getD p 0 = x then L else L.take p ++ x :: L.drop p
  | [], p, hp, _, _ => by
    obtain rfl : p = 0 := by simpa using hp
    simp [addN]
  | a :: l, 0, _, _, h2 => by
    have h2 : ¬ a < x := h2 (by simp)
    unfold addN
    rw [if_neg h2]
    by_cases e : a = x
    · rw [if_pos e, if_pos ⟨by simp, e⟩]
    · rw [if_neg e, if_neg (fun h => e h.2)]
      rfl
  | a :: l, p + 1, hp, h1, h2 => by
    have ha : a < x := h1 0 (by omega)
    have ih := addN_at (x := x) l p (by simpa using hp) (fun j hj => h1 (j + 1) (by omega)) (fun hl => h2 (by simpa using hl))
    unfold addN
    rw [if_pos ha, ih]
    have e1 : (a :: l).getD (p + 1) 0 = l.getD p 0 := by simp
    rw [e1]
    by_cases e : p < l.length ∧ l.getD p 0 = x
    · rw [if_pos e, if_pos ⟨by simpa using e.1, e.2⟩]
    · rw [if_neg e, if_neg (fun h => e ⟨by simpa using h.1, h.2⟩)]
      rfl
/-- A row of numbers of the call's own that isn't nil. -/
def OwnN (w : World) (B g cap : Nat) (L : List Nat) : Prop := w.ownsRow B 3 1 (.slice (some ⟨g, 0, none⟩) L.length cap) L.length ((zl L).map (Value.int .i64))
theorem zlN_len (L : List Nat) : (zl L).length = L.length := List.length_map _
theorem vals_len (L : List Nat) : ((zl L).map (Value.int .i64)).length = L.length := by rw [List.length_map, zlN_len]
theorem vals_get {L : List Nat} {j : Nat} (h : j < L.length) : ((zl L).map (Value.int .i64))[j]? = some (.int .i64 (L.getD j 0 : Nat)) := by
  unfold zl
  rw [List.getElem?_map, List.getElem?_map, List.getElem?_eq_getElem h, List.getD_eq_getElem?_getD, List.getElem?_eq_getElem h]
  rfl
theorem vals_one (L : List Nat) : ∀ u ∈ (zl L).map (Value.int .i64), u.oneCell' = true := fun u hu => by
  obtain ⟨z, -, rfl⟩ := List.mem_map.1 hu
  rfl
theorem vals_app (L M : List Nat) : (zl (L ++ M)).map (Value.int .i64) = (zl L).map (Value.int .i64) ++ (zl M).map (Value.int .i64) := by
  unfold zl
  rw [List.map_append, List.map_append]
theorem OwnN.z {w : World} {B g cap : Nat} {L : List Nat} (h : OwnN w B g cap L) : OwnsZ w B (.slice (some ⟨g, 0, none⟩) L.length cap) (zl L) := by
  unfold OwnsZ
  rw [zlN_len]
  exact h
theorem OwnN.on {w w' : World} {B g cap : Nat} {L : List Nat} (h : OwnN w B g cap L) (hb : Below w.heap.size w w') : OwnN w' B g cap L := World.ownsRow.kept h (row := none) ⟨hb.os, hb.tape, hb.output, hb.size, fun k hk _ => hb.block k hk⟩ (by simp [Value.ownBlock])
theorem OwnN.lt {w : World} {B g cap : Nat} {L : List Nat} (h : OwnN w B g cap L) : B ≤ g ∧ g < w.heap.size ∧ L.length ≤ cap := by
  have hlt := World.ownsRow.lt h g rfl
  obtain ⟨-, ⟨h1, -⟩ | ⟨g', cap', cur, hv, hB, hh, hnc, -⟩⟩ := h
  · cases h1
  · injection hv with h1 h2 h3
    subst h3
    exact ⟨hlt.1, hlt.2, hnc⟩
theorem OwnN.cell {w : World} {B g cap : Nat} {L : List Nat} (h : OwnN w B g cap L) {j : Nat} (hj : j < L.length) : w.cell? ⟨g, j, none⟩ = some (.int .i64 (L.getD j 0 : Nat)) := by
  have h1 := World.ownsRow.cellAt h j (by omega)
  rw [vals_get hj] at h1
  exact h1
theorem OwnN.take {w : World} {B g cap : Nat} {L : List Nat} (h : OwnN w B g cap L) {m : Nat} (hm : m ≤ L.length) : w.ownsRow B 3 1 (.slice (some ⟨g, 0, none⟩) m cap) m ((zl (L.take m)).map (Value.int .i64)) := by
  obtain ⟨hl, ⟨hv, -⟩ | ⟨g', cap', cur, hv, hB, hh, hnc, hcm, hcs, ht⟩⟩ := h
  · cases hv
  · injection hv with h1 h2 h3
    injection h1 with h1
    injection h1 with h1
    subst h1 h3
    have e : (L.take m).length = m := by rw [List.length_take]; omega
    have e2 : (zl (L.take m)).map (Value.int .i64) = ((zl L).map (Value.int .i64)).take m := by unfold zl; rw [← List.map_take, ← List.map_take]
    refine ⟨by rw [vals_len]; omega, .inr ⟨g, cap, cur, rfl, hB, hh, by omega, hcm, hcs, ?_⟩⟩
    rw [e2, ← ht, List.take_take, Nat.min_eq_left (by omega), Nat.mul_one]
theorem OwnN.drop {w : World} {B g cap : Nat} {L : List Nat} (h : OwnN w B g cap L) (m : Nat) (o : Obj) : ∀ (j : Nat) u, ((zl (L.drop m)).map (Value.int .i64))[j]? = some u → (w.alloc o).cell? (Addr.add ⟨g, m, none⟩ j) = some u := fun j u hu => by
  have hj : j < (L.drop m).length := by
    rw [← vals_len (L.drop m)]
    exact (List.getElem?_eq_some_iff.1 hu).1
  rw [vals_get hj] at hu
  have hj2 : m + j < L.length := by rw [List.length_drop] at hj; omega
  have hc := h.cell hj2
  have e : (L.drop m).getD j 0 = L.getD (m + j) 0 := by rw [List.getD_eq_getElem?_getD, List.getElem?_drop, List.getD_eq_getElem?_getD]
  rw [e] at hu
  rw [WideShapes.add_plain, World.cell?_alloc_lt _ _ _ h.lt.2.1, hc]
  exact hu
theorem own_formZ {w : World} {B n : Nat} {v : Value} {cs : List Value} (h : w.ownsRow B 3 1 v n cs) (hv : v ≠ .slice none 0 0) : ∃ g c, v = .slice (some ⟨g, 0, none⟩) n c ∧ B ≤ g ∧ g < w.heap.size ∧ n ≤ c := by
  have hlt := World.ownsRow.lt h
  obtain ⟨-, ⟨h1, -⟩ | ⟨g, cap, cur, rfl, hB, hh, hnc, -⟩⟩ := h
  · exact absurd h1 hv
  · exact ⟨g, cap, rfl, hB, (hlt g rfl).2, hnc⟩
set_option maxHeartbeats 3200000 in
set_option maxRecDepth 100000 in
theorem l10Add_any (B g cap : Nat) (L : List Nat) (hL : L.length ≤ 64) (x : Nat) (_hx : x < 2097152) (w : World) (ho : OwnN w B g cap L) (hB : B ≤ w.heap.size) :
    Calls Tryz.prog 152 #[.slice (some ⟨g, 0, none⟩) L.length cap, .int .i64 x] w fun e w' => ∃ g' c', e = .returned (.slice (some ⟨g', 0, none⟩) (addN x L).length c') ∧ OwnN w' B g' c' (addN x L) ∧ Below B w w' := by
  have HO := Lib.hid ho
  have HCE := Lib.hid (fun j (hj : j < L.length) => ho.cell hj)
  obtain ⟨hBg, hgw, hlc⟩ := ho.lt
  have HAT := Lib.hid (addN_at (x := x) L)
  obtain ⟨N, hN⟩ : ∃ N, N = addN x L := ⟨_, rfl⟩
  rw [← hN]
  have HNN := Lib.hid hN
  obtain ⟨i0, hi, hz0, hz1, hz2⟩ := info_parts infoI
  clear ho hN
  go_enter Tryz.func152, Tryz.ntmps152
  go_wp2
  go_loopw [5] (fun pv wr => ∃ p : Nat, p ≤ L.length ∧ pv = .int .i64 p ∧ Hid (∀ j, j < p → L.getD j 0 < x) ∧ wr = w) (fun pv _ => L.length - (intOf pv).toNat)
  case atStart => exact ⟨0, Nat.zero_le _, rfl, Lib.hid (fun j hj => by omega), rfl⟩
  case round =>
    obtain ⟨p, hp, rfl, HP, rfl⟩ := hrel
    by_cases hlt : p < L.length
    · have hc := HCE.out p hlt
      by_cases hyx : L.getD p 0 < x
      · have HP2 : Hid (∀ j, j < p + 1 → L.getD j 0 < x) := Lib.hid (fun j hj => by
          rcases (by omega : j < p ∨ j = p) with hl | rfl
          · exact HP.out j hl
          · exact hyx)
        generalize L.getD p 0 = y at hc hyx
        go_wp2
        exact ⟨⟨p + 1, by omega, by go_num, HP2, by trivial⟩, by simp only [intOf]; omega⟩
      · have HE := Lib.hid (HAT.out p hp HP.out (fun _ => hyx))
        by_cases hye : L.getD p 0 = x
        · have HE2 : Hid (N = L) := Lib.hid (by rw [HNN.out, HE.out, if_pos ⟨hlt, hye⟩])
          rw [hye] at hc
          clear hyx hye HE
          have hxx : ¬ ((x : Int) < (x : Int)) := by omega
          go_wp2
          go_ret
          exact ⟨g, cap, by rw [HE2.out]; rfl, by rw [HE2.out]; exact HO.out, Below.refl _ _⟩
        · have HE2 : Hid (N = L.take p ++ x :: L.drop p) := Lib.hid (by rw [HNN.out, HE.out, if_neg (fun h => hye h.2)])
          have hxy : ¬ (L.getD p 0 : Int) < (x : Int) := by omega
          have hxb : (((L.getD p 0 : Nat) : Int) == (x : Int)) = false := by rw [beq_eq_false_iff_ne]; omega
          generalize L.getD p 0 = y at hc hxy hxb
          clear hyx hye HE
          have HO8 : Hid ((wr.alloc (.cells #[] 3)).ownsRow wr.heap.size 3 1 (.slice (some ⟨wr.heap.size, 0, none⟩) 0 0) 0 []) := Lib.hid (World.ownsRow_made wr #[] 0 (Nat.le_refl _) (by decide) rfl)
          have HND := Lib.hid (HO.out.drop p (.cells #[] 3))
          have hvl : ((zl (L.drop p)).map (Value.int .i64)).length = L.length - p := by rw [vals_len, List.length_drop]
          have HVL := Lib.hid hvl
          clear hvl
          go_wp2_with (at_builtin; refine wpList_append_own _ rfl _ _ 27 rfl wr.heap.size 3 i0 _ 1 8 Tryz.underlying27 hi hz0 hz1 hz2 rfl (by decide) _ _ _ rfl HO8.out ⟨g, p, none⟩ (L.length - p) (cap - p) ((zl (L.drop p)).map (Value.int .i64)) rfl (by rw [HVL.out]; omega) HND.out (vals_one _) (by unfold maxLen; omega) (by omega) (by simp) ?_)
          intro v8 w8 hown8 hg8 hnn8
          have hv8 : v8 ≠ .slice none 0 0 := by first | exact hnn8 | exact fun e => by have := (hnn8.1 e).1; cases this
          obtain ⟨r, rc, rfl, hr0, hr1, -⟩ := own_formZ hown8 hv8
          have hgr8 : (wr.alloc (.cells #[] 3)).grownBy w8 (some wr.heap.size) := hg8
          have B8 : Below B wr w8 := ((Below.refl B wr).alloc hB (.cells #[] 3)).grown hgr8 (by simp; omega) (fun q hq => by injection hq with hq; omega)
          have HB8 := Lib.hid B8
          have HR8 : Hid (∀ (j : Nat) u, ((zl (L.drop p)).map (Value.int .i64))[j]? = some u → w8.cell? (Addr.add ⟨r, 0, none⟩ j) = some u) := Lib.hid (fun j u hu => World.ownsRow.cells hown8 (g := r) rfl j u hu)
          have HO9 : Hid (OwnN w8 B g cap L) := Lib.hid (World.ownsRow.kept (World.ownsRow.alloc HO.out (.cells #[] 3)) hgr8 (.inr (fun e => absurd (show g = wr.heap.size by simpa [Value.ownBlock] using e) (by omega))))
          have HT9 := Lib.hid (HO9.out.take hp)
          have hs8 := B8.size
          have hgr : r ≠ g := by omega
          have hg8w : g < w8.heap.size := by omega
          have htl : ((zl (L.take p)).map (Value.int .i64)).length = p := by rw [vals_len, List.length_take]; omega
          have HTL := Lib.hid htl
          clear hown8 hg8 hgr8 hnn8 hv8 B8 htl
          go_wp2_with (at_builtin; refine wpList_append_lies _ rfl (.tmp 41) (.tmp 43) 27 rfl B 3 i0 _ 1 8 Tryz.underlying27 hi hz0 hz1 hz2 rfl (by decide) _ _ _ rfl (World.ownsRow.alloc HT9.out _) ⟨w8.heap.size, 0, none⟩ 1 1 [.int .i64 (x : Int)] rfl rfl (news1 _ _ _) (one1 _) (by omega) (by simp only [maxLen]; omega) (by omega) (by simp; omega) (w8.heap.size + 1) (by simp) ?_)
          intro g9 c9 w9 hown9 hg9 hat9 hlt9
          have hgr9 : (w8.alloc (.cells #[.int .i64 (x : Int)] 3)).grownBy w9 (some g) := hg9
          have B9 : Below B wr w9 := (HB8.out.alloc (by omega) (.cells #[.int .i64 (x : Int)] 3)).grown hgr9 (by simp; omega) (fun q hq => by injection hq with hq; omega)
          have HB9 := Lib.hid B9
          have HR9 : Hid (∀ (j : Nat) u, ((zl (L.drop p)).map (Value.int .i64))[j]? = some u → w9.cell? (Addr.add ⟨r, 0, none⟩ j) = some u) := Lib.hid (fun j u hu => by
            have h1 := HR8.out j u hu
            rw [WideShapes.add_plain] at h1 ⊢
            refine hgr9.cell (by rw [World.cell?_alloc_lt _ _ _ (Kit.cell_lt h1)]; exact h1) (fun e => hgr (by injection e)))
          have HO10 := Lib.hid hown9
          have hs9 := B9.size
          clear hown9 hg9 hgr9 hat9 B9
          go_wp2_with (at_builtin; refine wpList_append_own _ rfl (.tmp 44) (.tmp 45) 27 rfl B 3 i0 _ 1 8 Tryz.underlying27 hi hz0 hz1 hz2 rfl (by decide) _ _ _ rfl HO10.out ⟨r, 0, none⟩ (L.length - p) rc ((zl (L.drop p)).map (Value.int .i64)) rfl (by rw [HVL.out]; omega) HR9.out (vals_one _) (by simp only [maxLen]; omega) (by omega) (by omega) ?_)
          intro v10 w10 hown10 hg10 hnn10
          have hv10 : v10 ≠ .slice none 0 0 := by first | exact hnn10 | exact fun e => by have := (hnn10.1 e).1; cases this
          obtain ⟨g2, c2, rfl, -, -, -⟩ := own_formZ hown10 hv10
          have HB10 := Lib.hid (HB9.out.grown hg10 (by omega) (fun q hq => (World.ownsRow.lt HO10.out q hq).1))
          have hlen : (L.take p ++ x :: L.drop p).length = p + 1 + (L.length - p) := by rw [List.length_append, List.length_cons, List.length_take, List.length_drop]; omega
          have HFIN : Hid (OwnN w10 B g2 c2 (L.take p ++ x :: L.drop p)) := Lib.hid (by
            unfold OwnN
            rw [hlen, show L.take p ++ x :: L.drop p = (L.take p ++ [x]) ++ L.drop p by simp, vals_app, vals_app, List.append_assoc]
            exact hown10)
          clear hown10 hg10 hnn10 hv10
          go_wp2
          go_ret
          exact ⟨g2, c2, by rw [HE2.out, hlen]; rfl, by rw [HE2.out]; exact HFIN.out, HB10.out⟩
    · have HE := Lib.hid (HAT.out p hp HP.out (fun h => absurd h hlt))
      have HE2 : Hid (N = L.take p ++ x :: L.drop p) := Lib.hid (by rw [HNN.out, HE.out, if_neg (fun h => hlt h.1)])
      have hge : L.length ≤ p := by omega
      have HD0 : Hid (L.drop p = []) := Lib.hid (List.drop_eq_nil_of_le hge)
      by_cases hcm : cap = p
      · subst hcm
        have HO8 : Hid ((wr.alloc (.cells #[] 3)).ownsRow wr.heap.size 3 1 (.slice (some ⟨wr.heap.size, 0, none⟩) 0 0) 0 []) := Lib.hid (World.ownsRow_made wr #[] 0 (Nat.le_refl _) (by decide) rfl)
        have HND := Lib.hid (fun (j : Nat) (u : Value) (hu : ((zl (L.drop cap)).map (Value.int .i64))[j]? = some u) => (show (wr.alloc (.cells #[] 3)).cell? (Addr.add ⟨g, 0, none⟩ j) = some u by rw [HD0.out] at hu; simp [zl] at hu))
        have hvl : ((zl (L.drop cap)).map (Value.int .i64)).length = L.length - cap := by rw [vals_len, List.length_drop]
        have HVL := Lib.hid hvl
        clear hvl
        go_wp2_with (at_builtin; refine wpList_append_own _ rfl _ _ 27 rfl wr.heap.size 3 i0 _ 1 8 Tryz.underlying27 hi hz0 hz1 hz2 rfl (by decide) _ _ _ rfl HO8.out ⟨g, 0, none⟩ 0 0 ((zl (L.drop cap)).map (Value.int .i64)) rfl (by rw [HVL.out]; omega) HND.out (vals_one _) (by unfold maxLen; omega) (by omega) (by simp) ?_)
        intro v8 w8 hown8 hg8 hnn8
        have hv8 : v8 ≠ .slice none 0 0 := by first | exact hnn8 | exact fun e => by have := (hnn8.1 e).1; cases this
        obtain ⟨r, rc, rfl, hr0, hr1, -⟩ := own_formZ hown8 hv8
        have hgr8 : (wr.alloc (.cells #[] 3)).grownBy w8 (some wr.heap.size) := hg8
        have B8 : Below B wr w8 := ((Below.refl B wr).alloc hB (.cells #[] 3)).grown hgr8 (by simp; omega) (fun q hq => by injection hq with hq; omega)
        have HB8 := Lib.hid B8
        have HR8 : Hid (∀ (j : Nat) u, ((zl (L.drop cap)).map (Value.int .i64))[j]? = some u → w8.cell? (Addr.add ⟨r, 0, none⟩ j) = some u) := Lib.hid (fun j u hu => World.ownsRow.cells hown8 (g := r) rfl j u hu)
        have HO9 : Hid (OwnN w8 B g cap L) := Lib.hid (World.ownsRow.kept (World.ownsRow.alloc HO.out (.cells #[] 3)) hgr8 (.inr (fun e => absurd (show g = wr.heap.size by simpa [Value.ownBlock] using e) (by omega))))
        have HT9 := Lib.hid (HO9.out.take hp)
        have hs8 := B8.size
        have hgr : r ≠ g := by omega
        have hg8w : g < w8.heap.size := by omega
        have htl : ((zl (L.take cap)).map (Value.int .i64)).length = cap := by rw [vals_len, List.length_take]; omega
        have HTL := Lib.hid htl
        clear hown8 hg8 hgr8 hnn8 hv8 B8 htl
        go_wp2_with (at_builtin; refine wpList_append_lies _ rfl (.tmp 41) (.tmp 43) 27 rfl B 3 i0 _ 1 8 Tryz.underlying27 hi hz0 hz1 hz2 rfl (by decide) _ _ _ rfl (World.ownsRow.alloc HT9.out _) ⟨w8.heap.size, 0, none⟩ 1 1 [.int .i64 (x : Int)] rfl rfl (news1 _ _ _) (one1 _) (by omega) (by simp only [maxLen]; omega) (by omega) (by simp; omega) (w8.heap.size + 1) (by simp) ?_)
        intro g9 c9 w9 hown9 hg9 hat9 hlt9
        have hgr9 : (w8.alloc (.cells #[.int .i64 (x : Int)] 3)).grownBy w9 (some g) := hg9
        have B9 : Below B wr w9 := (HB8.out.alloc (by omega) (.cells #[.int .i64 (x : Int)] 3)).grown hgr9 (by simp; omega) (fun q hq => by injection hq with hq; omega)
        have HB9 := Lib.hid B9
        have HR9 : Hid (∀ (j : Nat) u, ((zl (L.drop cap)).map (Value.int .i64))[j]? = some u → w9.cell? (Addr.add ⟨r, 0, none⟩ j) = some u) := Lib.hid (fun j u hu => by
          have h1 := HR8.out j u hu
          rw [WideShapes.add_plain] at h1 ⊢
          refine hgr9.cell (by rw [World.cell?_alloc_lt _ _ _ (Kit.cell_lt h1)]; exact h1) (fun e => hgr (by injection e)))
        have HO10 := Lib.hid hown9
        have hs9 := B9.size
        clear hown9 hg9 hgr9 hat9 B9
        go_wp2_with (at_builtin; refine wpList_append_own _ rfl (.tmp 44) (.tmp 45) 27 rfl B 3 i0 _ 1 8 Tryz.underlying27 hi hz0 hz1 hz2 rfl (by decide) _ _ _ rfl HO10.out ⟨r, 0, none⟩ 0 rc ((zl (L.drop cap)).map (Value.int .i64)) rfl (by rw [HVL.out]; omega) HR9.out (vals_one _) (by simp only [maxLen]; omega) (by omega) (by omega) ?_)
        intro v10 w10 hown10 hg10 hnn10
        have hv10 : v10 ≠ .slice none 0 0 := by first | exact hnn10 | exact fun e => by have := (hnn10.1 e).1; cases this
        obtain ⟨g2, c2, rfl, -, -, -⟩ := own_formZ hown10 hv10
        have HB10 := Lib.hid (HB9.out.grown hg10 (by omega) (fun q hq => (World.ownsRow.lt HO10.out q hq).1))
        have hlen : (L.take cap ++ x :: L.drop cap).length = cap + 1 + 0 := by rw [List.length_append, List.length_cons, List.length_take, List.length_drop]; omega
        have HFIN : Hid (OwnN w10 B g2 c2 (L.take cap ++ x :: L.drop cap)) := Lib.hid (by
          unfold OwnN
          rw [hlen, show L.take cap ++ x :: L.drop cap = (L.take cap ++ [x]) ++ L.drop cap by simp, vals_app, vals_app, List.append_assoc]
          exact hown10)
        clear hown10 hg10 hnn10 hv10
        go_wp2
        go_ret
        exact ⟨g2, c2, by rw [HE2.out, hlen]; rfl, by rw [HE2.out]; exact HFIN.out, HB10.out⟩
      · have HO8 : Hid ((wr.alloc (.cells #[] 3)).ownsRow wr.heap.size 3 1 (.slice (some ⟨wr.heap.size, 0, none⟩) 0 0) 0 []) := Lib.hid (World.ownsRow_made wr #[] 0 (Nat.le_refl _) (by decide) rfl)
        have HND := Lib.hid (HO.out.drop p (.cells #[] 3))
        have hvl : ((zl (L.drop p)).map (Value.int .i64)).length = L.length - p := by rw [vals_len, List.length_drop]
        have HVL := Lib.hid hvl
        clear hvl
        go_wp2_with (at_builtin; refine wpList_append_own _ rfl _ _ 27 rfl wr.heap.size 3 i0 _ 1 8 Tryz.underlying27 hi hz0 hz1 hz2 rfl (by decide) _ _ _ rfl HO8.out ⟨g, p, none⟩ 0 (cap - p) ((zl (L.drop p)).map (Value.int .i64)) rfl (by rw [HVL.out]; omega) HND.out (vals_one _) (by unfold maxLen; omega) (by omega) (by simp) ?_)
        intro v8 w8 hown8 hg8 hnn8
        have hv8 : v8 ≠ .slice none 0 0 := by first | exact hnn8 | exact fun e => by have := (hnn8.1 e).1; cases this
        obtain ⟨r, rc, rfl, hr0, hr1, -⟩ := own_formZ hown8 hv8
        have hgr8 : (wr.alloc (.cells #[] 3)).grownBy w8 (some wr.heap.size) := hg8
        have B8 : Below B wr w8 := ((Below.refl B wr).alloc hB (.cells #[] 3)).grown hgr8 (by simp; omega) (fun q hq => by injection hq with hq; omega)
        have HB8 := Lib.hid B8
        have HR8 : Hid (∀ (j : Nat) u, ((zl (L.drop p)).map (Value.int .i64))[j]? = some u → w8.cell? (Addr.add ⟨r, 0, none⟩ j) = some u) := Lib.hid (fun j u hu => World.ownsRow.cells hown8 (g := r) rfl j u hu)
        have HO9 : Hid (OwnN w8 B g cap L) := Lib.hid (World.ownsRow.kept (World.ownsRow.alloc HO.out (.cells #[] 3)) hgr8 (.inr (fun e => absurd (show g = wr.heap.size by simpa [Value.ownBlock] using e) (by omega))))
        have HT9 := Lib.hid (HO9.out.take hp)
        have hs8 := B8.size
        have hgr : r ≠ g := by omega
        have hg8w : g < w8.heap.size := by omega
        have htl : ((zl (L.take p)).map (Value.int .i64)).length = p := by rw [vals_len, List.length_take]; omega
        have HTL := Lib.hid htl
        clear hown8 hg8 hgr8 hnn8 hv8 B8 htl
        go_wp2_with (at_builtin; refine wpList_append_lies _ rfl (.tmp 41) (.tmp 43) 27 rfl B 3 i0 _ 1 8 Tryz.underlying27 hi hz0 hz1 hz2 rfl (by decide) _ _ _ rfl (World.ownsRow.alloc HT9.out _) ⟨w8.heap.size, 0, none⟩ 1 1 [.int .i64 (x : Int)] rfl rfl (news1 _ _ _) (one1 _) (by omega) (by simp only [maxLen]; omega) (by omega) (by simp; omega) (w8.heap.size + 1) (by simp) ?_)
        intro g9 c9 w9 hown9 hg9 hat9 hlt9
        have hgr9 : (w8.alloc (.cells #[.int .i64 (x : Int)] 3)).grownBy w9 (some g) := hg9
        have B9 : Below B wr w9 := (HB8.out.alloc (by omega) (.cells #[.int .i64 (x : Int)] 3)).grown hgr9 (by simp; omega) (fun q hq => by injection hq with hq; omega)
        have HB9 := Lib.hid B9
        have HR9 : Hid (∀ (j : Nat) u, ((zl (L.drop p)).map (Value.int .i64))[j]? = some u → w9.cell? (Addr.add ⟨r, 0, none⟩ j) = some u) := Lib.hid (fun j u hu => by
          have h1 := HR8.out j u hu
          rw [WideShapes.add_plain] at h1 ⊢
          refine hgr9.cell (by rw [World.cell?_alloc_lt _ _ _ (Kit.cell_lt h1)]; exact h1) (fun e => hgr (by injection e)))
        have HO10 := Lib.hid hown9
        have hs9 := B9.size
        clear hown9 hg9 hgr9 hat9 B9
        go_wp2_with (at_builtin; refine wpList_append_own _ rfl (.tmp 44) (.tmp 45) 27 rfl B 3 i0 _ 1 8 Tryz.underlying27 hi hz0 hz1 hz2 rfl (by decide) _ _ _ rfl HO10.out ⟨r, 0, none⟩ 0 rc ((zl (L.drop p)).map (Value.int .i64)) rfl (by rw [HVL.out]; omega) HR9.out (vals_one _) (by simp only [maxLen]; omega) (by omega) (by omega) ?_)
        intro v10 w10 hown10 hg10 hnn10
        have hv10 : v10 ≠ .slice none 0 0 := by first | exact hnn10 | exact fun e => by have := (hnn10.1 e).1; cases this
        obtain ⟨g2, c2, rfl, -, -, -⟩ := own_formZ hown10 hv10
        have HB10 := Lib.hid (HB9.out.grown hg10 (by omega) (fun q hq => (World.ownsRow.lt HO10.out q hq).1))
        have hlen : (L.take p ++ x :: L.drop p).length = p + 1 + 0 := by rw [List.length_append, List.length_cons, List.length_take, List.length_drop]; omega
        have HFIN : Hid (OwnN w10 B g2 c2 (L.take p ++ x :: L.drop p)) := Lib.hid (by
          unfold OwnN
          rw [hlen, show L.take p ++ x :: L.drop p = (L.take p ++ [x]) ++ L.drop p by simp, vals_app, vals_app, List.append_assoc]
          exact hown10)
        clear hown10 hg10 hnn10 hv10
        go_wp2
        go_ret
        exact ⟨g2, c2, by rw [HE2.out, hlen]; rfl, by rw [HE2.out]; exact HFIN.out, HB10.out⟩
end Go.Proofs.YtinlnafkmoabbaaGreatDoor.Sg
/- All flips of a triangulation, as spec lists them: l10Flips, FlipsFrom. -/
namespace Go.Proofs.YtinlnafkmoabbaaGreatDoor.Sg
open Go.RowKit Pt NewI
theorem got_own {w' : World} {lo B g cap : Nat} {L : List Nat} (h : OwnN w' B g cap L) (hl : lo ≤ B) : Got lo (zl L) (.returned (.slice (some ⟨g, 0, none⟩) L.length cap)) w' := by
  obtain ⟨a, c, hv, hn, -⟩ := NewI.New.of_own h.z
  injection hv with h1 h2 h3
  subst h1 h3
  refine ⟨_, cap, by rw [zlN_len], new_low ?_ hl⟩
  exact hn
theorem flipsTo_succ (c : Nat → Nat) (E T K : Nat) : flipsTo c E T (K + 1) = if T.testBit K = true ∧ (flipP c E T K).2 = true then addN (flipP c E T K).1 (flipsTo c E T K) else flipsTo c E T K := rfl
theorem flip_lt {c : Nat → Nat} {E T k : Nat} (hT : T < 2 ^ E) (hk : k < E) (hb : T.testBit k = true) (h : (flipP c E T k).2 = true) : (flipP c E T k).1 < 2 ^ E := by
  obtain ⟨x, h1, h2⟩ := flip_yes h
  obtain ⟨m1, m2, m3, -⟩ := (mem_fitL (c := c) (E := E) hb).1 (by rw [h1]; exact List.mem_singleton.2 rfl)
  rw [h2]
  exact exch_lt hT hk m1 hb m3
theorem ownN_made (w : World) (B : Nat) (hB : B ≤ w.heap.size) : OwnN (w.alloc (.cells #[] 3)) B w.heap.size 0 [] := World.ownsRow_made (base := B) (e := 3) (size := 1) w #[] 0 hB (by decide) rfl
set_option maxHeartbeats 1600000 in
set_option maxRecDepth 100000 in
theorem l10Flips_any (E : Nat) (hE : E ≤ 21) (c : Nat → Nat) (hc : ∀ x, c x < 2097152) (T : Nat) (hT : T < 2 ^ E) (a : Option Addr) (cc : Nat) (w : World) (hr : RdL w a (crTo c E)) :
    Calls Tryz.prog 117 #[.slice a E cc, .int .i64 T] w fun e w' => (∃ g cap, e = .returned (.slice (some ⟨g, 0, none⟩) (flipsL c E T).length cap) ∧ OwnN w' w.heap.size g cap (flipsL c E T)) ∧ Below w.heap.size w w' := by
  have hp := Nat.pow_le_pow_right (n := 2) (by omega) hE
  have HHA := Lib.hid (fun (x : Nat) (hx : x < 64) W => l6HasE_any T x (by omega) hx W)
  have HFL : Hid (∀ k, k < E → T.testBit k = true → ∀ W, Below w.heap.size w W → Calls Tryz.prog 113 #[.slice a E cc, .int .i64 T, .int .i64 k] W fun e w' => e = .returned (.tuple #[.int .i64 ((flipP c E T k).1 : Nat), .bool (flipP c E T k).2]) ∧ Below W.heap.size W w') := Lib.hid (fun k hk hb W hW => l10Flip_any E hE c hc T k hT hk hb a cc W (hr.on hW))
  have HLT : Hid (∀ k, k < E → T.testBit k = true → (flipP c E T k).2 = true → (flipP c E T k).1 < 2097152) := Lib.hid (fun k hk hb h => by have := flip_lt hT hk hb h; omega)
  have HFS := Lib.hid (flipsTo_succ c E T)
  have HLN := Lib.hid (flipsTo_len c E T)
  have HF0 : Hid (flipsTo c E T 0 = []) := Lib.hid rfl
  have HFE : Hid (flipsL c E T = flipsTo c E T E) := Lib.hid rfl
  rw [HFE.out]
  generalize flipsTo c E T = ft at HFS HLN HF0 ⊢
  generalize flipP c E T = fp at HFL HLT HFS
  have HO0 : Hid (OwnN (w.alloc (.cells #[] 3)) w.heap.size w.heap.size 0 (ft 0)) := Lib.hid (by rw [HF0.out]; exact ownN_made w _ (Nat.le_refl _))
  have HB0 := Lib.hid ((Below.refl w.heap.size w).alloc (Nat.le_refl _) (.cells #[] 3))
  clear hr HFE
  go_enter Tryz.func117, Tryz.ntmps117
  go_wp2
  go_loopw [5, 6] (fun ov kv wr => ∃ k g cap : Nat, k ≤ E ∧ ov = .slice (some ⟨g, 0, none⟩) (ft k).length cap ∧ kv = .int .i64 k ∧ Hid (OwnN wr w.heap.size g cap (ft k)) ∧ Hid (Below w.heap.size w wr)) (fun _ kv _ => E - (intOf kv).toNat)
  case atStart => exact ⟨0, w.heap.size, 0, Nat.zero_le _, by rw [HF0.out]; rfl, rfl, HO0, HB0⟩
  case round =>
    obtain ⟨k, g, cap, hk, rfl, rfl, HO, HB⟩ := hrel
    by_cases hlt : k < E
    · have HA := Lib.hid (HHA.out k (by omega))
      have HSK := Lib.hid (HFS.out k)
      have hln := HLN.out k
      cases hbk : T.testBit k
      · have HN : Hid (ft (k + 1) = ft k) := Lib.hid (by rw [HSK.out, if_neg (fun h => by rw [hbk] at h; cases h.1)])
        rw [hbk] at HA
        go_wp2_with fail
        refine (HA.out _).mono ?_
        rintro e w' ⟨rfl, rfl⟩
        go_wp2
        exact ⟨⟨k + 1, g, cap, by omega, by rw [HN.out], by go_num, Lib.hid (by rw [HN.out]; exact HO.out), HB⟩, by simp only [intOf]; omega⟩
      · have HC := Lib.hid (HFL.out k hlt hbk _ HB.out)
        have HLK := Lib.hid (HLT.out k hlt hbk)
        rw [hbk] at HA
        generalize fp k = r at HC HLK HSK
        obtain ⟨x, ok⟩ := r
        dsimp only at HC HLK HSK
        cases ok
        · have HN : Hid (ft (k + 1) = ft k) := Lib.hid (by rw [HSK.out, if_neg (fun h => by cases h.2)])
          go_wp2_with fail
          refine (HA.out _).mono ?_
          rintro e w' ⟨rfl, rfl⟩
          go_wp2_with fail
          refine HC.out.mono ?_
          rintro e w2 ⟨rfl, hb2⟩
          have O2 := Lib.hid (HO.out.on hb2)
          have B2 := Lib.hid (HB.out.trans (hb2.mono HB.out.size))
          clear hb2
          go_wp2
          exact ⟨⟨k + 1, g, cap, by omega, by rw [HN.out], by go_num, Lib.hid (by rw [HN.out]; exact O2.out), B2⟩, by simp only [intOf]; omega⟩
        · have hx := HLK.out rfl
          have HN : Hid (ft (k + 1) = addN x (ft k)) := Lib.hid (by rw [HSK.out, if_pos ⟨hbk, rfl⟩])
          go_wp2_with fail
          refine (HA.out _).mono ?_
          rintro e w' ⟨rfl, rfl⟩
          go_wp2_with fail
          refine HC.out.mono ?_
          rintro e w2 ⟨rfl, hb2⟩
          have O2 := Lib.hid (HO.out.on hb2)
          have B2 := Lib.hid (HB.out.trans (hb2.mono HB.out.size))
          have hs2 := B2.out.size
          clear hb2
          go_wp2_with fail
          refine (l10Add_any w.heap.size g cap (ft k) (by omega) x hx _ O2.out hs2).mono ?_
          rintro e w3 ⟨g3, c3, rfl, ho3, hb3⟩
          have O3 := Lib.hid ho3
          have B3 := Lib.hid (B2.out.trans hb3)
          clear ho3 hb3
          go_wp2
          exact ⟨⟨k + 1, g3, c3, by omega, by rw [HN.out], by go_num, Lib.hid (by rw [HN.out]; exact O3.out), B3⟩, by simp only [intOf]; omega⟩
    · obtain rfl : k = E := by omega
      go_wp2
      go_ret
      exact ⟨⟨g, cap, rfl, HO.out⟩, HB.out⟩
/-- What FlipsFrom answers. -/
def ffZ (n : Int) (s : List UInt8) (T : Int) : List Nat := if itB n s T = true then flipsL (cS n.toNat s) (eN n.toNat) T.toNat else []
set_option maxHeartbeats 1600000 in
set_option maxRecDepth 100000 in
theorem specFlips (n : Int) (s : ByteArray) (hs : s.size ≤ 9223372036854775807) (T : Int) (w : World) :
    Calls Tryz.prog 64 #[sg n s, .int .i64 T] w fun e w' => Got w.heap.size (zl (ffZ n s.data.toList T)) e w' ∧ Below w.heap.size w w' := by
  have HS := Lib.hid (box_made w n s 25)
  have HA := Lib.hid (fun W => specIsTri n s hs T W)
  obtain ⟨x0, x1, -⟩ := HS.out
  cases h : itB n s.data.toList T
  · have HE : Hid (ffZ n s.data.toList T = []) := Lib.hid (by unfold ffZ; rw [h]; rfl)
    rw [HE.out]
    rw [h] at HA
    clear h HE
    go_enter Tryz.func64, Tryz.ntmps64
    go_wp2_with fail
    refine (HA.out _).mono ?_
    rintro e w1 ⟨rfl, hb1⟩
    have B1 := Lib.hid (HS.out.on hb1).2.2
    have B2 := Lib.hid (B1.out.alloc B1.out.size (.cells #[] 3))
    clear hb1 x0 x1
    go_wp2
    go_ret
    exact ⟨⟨_, _, rfl, .inl rfl⟩, B2.out⟩
  · obtain ⟨m, t, rfl, rfl, hac, m3, m6, ht, hfull⟩ := itB_parts h
    have hE := eN_bd m (by omega)
    have HE : Hid (ffZ m s.data.toList t = flipsL (cS m s.data.toList) (eN m) t) := Lib.hid (by unfold ffZ; rw [if_pos h, Int.toNat_natCast, Int.toNat_natCast])
    rw [HE.out]
    have HP := Lib.hid (fun W => specPairs m s hac W)
    have HF := Lib.hid (fun a cc W hr => l10Flips_any (eN m) hE (cS m s.data.toList) (cS_lt (by omega) s.data.toList) t ht a cc W hr)
    rw [h] at HA
    generalize flipsL (cS m s.data.toList) (eN m) t = L at HF ⊢
    generalize cS m s.data.toList = c at HP HF
    generalize eN m = E at HP HF
    clear h HE hfull ht hE hac
    go_enter Tryz.func64, Tryz.ntmps64
    go_wp2_with fail
    refine (HA.out _).mono ?_
    rintro e w1 ⟨rfl, hb1⟩
    have X1 := Lib.hid (HS.out.on hb1)
    clear hb1 x0 x1
    obtain ⟨x0, x1, B1⟩ := X1.out
    go_wp2_with fail
    refine (HP.out _).mono ?_
    rintro e w2 ⟨⟨a, cc, rfl, hr⟩, hb2⟩
    have R2 := Lib.hid hr.rd
    have B2 := Lib.hid (B1.trans (hb2.mono B1.size))
    clear hr hb2 x0 x1
    go_wp2_with fail
    refine (HF.out _ _ _ R2.out).mono ?_
    rintro e w3 ⟨⟨g, cap, rfl, ho⟩, hb3⟩
    have HG := Lib.hid (got_own ho B2.out.size)
    have B3 := Lib.hid (B2.out.trans (hb3.mono B2.out.size))
    clear ho hb3
    go_wp2
    go_ret
    exact ⟨HG.out, B3.out⟩
end Go.Proofs.YtinlnafkmoabbaaGreatDoor.Sg
