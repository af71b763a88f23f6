/- Several texts in one: TrPairs, TrAll. -/
import Derived.Test.YtinlnafkmoabbaaGreatDoorMgKs
import Derived.Test.YtinlnafkmoabbaaGreatDoorMgTb
import Derived.Test.YtinlnafkmoabbaaGreatDoorLawInts
/- Triangulations, as spec tells them: l10Pairs, l10Full, l10Fits, IsTriangulation. -/
namespace Go.Proofs.YtinlnafkmoabbaaGreatDoor.Sg
open Go.RowKit Pt NewI
/-- The set of edges that cross edge x, as the circuits tell it. -/
def crS (F : Int → Int → Int → Int) (n x : Nat) : Nat := setN (fun y => crE F n (x, y)) (eN n)
theorem crS_crC {n : Nat} {s : List UInt8} (h : aciB n s = true) {x : Nat} (hx : x < eN n) : crS (sgnF (lookS n s)) n x = crC (sgS n s) n x := by
  have h7 := (aciB_n h).2
  refine setN_congr fun y hy => ?_
  obtain ⟨a1, a2⟩ := edL_lt (n := n) (by omega) hx
  obtain ⟨b1, b2⟩ := edL_lt (n := n) (by omega) hy
  unfold crE crG crsF
  dsimp only
  generalize edL n x = u at *
  generalize edL n y = v at *
  obtain ⟨a, b⟩ := u
  obtain ⟨c, d⟩ := v
  dsimp only at *
  by_cases hs : a = c ∨ a = d ∨ b = c ∨ b = d
  · have e : (a == c || (a == d || (b == c || b == d))) = true := by simpa using hs
    rw [e]; rfl
  · have e := crA_iff h (a := a) (b := b) (c := c) (d := d) (by unfold Dis; omega)
    have e2 : crA (sgnF (lookS n s)) a b c d = (sgS n s a c d == -(sgS n s b c d) && sgS n s a b d == -(sgS n s a b c)) := by
      rw [Bool.eq_iff_iff, e, Bool.and_eq_true, beq_iff_eq, beq_iff_eq]
      rfl
    rw [e2]
/-- A list of numbers in memory, to be read. -/
def RdL (W : World) (a : Option Addr) (L : List Nat) : Prop := ∀ k : Nat, k < L.length → ∃ g, a = some ⟨g, 0, none⟩ ∧ W.cell? ⟨g, k, none⟩ = some (.int .i64 (L.getD k 0 : Nat))
theorem RdL.on {W W' : World} {a : Option Addr} {L : List Nat} (h : RdL W a L) (hb : Below W.heap.size W W') : RdL W' a L := fun k hk => by
  obtain ⟨g, h1, h2⟩ := h k hk
  exact ⟨g, h1, by rw [hb.cell (Kit.cell_lt h2)]; exact h2⟩
theorem rdL_new {W : World} {lo hi : Nat} {a : Option Addr} {L : List Nat} (h : NewI.New W lo hi a (zl L).length (zc (zl L))) : RdL W a L := fun k hk => by
  have hl : (zl L).length = L.length := List.length_map _
  obtain ⟨b, h1, -, h2⟩ := NewI.New.get h k (by omega)
  refine ⟨b, h1, ?_⟩
  rw [h2]
  congr 2
  unfold zl
  rw [List.getElem_map, List.getD_eq_getElem?_getD, List.getElem?_eq_getElem hk]
  rfl
/-- The crossing sets of the edges ahead of x. -/
def crTo (c : Nat → Nat) (x : Nat) : List Nat := (List.range x).map c
theorem crTo_succ (c : Nat → Nat) (x : Nat) : crTo c (x + 1) = crTo c x ++ [c x] := by unfold crTo; rw [List.range_succ, List.map_append]; rfl
theorem crTo_len (c : Nat → Nat) (x : Nat) : (crTo c x).length = x := by unfold crTo; rw [List.length_map, List.length_range]
theorem crTo_get (c : Nat → Nat) {x k : Nat} (h : k < x) : (crTo c x).getD k 0 = c k := by
  unfold crTo
  rw [List.getD_eq_getElem?_getD, List.getElem?_map, List.getElem?_range h]
  rfl
theorem zlS_snoc (L : List Nat) (x : Nat) : zl (L ++ [x]) = zl L ++ [(x : Int)] := by unfold zl; rw [List.map_append]; rfl
theorem setN_ltT (q : Nat → Bool) {k : Nat} (hk : k ≤ 21) : setN q k < 2097152 := Nat.lt_of_lt_of_le (setN_lt q k) (Nat.pow_le_pow_right (n := 2) (by omega) hk)
set_option maxHeartbeats 3200000 in
set_option maxRecDepth 100000 in
theorem l10Pairs_any (n : Nat) (s : ByteArray) (h : aciB n s.data.toList = true) (w : World) :
    Calls Tryz.prog 114 #[sg n s] w fun e w' => (∃ a c, e = .returned (.slice a (eN n) c) ∧ NewI.New w' w.heap.size w'.heap.size a (eN n) (zc (zl (crTo (crS (sgnF (lookS n s.data.toList)) n) (eN n))))) ∧ Below w.heap.size w w' := by
  obtain ⟨h3, h7⟩ := aciB_n h
  have h3 : 3 ≤ n := by omega
  have h7 : n ≤ 7 := by omega
  have har := matB_ar (aciB_mat h)
  have HS := Lib.hid (box_made w n s 25)
  have hsz : (w.alloc (.cells #[.int .i64 n, .string s] 25)).heap.size = w.heap.size + 1 := by simp
  have hE := eN_bd n (by omega)
  have vP : IntKind.i64.wrap ((n : Int) * ((n : Int) - 1)) = ((2 * eN n : Nat) : Int) := by
    rcases (by omega : n = 3 ∨ n = 4 ∨ n = 5 ∨ n = 6 ∨ n = 7) with rfl | rfl | rfl | rfl | rfl <;> decide +kernel
  have HED : Hid (∀ k : Nat, k < eN n → ∀ W, Calls Tryz.prog 32 #[.int .i64 n, .int .i64 k] W fun e w' => e = .returned (.tuple #[.int .i64 ((edL n k).1 : Nat), .int .i64 ((edL n k).2 : Nat)]) ∧ W = w') := Lib.hid (fun k hk W => by
    have := specEdgeAt n k W
    rw [edZ_in h3 h7 hk] at this
    exact this)
  have HCRF : Hid (∀ (x y : Nat), x < eN n → y < eN n → ∀ W, Calls Tryz.prog 102 #[sg n s, .int .i64 ((edL n x).1 : Nat), .int .i64 ((edL n x).2 : Nat), .int .i64 ((edL n y).1 : Nat), .int .i64 ((edL n y).2 : Nat)] W fun e w' => e = .returned (.bool (crE (sgnF (lookS n s.data.toList)) n (x, y))) ∧ Below W.heap.size W w') := Lib.hid (fun x y hx hy W => by
    have hx := edL_lt h7 hx
    have hy := edL_lt h7 hy
    exact l9Cross_any n s har (edL n x).1 (edL n x).2 (edL n y).1 (edL n y).2 (by omega) (by omega) (by omega) (by omega) (by omega) (by omega) W)
  obtain ⟨q, hq⟩ : ∃ q : Nat → Nat → Bool, q = fun x y => crE (sgnF (lookS n s.data.toList)) n (x, y) := ⟨_, rfl⟩
  have HQ : Hid (∀ x y, crE (sgnF (lookS n s.data.toList)) n (x, y) = q x y) := Lib.hid (fun x y => by rw [hq])
  have HCS : Hid (∀ x, crS (sgnF (lookS n s.data.toList)) n x = setN (q x) (eN n)) := Lib.hid (fun x => by rw [hq]; rfl)
  generalize crS (sgnF (lookS n s.data.toList)) n = c at HCS ⊢
  have HCT := Lib.hid (crTo_succ c)
  have HCL := Lib.hid (crTo_len c)
  have HC0 : Hid (crTo c 0 = []) := Lib.hid rfl
  generalize crTo c = ct at HCT HCL HC0 ⊢
  have HSS := Lib.hid (fun x => setN_step (q x))
  have HSB := Lib.hid (fun x k (hk : k ≤ 21) => setN_ltT (q x) hk)
  have HS0 : Hid (∀ x, setN (q x) 0 = 0) := Lib.hid (fun _ => rfl)
  generalize eN n = E at hE vP HED HCRF HCS ⊢
  generalize crE (sgnF (lookS n s.data.toList)) n = cr at HCRF HQ
  generalize edL n = ed at HED HCRF
  obtain ⟨i0, hi, hz0, hz1, hz2⟩ := info_parts infoI
  have HO0 : Hid (OwnsZ ((w.alloc (.cells #[.int .i64 n, .string s] 25)).alloc (.cells #[] 3)) (w.heap.size + 1) (.slice (some ⟨w.heap.size + 1, 0, none⟩) 0 0) (zl (ct 0))) := Lib.hid (by
    have := World.ownsRow_made (base := w.heap.size + 1) (e := 3) (size := 1) (w.alloc (.cells #[.int .i64 n, .string s] 25)) #[] 0 (by rw [hsz]; exact Nat.le_refl _) (by decide) rfl
    rw [hsz] at this
    rw [HC0.out]
    exact this)
  have X0 := Lib.hid (HS.out.alloc (.cells #[] 3))
  obtain ⟨x0, x1, -⟩ := HS.out
  clear h har hq
  go_enter Tryz.func114, Tryz.ntmps114
  go_wp2
  go_loopw [3, 4] (fun ov xv wr => ∃ x : Nat, x ≤ E ∧ xv = .int .i64 x ∧ Hid (OwnsZ wr (w.heap.size + 1) ov (zl (ct x))) ∧ Hid (Box w n s wr)) (fun _ c _ => E - (intOf c).toNat)
  case atStart => exact ⟨0, Nat.zero_le _, rfl, HO0, X0⟩
  case round =>
    obtain ⟨x, hx, rfl, HO, HB⟩ := hrel
    rename World => wA
    clear x0 x1
    obtain ⟨c0, c1, B0⟩ := HB.out
    by_cases hlt : x < E
    · have HE1 := Lib.hid (HED.out x hlt)
      have HC := Lib.hid (fun y hy => HCRF.out x y hlt hy)
      have HQX := Lib.hid (HQ.out x)
      have HSX := Lib.hid (HSS.out x)
      have HBX := Lib.hid (HSB.out x)
      have HZX := Lib.hid (HS0.out x)
      have HCX := Lib.hid (HCS.out x)
      have HTX := Lib.hid (HCT.out x)
      have hlx := HCL.out x
      generalize ed x = e1 at HE1 HC
      obtain ⟨ea, eb⟩ := e1
      generalize setN (q x) = st at HSX HBX HZX HCX
      generalize q x = qx at HQX HSX
      go_wp2_with fail
      refine (HE1.out _).mono ?_
      rintro e w' ⟨rfl, rfl⟩
      go_wp2
      go_loopw [7, 8] (fun sv yv wr => ∃ y t : Nat, y ≤ E ∧ sv = .int .i64 t ∧ yv = .int .i64 y ∧ t < 2097152 ∧ Hid (t = st y) ∧ Hid (OwnsZ wr (w.heap.size + 1) _ (zl (ct x))) ∧ Hid (Box w n s wr)) (fun _ c _ => E - (intOf c).toNat)
      case atStart => exact ⟨0, 0, Nat.zero_le _, rfl, rfl, by omega, Lib.hid HZX.out.symm, HO, HB⟩
      case round =>
        obtain ⟨y, t, hy, rfl, rfl, ht, HT, HO2, HB2⟩ := hrel
        clear c0 c1 B0
        obtain ⟨c0, c1, B0⟩ := HB2.out
        by_cases hlt2 : y < E
        · have HE2 := Lib.hid (HED.out y hlt2)
          have HCC := Lib.hid (HC.out y hlt2)
          have HQP := Lib.hid (HQX.out y)
          have HSP := Lib.hid (HSX.out y)
          have hb1 := HBX.out (y + 1) (by omega)
          generalize ed y = e2 at HE2 HCC
          obtain ⟨ec, edd⟩ := e2
          generalize cr (x, y) = rr at HCC HQP
          cases rr
          · have HT2 : Hid (t = st (y + 1)) := Lib.hid (by rw [HSP.out, if_neg (by rw [← HQP.out]; decide)]; exact HT.out)
            go_wp2_with fail
            refine (HE2.out _).mono ?_
            rintro e w' ⟨rfl, rfl⟩
            go_wp2_with fail
            refine (HCC.out _).mono ?_
            rintro e w2 ⟨rfl, hb2⟩
            have X2 := Lib.hid (HB2.out.on hb2)
            have O2 := Lib.hid (ownsZ_on HO2.out hb2)
            clear hb2 c0 c1 B0
            go_wp2
            exact ⟨⟨y + 1, t, by omega, by trivial, by go_num, ht, HT2, O2, X2⟩, by simp only [intOf]; omega⟩
          · obtain ⟨wa, -⟩ := shl_edge y (by omega)
            have HT2 : Hid (t + 2 ^ y = st (y + 1)) := Lib.hid (by rw [HSP.out, if_pos HQP.out.symm, HT.out])
            have ht2 : t + 2 ^ y < 2097152 := by rw [HT2.out]; exact hb1
            generalize (2 : Nat) ^ y = P at wa HT2 ht2
            go_wp2_with fail
            refine (HE2.out _).mono ?_
            rintro e w' ⟨rfl, rfl⟩
            go_wp2_with fail
            refine (HCC.out _).mono ?_
            rintro e w2 ⟨rfl, hb2⟩
            have X2 := Lib.hid (HB2.out.on hb2)
            have O2 := Lib.hid (ownsZ_on HO2.out hb2)
            clear hb2 c0 c1 B0
            go_wp2
            exact ⟨⟨y + 1, t + P, by omega, by go_num, by go_num, ht2, HT2, O2, X2⟩, by simp only [intOf]; omega⟩
        · obtain rfl : y = E := by omega
          have HTC : Hid (t = c x) := Lib.hid (by rw [HCX.out]; exact HT.out)
          have hwr : w.heap.size < wr.heap.size := Kit.cell_lt c0
          have hzl : (zl (ct x)).length ≤ 21 := by rw [show (zl (ct x)).length = (ct x).length from List.length_map _, hlx]; omega
          go_wp2_with (at_builtin; refine wpList_append_own _ rfl _ _ 27 rfl (w.heap.size + 1) 3 i0 _ 1 8 Tryz.underlying27 hi hz0 hz1 hz2 rfl (by decide) _ _ _ rfl (World.ownsRow.alloc HO2.out _) ⟨_, 0, none⟩ 1 1 [.int .i64 (t : Int)] rfl rfl (news1 _ _ _) (one1 _) (by simp only [maxLen]; omega) (by omega) (by simp; omega) ?_)
          intro v6 w6 hown6 hg6 _
          have HX6 : Hid (Box w n s w6) := Lib.hid (by
            have hbx := HB2.out.alloc (.cells #[.int .i64 (t : Int)] 3)
            refine hbx.block (hg6.block _ (by simp; omega) (fun e => ?_)) (hbx.2.2.grown hg6 (by simp; omega) (fun q hq => by have := (World.ownsRow.lt HO2.out q hq).1; omega))
            have := (World.ownsRow.lt HO2.out _ e.symm).1
            omega)
          have HO6 : Hid (OwnsZ w6 (w.heap.size + 1) v6 (zl (ct (x + 1)))) := Lib.hid (by
            have := ownsZ_snoc (ys := [(t : Int)]) hown6
            rw [HTX.out, zlS_snoc, ← HTC.out]
            exact this)
          clear hown6 hg6
          go_wp2
          exact ⟨⟨x + 1, by omega, by go_num, HO6, HX6⟩, by simp only [intOf]; omega⟩
    · obtain rfl : x = E := by omega
      obtain ⟨ra, rc, rfl, hnew, -⟩ := NewI.New.of_own HO.out
      have hll : (zl (ct x)).length = x := by rw [show (zl (ct x)).length = (ct x).length from List.length_map _]; exact HCL.out x
      rw [hll] at hnew
      have HN := Lib.hid hnew
      clear hnew
      rw [hll]
      go_wp2
      go_ret
      exact ⟨⟨_, _, rfl, new_low HN.out (by omega)⟩, B0⟩
set_option maxHeartbeats 1600000 in
set_option maxRecDepth 100000 in
theorem l10Full_any (E : Nat) (hE : E ≤ 21) (c : Nat → Nat) (hc : ∀ x, c x < 2097152) (T : Nat) (hT : T < 2097152) (a : Option Addr) (cc : Nat) (w : World) (hr : RdL w a (crTo c E)) :
    Calls Tryz.prog 122 #[.slice a E cc, .int .i64 T] w fun e w' => e = .returned (.bool (fullB c E T)) ∧ Below w.heap.size w w' := by
  have HR : Hid (∀ k : Nat, k < E → ∀ W, Below w.heap.size w W → ∃ g, a = some ⟨g, 0, none⟩ ∧ W.cell? ⟨g, k, none⟩ = some (.int .i64 (c k : Nat))) := Lib.hid (fun k hk W hW => by
    obtain ⟨g, h1, h2⟩ := hr.on hW k (by rw [crTo_len]; exact hk)
    rw [crTo_get c hk] at h2
    exact ⟨g, h1, h2⟩)
  have HHA := Lib.hid (fun (k : Nat) (hk : k < 64) W => l6HasE_any T k (by omega) hk W)
  have HFA : Hid (∀ x, x < E → (T.testBit x == (c x &&& T == 0)) = false → fullB c E T = false) := Lib.hid (fun x hx e => by
    cases hf : fullB c E T
    · rfl
    · have := fullB_iff.1 hf x hx
      rw [this] at e
      simp at e)
  have HTR : Hid ((∀ x, x < E → (T.testBit x == (c x &&& T == 0)) = true) → fullB c E T = true) := Lib.hid (fun e => fullB_iff.2 fun x hx => eq_of_beq (e x hx))
  have HAND := Lib.hid (fun x => bits_andE (c x) T (hc x) hT)
  generalize fullB c E T = ans at HFA HTR ⊢
  clear hr
  go_enter Tryz.func122, Tryz.ntmps122
  go_wp2
  go_loopw [5] (fun xv wr => ∃ x : Nat, x ≤ E ∧ xv = .int .i64 x ∧ Hid (∀ y, y < x → (T.testBit y == (c y &&& T == 0)) = true) ∧ Hid (Below w.heap.size w wr)) (fun xv _ => E - (intOf xv).toNat)
  case atStart => exact ⟨0, Nat.zero_le _, rfl, Lib.hid (fun y hy => by omega), Lib.hid (Below.refl _ _)⟩
  case round =>
    obtain ⟨x, hx, rfl, HALL, HB⟩ := hrel
    by_cases hlt : x < E
    · obtain ⟨g, rfl, hcell⟩ := HR.out x hlt wr HB.out
      have HA := Lib.hid (HHA.out x (by omega))
      have HF := Lib.hid (HFA.out x hlt)
      have hand := HAND.out x
      have HNX : Hid ((T.testBit x == (c x &&& T == 0)) = true → ∀ y, y < x + 1 → (T.testBit y == (c y &&& T == 0)) = true) := Lib.hid (fun e y hy => by
        rcases (by omega : y < x ∨ y = x) with hl | rfl
        · exact HALL.out y hl
        · exact e)
      generalize hbx : T.testBit x = bx at HA HF HNX
      have hz : ((((c x &&& T : Nat) : Int)) == 0) = (c x &&& T == 0) := by rw [Bool.eq_iff_iff, beq_iff_eq, beq_iff_eq]; omega
      generalize hzz : (c x &&& T == 0) = z at hz HF HNX
      generalize (c x &&& T : Nat) = d at hand hz
      generalize c x = cx at hcell hand
      clear hbx hzz
      cases bx
      · cases z
        · have HN2 := Lib.hid (HNX.out rfl)
          go_wp2
          go_quiet ((go_at_call 91; exact (HA.out _).mono fun _ _ h => ⟨h.1, _, h.2.symm⟩))
          go_wp2
          exact ⟨⟨x + 1, by omega, by go_num, HN2, Lib.hid (by first | exact HB.out | exact HB.out.drew | exact drewN_below HB.out _)⟩, by simp only [intOf]; omega⟩
        · have HR2 := Lib.hid (HF.out rfl)
          go_wp2
          go_quiet ((go_at_call 91; exact (HA.out _).mono fun _ _ h => ⟨h.1, _, h.2.symm⟩))
          go_wp2
          go_ret
          exact ⟨ret_bool HR2.out.symm, by first | exact HB.out | exact HB.out.drew | exact drewN_below HB.out _⟩
      · cases z
        · have HR2 := Lib.hid (HF.out rfl)
          go_wp2
          go_quiet ((go_at_call 91; exact (HA.out _).mono fun _ _ h => ⟨h.1, _, h.2.symm⟩))
          go_wp2
          go_ret
          exact ⟨ret_bool HR2.out.symm, by first | exact HB.out | exact HB.out.drew | exact drewN_below HB.out _⟩
        · have HN2 := Lib.hid (HNX.out rfl)
          go_wp2
          go_quiet ((go_at_call 91; exact (HA.out _).mono fun _ _ h => ⟨h.1, _, h.2.symm⟩))
          go_wp2
          exact ⟨⟨x + 1, by omega, by go_num, HN2, Lib.hid (by first | exact HB.out | exact HB.out.drew | exact drewN_below HB.out _)⟩, by simp only [intOf]; omega⟩
    · obtain rfl : x = E := by omega
      have HR2 := Lib.hid (HTR.out HALL.out)
      go_wp2
      go_ret
      exact ⟨ret_bool HR2.out.symm, HB.out⟩
end Go.Proofs.YtinlnafkmoabbaaGreatDoor.Sg
/- All triangulations, as spec lists them: l10All, l10Fits, IsTriangulation, Triangulations. -/
namespace Go.Proofs.YtinlnafkmoabbaaGreatDoor.Sg
open Go.RowKit Pt NewI
theorem zl_app (L M : List Nat) : zl (L ++ M) = zl L ++ zl M := by unfold zl; rw [List.map_append]
theorem allT_len (c : Nat → Nat) (E : Nat) : ∀ f T, (allT c E f T).length ≤ 2 ^ f
  | 0, T => by
    unfold allT
    split <;> simp
  | f + 1, T => by
    have a := allT_len c E f T
    have b := allT_len c E f (T + 2 ^ f)
    have p : 2 ^ (f + 1) = 2 * 2 ^ f := by rw [Nat.pow_succ]; omega
    have p0 := Nat.pow_pos (n := f) (show 0 < 2 by omega)
    unfold allT
    rw [List.length_append]
    split <;> split <;> (try simp only [List.length_nil]) <;> omega
/-- A list of numbers in blocks ahead of B. -/
def RdB (W : World) (B : Nat) (a : Option Addr) (L : List Nat) : Prop := ∀ k : Nat, k < L.length → ∃ g, a = some ⟨g, 0, none⟩ ∧ g < B ∧ W.cell? ⟨g, k, none⟩ = some (.int .i64 (L.getD k 0 : Nat))
theorem RdB.on {W W' : World} {B : Nat} {a : Option Addr} {L : List Nat} (h : RdB W B a L) (hb : Below B W W') : RdB W' B a L := fun k hk => by
  obtain ⟨g, h1, h2, h3⟩ := h k hk
  exact ⟨g, h1, h2, by rw [World.cell?_of_block (a := ⟨g, k, none⟩) (hb.block g h2)]; exact h3⟩
theorem RdB.rd {W : World} {B : Nat} {a : Option Addr} {L : List Nat} (h : RdB W B a L) : RdL W a L := fun k hk => by
  obtain ⟨g, h1, -, h3⟩ := h k hk
  exact ⟨g, h1, h3⟩
theorem rdB_new {W : World} {lo hi : Nat} {a : Option Addr} {L : List Nat} (h : NewI.New W lo hi a (zl L).length (zc (zl L))) (_hh : hi ≤ W.heap.size) : RdB W W.heap.size a L := fun k hk => by
  obtain ⟨g, h1, h2⟩ := rdL_new h k hk
  exact ⟨g, h1, Kit.cell_lt h2, h2⟩
/-- What a call of l10All does. -/
def AllOk (c : Nat → Nat) (E : Nat) (a : Option Addr) (cc f : Nat) : Prop := ∀ (x : Int), x = (f : Int) - 1 → ∀ (T : Nat), T + 2 ^ f ≤ 2 ^ E → ∀ (B : Nat) (v : Value) (zs : List Int) (W : World), RdB W B a (crTo c E) → OwnsZ W B v zs → B ≤ W.heap.size → zs.length + 2 ^ f ≤ 4194304 →
  Calls Tryz.prog 116 #[.slice a E cc, .int .i64 x, .int .i64 T, v] W fun e w' => ∃ v', e = .returned v' ∧ OwnsZ w' B v' (zs ++ zl (allT c E f T)) ∧ Below B W w'
set_option maxHeartbeats 1600000 in
set_option maxRecDepth 100000 in
theorem all_zero (E : Nat) (hE : E ≤ 21) (c : Nat → Nat) (hc : ∀ x, c x < 2097152) (a : Option Addr) (cc : Nat) : AllOk c E a cc 0 := by
  intro x hx T hT B v zs w hr ho hB hl
  have hp := Nat.pow_le_pow_right (n := 2) (by omega) hE
  have hx0 : x < 0 := by omega
  clear hx
  have HF := Lib.hid (l10Full_any E hE c hc T (by omega) a cc w hr.rd)
  have HO := Lib.hid ho
  have HE0 : Hid (allT c E 0 T = if fullB c E T = true then [T] else []) := Lib.hid rfl
  obtain ⟨i0, hi, hz0, hz1, hz2⟩ := info_parts infoI
  have hzl : zs.length ≤ 4194304 := by have := Nat.pow_pos (n := 0) (show 0 < 2 by omega); omega
  rw [HE0.out]
  generalize fullB c E T = ful at HF ⊢
  clear hr ho hl hT hp HE0
  cases ful
  · go_enter Tryz.func116, Tryz.ntmps116
    go_wp2_with fail
    refine HF.out.mono ?_
    rintro e w1 ⟨rfl, hb1⟩
    have O1 := Lib.hid (ownsZ_on HO.out hb1)
    have B1 := Lib.hid (hb1.mono hB)
    clear hb1
    go_wp2
    go_ret
    exact ⟨_, rfl, by simpa [zl] using O1.out, B1.out⟩
  · go_enter Tryz.func116, Tryz.ntmps116
    go_wp2_with fail
    refine HF.out.mono ?_
    rintro e w1 ⟨rfl, hb1⟩
    have O1 := Lib.hid (ownsZ_on HO.out hb1)
    have B1 := Lib.hid (hb1.mono hB)
    have hs1 := hb1.size
    clear hb1
    go_wp2_with (at_builtin; refine wpList_append_own _ rfl _ _ 27 rfl B 3 i0 _ 1 8 Tryz.underlying27 hi hz0 hz1 hz2 rfl (by decide) _ _ _ rfl (World.ownsRow.alloc O1.out _) ⟨_, 0, none⟩ 1 1 [.int .i64 (T : Int)] rfl rfl (news1 _ _ _) (one1 _) (by simp only [maxLen]; omega) (by omega) (by simp; omega) ?_)
    intro v6 w6 hown6 hg6 _
    have B6 := Lib.hid ((B1.out.alloc (by omega) (.cells #[.int .i64 (T : Int)] 3)).grown hg6 (by simp; omega) (fun q hq => (World.ownsRow.lt O1.out q hq).1))
    have O6 : Hid (OwnsZ w6 B v6 (zs ++ zl [T])) := Lib.hid (ownsZ_snoc (ys := [(T : Int)]) hown6)
    clear hown6 hg6
    go_wp2
    go_ret
    exact ⟨_, rfl, by simpa using O6.out, B6.out⟩
set_option maxHeartbeats 1600000 in
set_option maxRecDepth 100000 in
theorem all_succ (E : Nat) (hE : E ≤ 21) (c : Nat → Nat) (hc : ∀ x, c x < 2097152) (a : Option Addr) (cc f : Nat) (hf : f < E) (HR : AllOk c E a cc f) : AllOk c E a cc (f + 1) := by
  intro x hx T hT B v zs w hr ho hB hl
  obtain rfl : x = f := by omega
  clear hx
  have hp := Nat.pow_le_pow_right (n := 2) (by omega) hE
  have p2 : 2 ^ (f + 1) = 2 * 2 ^ f := by rw [Nat.pow_succ]; omega
  have HC : Hid (∀ W, Below B w W → RdB W B a (crTo c E)) := Lib.hid (fun W hW => hr.on hW)
  obtain ⟨g, rfl, hgB, hcell⟩ := hr f (by rw [crTo_len]; exact hf)
  rw [crTo_get c hf] at hcell
  have hgs : g < w.heap.size := by omega
  have HG : Hid (∀ W, Below B w W → W.cell? ⟨g, f, none⟩ = some (.int .i64 (c f : Nat))) := Lib.hid (fun W hW => by rw [World.cell?_of_block (a := ⟨g, f, none⟩) (hW.block g hgB)]; exact hcell)
  have HO := Lib.hid ho
  have hl1 := allT_len c E f T
  have p0 := Nat.pow_pos (n := f) (show 0 < 2 by omega)
  have H1 : Hid (∀ v zs W, RdB W B (some ⟨g, 0, none⟩) (crTo c E) → OwnsZ W B v zs → B ≤ W.heap.size → zs.length + 2 ^ f ≤ 4194304 → Calls Tryz.prog 116 #[.slice (some ⟨g, 0, none⟩) E cc, .int .i64 ((f : Int) - 1), .int .i64 T, v] W fun e w' => ∃ v', e = .returned v' ∧ OwnsZ w' B v' (zs ++ zl (allT c E f T)) ∧ Below B W w') := Lib.hid (fun v zs W h1 h2 h3 h4 => HR ((f : Int) - 1) rfl T (by omega) B v zs W h1 h2 h3 h4)
  have H2 : Hid (∀ v zs W, RdB W B (some ⟨g, 0, none⟩) (crTo c E) → OwnsZ W B v zs → B ≤ W.heap.size → zs.length + 2 ^ f ≤ 4194304 → Calls Tryz.prog 116 #[.slice (some ⟨g, 0, none⟩) E cc, .int .i64 ((f : Int) - 1), .int .i64 ((T : Int) + ((2 ^ f : Nat) : Int)), v] W fun e w' => ∃ v', e = .returned v' ∧ OwnsZ w' B v' (zs ++ zl (allT c E f (T + 2 ^ f))) ∧ Below B W w') := Lib.hid (fun v zs W h1 h2 h3 h4 => by
    have := HR ((f : Int) - 1) rfl (T + 2 ^ f) (by omega) B v zs W h1 h2 h3 h4
    rw [show ((T + 2 ^ f : Nat) : Int) = (T : Int) + ((2 ^ f : Nat) : Int) by omega] at this
    exact this)
  have HAL : Hid (allT c E (f + 1) T = (if (c f == 0) = true then [] else allT c E f T) ++ (if (c f &&& T == 0) = true then allT c E f (T + 2 ^ f) else [])) := Lib.hid rfl
  rw [HAL.out]
  have hand := bits_andE (c f) T (hc f) (by omega)
  have hz : ((((c f &&& T : Nat) : Int)) == 0) = (c f &&& T == 0) := by rw [Bool.eq_iff_iff, beq_iff_eq, beq_iff_eq]; omega
  have hz2 : ((((c f : Nat) : Int)) == 0) = (c f == 0) := by rw [Bool.eq_iff_iff, beq_iff_eq, beq_iff_eq]; omega
  have hz3 : ((((c f : Nat) : Int)) != 0) = !(c f == 0) := by show (!_) = _; rw [hz2]
  obtain ⟨wa, hP⟩ := shl_edge f (by omega)
  have hTP : T + 2 ^ f < 4194304 := by omega
  generalize allT c E f T = L1 at H1 hl1 ⊢
  generalize allT c E f (T + 2 ^ f) = L2 at H2 ⊢
  have hz4 : (c f == 0) = true → (c f &&& T == 0) = true := fun e => by rw [eq_of_beq e, Nat.zero_and]; rfl
  generalize hv1 : (c f == 0) = z1 at hz2 hz3 hz4 ⊢
  generalize hv2 : (c f &&& T == 0) = z2 at hz hz4 ⊢
  generalize (c f &&& T : Nat) = d at hand hz
  generalize c f = cx at HG hand hz2 hz3
  generalize (2 : Nat) ^ f = P at H1 H2 hl1 p0 wa hP hTP hl p2
  have hlz : zs.length + P ≤ 4194304 := by omega
  have hl2 : (zs ++ zl L1).length + P ≤ 4194304 := by rw [List.length_append, show (zl L1).length = L1.length from List.length_map _]; omega
  have HB0 := Lib.hid (Below.refl B w)
  clear hv1 hv2 hr ho hcell hT hp HR HAL p2 hl
  cases z1
  · clear hz4
    replace hz3 : (((cx : Nat) : Int) != 0) = true := hz3
    cases z2
    · have h0 := HG.out _ HB0.out
      go_enter Tryz.func116, Tryz.ntmps116
      go_wp2_with fail
      refine (H1.out _ zs _ (HC.out _ HB0.out) HO.out hB hlz).mono ?_
      rintro e w1 ⟨v1, rfl, ho1, hb1⟩
      have O1 := Lib.hid ho1
      have B1 := Lib.hid hb1
      have h1 := HG.out _ hb1
      clear ho1 hb1 h0
      go_wp2
      go_ret
      exact ⟨_, rfl, by simpa using O1.out, B1.out⟩
    · have h0 := HG.out _ HB0.out
      go_enter Tryz.func116, Tryz.ntmps116
      go_wp2_with fail
      refine (H1.out _ zs _ (HC.out _ HB0.out) HO.out hB hlz).mono ?_
      rintro e w1 ⟨v1, rfl, ho1, hb1⟩
      have O1 := Lib.hid ho1
      have B1 := Lib.hid hb1
      have h1 := HG.out _ hb1
      have hs1 := hb1.size
      clear ho1 hb1 h0
      go_wp2_with fail
      refine (H2.out _ _ _ (HC.out _ B1.out) O1.out (by omega) hl2).mono ?_
      rintro e w2 ⟨v2, rfl, ho2, hb2⟩
      have O2 := Lib.hid ho2
      have B2 := Lib.hid (B1.out.trans hb2)
      clear ho2 hb2
      go_wp2
      go_ret
      exact ⟨_, rfl, by have h := O2.out; rw [List.append_assoc, ← zl_app] at h; exact h, B2.out⟩
  · obtain rfl : z2 = true := hz4 rfl
    replace hz3 : (((cx : Nat) : Int) != 0) = false := hz3
    clear hz4
    have h0 := HG.out _ HB0.out
    go_enter Tryz.func116, Tryz.ntmps116
    go_wp2_with fail
    refine (H2.out _ zs _ (HC.out _ HB0.out) HO.out hB hlz).mono ?_
    rintro e w1 ⟨v1, rfl, ho1, hb1⟩
    have O1 := Lib.hid ho1
    have B1 := Lib.hid hb1
    clear ho1 hb1 h0
    go_wp2
    go_ret
    exact ⟨_, rfl, by simpa using O1.out, B1.out⟩
theorem l10All_any (E : Nat) (hE : E ≤ 21) (c : Nat → Nat) (hc : ∀ x, c x < 2097152) (a : Option Addr) (cc : Nat) : ∀ f, f ≤ E → AllOk c E a cc f
  | 0, _ => all_zero E hE c hc a cc
  | f + 1, h => all_succ E hE c hc a cc f h (l10All_any E hE c hc a cc f (by omega))
/-- The crossing sets of order signs. -/
def cS (n : Nat) (s : List UInt8) : Nat → Nat := crC (sgS n s) n
theorem cS_lt {n : Nat} (h7 : n ≤ 7) (s : List UInt8) (x : Nat) : cS n s x < 2097152 := setN_ltT _ (eN_bd n (by omega))
theorem crTo_cS {n : Nat} {s : List UInt8} (h : aciB n s = true) : crTo (crS (sgnF (lookS n s)) n) (eN n) = crTo (cS n s) (eN n) := by
  unfold crTo
  exact List.map_congr_left fun x hx => crS_crC h (List.mem_range.1 hx)
theorem specPairs (n : Nat) (s : ByteArray) (h : aciB n s.data.toList = true) (w : World) :
    Calls Tryz.prog 114 #[sg n s] w fun e w' => (∃ a c, e = .returned (.slice a (eN n) c) ∧ RdB w' w'.heap.size a (crTo (cS n s.data.toList) (eN n))) ∧ Below w.heap.size w w' := by
  refine (l10Pairs_any n s h w).mono ?_
  rintro e w' ⟨⟨a, c, rfl, hn⟩, hb⟩
  refine ⟨⟨a, c, rfl, ?_⟩, hb⟩
  rw [crTo_cS h] at hn
  refine rdB_new (lo := w.heap.size) (hi := w'.heap.size) ?_ (Nat.le_refl _)
  rw [show (zl (crTo (cS n s.data.toList) (eN n))).length = eN n by rw [show (zl (crTo (cS n s.data.toList) (eN n))).length = (crTo (cS n s.data.toList) (eN n)).length from List.length_map _, crTo_len]]
  exact hn
/-- Can triangulations be asked for? -/
def fitB (n : Int) (s : List UInt8) : Bool := decide (n ≤ 6) && aciB n s
set_option maxHeartbeats 800000 in
set_option maxRecDepth 100000 in
theorem specFits (n : Int) (s : ByteArray) (hs : s.size ≤ 9223372036854775807) (w : World) :
    Calls Tryz.prog 83 #[sg n s] w fun e w' => e = .returned (.bool (fitB n s.data.toList)) ∧ Below w.heap.size w w' := by
  have HS := Lib.hid (box_made w n s 25)
  have HA := Lib.hid (fun W => specAci n s hs W)
  obtain ⟨x0, x1, xb⟩ := HS.out
  by_cases h6 : n ≤ 6
  · have HE : Hid (fitB n s.data.toList = aciB n s.data.toList) := Lib.hid (by unfold fitB; rw [decide_eq_true h6]; rfl)
    rw [HE.out]
    generalize aciB n s.data.toList = ac at HA ⊢
    clear xb
    go_enter Tryz.func83, Tryz.ntmps83
    go_wp2_with fail
    refine (HA.out _).mono ?_
    rintro e w1 ⟨rfl, hb1⟩
    have B1 := Lib.hid (HS.out.on hb1).2.2
    clear hb1 x0 x1
    go_wp2
    go_ret
    exact ⟨rfl, B1.out⟩
  · have HE : Hid (fitB n s.data.toList = false) := Lib.hid (by unfold fitB; rw [decide_eq_false h6]; rfl)
    rw [HE.out]
    go_enter Tryz.func83, Tryz.ntmps83
    go_wp2
    go_ret
    exact ⟨rfl, xb⟩
/-- What IsTriangulation answers. -/
def itB (n : Int) (s : List UInt8) (T : Int) : Bool := fitB n s && (inB T 0 (allZ n) && fullB (cS n.toNat s) (eN n.toNat) T.toNat)
theorem fitB_n {n : Int} {s : List UInt8} (h : fitB n s = true) : aciB n s = true ∧ n ≤ 6 := by
  unfold fitB at h
  rw [Bool.and_eq_true, decide_eq_true_eq] at h
  exact ⟨h.2, h.1⟩
theorem allZ_nat6 {n : Nat} (h3 : 3 ≤ n) (h6 : n ≤ 6) : ∃ K : Nat, allZ n = K ∧ K < 2097152 ∧ K + 1 = 2 ^ eN n := by
  have h0 := Nat.pow_le_pow_right (n := 2) (by omega) (eN_bd n (by omega))
  have hp := Nat.pow_pos (n := eN n) (show 0 < 2 by omega)
  refine ⟨2 ^ eN n - 1, ?_, by omega, by omega⟩
  unfold allZ
  rw [if_pos (inB_yes (by omega) (by omega)), Int.toNat_natCast]
set_option maxHeartbeats 1600000 in
set_option maxRecDepth 100000 in
theorem specIsTri (n : Int) (s : ByteArray) (hs : s.size ≤ 9223372036854775807) (T : Int) (w : World) :
    Calls Tryz.prog 66 #[sg n s, .int .i64 T] w fun e w' => e = .returned (.bool (itB n s.data.toList T)) ∧ Below w.heap.size w w' := by
  have HS := Lib.hid (box_made w n s 25)
  have HA := Lib.hid (fun W => specFits n s hs W)
  obtain ⟨x0, x1, -⟩ := HS.out
  cases h : fitB n s.data.toList
  · have HE : Hid (itB n s.data.toList T = false) := Lib.hid (by unfold itB; rw [h]; rfl)
    rw [HE.out]
    rw [h] at HA
    clear h HE
    go_enter Tryz.func66, Tryz.ntmps66
    go_wp2_with fail
    refine (HA.out _).mono ?_
    rintro e w1 ⟨rfl, hb1⟩
    have B1 := Lib.hid (HS.out.on hb1).2.2
    clear hb1 x0 x1
    go_wp2
    go_ret
    exact ⟨rfl, B1.out⟩
  · obtain ⟨hac, h6⟩ := fitB_n h
    obtain ⟨h3, -⟩ := aciB_n hac
    obtain ⟨m, rfl⟩ : ∃ m : Nat, n = m := ⟨n.toNat, by omega⟩
    have HAE := Lib.hid (fun W => specAllEdges (m : Int) W)
    obtain ⟨K, hK, hKb, hK2⟩ := allZ_nat6 (n := m) (by omega) (by omega)
    rw [hK] at HAE
    have HLB := Lib.hid (fun W => l1In_any T 0 (K : Int) W)
    rw [h] at HA
    cases hin : inB T 0 (K : Int)
    · have HE : Hid (itB m s.data.toList T = false) := Lib.hid (by unfold itB; rw [h, hK, hin]; rfl)
      rw [HE.out]
      rw [hin] at HLB
      clear h hin HE hK hK2 hac
      go_enter Tryz.func66, Tryz.ntmps66
      go_wp2_with fail
      refine (HA.out _).mono ?_
      rintro e w1 ⟨rfl, hb1⟩
      have X1 := Lib.hid (HS.out.on hb1)
      clear hb1 x0 x1
      obtain ⟨x0, x1, B1⟩ := X1.out
      go_wp2_with fail
      refine (HAE.out _).mono ?_
      rintro e w' ⟨rfl, rfl⟩
      go_wp2_with fail
      refine (HLB.out _).mono ?_
      rintro e w' ⟨rfl, rfl⟩
      go_wp2
      go_ret
      exact ⟨rfl, B1⟩
    · obtain ⟨t0, t1⟩ := inB_mem hin
      obtain ⟨T, rfl⟩ : ∃ t : Nat, T = t := ⟨T.toNat, by omega⟩
      have HE : Hid (itB m s.data.toList T = fullB (cS m s.data.toList) (eN m) T) := Lib.hid (by unfold itB; rw [h, hK, hin]; simp)
      rw [HE.out]
      have HP := Lib.hid (fun W => specPairs m s hac W)
      have HF := Lib.hid (fun a cc W hr => l10Full_any (eN m) (eN_bd m (by omega)) (cS m s.data.toList) (cS_lt (by omega) s.data.toList) T (by omega) a cc W hr)
      generalize fullB (cS m s.data.toList) (eN m) T = ans at HF ⊢
      generalize cS m s.data.toList = c at HP HF
      generalize eN m = E at HP HF hK2
      rw [hin] at HLB
      clear h hin HE hK hK2 hac
      go_enter Tryz.func66, Tryz.ntmps66
      go_wp2_with fail
      refine (HA.out _).mono ?_
      rintro e w1 ⟨rfl, hb1⟩
      have X1 := Lib.hid (HS.out.on hb1)
      clear hb1 x0 x1
      obtain ⟨x0, x1, B1⟩ := X1.out
      go_wp2_with fail
      refine (HAE.out _).mono ?_
      rintro e w' ⟨rfl, rfl⟩
      go_wp2_with fail
      refine (HLB.out _).mono ?_
      rintro e w' ⟨rfl, rfl⟩
      go_wp2_with fail
      refine (HP.out _).mono ?_
      rintro e w2 ⟨⟨a, cc, rfl, hr⟩, hb2⟩
      have R2 := Lib.hid hr.rd
      have B2 := Lib.hid (B1.trans (hb2.mono B1.size))
      clear hr hb2 x0 x1
      go_wp2_with fail
      refine (HF.out _ _ _ R2.out).mono ?_
      rintro e w3 ⟨rfl, hb3⟩
      have B3 := Lib.hid (B2.out.trans (hb3.mono B2.out.size))
      clear hb3
      go_wp2
      go_ret
      exact ⟨rfl, B3.out⟩
/-- What Triangulations answers. -/
def triZ (n : Int) (s : List UInt8) : List Nat := if fitB n s = true then triL (cS n.toNat s) (eN n.toNat) else []
set_option maxHeartbeats 1600000 in
set_option maxRecDepth 100000 in
theorem specTris (n : Int) (s : ByteArray) (hs : s.size ≤ 9223372036854775807) (w : World) :
    Calls Tryz.prog 60 #[sg n s] w fun e w' => Got w.heap.size (zl (triZ n s.data.toList)) e w' ∧ Below w.heap.size w w' := by
  have HS := Lib.hid (box_made w n s 25)
  have HA := Lib.hid (fun W => specFits n s hs W)
  obtain ⟨x0, x1, -⟩ := HS.out
  cases h : fitB n s.data.toList
  · have HE : Hid (triZ n s.data.toList = []) := Lib.hid (by unfold triZ; rw [h]; rfl)
    rw [HE.out]
    rw [h] at HA
    clear h HE
    go_enter Tryz.func60, Tryz.ntmps60
    go_wp2_with fail
    refine (HA.out _).mono ?_
    rintro e w1 ⟨rfl, hb1⟩
    have B1 := Lib.hid (HS.out.on hb1).2.2
    have B2 := Lib.hid (B1.out.alloc B1.out.size (.cells #[] 3))
    clear hb1 x0 x1
    go_wp2
    go_ret
    exact ⟨⟨_, _, rfl, .inl rfl⟩, B2.out⟩
  · obtain ⟨hac, h6⟩ := fitB_n h
    obtain ⟨h3, -⟩ := aciB_n hac
    obtain ⟨m, rfl⟩ : ∃ m : Nat, n = m := ⟨n.toNat, by omega⟩
    have HE : Hid (triZ m s.data.toList = allT (cS m s.data.toList) (eN m) (eN m) 0) := Lib.hid (by unfold triZ triL; rw [if_pos h, Int.toNat_natCast])
    rw [HE.out]
    have hE := eN_bd m (by omega)
    have HP := Lib.hid (fun W => specPairs m s hac W)
    have HAL := Lib.hid (fun a cc => l10All_any (eN m) hE (cS m s.data.toList) (cS_lt (by omega) s.data.toList) a cc (eN m) (Nat.le_refl _))
    have hpE := Nat.pow_le_pow_right (n := 2) (by omega) hE
    rw [h] at HA
    generalize cS m s.data.toList = c at HP HAL ⊢
    generalize eN m = E at HP HAL hE hpE ⊢
    have wE : IntKind.i64.wrap ((E : Int) - 1) = (E : Int) - 1 := IntWalk.i64_in _ (by omega)
    clear h HE hac
    go_enter Tryz.func60, Tryz.ntmps60
    go_wp2_with fail
    refine (HA.out _).mono ?_
    rintro e w1 ⟨rfl, hb1⟩
    have X1 := Lib.hid (HS.out.on hb1)
    clear hb1 x0 x1
    obtain ⟨x0, x1, B1⟩ := X1.out
    go_wp2_with fail
    refine (HP.out _).mono ?_
    rintro e w2 ⟨⟨a, cc, rfl, hr⟩, hb2⟩
    have B2 := Lib.hid (B1.trans (hb2.mono B1.size))
    have HO0 : Hid (OwnsZ (w2.alloc (.cells #[] 3)) w2.heap.size (.slice (some ⟨w2.heap.size, 0, none⟩) 0 0) []) := Lib.hid (World.ownsRow_made (base := w2.heap.size) (e := 3) (size := 1) w2 #[] 0 (Nat.le_refl _) (by decide) rfl)
    have HB0 : Hid (Below w2.heap.size w2 (w2.alloc (.cells #[] 3))) := Lib.hid ((Below.refl _ _).alloc (Nat.le_refl _) _)
    have HR := Lib.hid (hr.on HB0.out)
    have hsz : w2.heap.size ≤ (w2.alloc (.cells #[] 3)).heap.size := by simp
    clear hr hb2 x0 x1
    go_wp2_with fail
    refine (HAL.out _ _ ((E : Int) - 1) rfl 0 (by omega) w2.heap.size _ [] _ HR.out HO0.out hsz (by simp only [List.length_nil]; omega)).mono ?_
    rintro e w3 ⟨v, rfl, ho, hb3⟩
    obtain ⟨ra, rc, rfl, hnew, -⟩ := NewI.New.of_own ho
    have HN := Lib.hid hnew
    have B3 := Lib.hid (B2.out.trans ((HB0.out.trans hb3).mono B2.out.size))
    have hws := B2.out.size
    clear ho hb3 hnew
    go_wp2
    go_ret
    exact ⟨⟨_, _, rfl, new_low (by simpa using HN.out) hws⟩, B3.out⟩
end Go.Proofs.YtinlnafkmoabbaaGreatDoor.Sg
