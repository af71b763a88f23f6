/- Several texts in one: TrPairs, TrAll. -/
import Derived.Test.YtinlnafkmoabbaaDoorMgKs
import Derived.Test.YtinlnafkmoabbaaDoorMgTb
import Derived.Test.YtinlnafkmoabbaaDoorLawInts
/- Triangulations, as spec tells them: l10Pairs, l10Full, l10Fits, IsTriangulation. -/
namespace Go.Proofs.YtinlnafkmoabbaaDoor.Sg
open Go.RowKit Pt NewI
/-- The set of edges that cross edge x, as the circuits tell it. -/
def crS (F : Int → Int → Int → Int) (n x : Nat) : Nat := setN (fun y => crE F n (x, y)) (eN n)
theorem crS_crC {n : Nat} {s : List UInt8} (h : aciB n s = true) {x : Nat} (hx : x < eN n) : crS (sgnF (lookS n s)) n x = crC (sgS n s) n x := by
  have h7 := (aciB_n h).2
  refine setN_congr fun y hy => ?_
  obtain ⟨a1, a2⟩ := edL_lt (n := n) (by omega) hx
  obtain ⟨b1, b2⟩ := edL_lt (n := n) (by omega) hy
  unfold crE crG crsF
  dsimp only
  generalize edL n x = u at *
  generalize edL n y = v at *
  obtain ⟨a, b⟩ := u
  obtain ⟨c, d⟩ := v
  dsimp only at *
  by_cases hs : a = c ∨ a = d ∨ b = c ∨ b = d
  · have e : (a == c || (a == d || (b == c || b == d))) = true := by simpa using hs
    rw [e]; rfl
  · have e := crA_iff h (a := a) (b := b) (c := c) (d := d) (by unfold Dis; omega)
    have e2 : crA (sgnF (lookS n s)) a b c d = (sgS n s a c d == -(sgS n s b c d) && sgS n s a b d == -(sgS n s a b c)) := by
      rw [Bool.eq_iff_iff, e, Bool.and_eq_true, beq_iff_eq, beq_iff_eq]
      rfl
    rw [e2]
/-- A list of numbers in memory, to be read. -/
def RdL (W : World) (a : Option Addr) (L : List Nat) : Prop := ∀ k : Nat, k < L.length → ∃ g, a = some ⟨g, 0, none⟩ ∧ W.cell? ⟨g, k, none⟩ = some (.int .i64 (L.getD k 0 : Nat))
theorem RdL.on {W W' : World} {a : Option Addr} {L : List Nat} (h : RdL W a L) (hb : Below W.heap.size W W') : RdL W' a L := fun k hk => by
  obtain ⟨g, h1, h2⟩ := h k hk
  exact ⟨g, h1, by rw [hb.cell (Kit.cell_lt h2)]; exact h2⟩
theorem rdL_new {W : World} {lo hi : Nat} {a : Option Addr} {L : List Nat} (h : NewI.New W lo hi a (zl L).length (zc (zl L))) : RdL W a L := fun k hk => by
  have hl : (zl L).length = L.length := List.length_map _
  obtain ⟨b, h1, -, h2⟩ := NewI.New.get h k (by omega)
  refine ⟨b, h1, ?_⟩
  rw [h2]
  congr 2
  unfold zl
  rw [List.getElem_map, List.getD_eq_getElem?_getD, List.getElem?_eq_getElem hk]
  rfl
/-- The crossing sets of the edges ahead of x. -/
def crTo (c : Nat → Nat) (x : Nat) : List Nat := (List.range x).map c
theorem crTo_succ (c : Nat → Nat) (x : Nat) : crTo c (x + 1) = crTo c x ++ [c x] := by unfold crTo; rw [List.range_succ, List.map_append]; rfl
theorem crTo_len (c : Nat → Nat) (x : Nat) : (crTo c x).length = x := by unfold crTo; rw [List.length_map, List.length_range]
theorem crTo_get (c : Nat → Nat) {x k : Nat} (h : k < x) : (crTo c x).getD k 0 = c k := by
  unfold crTo
  rw [List.getD_eq_getElem?_getD, List.getElem?_map, List.getElem?_range h]
  rfl
theorem zlS_snoc (L : List Nat) (x : Nat) : zl (L ++ [x]) = zl L ++ [(x : Int)] := by unfold zl; rw [List.map_append]; rfl
theorem setN_ltT (q : Nat → Bool) {k : Nat} (hk : k ≤ 21) : setN q k < 2097152 := Nat.lt_of_lt_of_le (setN_lt q k) (Nat.pow_le_pow_right (n := 2) (by omega) hk)
set_option maxHeartbeats 3200000 in
set_option maxRecDepth 100000 in
theorem l10Pairs_any (n : Nat) (s : ByteArray) (h : aciB n s.data.toList = true) (w : World) :
    Calls Tryd.prog 68 #[sg n s] w fun e w' => (∃ a c, e = .returned (.slice a (eN n) c) ∧ NewI.New w' w.heap.size w'.heap.size a (eN n) (zc (zl (crTo (crS (sgnF (lookS n s.data.toList)) n) (eN n))))) ∧ Below w.heap.size w w' := by
  obtain ⟨h3, h7⟩ := aciB_n h
  have h3 : 3 ≤ n := by omega
  have h7 : n ≤ 7 := by omega
  have har := matB_ar (aciB_mat h)
  have HS := Lib.hid (box_made w n s 31)
  have hsz : (w.alloc (.cells #[.int .i64 n, .string s] 31)).heap.size = w.heap.size + 1 := by simp
  have hE := eN_bd n (by omega)
  have vP : IntKind.i64.wrap ((n : Int) * ((n : Int) - 1)) = ((2 * eN n : Nat) : Int) := by
    rcases (by omega : n = 3 ∨ n = 4 ∨ n = 5 ∨ n = 6 ∨ n = 7) with rfl | rfl | rfl | rfl | rfl <;> decide +kernel
  have HED : Hid (∀ k : Nat, k < eN n → ∀ W, Calls Tryd.prog 38 #[.int .i64 n, .int .i64 k] W fun e w' => e = .returned (.tuple #[.int .i64 ((edL n k).1 : Nat), .int .i64 ((edL n k).2 : Nat)]) ∧ W = w') := Lib.hid (fun k hk W => by
    have := specEdgeAt n k W
    rw [edZ_in h3 h7 hk] at this
    exact this)
  have HCRF : Hid (∀ (x y : Nat), x < eN n → y < eN n → ∀ W, Calls Tryd.prog 77 #[sg n s, .int .i64 ((edL n x).1 : Nat), .int .i64 ((edL n x).2 : Nat), .int .i64 ((edL n y).1 : Nat), .int .i64 ((edL n y).2 : Nat)] W fun e w' => e = .returned (.bool (crE (sgnF (lookS n s.data.toList)) n (x, y))) ∧ Below W.heap.size W w') := Lib.hid (fun x y hx hy W => by
    have hx := edL_lt h7 hx
    have hy := edL_lt h7 hy
    exact l9Cross_any n s har (edL n x).1 (edL n x).2 (edL n y).1 (edL n y).2 (by omega) (by omega) (by omega) (by omega) (by omega) (by omega) W)
  obtain ⟨q, hq⟩ : ∃ q : Nat → Nat → Bool, q = fun x y => crE (sgnF (lookS n s.data.toList)) n (x, y) := ⟨_, rfl⟩
  have HQ : Hid (∀ x y, crE (sgnF (lookS n s.data.toList)) n (x, y) = q x y) := Lib.hid (fun x y => by rw [hq])
  have HCS : Hid (∀ x, crS (sgnF (lookS n s.data.toList)) n x = setN (q x) (eN n)) := Lib.hid (fun x => by rw [hq]; rfl)
  generalize crS (sgnF (lookS n s.data.toList)) n = c at HCS ⊢
  have HCT := Lib.hid (crTo_succ c)
  have HCL := Lib.hid (crTo_len c)
  have HC0 : Hid (crTo c 0 = []) := Lib.hid rfl
  generalize crTo c = ct at HCT HCL HC0 ⊢
  have HSS := Lib.hid (fun x => setN_step (q x))
  have HSB := Lib.hid (fun x k (hk : k ≤ 21) => setN_ltT (q x) hk)
  have HS0 : Hid (∀ x, setN (q x) 0 = 0) := Lib.hid (fun _ => rfl)
  generalize eN n = E at hE vP HED HCRF HCS ⊢
  generalize crE (sgnF (lookS n s.data.toList)) n = cr at HCRF HQ
  generalize edL n = ed at HED HCRF
  obtain ⟨i0, hi, hz0, hz1, hz2⟩ := info_parts infoI
  have HO0 : Hid (OwnsZ ((w.alloc (.cells #[.int .i64 n, .string s] 31)).alloc (.cells #[] 3)) (w.heap.size + 1) (.slice (some ⟨w.heap.size + 1, 0, none⟩) 0 0) (zl (ct 0))) := Lib.hid (by
    have := World.ownsRow_made (base := w.heap.size + 1) (e := 3) (size := 1) (w.alloc (.cells #[.int .i64 n, .string s] 31)) #[] 0 (by rw [hsz]; exact Nat.le_refl _) (by decide) rfl
    rw [hsz] at this
    rw [HC0.out]
    exact this)
  have X0 := Lib.hid (HS.out.alloc (.cells #[] 3))
  obtain ⟨x0, x1, -⟩ := HS.out
  clear h har hq
  go_enter Tryd.func68, Tryd.ntmps68
  go_wp2
  go_loopw [3, 4] (fun ov xv wr => ∃ x : Nat, x ≤ E ∧ xv = .int .i64 x ∧ Hid (OwnsZ wr (w.heap.size + 1) ov (zl (ct x))) ∧ Hid (Box w n s wr)) (fun _ c _ => E - (intOf c).toNat)
  case atStart => exact ⟨0, Nat.zero_le _, rfl, HO0, X0⟩
  case round =>
    obtain ⟨x, hx, rfl, HO, HB⟩ := hrel
    rename World => wA
    clear x0 x1
    obtain ⟨c0, c1, B0⟩ := HB.out
    by_cases hlt : x < E
    · have HE1 := Lib.hid (HED.out x hlt)
      have HC := Lib.hid (fun y hy => HCRF.out x y hlt hy)
      have HQX := Lib.hid (HQ.out x)
      have HSX := Lib.hid (HSS.out x)
      have HBX := Lib.hid (HSB.out x)
      have HZX := Lib.hid (HS0.out x)
      have HCX := Lib.hid (HCS.out x)
      have HTX := Lib.hid (HCT.out x)
      have hlx := HCL.out x
      generalize ed x = e1 at HE1 HC
      obtain ⟨ea, eb⟩ := e1
      generalize setN (q x) = st at HSX HBX HZX HCX
      generalize q x = qx at HQX HSX
      go_wp2_with fail
      refine (HE1.out _).mono ?_
      rintro e w' ⟨rfl, rfl⟩
      go_wp2
      go_loopw [7, 8] (fun sv yv wr => ∃ y t : Nat, y ≤ E ∧ sv = .int .i64 t ∧ yv = .int .i64 y ∧ t < 2097152 ∧ Hid (t = st y) ∧ Hid (OwnsZ wr (w.heap.size + 1) _ (zl (ct x))) ∧ Hid (Box w n s wr)) (fun _ c _ => E - (intOf c).toNat)
      case atStart => exact ⟨0, 0, Nat.zero_le _, rfl, rfl, by omega, Lib.hid HZX.out.symm, HO, HB⟩
      case round =>
        obtain ⟨y, t, hy, rfl, rfl, ht, HT, HO2, HB2⟩ := hrel
        clear c0 c1 B0
        obtain ⟨c0, c1, B0⟩ := HB2.out
        by_cases hlt2 : y < E
        · have HE2 := Lib.hid (HED.out y hlt2)
          have HCC := Lib.hid (HC.out y hlt2)
          have HQP := Lib.hid (HQX.out y)
          have HSP := Lib.hid (HSX.out y)
          have hb1 := HBX.out (y + 1) (by omega)
          generalize ed y = e2 at HE2 HCC
          obtain ⟨ec, edd⟩ := e2
          generalize cr (x, y) = rr at HCC HQP
          cases rr
          · have HT2 : Hid (t = st (y + 1)) := Lib.hid (by rw [HSP.out, if_neg (by rw [← HQP.out]; decide)]; exact HT.out)
            go_wp2_with fail
            refine (HE2.out _).mono ?_
            rintro e w' ⟨rfl, rfl⟩
            go_wp2_with fail
            refine (HCC.out _).mono ?_
            rintro e w2 ⟨rfl, hb2⟩
            have X2 := Lib.hid (HB2.out.on hb2)
            have O2 := Lib.hid (ownsZ_on HO2.out hb2)
            clear hb2 c0 c1 B0
            go_wp2
            exact ⟨⟨y + 1, t, by omega, by trivial, by go_num, ht, HT2, O2, X2⟩, by simp only [intOf]; omega⟩
          · obtain ⟨wa, -⟩ := shl_edge y (by omega)
            have HT2 : Hid (t + 2 ^ y = st (y + 1)) := Lib.hid (by rw [HSP.out, if_pos HQP.out.symm, HT.out])
            have ht2 : t + 2 ^ y < 2097152 := by rw [HT2.out]; exact hb1
            generalize (2 : Nat) ^ y = P at wa HT2 ht2
            go_wp2_with fail
            refine (HE2.out _).mono ?_
            rintro e w' ⟨rfl, rfl⟩
            go_wp2_with fail
            refine (HCC.out _).mono ?_
            rintro e w2 ⟨rfl, hb2⟩
            have X2 := Lib.hid (HB2.out.on hb2)
            have O2 := Lib.hid (ownsZ_on HO2.out hb2)
            clear hb2 c0 c1 B0
            go_wp2
            exact ⟨⟨y + 1, t + P, by omega, by go_num, by go_num, ht2, HT2, O2, X2⟩, by simp only [intOf]; omega⟩
        · obtain rfl : y = E := by omega
          have HTC : Hid (t = c x) := Lib.hid (by rw [HCX.out]; exact HT.out)
          have hwr : w.heap.size < wr.heap.size := Kit.cell_lt c0
          have hzl : (zl (ct x)).length ≤ 21 := by rw [show (zl (ct x)).length = (ct x).length from List.length_map _, hlx]; omega
          go_wp2_with (at_builtin; refine wpList_append_own _ rfl _ _ 22 rfl (w.heap.size + 1) 3 i0 _ 1 8 Tryd.underlying22 hi hz0 hz1 hz2 rfl (by decide) _ _ _ rfl (World.ownsRow.alloc HO2.out _) ⟨_, 0, none⟩ 1 1 [.int .i64 (t : Int)] rfl rfl (news1 _ _ _) (one1 _) (by simp only [maxLen]; omega) (by omega) (by simp; omega) ?_)
          intro v6 w6 hown6 hg6 _
          have HX6 : Hid (Box w n s w6) := Lib.hid (by
            have hbx := HB2.out.alloc (.cells #[.int .i64 (t : Int)] 3)
            refine hbx.block (hg6.block _ (by simp; omega) (fun e => ?_)) (hbx.2.2.grown hg6 (by simp; omega) (fun q hq => by have := (World.ownsRow.lt HO2.out q hq).1; omega))
            have := (World.ownsRow.lt HO2.out _ e.symm).1
            omega)
          have HO6 : Hid (OwnsZ w6 (w.heap.size + 1) v6 (zl (ct (x + 1)))) := Lib.hid (by
            have := ownsZ_snoc (ys := [(t : Int)]) hown6
            rw [HTX.out, zlS_snoc, ← HTC.out]
            exact this)
          clear hown6 hg6
          go_wp2
          exact ⟨⟨x + 1, by omega, by go_num, HO6, HX6⟩, by simp only [intOf]; omega⟩
    · obtain rfl : x = E := by omega
      obtain ⟨ra, rc, rfl, hnew, -⟩ := NewI.New.of_own HO.out
      have hll : (zl (ct x)).length = x := by rw [show (zl (ct x)).length = (ct x).length from List.length_map _]; exact HCL.out x
      rw [hll] at hnew
      have HN := Lib.hid hnew
      clear hnew
      rw [hll]
      go_wp2
      go_ret
      exact ⟨⟨_, _, rfl, new_low HN.out (by omega)⟩, B0⟩
end Go.Proofs.YtinlnafkmoabbaaDoor.Sg
/- All triangulations, as spec lists them: l10All, l10Fits, IsTriangulation, Triangulations. -/
namespace Go.Proofs.YtinlnafkmoabbaaDoor.Sg
open Go.RowKit Pt NewI
theorem zl_app (L M : List Nat) : zl (L ++ M) = zl L ++ zl M := by unfold zl; rw [List.map_append]
/-- A list of numbers in blocks ahead of B. -/
def RdB (W : World) (B : Nat) (a : Option Addr) (L : List Nat) : Prop := ∀ k : Nat, k < L.length → ∃ g, a = some ⟨g, 0, none⟩ ∧ g < B ∧ W.cell? ⟨g, k, none⟩ = some (.int .i64 (L.getD k 0 : Nat))
theorem RdB.on {W W' : World} {B : Nat} {a : Option Addr} {L : List Nat} (h : RdB W B a L) (hb : Below B W W') : RdB W' B a L := fun k hk => by
  obtain ⟨g, h1, h2, h3⟩ := h k hk
  exact ⟨g, h1, h2, by rw [World.cell?_of_block (a := ⟨g, k, none⟩) (hb.block g h2)]; exact h3⟩
theorem rdB_new {W : World} {lo hi : Nat} {a : Option Addr} {L : List Nat} (h : NewI.New W lo hi a (zl L).length (zc (zl L))) (_hh : hi ≤ W.heap.size) : RdB W W.heap.size a L := fun k hk => by
  obtain ⟨g, h1, h2⟩ := rdL_new h k hk
  exact ⟨g, h1, Kit.cell_lt h2, h2⟩
/-- The crossing sets of order signs. -/
def cS (n : Nat) (s : List UInt8) : Nat → Nat := crC (sgS n s) n
theorem cS_lt {n : Nat} (h7 : n ≤ 7) (s : List UInt8) (x : Nat) : cS n s x < 2097152 := setN_ltT _ (eN_bd n (by omega))
theorem crTo_cS {n : Nat} {s : List UInt8} (h : aciB n s = true) : crTo (crS (sgnF (lookS n s)) n) (eN n) = crTo (cS n s) (eN n) := by
  unfold crTo
  exact List.map_congr_left fun x hx => crS_crC h (List.mem_range.1 hx)
theorem specPairs (n : Nat) (s : ByteArray) (h : aciB n s.data.toList = true) (w : World) :
    Calls Tryd.prog 68 #[sg n s] w fun e w' => (∃ a c, e = .returned (.slice a (eN n) c) ∧ RdB w' w'.heap.size a (crTo (cS n s.data.toList) (eN n))) ∧ Below w.heap.size w w' := by
  refine (l10Pairs_any n s h w).mono ?_
  rintro e w' ⟨⟨a, c, rfl, hn⟩, hb⟩
  refine ⟨⟨a, c, rfl, ?_⟩, hb⟩
  rw [crTo_cS h] at hn
  refine rdB_new (lo := w.heap.size) (hi := w'.heap.size) ?_ (Nat.le_refl _)
  rw [show (zl (crTo (cS n s.data.toList) (eN n))).length = eN n by rw [show (zl (crTo (cS n s.data.toList) (eN n))).length = (crTo (cS n s.data.toList) (eN n)).length from List.length_map _, crTo_len]]
  exact hn
/-- Can triangulations be asked for? -/
def fitB (n : Int) (s : List UInt8) : Bool := decide (n ≤ 6) && aciB n s
set_option maxHeartbeats 800000 in
set_option maxRecDepth 100000 in
theorem specFits (n : Int) (s : ByteArray) (hs : s.size ≤ 9223372036854775807) (w : World) :
    Calls Tryd.prog 46 #[sg n s] w fun e w' => e = .returned (.bool (fitB n s.data.toList)) ∧ Below w.heap.size w w' := by
  have HS := Lib.hid (box_made w n s 31)
  have HA := Lib.hid (fun W => specAci n s hs W)
  obtain ⟨x0, x1, xb⟩ := HS.out
  by_cases h6 : n ≤ 6
  · have HE : Hid (fitB n s.data.toList = aciB n s.data.toList) := Lib.hid (by unfold fitB; rw [decide_eq_true h6]; rfl)
    rw [HE.out]
    generalize aciB n s.data.toList = ac at HA ⊢
    clear xb
    go_enter Tryd.func46, Tryd.ntmps46
    go_wp2_with fail
    refine (HA.out _).mono ?_
    rintro e w1 ⟨rfl, hb1⟩
    have B1 := Lib.hid (HS.out.on hb1).2.2
    clear hb1 x0 x1
    go_wp2
    go_ret
    exact ⟨rfl, B1.out⟩
  · have HE : Hid (fitB n s.data.toList = false) := Lib.hid (by unfold fitB; rw [decide_eq_false h6]; rfl)
    rw [HE.out]
    go_enter Tryd.func46, Tryd.ntmps46
    go_wp2
    go_ret
    exact ⟨rfl, xb⟩
theorem fitB_n {n : Int} {s : List UInt8} (h : fitB n s = true) : aciB n s = true ∧ n ≤ 6 := by
  unfold fitB at h
  rw [Bool.and_eq_true, decide_eq_true_eq] at h
  exact ⟨h.2, h.1⟩
theorem allZ_nat6 {n : Nat} (h3 : 3 ≤ n) (h6 : n ≤ 6) : ∃ K : Nat, allZ n = K ∧ K < 2097152 ∧ K + 1 = 2 ^ eN n := by
  have h0 := Nat.pow_le_pow_right (n := 2) (by omega) (eN_bd n (by omega))
  have hp := Nat.pow_pos (n := eN n) (show 0 < 2 by omega)
  refine ⟨2 ^ eN n - 1, ?_, by omega, by omega⟩
  unfold allZ
  rw [if_pos (inB_yes (by omega) (by omega)), Int.toNat_natCast]
end Go.Proofs.YtinlnafkmoabbaaDoor.Sg
