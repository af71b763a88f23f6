/- Several texts in one: TiTris, TiFlip. -/
import Derived.Test.YtinlnafkmoabbaaGreatDoorTiCross
import Derived.Test.YtinlnafkmoabbaaGreatDoorShelf
import Derived.Sort.OwnSortedInts
/- impl's IsTriangulation and Triangulations. -/
namespace Go.Proofs.YtinlnafkmoabbaaGreatDoor.Sg
open Go.RowKit Pt NewI
set_option maxHeartbeats 800000 in
set_option maxRecDepth 100000 in
theorem implIsTri (n : Int) (s : ByteArray) (hs : s.size ≤ 9223372036854775807) (T : Int) (_hI : I64 T) (w : World) (hT : Tab w) :
    Calls Tryz.prog 65 #[sg n s, .int .i64 T] w fun e w' => e = .returned (.bool (itB n s.data.toList T)) ∧ Below w.heap.size w w' := by
  have HS := Lib.hid (box_made w n s 25)
  have HC := Lib.hid (crossersOf_any n s hs _ (hT.on HS.out.2.2))
  have HI := Lib.hid (fun v W hv => isTri_is n s.data.toList T v W hv)
  generalize itB n s.data.toList T = z at HI ⊢
  obtain ⟨x0, x1, -⟩ := HS.out
  clear hT
  go_enter Tryz.func65, Tryz.ntmps65
  go_wp2_with fail
  refine HC.out.mono ?_
  rintro e w1 ⟨v, rfl, hv, hb1⟩
  have B1 := Lib.hid (HS.out.on hb1).2.2
  have HV := Lib.hid hv
  clear hb1 hv x0 x1
  go_wp2_with fail
  refine (HI.out v w1 HV.out).mono ?_
  rintro e w' ⟨rfl, rfl⟩
  go_wp2
  go_ret
  exact ⟨rfl, B1.out⟩
/-- The full sets ahead of T. -/
def trisTo (n : Int) (s : List UInt8) (T : Nat) : List Nat := (List.range T).filter fun (x : Nat) => itB n s x
theorem trisTo_succ (n : Int) (s : List UInt8) (T : Nat) : trisTo n s (T + 1) = trisTo n s T ++ if itB n s (T : Nat) = true then [T] else [] := by
  unfold trisTo
  rw [List.range_succ, List.filter_append]
  congr 1
  cases h : itB n s (T : Nat)
  · simp [h]
  · simp [h]
theorem trisTo_len (n : Int) (s : List UInt8) (T : Nat) : (trisTo n s T).length ≤ T := by
  have := List.length_filter_le (fun (x : Nat) => itB n s x) (List.range T)
  rw [List.length_range] at this
  exact this
theorem trisTo_all (n : Int) (s : List UInt8) : trisTo n s (2 ^ eZ n s) = triZ n s := by
  unfold triZ
  split
  · rename_i hf
    have he : eZ n s = eN n.toNat := by unfold eZ; rw [if_pos hf]
    obtain ⟨h, h6⟩ := fitB_n hf
    obtain ⟨h3, -⟩ := aciB_n h
    obtain ⟨m, rfl⟩ : ∃ m : Nat, n = m := ⟨n.toNat, by omega⟩
    rw [he, Int.toNat_natCast]
    have ha : (trisTo m s (2 ^ eN m)).Pairwise (· < ·) := List.pairwise_lt_range.filter _
    have hb := triL_asc (cS m s) (eN m)
    refine List.Perm.eq_of_pairwise (le := fun a b => a < b) (fun a b _ _ h1 h2 => by omega) ha hb ?_
    refine (List.perm_ext_iff_of_nodup (ha.imp fun h => by omega) (hb.imp fun h => by omega)).2 fun T => ?_
    unfold trisTo
    rw [List.mem_filter, List.mem_range, mem_triL]
    constructor
    · rintro ⟨h1, h2⟩
      obtain ⟨m', t', e1, e2, -, -, -, -, h3⟩ := itB_parts h2
      obtain rfl : m = m' := by omega
      obtain rfl : T = t' := by omega
      exact ⟨h3, h1⟩
    · rintro ⟨h1, h2⟩
      exact ⟨h2, itB_mk h (by omega) h2 h1⟩
  · rename_i hf
    have hf : fitB n s = false := by simpa using hf
    unfold trisTo
    rw [List.filter_eq_nil_iff]
    intro x _
    unfold itB
    rw [hf]
    simp
set_option maxHeartbeats 1600000 in
set_option maxRecDepth 100000 in
theorem implTris (n : Int) (s : ByteArray) (hs : s.size ≤ 9223372036854775807) (w : World) (hT : Tab w) :
    Calls Tryz.prog 52 #[sg n s] w fun e w' => Got w.heap.size (zl (triZ n s.data.toList)) e w' ∧ Below w.heap.size w w' := by
  have HS := Lib.hid (box_made w n s 25)
  have HC := Lib.hid (crossersOf_any n s hs _ (hT.on HS.out.2.2))
  have HI := Lib.hid (fun (x : Nat) v W hv => isTri_is n s.data.toList (x : Nat) v W hv)
  have HSU := Lib.hid (trisTo_succ n s.data.toList)
  have HLN := Lib.hid (trisTo_len n s.data.toList)
  have HAL := Lib.hid (trisTo_all n s.data.toList)
  have H0 : Hid (trisTo n s.data.toList 0 = []) := Lib.hid rfl
  have hE := eZ_le n s.data.toList
  have HCV : Hid (∀ w v, CrL w v n s.data.toList → ∃ a cc, v = .slice a (eZ n s.data.toList) cc) := Lib.hid (fun w v ⟨a, cc, h, _⟩ => ⟨a, cc, h⟩)
  generalize eZ n s.data.toList = E at HAL hE HCV
  rw [← HAL.out]
  generalize trisTo n s.data.toList = L at HSU HLN H0 ⊢
  have hP := Nat.pow_le_pow_right (n := 2) (by omega) hE
  have wsh : IntKind.i64.wrap ((2 : Int) ^ E) = ((2 ^ E : Nat) : Int) := (shl_edge E (by omega)).1
  generalize hPe : (2 : Nat) ^ E = P at hP wsh ⊢
  obtain ⟨i0, hi, hz0, hz1, hz2⟩ := info_parts infoI
  obtain ⟨x0, x1, -⟩ := HS.out
  clear hT HAL hPe
  go_enter Tryz.func52, Tryz.ntmps52
  go_wp2_with fail
  refine HC.out.mono ?_
  rintro e w1 ⟨v, rfl, hv, hb1⟩
  have B1 := Lib.hid (HS.out.on hb1).2.2
  obtain ⟨a, cc, rfl⟩ := HCV.out _ _ hv
  have HV := Lib.hid hv
  have HO0 : Hid (OwnsZ w1 w1.heap.size (.slice none 0 0) (zl (L 0))) := Lib.hid (by rw [H0.out]; exact World.ownsRow_nil _ _ _ _)
  clear hb1 hv x0 x1
  go_wp2
  go_loopw [4, 11] (fun vv kv wr => ∃ k : Nat, k ≤ P ∧ kv = .int .i64 k ∧ Hid (OwnsZ wr w1.heap.size vv (zl (L k))) ∧ Hid (L k = [] → vv = .slice none 0 0) ∧ Hid (Below w1.heap.size w1 wr)) (fun _ kv _ => P - (intOf kv).toNat)
  case atStart => exact ⟨0, Nat.zero_le _, rfl, HO0, Lib.hid (fun _ => rfl), Lib.hid (Below.refl _ _)⟩
  case round =>
    obtain ⟨k, hk, rfl, HO, HN, HB⟩ := hrel
    by_cases hlt : k < P
    · have HCL := Lib.hid (HI.out k _ _ (HV.out.on HB.out))
      have hSU := HSU.out k
      have hln := HLN.out k
      have hzl : (zl (L k)).length ≤ 32768 := by rw [zl_length]; omega
      have hwr := HB.out.size
      cases hit : itB n s.data.toList (k : Nat)
      · rw [hit] at HCL
        have HLN2 : Hid (L (k + 1) = L k) := Lib.hid (by rw [hSU, hit]; simp)
        have HO2 : Hid (OwnsZ wr w1.heap.size u4 (zl (L (k + 1)))) := Lib.hid (by rw [HLN2.out]; exact HO.out)
        have HN2 : Hid (L (k + 1) = [] → u4 = .slice none 0 0) := Lib.hid (by rw [HLN2.out]; exact HN.out)
        clear hSU hit hln
        go_wp2_with fail
        refine HCL.out.mono ?_
        rintro e w' ⟨rfl, rfl⟩
        go_wp2
        exact ⟨⟨k + 1, by omega, by go_num, HO2, HN2, HB⟩, by simp only [intOf]; omega⟩
      · rw [hit] at HCL
        have HLN2 : Hid (L (k + 1) = L k ++ [k]) := Lib.hid (by rw [hSU, hit, if_pos rfl])
        clear hSU hit hln
        go_wp2_with fail
        refine HCL.out.mono ?_
        rintro e w' ⟨rfl, rfl⟩
        go_wp2_with (at_builtin; refine wpList_append_own _ rfl (.tmp 17) (.tmp 19) 27 rfl w1.heap.size 3 i0 _ 1 8 Tryz.underlying27 hi hz0 hz1 hz2 rfl (by decide) _ _ _ rfl (World.ownsRow.alloc HO.out _) ⟨_, 0, none⟩ 1 1 [.int .i64 (k : Int)] rfl rfl (news1 _ _ _) (one1 _) (by simp only [maxLen]; omega) (by omega) (by simp; omega) ?_)
        intro v6 w6 hown6 hg6 _
        have HB6 := Lib.hid ((HB.out.alloc hwr (.cells #[.int .i64 (k : Int)] 3)).grown hg6 (by simp; omega) (fun k hk => (World.ownsRow.lt HO.out k hk).1))
        have HO6 : Hid (OwnsZ w6 w1.heap.size v6 (zl (L (k + 1)))) := Lib.hid (by
          have := ownsZ_snoc (ys := [(k : Int)]) hown6
          rw [HLN2.out, zl_snoc]
          exact this)
        clear hown6 hg6
        go_wp2
        exact ⟨⟨k + 1, by omega, by go_num, HO6, Lib.hid (fun e => absurd e (by rw [HLN2.out]; simp)), HB6⟩, by simp only [intOf]; omega⟩
    · obtain rfl : k = P := by omega
      have HA : Hid (∃ a c, u4 = Value.slice a (zl (L k)).length c ∧ NewI.New wr w.heap.size wr.heap.size a (zl (L k)).length (zc (zl (L k)))) := Lib.hid (((ArgZ.of_own HO.out (fun e => HN.out (zl_nil e))).low B1.out.size).new)
      have BB := Lib.hid (B1.out.trans (HB.out.mono B1.out.size))
      clear HO HN
      obtain ⟨a', c', rfl, hn'⟩ := HA.out
      clear HA
      go_wp2
      go_ret
      exact ⟨⟨a', c', rfl, hn'⟩, BB.out⟩
end Go.Proofs.YtinlnafkmoabbaaGreatDoor.Sg
/- impl's flip, FlipEdge, flipsFrom and FlipsFrom. -/
namespace Go.Proofs.YtinlnafkmoabbaaGreatDoor.Sg
open Go.RowKit Pt NewI
theorem unc_lt (c : Nat → Nat) (E T : Nat) : uncN c E T < 2 ^ E := setN_lt _ E
set_option maxHeartbeats 1600000 in
set_option maxRecDepth 100000 in
theorem flip_any (E : Nat) (hE : E ≤ 15) (c : Nat → Nat) (hc : ∀ x, c x < 2097152) (T k : Nat) (hT : T < 2 ^ E) (hk : k < E) (a : Option Addr) (cc : Nat) (w : World) (hr : RdL w a (crTo c E)) :
    Calls Tryz.prog 112 #[.slice a E cc, .int .i64 T, .int .i64 k] w fun e w' => e = .returned (.tuple #[.int .i64 ((flpN c E T k).1 : Nat), .bool (flpN c E T k).2]) ∧ w = w' := by
  have hpE := Nat.pow_le_pow_right (n := 2) (by omega) hE
  have hk2 : 2 ^ k < 2 ^ E := Nat.pow_lt_pow_right (by omega) hk
  have hRE : T ^^^ (T &&& 2 ^ k) < 2 ^ E := Nat.xor_lt_two_pow hT (Nat.and_lt_two_pow T hk2)
  have hOE : othN c E T k < 2 ^ E := Nat.xor_lt_two_pow (unc_lt c E _) (Nat.and_lt_two_pow _ hT)
  obtain ⟨s1, p1⟩ := shl_edge k (by omega)
  obtain ⟨r1, -⟩ := bits_andNotE T (2 ^ k) (by omega) p1
  have HU := Lib.hid (unc_any E (by omega) c hc ((T ^^^ (T &&& 2 ^ k) : Nat) : Int) a cc w hr)
  rw [uncZ_N hc (by omega)] at HU
  have hUE := unc_lt c E (T ^^^ (T &&& 2 ^ k))
  obtain ⟨r2, -⟩ := bits_andNotE (uncN c E (T ^^^ (T &&& 2 ^ k))) T (by omega) (by omega)
  have r2 : bits BinOp.andNot IntKind.i64 (uncN c E (T ^^^ (T &&& 2 ^ k)) : Nat) (T : Int) = ((othN c E T k : Nat) : Int) := r2
  have HSZ := Lib.hid (fun W => sizeG_any (othN c E T k) (by omega) W)
  have r3 := bits_orE (T ^^^ (T &&& 2 ^ k)) (othN c E T k) (by omega) (by omega)
  have hsz : sizE 15 (othN c E T k) = sizE E (othN c E T k) := sizeI_low hOE hE
  rw [hsz] at HSZ
  have hF : flpN c E T k = if sizE E (othN c E T k) = 1 then ((T ^^^ (T &&& 2 ^ k)) ||| othN c E T k, true) else (0, false) := rfl
  rw [hF]
  generalize sizE E (othN c E T k) = z at HSZ ⊢
  generalize othN c E T k = O at r2 HSZ r3 hOE ⊢
  generalize uncN c E (T ^^^ (T &&& 2 ^ k)) = U at HU r2 hUE
  generalize T ^^^ (T &&& 2 ^ k) = R at r1 HU r3 hRE ⊢
  generalize R ||| O = V at r3 ⊢
  generalize (2 : Nat) ^ k = P at s1 r1 p1 hk2
  clear hr hF hsz
  by_cases h1 : z = 1
  · subst h1
    rw [if_pos rfl]
    go_enter Tryz.func112, Tryz.ntmps112
    go_wp2_with fail
    refine HU.out.mono ?_
    rintro e w' ⟨rfl, rfl⟩
    go_wp2_with fail
    refine (HSZ.out _).mono ?_
    rintro e w' ⟨rfl, rfl⟩
    go_wp2
    go_ret2
    exact ⟨rfl, rfl⟩
  · rw [if_neg h1]
    go_enter Tryz.func112, Tryz.ntmps112
    go_wp2_with fail
    refine HU.out.mono ?_
    rintro e w' ⟨rfl, rfl⟩
    go_wp2_with fail
    refine (HSZ.out _).mono ?_
    rintro e w' ⟨rfl, rfl⟩
    go_wp2
    go_ret2
    exact ⟨rfl, rfl⟩
/-- The flip of an edge of a full set of order signs. -/
theorem flip_is (n : Int) (s : List UInt8) (T k : Nat) (hT : itB n s T = true) (hk : T.testBit k = true) (v : Value) (w : World) (hv : CrL w v n s) :
    Calls Tryz.prog 112 #[v, .int .i64 T, .int .i64 k] w fun e w' => e = .returned (.tuple #[.int .i64 ((flipP (cS n.toNat s) (eN n.toNat) T k).1 : Nat), .bool (flipP (cS n.toNat s) (eN n.toNat) T k).2]) ∧ w = w' := by
  obtain ⟨m, t, rfl, et, h, h3, h6, hl, hf⟩ := itB_parts hT
  obtain rfl : T = t := by omega
  obtain ⟨a, cc, rfl, hr⟩ := hv
  have he : eZ m s = eN m := by unfold eZ fitB; rw [h, decide_eq_true (show (m : Int) ≤ 6 by omega)]; rfl
  have hE := eZ_le m s
  rw [he] at hE hr ⊢
  rw [Int.toNat_natCast] at hr ⊢
  have hkE : k < eN m := by
    refine Classical.byContradiction fun hn => ?_
    rw [bits_of_lt hl k (by omega)] at hk
    cases hk
  have := flip_any (eN m) hE (cS m s) (cS_lt (by omega) s) T k hl hkE a cc w hr
  rw [flp_flip h h6 hf hl hkE hk] at this
  exact this
set_option maxHeartbeats 1600000 in
set_option maxRecDepth 100000 in
theorem implFlip (n : Int) (s : ByteArray) (hs : s.size ≤ 9223372036854775807) (T k : Int) (_hI : I64 T) (_hK : I64 k) (w : World) (hT : Tab w) :
    Calls Tryz.prog 54 #[sg n s, .int .i64 T, .int .i64 k] w fun e w' => e = .returned (.tuple #[.int .i64 ((flipZ n s.data.toList T k).1 : Nat), .bool (flipZ n s.data.toList T k).2]) ∧ Below w.heap.size w w' := by
  have HS := Lib.hid (box_made w n s 25)
  have HC := Lib.hid (crossersOf_any n s hs _ (hT.on HS.out.2.2))
  have HI := Lib.hid (fun v W hv => isTri_is n s.data.toList T v W hv)
  obtain ⟨x0, x1, -⟩ := HS.out
  clear hT
  cases hit : itB n s.data.toList T
  · rw [hit] at HI
    have HE : Hid (flipZ n s.data.toList T k = (0, false)) := Lib.hid (by unfold flipZ; rw [if_neg (by rw [hit]; simp)])
    rw [HE.out]
    clear HE hit
    go_enter Tryz.func54, Tryz.ntmps54
    go_wp2_with fail
    refine HC.out.mono ?_
    rintro e w1 ⟨v, rfl, hv, hb1⟩
    have B1 := Lib.hid (HS.out.on hb1).2.2
    have HV := Lib.hid hv
    clear hb1 hv x0 x1
    go_wp2_with fail
    refine (HI.out v w1 HV.out).mono ?_
    rintro e w' ⟨rfl, rfl⟩
    go_wp2
    go_ret2
    exact ⟨rfl, B1.out⟩
  · rw [hit] at HI
    by_cases hk0 : k < 0
    · have HE : Hid (flipZ n s.data.toList T k = (0, false)) := Lib.hid (by
        unfold flipZ
        rw [if_neg]
        rintro ⟨-, h2, -⟩
        have := inB_mem h2
        omega)
      rw [HE.out]
      clear HE hit
      go_enter Tryz.func54, Tryz.ntmps54
      go_wp2_with fail
      refine HC.out.mono ?_
      rintro e w1 ⟨v, rfl, hv, hb1⟩
      have B1 := Lib.hid (HS.out.on hb1).2.2
      have HV := Lib.hid hv
      clear hb1 hv x0 x1
      go_wp2_with fail
      refine (HI.out v w1 HV.out).mono ?_
      rintro e w' ⟨rfl, rfl⟩
      go_wp2
      go_ret2
      exact ⟨rfl, B1.out⟩
    · obtain ⟨k, rfl⟩ : ∃ j : Nat, k = j := ⟨k.toNat, by omega⟩
      obtain ⟨m, t, em, et, h, h3, h6, hl, hf⟩ := itB_parts hit
      obtain rfl : T = t := et
      have hE15 : t < 2097152 := by
        have := Nat.pow_le_pow_right (n := 2) (by omega) (eN_bd m (by omega))
        omega
      obtain ⟨j, hj⟩ : ∃ j, min k 64 = j := ⟨_, rfl⟩
      have hbj : t.testBit j = t.testBit k := by
        by_cases h64 : k < 64
        · obtain rfl : k = j := by omega
          rfl
        · obtain rfl : j = 64 := by omega
          rw [bits_of_lt (E := 21) hE15 64 (by omega), bits_of_lt (E := 21) hE15 k (by omega)]
      have hb2 := has_bits2 t j (by omega)
      rw [hbj] at hb2
      cases hbk : t.testBit k
      · have HE : Hid (flipZ n s.data.toList t k = (0, false)) := Lib.hid (by
          unfold flipZ
          rw [if_neg]
          rintro ⟨-, -, h3⟩
          rw [Int.toNat_natCast, Int.toNat_natCast, hbk] at h3
          cases h3)
        rw [HE.out]
        rw [hbk] at hb2
        have hb : bits BinOp.and IntKind.i64 ((t : Int) / 2 ^ j) 1 = 0 := by rw [hb2]; rfl
        clear HE hit hbk hbj hb2 h hf hl em
        go_enter Tryz.func54, Tryz.ntmps54
        go_wp2_with fail
        refine HC.out.mono ?_
        rintro e w1 ⟨v, rfl, hv, hb1⟩
        have B1 := Lib.hid (HS.out.on hb1).2.2
        have HV := Lib.hid hv
        clear hb1 hv x0 x1
        go_wp2_with fail
        refine (HI.out v w1 HV.out).mono ?_
        rintro e w' ⟨rfl, rfl⟩
        go_wp2
        go_ret2
        exact ⟨rfl, B1.out⟩
      · have HF := Lib.hid (fun v W hv => flip_is n s.data.toList t k hit hbk v W hv)
        have hk20 : k ≤ 20 := by
          refine Classical.byContradiction fun hn => ?_
          rw [bits_of_lt (E := 21) hE15 k (by omega)] at hbk
          cases hbk
        obtain rfl : j = k := by omega
        have HE : Hid (flipZ n s.data.toList t j = flipP (cS n.toNat s.data.toList) (eN n.toNat) t j) := Lib.hid (by
          unfold flipZ
          rw [if_pos ⟨hit, inB_yes (by omega) (by omega), by rw [Int.toNat_natCast, Int.toNat_natCast]; exact hbk⟩, Int.toNat_natCast, Int.toNat_natCast])
        rw [HE.out]
        generalize flipP (cS n.toNat s.data.toList) (eN n.toNat) t j = r at HF ⊢
        obtain ⟨r1, r2⟩ := r
        dsimp only at HF ⊢
        rw [hbk] at hb2
        have hb : bits BinOp.and IntKind.i64 ((t : Int) / 2 ^ j) 1 = 1 := by rw [hb2]; rfl
        clear HE hit hbk hbj hb2 h hf hl em
        go_enter Tryz.func54, Tryz.ntmps54
        go_wp2_with fail
        refine HC.out.mono ?_
        rintro e w1 ⟨v, rfl, hv, hb1⟩
        have B1 := Lib.hid (HS.out.on hb1).2.2
        have HV := Lib.hid hv
        clear hb1 hv x0 x1
        go_wp2_with fail
        refine (HI.out v w1 HV.out).mono ?_
        rintro e w' ⟨rfl, rfl⟩
        go_wp2_with fail
        refine (HF.out v w1 HV.out).mono ?_
        rintro e w' ⟨rfl, rfl⟩
        go_wp2
        go_ret2
        exact ⟨rfl, B1.out⟩
/-- slices.Sort of what a call has made. -/
theorem sort_own (B : Nat) (v : Value) (zs : List Int) (hlen : zs.length ≤ 4096) (w : World) (ho : OwnsZ w B v zs) :
    Calls Tryz.prog 151 #[v] w fun e w' => e = .returned (.tuple #[]) ∧ OwnsZ w' B v (zs.mergeSort fun x y => decide (x ≤ y)) ∧ w.grownBy w' v.ownBlock := by
  rcases ho.2 with ⟨rfl, hz⟩ | ⟨g, cap, cur, rfl, hB, hh, h1, h2, h3, h4⟩
  · have hz : zs = [] := List.eq_nil_of_length_eq_zero hz
    subst hz
    refine (Tryz.slices_Sort_int_none none 0 w).mono ?_
    rintro e w' ⟨rfl, rfl⟩
    exact ⟨rfl, by rw [List.mergeSort_nil]; exact ho, World.grownBy.refl _ _⟩
  · have hlt : g < w.heap.size := (Array.getElem?_eq_some_iff.1 hh).1
    have ht : cur.toList.take zs.length = zs.map (Value.int .i64) := by simpa using h4
    refine (Tryz.slices_Sort_int g 0 cap zs w (holds_of_blockI hh ht) hlt (by omega)).mono ?_
    rintro e w' ⟨rfl, n, os, rfl⟩
    refine ⟨rfl, ?_, grownBy_sortedI _⟩
    have := ownsRow_sortedI (n := n) (os := os) (ss := zs) (ts := zs.mergeSort fun x y => decide (x ≤ y)) (List.length_mergeSort _) hB hh h1 h2 h3
    unfold OwnsZ
    rw [List.length_mergeSort]
    exact this
theorem rawS (c : Nat → Nat) (E T : Nat) {q : Nat} (h : q < (elN T).length) : rawL c E T ((elN T).take (q + 1)) = rawL c E T ((elN T).take q) ++ if (flipP c E T ((elN T).getD q 0)).2 = true then [(flipP c E T ((elN T).getD q 0)).1] else [] := by
  rw [getD_take h, rawL_snoc]
set_option maxHeartbeats 3200000 in
set_option maxRecDepth 100000 in
theorem flipsFrom_is (n : Int) (s : List UInt8) (T : Nat) (hit : itB n s T = true) (v : Value) (w : World) (hv : CrL w v n s) (hT : Tab w) :
    Calls Tryz.prog 115 #[v, .int .i64 T] w fun e w' => ∃ v', e = .returned v' ∧ ArgZ w' w.heap.size v' (zl (flipsL (cS n.toNat s) (eN n.toNat) T)) ∧ Below w.heap.size w w' := by
  obtain ⟨m, t, em, et, h, h3, h6, hl, hf⟩ := itB_parts hit
  obtain rfl : T = t := by omega
  have hE := eN_bd m (by omega)
  have hT21 : T < 2097152 := by
    have := Nat.pow_le_pow_right (n := 2) (by omega) hE
    omega
  have hm : n.toNat = m := by omega
  rw [hm]
  have hsort := raw_sort hE hl hf
  have HEL := Lib.hid (elementsG_any T hT21 w hT)
  have HFL := Lib.hid (fun k (hk : k ∈ elN T) W hW => flip_is n s T k hit (mem_elN.1 hk).2 v W hW)
  rw [hm] at HFL
  have HV := Lib.hid (fun W (hb : Below w.heap.size w W) => hv.on hb)
  obtain ⟨L, hL⟩ : ∃ L : Nat → List Nat, L = fun q => rawL (cS m s) (eN m) T ((elN T).take q) := ⟨_, rfl⟩
  have HSU : Hid (∀ q, q < (elN T).length → L (q + 1) = L q ++ if (flipP (cS m s) (eN m) T ((elN T).getD q 0)).2 = true then [(flipP (cS m s) (eN m) T ((elN T).getD q 0)).1] else []) := Lib.hid (fun q hq => by rw [hL]; exact rawS _ _ _ hq)
  have HLN : Hid (∀ q, (L q).length ≤ 21) := Lib.hid (fun q => by
    rw [hL]
    have h1 := rawL_len (cS m s) (eN m) T ((elN T).take q)
    have h2 := elN_len T
    have h3 : ((elN T).take q).length ≤ (elN T).length := by rw [List.length_take]; omega
    exact Nat.le_trans h1 (by omega))
  have H0 : Hid (L 0 = []) := Lib.hid (by rw [hL]; rfl)
  have HSRT : Hid ((zl (L (elN T).length)).mergeSort (fun x y => decide (x ≤ y)) = zl (flipsL (cS m s) (eN m) T)) := Lib.hid (by rw [hL]; show (zl (rawL _ _ _ ((elN T).take (elN T).length))).mergeSort _ = _; rw [List.take_length]; exact hsort)
  have HNE : Hid (flipsL (cS m s) (eN m) T = [] → L (elN T).length = []) := Lib.hid (fun e => by
    have := HSRT.out
    rw [e] at this
    have h2 := List.length_mergeSort (le := fun x y : Int => decide (x ≤ y)) (zl (L (elN T).length))
    rw [this, zl_length] at h2
    exact zl_nil (by simpa using h2.symm))
  generalize flipsL (cS m s) (eN m) T = FL at HSRT HNE ⊢
  generalize flipP (cS m s) (eN m) T = fp at HFL HSU
  obtain ⟨els, hels⟩ : ∃ els, els = elN T := ⟨_, rfl⟩
  rw [← hels] at HEL HFL HSU HSRT HNE
  have hM : els.length ≤ 21 := by rw [hels]; exact elN_len T
  obtain ⟨i0, hi, hz0, hz1, hz2⟩ := info_parts infoI
  clear hL hsort hels h hf hl em et hm hT hit hv
  go_enter Tryz.func115, Tryz.ntmps115
  go_wp2_with fail
  refine HEL.out.mono ?_
  rintro e w1 ⟨v1, rfl, hv1, hb1⟩
  obtain ⟨a1, c1, rfl, hls⟩ := lsA_of hv1
  have LS := Lib.hid hls
  have B1 := Lib.hid hb1
  have HO0 : Hid (OwnsZ w1 w1.heap.size (.slice none 0 0) (zl (L 0))) := Lib.hid (by rw [H0.out]; exact World.ownsRow_nil _ _ _ _)
  obtain ⟨M, hMe⟩ : ∃ M, M = els.length := ⟨_, rfl⟩
  rw [← hMe] at hM HSRT HNE ⊢
  have HML := Lib.hid hMe
  clear hv1 hls hb1 hMe
  go_wp2
  go_loopw [5, 13] (fun vv kv wr => ∃ q : Nat, q ≤ M ∧ kv = .int .i64 q ∧ Hid (OwnsZ wr w1.heap.size vv (zl (L q))) ∧ Hid (L q = [] → vv = .slice none 0 0) ∧ Hid (Below w1.heap.size w1 wr)) (fun _ kv _ => M - (intOf kv).toNat)
  case atStart => exact ⟨0, Nat.zero_le _, rfl, HO0, Lib.hid (fun _ => rfl), Lib.hid (Below.refl _ _)⟩
  case round =>
    obtain ⟨q, hq, rfl, HO, HN, HB⟩ := hrel
    have hwr := HB.out.size
    by_cases hlt : q < M
    · have hql : q < els.length := by have := HML.out; omega
      obtain ⟨g2, rfl, hcell⟩ := LS.out.on HB.out q hql
      have hSU := HSU.out q hql
      have HCL := Lib.hid (HFL.out _ (getD_mem hql) wr (HV.out _ (B1.out.trans (HB.out.mono B1.out.size))))
      generalize els.getD q 0 = k at hcell hSU HCL
      have hln := HLN.out q
      have hzl : (zl (L q)).length ≤ 21 := by rw [zl_length]; omega
      generalize fp k = r at hSU HCL
      obtain ⟨r1, r2⟩ := r
      dsimp only at hSU HCL
      cases r2
      · have HLN2 : Hid (L (q + 1) = L q) := Lib.hid (by rw [hSU]; simp)
        have HO2 : Hid (OwnsZ wr w1.heap.size u5 (zl (L (q + 1)))) := Lib.hid (by rw [HLN2.out]; exact HO.out)
        have HN2 : Hid (L (q + 1) = [] → u5 = .slice none 0 0) := Lib.hid (by rw [HLN2.out]; exact HN.out)
        clear hSU hln
        go_wp2_with fail
        refine HCL.out.mono ?_
        rintro e w' ⟨rfl, rfl⟩
        go_wp2
        exact ⟨⟨q + 1, by omega, by go_num, HO2, HN2, HB⟩, by simp only [intOf]; omega⟩
      · have HLN2 : Hid (L (q + 1) = L q ++ [r1]) := Lib.hid (by rw [hSU, if_pos rfl])
        clear hSU hln
        go_wp2_with fail
        refine HCL.out.mono ?_
        rintro e w' ⟨rfl, rfl⟩
        go_wp2_with (at_builtin; refine wpList_append_own _ rfl (.tmp 25) (.tmp 27) 27 rfl w1.heap.size 3 i0 _ 1 8 Tryz.underlying27 hi hz0 hz1 hz2 rfl (by decide) _ _ _ rfl (World.ownsRow.alloc HO.out _) ⟨_, 0, none⟩ 1 1 [.int .i64 (r1 : Int)] rfl rfl (news1 _ _ _) (one1 _) (by simp only [maxLen]; omega) (by omega) (by simp; omega) ?_)
        intro v6 w6 hown6 hg6 _
        have HB6 := Lib.hid ((HB.out.alloc hwr (.cells #[.int .i64 (r1 : Int)] 3)).grown hg6 (by simp; omega) (fun k hk => (World.ownsRow.lt HO.out k hk).1))
        have HO6 : Hid (OwnsZ w6 w1.heap.size v6 (zl (L (q + 1)))) := Lib.hid (by
          have := ownsZ_snoc (ys := [(r1 : Int)]) hown6
          rw [HLN2.out, zl_snoc]
          exact this)
        clear hown6 hg6
        go_wp2
        exact ⟨⟨q + 1, by omega, by go_num, HO6, Lib.hid (fun e => absurd e (by rw [HLN2.out]; simp)), HB6⟩, by simp only [intOf]; omega⟩
    · obtain rfl : q = M := by omega
      have hln := HLN.out q
      have HSO := Lib.hid (sort_own w1.heap.size u5 (zl (L q)) (by rw [zl_length]; omega) wr HO.out)
      rw [HSRT.out] at HSO
      go_wp2_with fail
      refine HSO.out.mono ?_
      rintro e w3 ⟨rfl, ho3, hg3⟩
      have HB3 := Lib.hid (HB.out.grown hg3 hwr (fun k hk => (World.ownsRow.lt HO.out k hk).1))
      have HA := Lib.hid ((ArgZ.of_own ho3 (fun e => HN.out (HNE.out (zl_nil e)))).low B1.out.size)
      have BB := Lib.hid (B1.out.trans (HB3.out.mono B1.out.size))
      clear ho3 hg3 HSO
      go_wp2
      go_ret
      exact ⟨_, rfl, HA.out, BB.out⟩
set_option maxHeartbeats 800000 in
set_option maxRecDepth 100000 in
theorem implFlips (n : Int) (s : ByteArray) (hs : s.size ≤ 9223372036854775807) (T : Int) (_hI : I64 T) (w : World) (hT : Tab w) :
    Calls Tryz.prog 59 #[sg n s, .int .i64 T] w fun e w' => Got w.heap.size (zl (ffZ n s.data.toList T)) e w' ∧ Below w.heap.size w w' := by
  have HS := Lib.hid (box_made w n s 25)
  have HT := Lib.hid (fun W hW => hT.on (w' := W) hW)
  have HC := Lib.hid (crossersOf_any n s hs _ (hT.on HS.out.2.2))
  have HI := Lib.hid (fun v W hv => isTri_is n s.data.toList T v W hv)
  obtain ⟨x0, x1, -⟩ := HS.out
  clear hT
  cases hit : itB n s.data.toList T
  · rw [hit] at HI
    have HE : Hid (ffZ n s.data.toList T = []) := Lib.hid (by unfold ffZ; rw [if_neg (by rw [hit]; simp)])
    rw [HE.out]
    clear HE hit
    go_enter Tryz.func59, Tryz.ntmps59
    go_wp2_with fail
    refine HC.out.mono ?_
    rintro e w1 ⟨v, rfl, hv, hb1⟩
    have B1 := Lib.hid (HS.out.on hb1).2.2
    have HV := Lib.hid hv
    clear hb1 hv x0 x1
    go_wp2_with fail
    refine (HI.out v w1 HV.out).mono ?_
    rintro e w' ⟨rfl, rfl⟩
    go_wp2
    go_ret
    exact ⟨⟨none, 0, rfl, .inl rfl⟩, B1.out⟩
  · rw [hit] at HI
    obtain ⟨m, t, em, et, -⟩ := itB_parts hit
    subst et
    have HF := Lib.hid (fun v W hv hW => flipsFrom_is n s.data.toList t hit v W hv hW)
    have HE : Hid (ffZ n s.data.toList t = flipsL (cS n.toNat s.data.toList) (eN n.toNat) t) := Lib.hid (by unfold ffZ; rw [if_pos hit, Int.toNat_natCast])
    rw [HE.out]
    generalize flipsL (cS n.toNat s.data.toList) (eN n.toNat) t = FL at HF ⊢
    clear HE hit em
    go_enter Tryz.func59, Tryz.ntmps59
    go_wp2_with fail
    refine HC.out.mono ?_
    rintro e w1 ⟨v, rfl, hv, hb1⟩
    have B1 := Lib.hid (HS.out.on hb1).2.2
    have HV := Lib.hid hv
    clear hb1 hv x0 x1
    go_wp2_with fail
    refine (HI.out v w1 HV.out).mono ?_
    rintro e w' ⟨rfl, rfl⟩
    go_wp2_with fail
    refine (HF.out v w1 HV.out (HT.out _ B1.out)).mono ?_
    rintro e w2 ⟨v2, rfl, hv2, hb2⟩
    have HA := Lib.hid ((hv2.low B1.out.size).new)
    have BB := Lib.hid (B1.out.trans (hb2.mono B1.out.size))
    clear hv2 hb2
    obtain ⟨a', c', rfl, hn'⟩ := HA.out
    clear HA
    go_wp2
    go_ret
    exact ⟨⟨a', c', rfl, hn'⟩, BB.out⟩
end Go.Proofs.YtinlnafkmoabbaaGreatDoor.Sg
