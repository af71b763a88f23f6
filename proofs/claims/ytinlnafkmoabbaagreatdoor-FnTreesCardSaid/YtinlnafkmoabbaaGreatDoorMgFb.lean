/- Several texts in one: FtSpec, FtPlane, FtLists, FtLists2, FtTree. -/
import Derived.Test.YtinlnafkmoabbaaGreatDoorMgFa
import Derived.Test.YtinlnafkmoabbaaGreatDoorMgTc
import Derived.Test.YtinlnafkmoabbaaGreatDoorMgTw
import Derived.Deep.OwnRows
import Derived.Test.YtinlnafkmoabbaaGreatDoorMgS
import Derived.StillTailTactics
/- Spec's DegreesOf, l11Connected and IsTree. -/
namespace Go.Proofs.YtinlnafkmoabbaaGreatDoor.Sg
open Go.RowKit Pt NewI
theorem dg_step {n k : Nat} (hk : k < eN n) (T i : Nat) : sizE (k + 1) (T &&& incM n i) = sizE k (T &&& incM n i) + (if (T.testBit k && ((edL n k).1 == i || (edL n k).2 == i)) = true then 1 else 0) := by
  rw [sizE_succ, Nat.testBit_and, inc_bit, decide_eq_true hk, Bool.true_and]
theorem infoD : (Tryz.prog.info? 3).map (fun i => (i.zero, i.size, i.bytes)) = some (some (.int .i64 0), 1, 8) := by kernel_rfl
/-- What DegreesOf answers. -/
def degL (n T : Nat) : List Nat := (List.range n).map (dgN n T)
def degZ (n T : Int) : List Nat := if inB n 3 7 = true ∧ inB T 0 (allZ n) = true then degL n.toNat T.toNat else []
theorem degL_len (n T : Nat) : (degL n T).length = n := by unfold degL; rw [List.length_map, List.length_range]
theorem degL_zc {n T i : Nat} (h : i < n) : zc (zl (degL n T)) i = .int .i64 (dgN n T i : Nat) := by
  have hl : i < (zl (degL n T)).length := by rw [zl_length, degL_len]; exact h
  rw [zc_lt hl]
  congr 2
  unfold zl degL
  simp
set_option maxHeartbeats 3200000 in
set_option maxRecDepth 100000 in
theorem specDegrees (n T : Int) (w : World) :
    Calls Tryz.prog 22 #[.int .i64 n, .int .i64 T] w fun e w' => Got w.heap.size (zl (degZ n T)) e w' ∧ Below w.heap.size w w' := by
  have HL := Lib.hid (fun W => l1In_any n 3 7 W)
  have HB0 := Lib.hid ((Below.refl w.heap.size w).alloc (Nat.le_refl _) (.cells #[] 3))
  cases h : inB n 3 7
  · have HE : Hid (degZ n T = []) := Lib.hid (by unfold degZ; rw [if_neg]; rw [h]; simp)
    rw [HE.out]
    rw [h] at HL
    clear h HE
    go_enter Tryz.func22, Tryz.ntmps22
    go_wp2_with fail
    refine (HL.out _).mono ?_
    rintro e w' ⟨rfl, rfl⟩
    go_wp2
    go_ret
    exact ⟨⟨_, _, rfl, .inl rfl⟩, HB0.out⟩
  obtain ⟨h3, h7⟩ := inB_mem h
  obtain ⟨m, rfl⟩ : ∃ m : Nat, n = m := ⟨n.toNat, by omega⟩
  have m3 : 3 ≤ m := by omega
  have m7 : m ≤ 7 := by omega
  obtain ⟨K, hK, hKb⟩ : ∃ K : Nat, allZ m = K ∧ K < 2097152 := by
    have h0 := Nat.pow_le_pow_right (n := 2) (by omega) (eN_bd m (by omega))
    refine ⟨2 ^ eN m - 1, ?_, by omega⟩
    unfold allZ
    rw [if_pos h, Int.toNat_natCast]
  have HAE := Lib.hid (fun W => specAllEdges (m : Int) W)
  rw [hK] at HAE
  have HLB := Lib.hid (fun W => l1In_any T 0 (K : Int) W)
  rw [h] at HL
  cases hin : inB T 0 (K : Int)
  · have HE : Hid (degZ m T = []) := Lib.hid (by unfold degZ; rw [if_neg]; rw [hK, hin]; simp)
    rw [HE.out]
    rw [hin] at HLB
    clear h HE hK hin
    go_enter Tryz.func22, Tryz.ntmps22
    go_wp2_with fail
    refine (HL.out _).mono ?_
    rintro e w' ⟨rfl, rfl⟩
    go_wp2_with fail
    refine (HAE.out _).mono ?_
    rintro e w' ⟨rfl, rfl⟩
    go_wp2_with fail
    refine (HLB.out _).mono ?_
    rintro e w' ⟨rfl, rfl⟩
    go_wp2
    go_ret
    exact ⟨⟨_, _, rfl, .inl rfl⟩, HB0.out⟩
  obtain ⟨t0, tK⟩ := inB_mem hin
  obtain ⟨t, rfl⟩ : ∃ t : Nat, T = t := ⟨T.toNat, by omega⟩
  have ht : t < 2097152 := by omega
  have HE : Hid (degZ m t = degL m t) := Lib.hid (by unfold degZ; rw [if_pos ⟨h, by rw [hK]; exact hin⟩, Int.toNat_natCast, Int.toNat_natCast])
  rw [HE.out]
  rw [hin] at HLB
  have hE := eN_bd m (by omega)
  have vP : IntKind.i64.wrap ((m : Int) * ((m : Int) - 1)) = ((2 * eN m : Nat) : Int) := by
    rcases (by omega : m = 3 ∨ m = 4 ∨ m = 5 ∨ m = 6 ∨ m = 7) with rfl | rfl | rfl | rfl | rfl <;> decide +kernel
  have HED : Hid (∀ k : Nat, k < eN m → (edL m k).1 < m ∧ (edL m k).2 < m ∧ (edL m k).1 ≠ (edL m k).2 ∧ ∀ W, Calls Tryz.prog 32 #[.int .i64 m, .int .i64 k] W fun e w' => e = .returned (.tuple #[.int .i64 ((edL m k).1 : Nat), .int .i64 ((edL m k).2 : Nat)]) ∧ W = w') := Lib.hid (fun k hk => by
    have h2 := edL_lt m7 hk
    refine ⟨by omega, by omega, by omega, fun W => ?_⟩
    have := specEdgeAt m k W
    rw [edZ_in m3 m7 hk] at this
    exact this)
  have HHA := Lib.hid (fun (x : Nat) (hx : x < 64) W => l6HasE_any t x (by omega) hx W)
  obtain ⟨dg, hdg⟩ : ∃ dg : Nat → Nat → Nat, dg = fun k i => sizE k (t &&& incM m i) := ⟨_, rfl⟩
  have HDS : Hid (∀ k, k < eN m → ∀ i, dg (k + 1) i = dg k i + (if (t.testBit k && ((edL m k).1 == i || (edL m k).2 == i)) = true then 1 else 0)) := Lib.hid (fun k hk i => by rw [hdg]; exact dg_step hk t i)
  have HD0 : Hid (∀ i, dg 0 i = 0) := Lib.hid (fun i => by rw [hdg]; rfl)
  have HDL : Hid (∀ k i, dg k i ≤ k) := Lib.hid (fun k i => by rw [hdg]; exact sizE_le _ k)
  have HDE : Hid (∀ i, i < m → zc (zl (degL m t)) i = .int .i64 (dg (eN m) i : Nat)) := Lib.hid (fun i hi => by rw [hdg]; exact degL_zc hi)
  have HDN : Hid ((zl (degL m t)).length = m) := Lib.hid (by rw [zl_length, degL_len])
  generalize zl (degL m t) = zs at HDE HDN ⊢
  generalize hbt : (fun k => t.testBit k) = bt
  have HBT : Hid (∀ k, t.testBit k = bt k) := Lib.hid (fun k => by rw [← hbt])
  generalize edL m = ed at HED HDS
  generalize eN m = E at hE vP HED HDS HDE
  have hmk := run_make_row' (P := Tryz.prog) 27 3 (.int .i64 0) 8 Tryz.underlying27 infoD rfl .i64 .i64 m (by omega) (by omega)
  have HR0 := Lib.hid ((World.rowIs_made w (.int .i64 0) m 3).congr (g := fun i => .int .i64 (dg 0 i : Nat)) (fun i _ => by rw [HD0.out]; rfl))
  have HB1 := Lib.hid ((Below.refl w.heap.size w).alloc (Nat.le_refl _) (.cells (madeCells #[.int .i64 0] m) 3))
  clear h hin hK t0 tK h3 h7 HE hdg hbt HB0
  go_enter Tryz.func22, Tryz.ntmps22
  go_wp2_with fail
  refine (HL.out _).mono ?_
  rintro e w' ⟨rfl, rfl⟩
  go_wp2_with fail
  refine (HAE.out _).mono ?_
  rintro e w' ⟨rfl, rfl⟩
  go_wp2_with fail
  refine (HLB.out _).mono ?_
  rintro e w' ⟨rfl, rfl⟩
  clear HL HAE HLB hKb
  go_wp2
  clear hmk
  go_loopw [6] (fun i wr => ∃ k : Nat, k ≤ E ∧ i = .int .i64 k ∧ Hid (wr.rowIs w.heap.size 3 m (fun i => .int .i64 (dg k i : Nat))) ∧ Hid (Below w.heap.size w wr)) (fun i _ => E - (intOf i).toNat)
  case atStart => exact ⟨0, Nat.zero_le _, rfl, HR0, HB1⟩
  case round =>
    obtain ⟨k, hk, rfl, HR, HB⟩ := hrel
    by_cases hlt : k < E
    · have HH1 := Lib.hid (HHA.out k (by omega))
      rw [HBT.out k] at HH1
      have hDS := HDS.out k hlt
      rw [HBT.out k] at hDS
      obtain ⟨e1, e2, e3, e4⟩ := HED.out k hlt
      have HED1 := Lib.hid e4
      have HDSk := Lib.hid hDS
      clear hDS e4
      generalize bt k = bx at HH1 HDSk
      generalize ed k = q at e1 e2 e3 HED1 HDSk
      obtain ⟨i, j⟩ := q
      dsimp only at e1 e2 e3 HED1 HDSk
      go_wp2_with fail
      refine (HH1.out _).mono ?_
      rintro e w' ⟨rfl, rfl⟩
      cases bx
      · have HRN : Hid (wr.rowIs w.heap.size 3 m (fun i => .int .i64 (dg (k + 1) i : Nat))) := Lib.hid (HR.out.congr (fun x _ => by rw [HDSk.out x]; simp))
        go_wp2
        exact ⟨⟨k + 1, by omega, by go_num, HRN, HB⟩, by simp only [intOf]; omega⟩
      · have hc0 := HR.out.cell e1
        have hfz := HR.out.frozen i
        have hl0 := HDL.out k i
        have hl1 := HDL.out k j
        obtain ⟨h1, hh1⟩ : ∃ h1 : Nat → Nat, ∀ x, h1 x = if x = i then dg k i + 1 else dg k x := ⟨_, fun _ => rfl⟩
        have HR1 : Hid ((wr.setCell ⟨w.heap.size, i, none⟩ (.int .i64 ((dg k i + 1 : Nat) : Int))).rowIs w.heap.size 3 m (fun x => .int .i64 (h1 x : Nat))) := Lib.hid ((HR.out.set i (.int .i64 ((dg k i + 1 : Nat) : Int))).congr (fun x _ => by
          rw [hh1]
          by_cases e : x = i
          · rw [if_pos e, if_pos e]
          · rw [if_neg e, if_neg e]))
        have HBa := Lib.hid (HB.out.setCell (p := ⟨w.heap.size, i, none⟩) (Nat.le_refl _) (.int .i64 ((dg k i + 1 : Nat) : Int)))
        have hj : h1 j = dg k j := by rw [hh1, if_neg (fun e => e3 e.symm)]
        have hc1 := HR1.out.cell e2
        have hfz1 := HR1.out.frozen j
        rw [hj] at hc1
        have HRN : Hid (((wr.setCell ⟨w.heap.size, i, none⟩ (.int .i64 ((dg k i + 1 : Nat) : Int))).setCell ⟨w.heap.size, j, none⟩ (.int .i64 ((dg k j + 1 : Nat) : Int))).rowIs w.heap.size 3 m (fun x => .int .i64 (dg (k + 1) x : Nat))) := Lib.hid ((HR1.out.set j (.int .i64 ((dg k j + 1 : Nat) : Int))).congr (fun x _ => by
          rw [HDSk.out x]
          by_cases e : x = j
          · subst e; simp
          · rw [if_neg e, hh1]
            by_cases e5 : x = i
            · subst e5; simp
            · rw [if_neg e5]
              have n1 : (i == x) = false := beq_eq_false_iff_ne.2 (fun h => e5 h.symm)
              have n2 : (j == x) = false := beq_eq_false_iff_ne.2 (fun h => e h.symm)
              rw [n1, n2]
              simp))
        have HBN := Lib.hid (HBa.out.setCell (p := ⟨w.heap.size, j, none⟩) (Nat.le_refl _) (.int .i64 ((dg k j + 1 : Nat) : Int)))
        obtain ⟨P, hP⟩ : ∃ P, P = dg k i + 1 := ⟨_, rfl⟩
        obtain ⟨Q, hQ⟩ : ∃ Q, Q = dg k j + 1 := ⟨_, rfl⟩
        rw [← hP] at HRN HBN HR1 HBa hc1 hfz1
        rw [← hQ] at HRN HBN
        have va : IntKind.i64.wrap ((dg k i : Int) + 1) = (P : Int) := by rw [show (dg k i : Int) + 1 = (P : Int) by omega]; exact IntWalk.i64_in _ (by omega)
        have vb : IntKind.i64.wrap ((dg k j : Int) + 1) = (Q : Int) := by rw [show (dg k j : Int) + 1 = (Q : Int) by omega]; exact IntWalk.i64_in _ (by omega)
        generalize dg k i = u1 at hc0 va
        generalize dg k j = u2 at hc1 vb
        clear hP hQ hl0 hl1 hh1 hj HR1 HBa
        go_wp2_with fail
        refine (HED1.out _).mono ?_
        rintro e w' ⟨rfl, rfl⟩
        go_wp2
        exact ⟨⟨k + 1, by omega, by go_num, HRN, HBN⟩, by simp only [intOf]; omega⟩
    · obtain rfl : k = E := by omega
      have HG : Hid (NewI.New wr w.heap.size wr.heap.size (some ⟨w.heap.size, 0, none⟩) zs.length (zc zs)) := Lib.hid (.inr ⟨w.heap.size, rfl, Nat.le_refl _, HR.out.lt, ⟨fun x hx => by
        rw [HDN.out] at hx
        rw [HR.out.cell hx, HDE.out x hx], fun x => HR.out.frozen x, HR.out.lt⟩⟩)
      go_wp2
      go_ret
      exact ⟨⟨some ⟨w.heap.size, 0, none⟩, m, by rw [HDN.out]; rfl, HG.out⟩, HB.out⟩
/-- One pass of spec's search, edge by edge. -/
theorem rchL_snoc (T : Nat) (q : Nat × Nat) : ∀ (l : List (Nat × Nat)) (k R : Nat), rchL T (l ++ [q]) k R = if (T.testBit (k + l.length) && ((rchL T l k R).testBit q.1 || (rchL T l k R).testBit q.2)) = true then rchL T l k R ||| 2 ^ q.1 ||| 2 ^ q.2 else rchL T l k R
  | [], k, R => by
    show rchL T [q] k R = _
    unfold rchL
    rw [List.length_nil, Nat.add_zero]
    unfold rchL
    rfl
  | p :: l, k, R => by
    show rchL T (l ++ [q]) (k + 1) _ = _
    rw [rchL_snoc T q l (k + 1) _, List.length_cons, show k + 1 + l.length = k + (l.length + 1) by omega]
    rfl
def rchK (n T p k : Nat) : Nat := rchL T ((pairsU n).take k) 0 (rchP n T p)
theorem pairsU_lenE (n : Nat) (h7 : n ≤ 7) : (pairsU n).length = eN n := by
  have : ∀ n, n < 8 → (pairsU n).length = eN n := by decide
  exact this n (by omega)
theorem rchK_zero (n T p : Nat) : rchK n T p 0 = rchP n T p := rfl
theorem rchK_end {n : Nat} (h7 : n ≤ 7) (T p : Nat) : rchK n T p (eN n) = rchP n T (p + 1) := by
  unfold rchK
  rw [← pairsU_lenE n h7, List.take_length]
  rfl
theorem rchK_step {n : Nat} (h7 : n ≤ 7) (T p : Nat) {k : Nat} (hk : k < eN n) : rchK n T p (k + 1) = if (T.testBit k && ((rchK n T p k).testBit (edL n k).1 || (rchK n T p k).testBit (edL n k).2)) = true then rchK n T p k ||| 2 ^ (edL n k).1 ||| 2 ^ (edL n k).2 else rchK n T p k := by
  unfold rchK
  have hl := pairsU_lenE n h7
  rw [List.take_add_one, at_pairs h7 hk, Option.toList_some, rchL_snoc, List.length_take, show min k (pairsU n).length = k by omega, Nat.zero_add]
theorem rchK_lt {n : Nat} (h7 : n ≤ 7) (h0 : 0 < n) (T p : Nat) : ∀ k, k ≤ eN n → rchK n T p k < 128
  | 0, _ => by
    rw [rchK_zero]
    refine lt_of_bits (E := 7) fun y hy => ?_
    cases h : (rchP n T p).testBit y
    · rfl
    · have := rch_lt h7 h0 p y h; omega
  | k + 1, hk => by
    have ih := rchK_lt h7 h0 T p k (by omega)
    have h2 := edL_lt h7 (show k < eN n by omega)
    rw [rchK_step h7 T p (by omega)]
    split
    · exact Nat.or_lt_two_pow (n := 7) (Nat.or_lt_two_pow ih (Nat.pow_lt_pow_right (by omega) (by omega))) (Nat.pow_lt_pow_right (by omega) (by omega))
    · exact ih
set_option maxHeartbeats 3200000 in
set_option maxRecDepth 100000 in
theorem l11Con_any (n T : Nat) (h3 : 3 ≤ n) (h7 : n ≤ 7) (hT : T < 2097152) (w : World) :
    Calls Tryz.prog 89 #[.int .i64 n, .int .i64 T] w fun e w' => e = .returned (.bool (conB n T)) ∧ w = w' := by
  have hE := eN_bd n (by omega)
  have vP : IntKind.i64.wrap ((n : Int) * ((n : Int) - 1)) = ((2 * eN n : Nat) : Int) := by
    rcases (by omega : n = 3 ∨ n = 4 ∨ n = 5 ∨ n = 6 ∨ n = 7) with rfl | rfl | rfl | rfl | rfl <;> decide +kernel
  have HED : Hid (∀ k : Nat, k < eN n → (edL n k).1 < 7 ∧ (edL n k).2 < 7 ∧ ∀ W, Calls Tryz.prog 32 #[.int .i64 n, .int .i64 k] W fun e w' => e = .returned (.tuple #[.int .i64 ((edL n k).1 : Nat), .int .i64 ((edL n k).2 : Nat)]) ∧ W = w') := Lib.hid (fun k hk => by
    have h2 := edL_lt h7 hk
    refine ⟨by omega, by omega, fun W => ?_⟩
    have := specEdgeAt n k W
    rw [edZ_in h3 h7 hk] at this
    exact this)
  have HHA := Lib.hid (fun (x : Nat) (hx : x < 64) W => l6HasE_any T x (by omega) hx W)
  have HHR := Lib.hid (fun (r x : Nat) (hr : r < 128) (hx : x < 64) W => l6HasE_any r x (by omega) hx W)
  have HST := Lib.hid (fun p k (hk : k < eN n) => rchK_step h7 T p hk)
  have HEN := Lib.hid (rchK_end h7 T)
  have HZ := Lib.hid (rchK_zero n T)
  have HLT := Lib.hid (fun p k hk => rchK_lt h7 (by omega) T p k hk)
  have H0 : Hid (rchP n T 0 = 1) := Lib.hid rfl
  have hp2 : (2 : Nat) ^ n ≤ 2 ^ 7 := Nat.pow_le_pow_right (by omega) h7
  have wsh : IntKind.i64.wrap ((2 : Int) ^ n) = ((2 ^ n : Nat) : Int) := (shl_edge n (by omega)).1
  have HCB : Hid (conB n T = ((rchP n T n : Int) == ((2 ^ n : Nat) : Int) - 1)) := Lib.hid (by
    unfold conB
    have := Nat.pow_pos (n := n) (show 0 < 2 by omega)
    rw [Bool.eq_iff_iff, beq_iff_eq, beq_iff_eq]
    omega)
  rw [HCB.out]
  generalize hbt : (fun k => T.testBit k) = bt
  have HBT : Hid (∀ k, T.testBit k = bt k) := Lib.hid (fun k => by rw [← hbt])
  generalize rchK n T = rk at HST HEN HZ HLT
  generalize rchP n T = rp at HEN HZ H0 ⊢
  generalize edL n = ed at HED HST
  generalize eN n = E at hE vP HED HST HEN HLT
  generalize (2 : Nat) ^ n = P2 at hp2 wsh ⊢
  clear hbt HCB
  go_enter Tryz.func89, Tryz.ntmps89
  go_wp2
  go_loopw [5, 6] (fun rv pv wr => ∃ p r : Nat, p ≤ n ∧ pv = .int .i64 p ∧ rv = .int .i64 r ∧ r < 128 ∧ Hid (r = rp p) ∧ w = wr) (fun _ pv _ => n - (intOf pv).toNat)
  case atStart => exact ⟨0, 1, Nat.zero_le _, rfl, rfl, by omega, Lib.hid H0.out.symm, rfl⟩
  case round =>
    obtain ⟨p, r, hp, rfl, rfl, hr, HR, rfl⟩ := hrel
    by_cases hlt : p < n
    · go_wp2
      go_loopw [5, 7] (fun rv kv wr => ∃ k r : Nat, k ≤ E ∧ kv = .int .i64 k ∧ rv = .int .i64 r ∧ r < 128 ∧ Hid (r = rk p k) ∧ w = wr) (fun _ kv _ => E - (intOf kv).toNat)
      case atStart => exact ⟨0, r, Nat.zero_le _, rfl, rfl, hr, Lib.hid (by rw [HZ.out, HR.out]), rfl⟩
      case round =>
        obtain ⟨k, r, hk, rfl, rfl, hr, HR, rfl⟩ := hrel
        by_cases hlt2 : k < E
        · have HH1 := Lib.hid (HHA.out k (by omega))
          rw [HBT.out k] at HH1
          have hS := HST.out p k hlt2
          rw [HBT.out k, ← HR.out] at hS
          have hb1 := HLT.out p (k + 1) (by omega)
          obtain ⟨e1, e2, e4⟩ := HED.out k hlt2
          have HED1 := Lib.hid e4
          clear e4
          generalize bt k = bx at HH1 hS
          generalize ed k = q at e1 e2 HED1 hS
          obtain ⟨i, j⟩ := q
          dsimp only at e1 e2 HED1 hS
          have HI := Lib.hid (HHR.out r i hr (by omega))
          have HJ := Lib.hid (HHR.out r j hr (by omega))
          obtain ⟨s1, p1⟩ := shl_edge i (by omega)
          obtain ⟨s2, p2⟩ := shl_edge j (by omega)
          have o1 := bits_orE r (2 ^ i) (by omega) p1
          have q1 : r ||| 2 ^ i < 2097152 := Nat.or_lt_two_pow (n := 21) (by omega) p1
          have o2 := bits_orE (r ||| 2 ^ i) (2 ^ j) q1 p2
          generalize r.testBit i = b1 at HI hS
          generalize r.testBit j = b2 at HJ hS
          generalize r ||| 2 ^ i ||| 2 ^ j = z at o2 hS
          generalize r ||| 2 ^ i = y at o1 o2 q1
          generalize (2 : Nat) ^ i = P at s1 o1 p1
          generalize (2 : Nat) ^ j = Q at s2 o2 p2
          have HS := Lib.hid hS
          clear hS
          go_wp2_with fail
          refine (HH1.out _).mono ?_
          rintro e w' ⟨rfl, rfl⟩
          cases bx
          · have HN : Hid (rk p (k + 1) = r) := Lib.hid (by rw [HS.out]; rfl)
            go_wp2
            exact ⟨⟨k + 1, r, by omega, by go_num, by trivial, hr, Lib.hid HN.out.symm, by trivial⟩, by simp only [intOf]; omega⟩
          · go_wp2_with fail
            refine (HED1.out _).mono ?_
            rintro e w' ⟨rfl, rfl⟩
            go_wp2_with fail
            refine (HI.out _).mono ?_
            rintro e w' ⟨rfl, rfl⟩
            cases b1
            · go_wp2_with fail
              refine (HJ.out _).mono ?_
              rintro e w' ⟨rfl, rfl⟩
              cases b2
              · have HN : Hid (rk p (k + 1) = r) := Lib.hid (by rw [HS.out]; rfl)
                go_wp2
                exact ⟨⟨k + 1, r, by omega, by go_num, by trivial, hr, Lib.hid HN.out.symm, by trivial⟩, by simp only [intOf]; omega⟩
              · have HN : Hid (rk p (k + 1) = z) := Lib.hid (by rw [HS.out]; rfl)
                have hz : z < 128 := by rw [← HN.out]; exact hb1
                go_wp2
                exact ⟨⟨k + 1, z, by omega, by go_num, by trivial, hz, Lib.hid HN.out.symm, by trivial⟩, by simp only [intOf]; omega⟩
            · have HN : Hid (rk p (k + 1) = z) := Lib.hid (by rw [HS.out]; rfl)
              have hz : z < 128 := by rw [← HN.out]; exact hb1
              go_wp2
              exact ⟨⟨k + 1, z, by omega, by go_num, by trivial, hz, Lib.hid HN.out.symm, by trivial⟩, by simp only [intOf]; omega⟩
        · obtain rfl : k = E := by omega
          have HN : Hid (r = rp (p + 1)) := Lib.hid (by rw [HR.out, HEN.out])
          go_wp2
          exact ⟨⟨p + 1, r, by omega, by go_num, by trivial, hr, HN, by trivial⟩, by simp only [intOf]; omega⟩
    · obtain rfl : p = n := by omega
      go_wp2
      go_ret
      exact ⟨ret_bool (by rw [HR.out]), rfl⟩
end Go.Proofs.YtinlnafkmoabbaaGreatDoor.Sg
/- Spec's l11Plane: the plane sets of a number of edges. -/
namespace Go.Proofs.YtinlnafkmoabbaaGreatDoor.Sg
open Go.RowKit Pt NewI
theorem plT_len (c : Nat → Nat) : ∀ f m T, (plT c f m T).length ≤ 2 ^ f
  | 0, m, T => by
    unfold plT
    split <;> simp
  | f + 1, m, T => by
    have a := plT_len c f m T
    have b := plT_len c f (m - 1) (T + 2 ^ f)
    have p : 2 ^ (f + 1) = 2 * 2 ^ f := by rw [Nat.pow_succ]; omega
    have p0 := Nat.pow_pos (n := f) (show 0 < 2 by omega)
    unfold plT
    split
    · simp only [List.length_cons, List.length_nil]; omega
    · split
      · simp
      · rw [List.length_append]
        split <;> (try simp only [List.length_nil]) <;> omega
/-- What a call of l11Plane does. -/
def PlnOk (c : Nat → Nat) (E : Nat) (a : Option Addr) (cc f : Nat) : Prop := ∀ (x : Int), x = (f : Int) - 1 → ∀ (m : Int) (mn : Nat), m = mn → mn ≤ 64 → ∀ (T : Nat), T + 2 ^ f ≤ 2 ^ E → ∀ (B : Nat) (v : Value) (zs : List Int) (W : World), RdB W B a (crTo c E) → OwnsZ W B v zs → B ≤ W.heap.size → zs.length + 2 ^ f ≤ 4194304 →
  Calls Tryz.prog 134 #[.slice a E cc, .int .i64 x, .int .i64 m, .int .i64 T, v] W fun e w' => ∃ v', e = .returned v' ∧ OwnsZ w' B v' (zs ++ zl (plT c f mn T)) ∧ Below B W w'
set_option maxHeartbeats 1600000 in
set_option maxRecDepth 100000 in
/-- No edge is wanted any more. -/
theorem pln_done (E : Nat) (hE : E ≤ 21) (a : Option Addr) (cc : Nat) (x : Int) (T : Nat) (_hT : T ≤ 2 ^ E) (B : Nat) (v : Value) (zs : List Int) (w : World) (ho : OwnsZ w B v zs) (hB : B ≤ w.heap.size) (hl : zs.length ≤ 4194303) :
    Calls Tryz.prog 134 #[.slice a E cc, .int .i64 x, .int .i64 0, .int .i64 T, v] w fun e w' => ∃ v', e = .returned v' ∧ OwnsZ w' B v' (zs ++ zl [T]) ∧ Below B w w' := by
  have hp := Nat.pow_le_pow_right (n := 2) (by omega) hE
  have HO := Lib.hid ho
  obtain ⟨i0, hi, hz0, hz1, hz2⟩ := info_parts infoI
  clear ho
  go_enter Tryz.func134, Tryz.ntmps134
  go_wp2_with (at_builtin; refine wpList_append_own _ rfl _ _ 27 rfl B 3 i0 _ 1 8 Tryz.underlying27 hi hz0 hz1 hz2 rfl (by decide) _ _ _ rfl (World.ownsRow.alloc HO.out _) ⟨_, 0, none⟩ 1 1 [.int .i64 (T : Int)] rfl rfl (news1 _ _ _) (one1 _) (by simp only [maxLen]; omega) (by omega) (by simp; omega) ?_)
  intro v6 w6 hown6 hg6 _
  have B6 := Lib.hid (((Below.refl B w).alloc hB (.cells #[.int .i64 (T : Int)] 3)).grown hg6 (by simp; omega) (fun q hq => (World.ownsRow.lt HO.out q hq).1))
  have O6 : Hid (OwnsZ w6 B v6 (zs ++ zl [T])) := Lib.hid (ownsZ_snoc (ys := [(T : Int)]) hown6)
  clear hown6 hg6
  go_wp2
  go_ret
  exact ⟨_, rfl, O6.out, B6.out⟩
theorem plT_no (c : Nat → Nat) (f T : Nat) : plT c f 0 T = [T] := by
  cases f <;> rfl
set_option maxHeartbeats 1600000 in
set_option maxRecDepth 100000 in
theorem pln_zero (E : Nat) (hE : E ≤ 21) (c : Nat → Nat) (a : Option Addr) (cc : Nat) : PlnOk c E a cc 0 := by
  intro x hx m mn hm hmb T hT B v zs w _ ho hB hl
  by_cases h0 : mn = 0
  · subst h0
    rw [plT_no]
    subst hm
    exact pln_done E hE a cc x T (by omega) B v zs w ho hB (by omega)
  · have hx0 : x < 0 := by omega
    have HE : Hid (plT c 0 mn T = []) := Lib.hid (by unfold plT; rw [if_neg]; simp; omega)
    rw [HE.out]
    have hm0 : (m == 0) = false := beq_eq_false_iff_ne.2 (by omega)
    have HO := Lib.hid ho
    have HB := Lib.hid (Below.refl B w)
    clear hx hm ho hT hl HE
    go_enter Tryz.func134, Tryz.ntmps134
    go_wp2
    go_ret
    exact ⟨_, rfl, by simpa [zl] using HO.out, HB.out⟩
set_option maxHeartbeats 1600000 in
set_option maxRecDepth 100000 in
theorem pln_succ (E : Nat) (hE : E ≤ 21) (c : Nat → Nat) (hc : ∀ x, c x < 2097152) (a : Option Addr) (cc f : Nat) (hf : f < E) (HR : PlnOk c E a cc f) : PlnOk c E a cc (f + 1) := by
  intro x hx m mn hm hmb T hT B v zs w hr ho hB hl
  have hp := Nat.pow_le_pow_right (n := 2) (by omega) hE
  have p2 : 2 ^ (f + 1) = 2 * 2 ^ f := by rw [Nat.pow_succ]; omega
  have p0 := Nat.pow_pos (n := f) (show 0 < 2 by omega)
  by_cases h0 : mn = 0
  · subst h0
    rw [plT_no]
    subst hm
    exact pln_done E hE a cc x T (by omega) B v zs w ho hB (by omega)
  subst hm
  obtain rfl : x = f := by omega
  clear hx
  have hm0 : ((mn : Int) == 0) = false := beq_eq_false_iff_ne.2 (by omega)
  by_cases hmf : f + 1 < mn
  · have HE : Hid (plT c (f + 1) mn T = []) := Lib.hid (by unfold plT; rw [if_neg (by simp; omega), if_pos (decide_eq_true hmf)])
    rw [HE.out]
    have HO := Lib.hid ho
    have HB := Lib.hid (Below.refl B w)
    clear ho hT hl HE hr HR p2 p0
    go_enter Tryz.func134, Tryz.ntmps134
    go_wp2
    go_ret
    exact ⟨_, rfl, by simpa [zl] using HO.out, HB.out⟩
  have HC : Hid (∀ W, Below B w W → RdB W B a (crTo c E)) := Lib.hid (fun W hW => hr.on hW)
  obtain ⟨g, rfl, hgB, hcell⟩ := hr f (by rw [crTo_len]; exact hf)
  rw [crTo_get c hf] at hcell
  have HG : Hid (∀ W, Below B w W → W.cell? ⟨g, f, none⟩ = some (.int .i64 (c f : Nat))) := Lib.hid (fun W hW => by rw [World.cell?_of_block (a := ⟨g, f, none⟩) (hW.block g hgB)]; exact hcell)
  have HO := Lib.hid ho
  have hl1 := plT_len c f mn T
  have H1 : Hid (∀ v zs W, RdB W B (some ⟨g, 0, none⟩) (crTo c E) → OwnsZ W B v zs → B ≤ W.heap.size → zs.length + 2 ^ f ≤ 4194304 → Calls Tryz.prog 134 #[.slice (some ⟨g, 0, none⟩) E cc, .int .i64 ((f : Int) - 1), .int .i64 mn, .int .i64 T, v] W fun e w' => ∃ v', e = .returned v' ∧ OwnsZ w' B v' (zs ++ zl (plT c f mn T)) ∧ Below B W w') := Lib.hid (fun v zs W h1 h2 h3 h4 => HR ((f : Int) - 1) rfl mn mn rfl hmb T (by omega) B v zs W h1 h2 h3 h4)
  have H2 : Hid (∀ v zs W, RdB W B (some ⟨g, 0, none⟩) (crTo c E) → OwnsZ W B v zs → B ≤ W.heap.size → zs.length + 2 ^ f ≤ 4194304 → Calls Tryz.prog 134 #[.slice (some ⟨g, 0, none⟩) E cc, .int .i64 ((f : Int) - 1), .int .i64 ((mn : Int) - 1), .int .i64 ((T : Int) + ((2 ^ f : Nat) : Int)), v] W fun e w' => ∃ v', e = .returned v' ∧ OwnsZ w' B v' (zs ++ zl (plT c f (mn - 1) (T + 2 ^ f))) ∧ Below B W w') := Lib.hid (fun v zs W h1 h2 h3 h4 => by
    have := HR ((f : Int) - 1) rfl ((mn : Int) - 1) (mn - 1) (by omega) (by omega) (T + 2 ^ f) (by omega) B v zs W h1 h2 h3 h4
    rw [show ((T + 2 ^ f : Nat) : Int) = (T : Int) + ((2 ^ f : Nat) : Int) by omega] at this
    exact this)
  have HAL : Hid (plT c (f + 1) mn T = plT c f mn T ++ (if (c f &&& T == 0) = true then plT c f (mn - 1) (T + 2 ^ f) else [])) := Lib.hid (by
    conv => lhs; unfold plT
    rw [if_neg (by simp; omega), if_neg (by simp; omega)])
  rw [HAL.out]
  have hand := bits_andE (c f) T (hc f) (by omega)
  have hz : ((((c f &&& T : Nat) : Int)) == 0) = (c f &&& T == 0) := by rw [Bool.eq_iff_iff, beq_iff_eq, beq_iff_eq]; omega
  obtain ⟨wa, hP⟩ := shl_edge f (by omega)
  have hTP : T + 2 ^ f < 4194304 := by omega
  generalize plT c f mn T = L1 at H1 hl1 ⊢
  generalize plT c f (mn - 1) (T + 2 ^ f) = L2 at H2 ⊢
  generalize hv2 : (c f &&& T == 0) = z2 at hz ⊢
  generalize (c f &&& T : Nat) = d at hand hz
  generalize c f = cx at HG hand
  generalize (2 : Nat) ^ f = P at H1 H2 hl1 p0 wa hP hTP hl p2
  have hlz : zs.length + P ≤ 4194304 := by omega
  have hl2 : (zs ++ zl L1).length + P ≤ 4194304 := by rw [List.length_append, show (zl L1).length = L1.length from List.length_map _]; omega
  have HB0 := Lib.hid (Below.refl B w)
  clear hv2 hr ho hcell hT hp HR HAL p2 hl
  cases z2
  · go_enter Tryz.func134, Tryz.ntmps134
    go_wp2_with fail
    refine (H1.out _ zs _ (HC.out _ HB0.out) HO.out hB hlz).mono ?_
    rintro e w1 ⟨v1, rfl, ho1, hb1⟩
    have O1 := Lib.hid ho1
    have B1 := Lib.hid hb1
    have h1 := HG.out _ hb1
    clear ho1 hb1
    go_wp2
    go_ret
    exact ⟨_, rfl, by simpa using O1.out, B1.out⟩
  · go_enter Tryz.func134, Tryz.ntmps134
    go_wp2_with fail
    refine (H1.out _ zs _ (HC.out _ HB0.out) HO.out hB hlz).mono ?_
    rintro e w1 ⟨v1, rfl, ho1, hb1⟩
    have O1 := Lib.hid ho1
    have B1 := Lib.hid hb1
    have h1 := HG.out _ hb1
    have hs1 := hb1.size
    clear ho1 hb1
    go_wp2_with fail
    refine (H2.out _ _ _ (HC.out _ B1.out) O1.out (by omega) hl2).mono ?_
    rintro e w2 ⟨v2, rfl, ho2, hb2⟩
    have O2 := Lib.hid ho2
    have B2 := Lib.hid (B1.out.trans hb2)
    clear ho2 hb2
    go_wp2
    go_ret
    exact ⟨_, rfl, by have h := O2.out; rw [List.append_assoc, ← zl_app] at h; exact h, B2.out⟩
theorem l11Plane_any (E : Nat) (hE : E ≤ 21) (c : Nat → Nat) (hc : ∀ x, c x < 2097152) (a : Option Addr) (cc : Nat) : ∀ f, f ≤ E → PlnOk c E a cc f
  | 0, _ => pln_zero E hE c a cc
  | f + 1, h => pln_succ E hE c hc a cc f h (l11Plane_any E hE c hc a cc f (by omega))
end Go.Proofs.YtinlnafkmoabbaaGreatDoor.Sg
/- Spec's l11Sets, PlaneTrees, PlanePaths, PolygonsOf, PlaneMatchings and IsTree. -/
namespace Go.Proofs.YtinlnafkmoabbaaGreatDoor.Sg
open Go.RowKit Pt NewI
/-- What l11Sets keeps. -/
def setQ (n least most : Nat) (conn : Bool) (T : Nat) : Bool := (!conn || conB n T) && fineB n least most T
def setsL (c : Nat → Nat) (n size least most : Nat) (conn : Bool) : List Nat := (plT c (eN n) size 0).filter (setQ n least most conn)
theorem sets_con (c : Nat → Nat) (n size least most : Nat) : setsL c n size least most true = kindL c n size (fun T => fineB n least most T && conB n T) := by
  unfold setsL kindL
  refine List.filter_congr fun T _ => ?_
  unfold setQ
  rw [Bool.not_true, Bool.false_or, Bool.and_comm]
theorem sets_any (c : Nat → Nat) (n size least most : Nat) : setsL c n size least most false = kindL c n size (fun T => fineB n least most T) := by
  unfold setsL kindL
  refine List.filter_congr fun T _ => ?_
  unfold setQ
  rw [Bool.not_false, Bool.true_or, Bool.true_and]
def fineK (n least most T i : Nat) : Bool := (List.range i).all fun j => inB (dgN n T j : Nat) least most
theorem fineK_succ (n least most T i : Nat) : fineK n least most T (i + 1) = (fineK n least most T i && inB (dgN n T i : Nat) least most) := by
  unfold fineK
  rw [List.range_succ, List.all_append]
  simp
theorem fineK_all (n least most T : Nat) : fineK n least most T n = fineB n least most T := by
  unfold fineK fineB
  refine all_congr' fun i _ => ?_
  rw [Bool.eq_iff_iff, Bool.and_eq_true, decide_eq_true_eq, decide_eq_true_eq]
  constructor
  · intro h
    have := inB_mem h
    omega
  · rintro ⟨h1, h2⟩
    exact inB_yes (by omega) (by omega)
end Go.Proofs.YtinlnafkmoabbaaGreatDoor.Sg
namespace Go.Proofs.YtinlnafkmoabbaaGreatDoor.FtL
open Go.RowKit Pt NewI Sg
def stTo (q : Nat → Bool) (L : List Nat) (k : Nat) : List Nat := (L.take k).filter q
theorem box_app {w w5 w6 : World} {n : Int} {s : ByteArray} {o : Obj} {v : Value} (h : Box w n s w5) (hg : (w5.alloc o).grownBy w6 v.ownBlock) (hk : ∀ q, v.ownBlock = some q → w.heap.size + 1 ≤ q) : Box w n s w6 := by
  have h5 := Kit.cell_lt h.1
  have h5 : w.heap.size < w5.heap.size := h5
  refine h.block ?_ ((h.2.2.alloc h.2.2.size o).grown hg (h.2.2.alloc h.2.2.size o).size (fun q hq => by have := hk q hq; omega))
  rw [hg.block w.heap.size (by simp; omega) (fun e => by have := hk _ e.symm; omega)]
  exact ((Below.refl w5.heap.size w5).alloc (Nat.le_refl _) o).block _ h5
theorem rdL_app {w5 w6 : World} {g : Nat} {L : List Nat} {o : Obj} {v : Value} (h : RdL w5 (some ⟨g, 0, none⟩) L) (hg : (w5.alloc o).grownBy w6 v.ownBlock) (hk : ∀ q, v.ownBlock = some q → q ≠ g) : RdL w6 (some ⟨g, 0, none⟩) L := fun k hk' => by
  obtain ⟨g', e, hc⟩ := h k hk'
  injection e with e
  injection e with e
  subst e
  have hlt := Kit.cell_lt hc
  have hlt : g < w5.heap.size := hlt
  refine ⟨g, rfl, ?_⟩
  rw [World.cell?_of_block (w := w5.alloc o) (a := ⟨g, k, none⟩) (hg.block g (by simp; omega) (fun e => hk _ e.symm rfl)), World.cell?_of_block (w := w5) (a := ⟨g, k, none⟩) (((Below.refl w5.heap.size w5).alloc (Nat.le_refl _) o).block g hlt)]
  exact hc
theorem getD_memL {L : List Nat} {k : Nat} (h : k < L.length) : L.getD k 0 ∈ L := by
  rw [List.getD_eq_getElem?_getD, List.getElem?_eq_getElem h]
  exact List.getElem_mem h
theorem stTo_succ (q : Nat → Bool) {L : List Nat} {k : Nat} (h : k < L.length) : stTo q L (k + 1) = stTo q L k ++ if q (L.getD k 0) = true then [L.getD k 0] else [] := by
  unfold stTo
  rw [List.take_add_one, List.getD_eq_getElem?_getD, List.getElem?_eq_getElem h, List.filter_append]
  congr 1
  show List.filter q [L[k]] = _
  cases hq : q L[k]
  · simp [hq]
  · simp [hq]
theorem stTo_len (q : Nat → Bool) (L : List Nat) (k : Nat) : (stTo q L k).length ≤ k := by
  unfold stTo
  have h1 := List.length_filter_le q (L.take k)
  rw [List.length_take] at h1
  omega
set_option maxHeartbeats 6400000 in
set_option maxRecDepth 100000 in
theorem l11Sets_any (n : Nat) (s : ByteArray) (hac : aciB n s.data.toList = true) (h6 : n ≤ 6) (hs : s.size ≤ 9223372036854775807) (size least most : Nat) (hsz : size ≤ 64) (_hle : least ≤ 64) (_hmo : most ≤ 64) (conn : Bool) (w : World) :
    Calls Tryz.prog 84 #[sg n s, .int .i64 size, .int .i64 least, .int .i64 most, .bool conn] w fun e w' => Got w.heap.size (zl (setsL (cS n s.data.toList) n size least most conn)) e w' ∧ Below w.heap.size w w' := by
  have HS := Lib.hid (box_made w n s 25)
  have HA := Lib.hid (fun W => specFits n s hs W)
  have hfit : Sg.fitB n s.data.toList = true := by unfold Sg.fitB; rw [hac, decide_eq_true (show (n : Int) ≤ 6 by omega)]; rfl
  rw [hfit] at HA
  obtain ⟨h3, -⟩ := aciB_n hac
  have h3 : 3 ≤ n := by omega
  have h7 : n ≤ 7 := by omega
  obtain ⟨x0, x1, -⟩ := HS.out
  have hE := eN_bd n (by omega)
  have hE15 : eN n ≤ 15 := by
    have : ∀ m, m ≤ 6 → eN m ≤ 15 := by decide
    exact this n h6
  have hpE := Nat.pow_le_pow_right (n := 2) (by omega) hE15
  have HP := Lib.hid (fun W => specPairs n s hac W)
  have HAL := Lib.hid (fun a cc => l11Plane_any (eN n) hE (cS n s.data.toList) (cS_lt (by omega) s.data.toList) a cc (eN n) (Nat.le_refl _))
  have HMEM : Hid (∀ U ∈ plT (cS n s.data.toList) (eN n) size 0, U < 2 ^ eN n) := Lib.hid (fun U hU => (mem_pl.1 hU).1)
  have hlen := plT_len (cS n s.data.toList) (eN n) size 0
  have HCN := Lib.hid (fun U (hU : U < 2 ^ eN n) W => l11Con_any n U h3 h7 (by omega) W)
  obtain ⟨K, hK, -, hK2⟩ := allZ_nat6 (n := n) h3 h6
  have HDG : Hid (∀ U : Nat, U < 2 ^ eN n → ∀ W, Calls Tryz.prog 22 #[.int .i64 n, .int .i64 U] W fun e w' => Got W.heap.size (zl (degL n U)) e w' ∧ Below W.heap.size W w') := Lib.hid (fun U hU W => by
    have := specDegrees (n : Int) (U : Int) W
    have e : degZ (n : Int) (U : Int) = degL n U := by
      unfold degZ
      rw [if_pos ⟨inB_yes (by omega) (by omega), by rw [hK]; exact inB_yes (by omega) (by omega)⟩, Int.toNat_natCast, Int.toNat_natCast]
    rw [e] at this
    exact this)
  have HDL : Hid (∀ U i : Nat, i < n → (degL n U).length = n ∧ (degL n U).getD i 0 = dgN n U i) := Lib.hid (fun U i hi => ⟨degL_len n U, by
    unfold degL
    rw [List.getD_eq_getElem?_getD, List.getElem?_map, List.getElem?_range hi]
    rfl⟩)
  have HFS := Lib.hid (fun U i => fineK_succ n least most U i)
  have HF0 : Hid (∀ U, fineK n least most U 0 = true) := Lib.hid (fun _ => rfl)
  have HFQ : Hid (∀ U, setQ n least most conn U = ((!conn || conB n U) && fineK n least most U n)) := Lib.hid (fun U => by rw [fineK_all]; rfl)
  have HLI := Lib.hid (fun (x : Int) W => l1In_any x least most W)
  have HRES : Hid (setsL (cS n s.data.toList) n size least most conn = stTo (setQ n least most conn) (plT (cS n s.data.toList) (eN n) size 0) (plT (cS n s.data.toList) (eN n) size 0).length) := Lib.hid (by unfold setsL stTo; rw [List.take_length])
  rw [HRES.out]
  generalize hall : plT (cS n s.data.toList) (eN n) size 0 = all at HMEM hlen ⊢
  have HALL := Lib.hid hall
  clear hall
  have HST := Lib.hid (fun k (hk : k < all.length) => stTo_succ (setQ n least most conn) hk)
  have HSL := Lib.hid (stTo_len (setQ n least most conn) all)
  have HS0 : Hid (stTo (setQ n least most conn) all 0 = []) := Lib.hid rfl
  generalize stTo (setQ n least most conn) all = st at HST HSL HS0 ⊢
  obtain ⟨N, hN⟩ : ∃ N, N = all.length := ⟨_, rfl⟩
  rw [← hN] at hlen ⊢
  have HNL := Lib.hid hN
  generalize cS n s.data.toList = c at HP HAL HALL
  generalize degL n = dgl at HDG HDL
  generalize conB n = cb at HCN HFQ
  generalize fineK n least most = fk at HFS HF0 HFQ
  generalize setQ n least most conn = sq at HFQ HST
  generalize eN n = E at HP HAL HALL HMEM hlen HCN HDG hE15 hpE hE hK2
  have wE : IntKind.i64.wrap ((E : Int) - 1) = (E : Int) - 1 := IntWalk.i64_in _ (by omega)
  obtain ⟨i0, hi, hz0, hz1, hz2⟩ := info_parts infoI
  have HO1 : Hid (OwnsZ (w.alloc (.cells #[.int .i64 n, .string s] 25) |>.alloc (.cells #[] 3)) (w.heap.size + 1) (.slice (some ⟨w.heap.size + 1, 0, none⟩) 0 0) (zl (st 0))) := Lib.hid (by
    rw [HS0.out]
    have := World.ownsRow_made (base := w.heap.size + 1) (e := 3) (size := 1) (w.alloc (.cells #[.int .i64 n, .string s] 25)) #[] 0 (by simp) (by decide) rfl
    have hsz' : (w.alloc (.cells #[.int .i64 n, .string s] 25)).heap.size = w.heap.size + 1 := by simp
    rw [hsz'] at this
    exact this)
  have HX1 := Lib.hid (HS.out.alloc (.cells #[] 3))
  clear hfit hac hN hK hK2 HRES x0 x1
  obtain ⟨x0, x1, B0⟩ := HX1.out
  go_enter Tryz.func84, Tryz.ntmps84
  go_wp2_with fail
  refine (HA.out _).mono ?_
  rintro e w1 ⟨rfl, hb1⟩
  have X1 := Lib.hid (HX1.out.on hb1)
  have O1 := Lib.hid (ownsZ_on HO1.out hb1)
  clear hb1 x0 x1 B0
  obtain ⟨x0, x1, B1⟩ := X1.out
  go_wp2_with fail
  refine (HP.out _).mono ?_
  rintro e w2 ⟨⟨a, cc, rfl, hr⟩, hb2⟩
  have X2 := Lib.hid (X1.out.on hb2)
  have O2 := Lib.hid (ownsZ_on O1.out hb2)
  have HO0 : Hid (OwnsZ (w2.alloc (.cells #[] 3)) w2.heap.size (.slice (some ⟨w2.heap.size, 0, none⟩) 0 0) []) := Lib.hid (World.ownsRow_made (base := w2.heap.size) (e := 3) (size := 1) w2 #[] 0 (Nat.le_refl _) (by decide) rfl)
  have HB0 : Hid (Below w2.heap.size w2 (w2.alloc (.cells #[] 3))) := Lib.hid ((Below.refl _ _).alloc (Nat.le_refl _) _)
  have HR := Lib.hid (hr.on HB0.out)
  have hsz2 : w2.heap.size ≤ (w2.alloc (.cells #[] 3)).heap.size := by simp
  clear hr hb2 x0 x1 B1
  go_wp2_with fail
  refine (HAL.out _ _ ((E : Int) - 1) rfl (size : Int) size rfl hsz 0 (by omega) w2.heap.size _ [] _ HR.out HO0.out hsz2 (by simp only [List.length_nil]; omega)).mono ?_
  rintro e w3 ⟨v, rfl, ho, hb3⟩
  rw [HALL.out] at ho
  obtain ⟨ra, rc, rfl, hnew, -⟩ := NewI.New.of_own ho
  have R3 := Lib.hid (rdL_new (L := all) (by simpa using hnew))
  have hb3' := HB0.out.trans hb3
  have X3 := Lib.hid (X2.out.on hb3')
  have O3 := Lib.hid (ownsZ_on O2.out hb3')
  have hlz : (([] : List Int) ++ zl all).length = N := by rw [List.nil_append, zl_length, HNL.out]
  rw [hlz]
  have hw2 : w.heap.size + 2 ≤ w2.heap.size := (World.ownsRow.lt O2.out (w.heap.size + 1) rfl).2
  have HNE0 : Hid (0 < N → ∀ q gg, (Value.slice (some ⟨w.heap.size + 1, 0, none⟩) 0 0).ownBlock = some q → ra = some ⟨gg, 0, none⟩ → q ≠ gg) := Lib.hid (fun hN0 q gg hq hra => by
    obtain rfl : w.heap.size + 1 = q := by simpa [Value.ownBlock] using hq
    rcases hnew with h | ⟨b, hb, h1, -⟩
    · rw [hlz] at h; omega
    · rw [hra] at hb
      injection hb with hb
      injection hb with hb
      omega)
  clear ho hb3 hb3' hnew hlz
  have hN32 : N ≤ 32768 := by omega
  have hw3 := X3.out.2.2.size
  go_wp2
  go_loopw [11, 14] (fun vv kv wr => ∃ k : Nat, k ≤ N ∧ kv = .int .i64 k ∧ Hid (OwnsZ wr (w.heap.size + 1) vv (zl (st k))) ∧ Hid (RdL wr ra all) ∧ Hid (Box w n s wr) ∧ Hid (0 < N → ∀ q gg, vv.ownBlock = some q → ra = some ⟨gg, 0, none⟩ → q ≠ gg)) (fun _ kv _ => N - (intOf kv).toNat)
  case atStart => exact ⟨0, Nat.zero_le _, rfl, O3, R3, X3, HNE0⟩
  case round =>
    rename World => wA
    obtain ⟨k, hk, rfl, HO, HRD, HB, HNE⟩ := hrel
    by_cases hlt : k < N
    · have hkl : k < all.length := by have := HNL.out; omega
      obtain ⟨g, rfl, hcell⟩ := HRD.out k hkl
      have hU := HMEM.out _ (getD_memL hkl)
      have HGN : Hid (∀ q, Value.ownBlock u11 = some q → q ≠ g) := Lib.hid (fun q hq => HNE.out (by omega) q g hq rfl)
      have HSTk := Lib.hid (HST.out k hkl)
      have hFQ := HFQ.out (all.getD k 0)
      have HGC : Hid (∀ W, Below wA.heap.size wA W → W.cell? ⟨g, k, none⟩ = some (.int .i64 (all.getD k 0 : Nat))) := Lib.hid (fun W hW => by rw [hW.cell (Kit.cell_lt hcell)]; exact hcell)
      generalize all.getD k 0 = U at hcell hU HSTk hFQ HGC
      have HCNU := Lib.hid (HCN.out U hU)
      have HDGU := Lib.hid (HDG.out U hU)
      have HFQU := Lib.hid hFQ
      obtain ⟨c0, c1, B0⟩ := HB.out
      have hwA := B0.size
      clear hFQ
      go_wp2
      have HOD := Lib.hid HO.out.drew
      have HRDD : Hid (RdL wA.drew (some ⟨g, 0, none⟩) all) := Lib.hid HRD.out
      cases conn
      · obtain ⟨fz, hfz0⟩ : ∃ fz : Nat → Bool, fz = fun i => true && fk U i := ⟨_, rfl⟩
        have HZ0 : Hid (fz 0 = true) := Lib.hid (by rw [hfz0]; show (true && fk U 0) = _; rw [HF0.out, Bool.and_true])
        have HZS : Hid (∀ i, fz (i + 1) = (fz i && inB ((dgN n U i : Nat) : Int) least most)) := Lib.hid (fun i => by rw [hfz0]; show (true && fk U (i + 1)) = ((true && fk U i) && _); rw [HFS.out, Bool.and_assoc])
        have HZN : Hid (fz n = sq U) := Lib.hid (by rw [hfz0, HFQU.out]; rfl)
        clear hfz0
        refine region_tail 9 (by kernel_rfl) (by kernel_rfl) ?_
        intro W hW
        have d0 : W.cell? ⟨w.heap.size, 0, none⟩ = some (.int .i64 n) := by rw [hW]; exact c0
        have d2 : W.cell? ⟨g, k, none⟩ = some (.int .i64 (U : Nat)) := by rw [hW]; exact hcell
        have HOW : Hid (OwnsZ W (w.heap.size + 1) u11 (zl (st k))) := Lib.hid (by rw [hW]; exact HOD.out)
        have HRW : Hid (RdL W (some ⟨g, 0, none⟩) all) := Lib.hid (by rw [hW]; exact HRDD.out)
        have HXW : Hid (Box w n s W) := Lib.hid (by rw [hW]; exact HB.out.drew)
        clear hW c0 c1 B0 hcell
        simp only [List.take_succ_cons, List.take_zero, List.drop_succ_cons, List.drop_zero]
        still_step
        still_step
        still_step
        still_step
        still_step
        still_step
        still_step
        still_step
        still_step
        refine wpStill_nil ?_
        change wpList _ _ _ _ _ W
        go_wp2
        refine region_tail 6 (by kernel_rfl) (by kernel_rfl) ?_
        intro W2 hW2
        have f0 : W2.cell? ⟨w.heap.size, 0, none⟩ = some (.int .i64 n) := by rw [hW2]; exact d0
        have f2 : W2.cell? ⟨g, k, none⟩ = some (.int .i64 (U : Nat)) := by rw [hW2]; exact d2
        have HO2 : Hid (OwnsZ W2 (w.heap.size + 1) u11 (zl (st k))) := Lib.hid (by rw [hW2]; exact HOW.out.drew)
        have HR2 : Hid (RdL W2 (some ⟨g, 0, none⟩) all) := Lib.hid (by rw [hW2]; exact HRW.out)
        have HX2 : Hid (Box w n s W2) := Lib.hid (by rw [hW2]; exact HXW.out.drew)
        clear hW2 d0 d2
        simp only [List.take_succ_cons, List.take_zero, List.drop_succ_cons, List.drop_zero]
        still_step
        still_step
        still_step
        still_step
        still_step
        still_step
        refine wpStill_nil ?_
        change wpList _ _ _ _ _ W2
        go_wp2_with fail
        refine (HDGU.out _).mono ?_
        rintro e w5 ⟨⟨da, dc, rfl, hdn⟩, hb5⟩
        have hdl : (zl (dgl U)).length = n := by rw [zl_length]; exact (HDL.out U 0 (by omega)).1
        have RD5 := Lib.hid (rdL_new (L := dgl U) hdn)
        rw [hdl]
        have HO5 := Lib.hid (ownsZ_on HO2.out hb5)
        have HR5 := Lib.hid (HR2.out.on hb5)
        have HX5 := Lib.hid (HX2.out.on hb5)
        have f5 : w5.cell? ⟨g, k, none⟩ = some (.int .i64 (U : Nat)) := by rw [hb5.cell (Kit.cell_lt f2)]; exact f2
        have HF5 := Lib.hid f5
        clear hdn hb5 hdl f0 f2 f5 HO2 HR2 HX2
        go_wp2
        go_loopw [15, 17] (fun fv iv wr => ∃ i : Nat, i ≤ n ∧ iv = .int .i64 i ∧ fv = .bool (fz i) ∧ w5 = wr) (fun _ iv _ => n - (intOf iv).toNat)
        case atStart => exact ⟨0, Nat.zero_le _, rfl, by rw [HZ0.out], rfl⟩
        case round =>
          obtain ⟨i, hin, rfl, rfl, rfl⟩ := hrel
          by_cases hlt2 : i < n
          · obtain ⟨hd1, hd2⟩ := HDL.out U i hlt2
            obtain ⟨g5, rfl, hdc⟩ := RD5.out i (by omega)
            rw [hd2] at hdc
            have HZi := Lib.hid (HZS.out i)
            have HLU := Lib.hid (HLI.out ((dgN n U i : Nat) : Int))
            generalize dgN n U i = dv at hdc HZi HLU
            cases hfz : fz i
            · have HV : Hid (fz (i + 1) = false) := Lib.hid (by rw [HZi.out, hfz]; rfl)
              clear hd1 hd2 hfz
              go_wp2
              exact ⟨⟨i + 1, by omega, by go_num, by rw [HV.out], by trivial⟩, by simp only [intOf]; omega⟩
            · have HV : Hid (fz (i + 1) = inB (dv : Nat) least most) := Lib.hid (by rw [HZi.out, hfz]; rfl)
              clear hd1 hd2 hfz
              go_wp2_with fail
              refine (HLU.out _).mono ?_
              rintro e w' ⟨rfl, rfl⟩
              go_wp2
              exact ⟨⟨i + 1, by omega, by go_num, by rw [HV.out], by trivial⟩, by simp only [intOf]; omega⟩
          · obtain rfl : i = n := by omega
            have hcell := HF5.out
            have hw5 := HX5.out.2.2.size
            have hzl : (zl (st k)).length ≤ 32768 := by rw [zl_length]; have := HSL.out k; omega
            cases hq : sq U
            · have HFI : Hid (fz i = false) := Lib.hid (by rw [HZN.out, hq])
              have HLN1 : Hid (st (k + 1) = st k) := Lib.hid (by rw [HSTk.out, hq]; simp)
              have HO6 : Hid (OwnsZ w5 (w.heap.size + 1) u11 (zl (st (k + 1)))) := Lib.hid (by rw [HLN1.out]; exact HO5.out)
              rw [HFI.out]
              clear hq
              go_wp2
              exact ⟨⟨k + 1, by omega, by go_num, HO6, HR5, HX5, HNE⟩, by simp only [intOf]; omega⟩
            · have HFI : Hid (fz i = true) := Lib.hid (by rw [HZN.out, hq])
              have HLN1 : Hid (st (k + 1) = st k ++ [U]) := Lib.hid (by rw [HSTk.out, hq, if_pos rfl])
              rw [HFI.out]
              clear hq
              go_wp2_with (at_builtin; refine wpList_append_lies _ rfl (.tmp 73) (.tmp 78) 27 rfl (w.heap.size + 1) 3 i0 _ 1 8 Tryz.underlying27 hi hz0 hz1 hz2 rfl (by decide) _ _ _ rfl (World.ownsRow.alloc HO5.out _) ⟨_, 0, none⟩ 1 1 [.int .i64 (U : Int)] rfl rfl (news1 _ _ _) (one1 _) (by omega) (by simp only [maxLen]; omega) (by omega) (by simp; omega) (w5.heap.size + 1) (by simp) ?_)
              intro g6 c6 w6 hown6 hg6 hat6 hlt6
              have hk6 : ∀ q, Value.ownBlock u11 = some q → w.heap.size + 1 ≤ q := fun q hq => (World.ownsRow.lt HO5.out q hq).1
              have hlen6 : (zl (st k)).length + 1 = (zl (st (k + 1))).length := by rw [HLN1.out, zlS_snoc, List.length_append]; rfl
              have HO6 : Hid (OwnsZ w6 (w.heap.size + 1) (.slice (some ⟨g6, 0, none⟩) ((zl (st k)).length + 1) c6) (zl (st (k + 1)))) := Lib.hid (by
                have := ownsZ_snoc (ys := [(U : Int)]) hown6
                rw [HLN1.out, zlS_snoc]
                exact this)
              have HX6 : Hid (Box w i s w6) := Lib.hid (box_app HX5.out hg6 hk6)
              have HR6 : Hid (RdL w6 (some ⟨g, 0, none⟩) all) := Lib.hid (rdL_app HR5.out hg6 HGN.out)
              have hg5 : g < w5.heap.size := Kit.cell_lt hcell
              have HN6 : Hid (0 < N → ∀ q gg, (Value.slice (some ⟨g6, 0, none⟩) ((zl (st k)).length + 1) c6).ownBlock = some q → (some ⟨g, 0, none⟩ : Option Addr) = some ⟨gg, 0, none⟩ → q ≠ gg) := Lib.hid (fun _ q gg hq hgg => by
                obtain rfl : g6 = q := by simpa [Value.ownBlock] using hq
                injection hgg with hgg
                injection hgg with hgg
                rcases hat6 with h | h
                · have := HGN.out g6 h; omega
                · omega)
              clear hown6 hg6 hat6 hlt6 hk6 hlen6
              go_wp2
              exact ⟨⟨k + 1, by omega, by go_num, HO6, HR6, HX6, HN6⟩, by simp only [intOf]; omega⟩
      · obtain ⟨fz, hfz0⟩ : ∃ fz : Nat → Bool, fz = fun i => cb U && fk U i := ⟨_, rfl⟩
        have HZ0 : Hid (fz 0 = cb U) := Lib.hid (by rw [hfz0]; show (cb U && fk U 0) = _; rw [HF0.out, Bool.and_true])
        have HZS : Hid (∀ i, fz (i + 1) = (fz i && inB ((dgN n U i : Nat) : Int) least most)) := Lib.hid (fun i => by rw [hfz0]; show (cb U && fk U (i + 1)) = ((cb U && fk U i) && _); rw [HFS.out, Bool.and_assoc])
        have HZN : Hid (fz n = sq U) := Lib.hid (by rw [hfz0, HFQU.out]; rfl)
        clear hfz0
        refine region_tail 9 (by kernel_rfl) (by kernel_rfl) ?_
        intro W hW
        have d0 : W.cell? ⟨w.heap.size, 0, none⟩ = some (.int .i64 n) := by rw [hW]; exact c0
        have d2 : W.cell? ⟨g, k, none⟩ = some (.int .i64 (U : Nat)) := by rw [hW]; exact hcell
        have HOW : Hid (OwnsZ W (w.heap.size + 1) u11 (zl (st k))) := Lib.hid (by rw [hW]; exact HOD.out)
        have HRW : Hid (RdL W (some ⟨g, 0, none⟩) all) := Lib.hid (by rw [hW]; exact HRDD.out)
        have HXW : Hid (Box w n s W) := Lib.hid (by rw [hW]; exact HB.out.drew)
        clear hW c0 c1 B0 hcell
        simp only [List.take_succ_cons, List.take_zero, List.drop_succ_cons, List.drop_zero]
        still_step
        still_step
        still_step
        still_step
        still_step
        still_step
        still_step
        still_step
        still_step
        refine wpStill_nil ?_
        change wpList _ _ _ _ _ W
        go_wp2_with fail
        refine (HCNU.out _).mono ?_
        rintro e w' ⟨rfl, rfl⟩
        go_wp2
        refine region_tail 6 (by kernel_rfl) (by kernel_rfl) ?_
        intro W2 hW2
        have f0 : W2.cell? ⟨w.heap.size, 0, none⟩ = some (.int .i64 n) := by rw [hW2]; exact d0
        have f2 : W2.cell? ⟨g, k, none⟩ = some (.int .i64 (U : Nat)) := by rw [hW2]; exact d2
        have HO2 : Hid (OwnsZ W2 (w.heap.size + 1) u11 (zl (st k))) := Lib.hid (by rw [hW2]; exact HOW.out.drew)
        have HR2 : Hid (RdL W2 (some ⟨g, 0, none⟩) all) := Lib.hid (by rw [hW2]; exact HRW.out)
        have HX2 : Hid (Box w n s W2) := Lib.hid (by rw [hW2]; exact HXW.out.drew)
        clear hW2 d0 d2
        simp only [List.take_succ_cons, List.take_zero, List.drop_succ_cons, List.drop_zero]
        still_step
        still_step
        still_step
        still_step
        still_step
        still_step
        refine wpStill_nil ?_
        change wpList _ _ _ _ _ W2
        go_wp2_with fail
        refine (HDGU.out _).mono ?_
        rintro e w5 ⟨⟨da, dc, rfl, hdn⟩, hb5⟩
        have hdl : (zl (dgl U)).length = n := by rw [zl_length]; exact (HDL.out U 0 (by omega)).1
        have RD5 := Lib.hid (rdL_new (L := dgl U) hdn)
        rw [hdl]
        have HO5 := Lib.hid (ownsZ_on HO2.out hb5)
        have HR5 := Lib.hid (HR2.out.on hb5)
        have HX5 := Lib.hid (HX2.out.on hb5)
        have f5 : w5.cell? ⟨g, k, none⟩ = some (.int .i64 (U : Nat)) := by rw [hb5.cell (Kit.cell_lt f2)]; exact f2
        have HF5 := Lib.hid f5
        clear hdn hb5 hdl f0 f2 f5 HO2 HR2 HX2
        go_wp2
        go_loopw [15, 17] (fun fv iv wr => ∃ i : Nat, i ≤ n ∧ iv = .int .i64 i ∧ fv = .bool (fz i) ∧ w5 = wr) (fun _ iv _ => n - (intOf iv).toNat)
        case atStart => exact ⟨0, Nat.zero_le _, rfl, by rw [HZ0.out], rfl⟩
        case round =>
          obtain ⟨i, hin, rfl, rfl, rfl⟩ := hrel
          by_cases hlt2 : i < n
          · obtain ⟨hd1, hd2⟩ := HDL.out U i hlt2
            obtain ⟨g5, rfl, hdc⟩ := RD5.out i (by omega)
            rw [hd2] at hdc
            have HZi := Lib.hid (HZS.out i)
            have HLU := Lib.hid (HLI.out ((dgN n U i : Nat) : Int))
            generalize dgN n U i = dv at hdc HZi HLU
            cases hfz : fz i
            · have HV : Hid (fz (i + 1) = false) := Lib.hid (by rw [HZi.out, hfz]; rfl)
              clear hd1 hd2 hfz
              go_wp2
              exact ⟨⟨i + 1, by omega, by go_num, by rw [HV.out], by trivial⟩, by simp only [intOf]; omega⟩
            · have HV : Hid (fz (i + 1) = inB (dv : Nat) least most) := Lib.hid (by rw [HZi.out, hfz]; rfl)
              clear hd1 hd2 hfz
              go_wp2_with fail
              refine (HLU.out _).mono ?_
              rintro e w' ⟨rfl, rfl⟩
              go_wp2
              exact ⟨⟨i + 1, by omega, by go_num, by rw [HV.out], by trivial⟩, by simp only [intOf]; omega⟩
          · obtain rfl : i = n := by omega
            have hcell := HF5.out
            have hw5 := HX5.out.2.2.size
            have hzl : (zl (st k)).length ≤ 32768 := by rw [zl_length]; have := HSL.out k; omega
            cases hq : sq U
            · have HFI : Hid (fz i = false) := Lib.hid (by rw [HZN.out, hq])
              have HLN1 : Hid (st (k + 1) = st k) := Lib.hid (by rw [HSTk.out, hq]; simp)
              have HO6 : Hid (OwnsZ w5 (w.heap.size + 1) u11 (zl (st (k + 1)))) := Lib.hid (by rw [HLN1.out]; exact HO5.out)
              rw [HFI.out]
              clear hq
              go_wp2
              exact ⟨⟨k + 1, by omega, by go_num, HO6, HR5, HX5, HNE⟩, by simp only [intOf]; omega⟩
            · have HFI : Hid (fz i = true) := Lib.hid (by rw [HZN.out, hq])
              have HLN1 : Hid (st (k + 1) = st k ++ [U]) := Lib.hid (by rw [HSTk.out, hq, if_pos rfl])
              rw [HFI.out]
              clear hq
              go_wp2_with (at_builtin; refine wpList_append_lies _ rfl (.tmp 73) (.tmp 78) 27 rfl (w.heap.size + 1) 3 i0 _ 1 8 Tryz.underlying27 hi hz0 hz1 hz2 rfl (by decide) _ _ _ rfl (World.ownsRow.alloc HO5.out _) ⟨_, 0, none⟩ 1 1 [.int .i64 (U : Int)] rfl rfl (news1 _ _ _) (one1 _) (by omega) (by simp only [maxLen]; omega) (by omega) (by simp; omega) (w5.heap.size + 1) (by simp) ?_)
              intro g6 c6 w6 hown6 hg6 hat6 hlt6
              have hk6 : ∀ q, Value.ownBlock u11 = some q → w.heap.size + 1 ≤ q := fun q hq => (World.ownsRow.lt HO5.out q hq).1
              have hlen6 : (zl (st k)).length + 1 = (zl (st (k + 1))).length := by rw [HLN1.out, zlS_snoc, List.length_append]; rfl
              have HO6 : Hid (OwnsZ w6 (w.heap.size + 1) (.slice (some ⟨g6, 0, none⟩) ((zl (st k)).length + 1) c6) (zl (st (k + 1)))) := Lib.hid (by
                have := ownsZ_snoc (ys := [(U : Int)]) hown6
                rw [HLN1.out, zlS_snoc]
                exact this)
              have HX6 : Hid (Box w i s w6) := Lib.hid (box_app HX5.out hg6 hk6)
              have HR6 : Hid (RdL w6 (some ⟨g, 0, none⟩) all) := Lib.hid (rdL_app HR5.out hg6 HGN.out)
              have hg5 : g < w5.heap.size := Kit.cell_lt hcell
              have HN6 : Hid (0 < N → ∀ q gg, (Value.slice (some ⟨g6, 0, none⟩) ((zl (st k)).length + 1) c6).ownBlock = some q → (some ⟨g, 0, none⟩ : Option Addr) = some ⟨gg, 0, none⟩ → q ≠ gg) := Lib.hid (fun _ q gg hq hgg => by
                obtain rfl : g6 = q := by simpa [Value.ownBlock] using hq
                injection hgg with hgg
                injection hgg with hgg
                rcases hat6 with h | h
                · have := HGN.out g6 h; omega
                · omega)
              clear hown6 hg6 hat6 hlt6 hk6 hlen6
              go_wp2
              exact ⟨⟨k + 1, by omega, by go_num, HO6, HR6, HX6, HN6⟩, by simp only [intOf]; omega⟩
    · obtain rfl : k = N := by omega
      obtain ⟨ra2, rc2, rfl, hnew, -⟩ := NewI.New.of_own HO.out
      have HN := Lib.hid (new_low hnew (by omega : w.heap.size ≤ w.heap.size + 1))
      have BB := Lib.hid HB.out.2.2
      clear hnew
      go_wp2
      go_ret
      exact ⟨⟨_, _, rfl, HN.out⟩, BB.out⟩
end Go.Proofs.YtinlnafkmoabbaaGreatDoor.FtL
/- Spec's PlaneTrees, PlanePaths, PolygonsOf, PlaneMatchings. -/
namespace Go.Proofs.YtinlnafkmoabbaaGreatDoor.Sg
open Go.RowKit Pt NewI
/-- What l11Sets answers, for any signs. -/
def setZ (n : Int) (s : List UInt8) (size least most : Nat) (conn : Bool) : List Nat := if Sg.fitB n s = true then setsL (cS n.toNat s) n.toNat size least most conn else []
set_option maxHeartbeats 1600000 in
set_option maxRecDepth 100000 in
theorem l11Sets_no (n : Int) (s : ByteArray) (h : Sg.fitB n s.data.toList = false) (hs : s.size ≤ 9223372036854775807) (size least most : Int) (conn : Bool) (w : World) :
    Calls Tryz.prog 84 #[sg n s, .int .i64 size, .int .i64 least, .int .i64 most, .bool conn] w fun e w' => Got w.heap.size [] e w' ∧ Below w.heap.size w w' := by
  have HS := Lib.hid (box_made w n s 25)
  have HA := Lib.hid (fun W => specFits n s hs W)
  rw [h] at HA
  have HX1 := Lib.hid (HS.out.alloc (.cells #[] 3))
  obtain ⟨x0, x1, B0⟩ := HX1.out
  clear h
  go_enter Tryz.func84, Tryz.ntmps84
  go_wp2_with fail
  refine (HA.out _).mono ?_
  rintro e w1 ⟨rfl, hb1⟩
  have B1 := Lib.hid (HX1.out.on hb1).2.2
  clear hb1 x0 x1 B0
  go_wp2
  go_ret
  exact ⟨⟨_, _, rfl, .inl rfl⟩, B1.out⟩
theorem l11Sets_is (n : Nat) (s : ByteArray) (hs : s.size ≤ 9223372036854775807) (size : Int) (sz least most : Nat) (hz : Sg.fitB n s.data.toList = true → size = sz ∧ sz ≤ 64) (hle : least ≤ 64) (hmo : most ≤ 64) (conn : Bool) (w : World) :
    Calls Tryz.prog 84 #[sg n s, .int .i64 size, .int .i64 least, .int .i64 most, .bool conn] w fun e w' => Got w.heap.size (zl (setZ n s.data.toList sz least most conn)) e w' ∧ Below w.heap.size w w' := by
  unfold setZ
  cases h : Sg.fitB n s.data.toList
  · exact l11Sets_no n s h hs size least most conn w
  · obtain ⟨hac, h6⟩ := fitB_n h
    obtain ⟨rfl, hzb⟩ := hz h
    rw [if_pos rfl, Int.toNat_natCast]
    exact FtL.l11Sets_any n s hac (by omega) hs sz least most hzb hle hmo conn w
def treeZ (n : Int) (s : List UInt8) : List Nat := setZ n s (n.toNat - 1) 1 6 true
set_option maxHeartbeats 1600000 in
set_option maxRecDepth 100000 in
theorem specPlaneTrees (n : Int) (hn : I64 n) (s : ByteArray) (hs : s.size ≤ 9223372036854775807) (w : World) :
    Calls Tryz.prog 15 #[sg n s] w fun e w' => Got w.heap.size (zl (treeZ n s.data.toList)) e w' ∧ Below w.heap.size w w' := by
  have HS := Lib.hid (box_made w n s 25)
  obtain ⟨x0, x1, -⟩ := HS.out
  have HA := Lib.hid (fun W => specFits n s hs W)
  cases h : Sg.fitB n s.data.toList
  · have HE : Hid (treeZ n s.data.toList = []) := Lib.hid (by unfold treeZ setZ; rw [h]; rfl)
    rw [HE.out]
    rw [h] at HA
    clear h HE
    go_enter Tryz.func15, Tryz.ntmps15
    go_wp2_with fail
    refine (HA.out _).mono ?_
    rintro e w1 ⟨rfl, hb1⟩
    have B1 := Lib.hid (HS.out.on hb1).2.2
    have B2 := Lib.hid (B1.out.alloc B1.out.size (.cells #[] 3))
    clear hb1 x0 x1
    go_wp2
    go_ret
    exact ⟨⟨_, _, rfl, .inl rfl⟩, B2.out⟩
  · obtain ⟨hac, h6⟩ := fitB_n h
    obtain ⟨h3, -⟩ := aciB_n hac
    obtain ⟨m, rfl⟩ : ∃ m : Nat, n = m := ⟨n.toNat, by omega⟩
    have HL := Lib.hid (fun W => l11Sets_is m s hs ((m : Int) - 1) (m - 1) 1 6 (fun _ => ⟨by omega, by omega⟩) (by omega) (by omega) true W)
    have HE : Hid (treeZ m s.data.toList = setZ m s.data.toList (m - 1) 1 6 true) := Lib.hid rfl
    rw [HE.out]
    rw [h] at HA
    generalize setZ m s.data.toList (m - 1) 1 6 true = R at HL ⊢
    clear h HE hac
    go_enter Tryz.func15, Tryz.ntmps15
    go_wp2_with fail
    refine (HA.out _).mono ?_
    rintro e w1 ⟨rfl, hb1⟩
    have X1 := Lib.hid (HS.out.on hb1)
    clear hb1 x0 x1
    obtain ⟨x0, x1, B1⟩ := X1.out
    go_wp2_with fail
    refine (HL.out _).mono ?_
    rintro e w2 ⟨⟨a, c, rfl, hn2⟩, hb2⟩
    have B2 := Lib.hid (B1.trans (hb2.mono B1.size))
    have HN := Lib.hid (new_low hn2 B1.size)
    clear hn2 hb2 x0 x1 B1
    go_wp2
    go_ret
    exact ⟨⟨a, c, rfl, HN.out⟩, B2.out⟩
def pathZ (n : Int) (s : List UInt8) : List Nat := setZ n s (n.toNat - 1) 1 2 true
set_option maxHeartbeats 1600000 in
set_option maxRecDepth 100000 in
theorem specPlanePaths (n : Int) (hn : I64 n) (s : ByteArray) (hs : s.size ≤ 9223372036854775807) (w : World) :
    Calls Tryz.prog 16 #[sg n s] w fun e w' => Got w.heap.size (zl (pathZ n s.data.toList)) e w' ∧ Below w.heap.size w w' := by
  have HS := Lib.hid (box_made w n s 25)
  obtain ⟨x0, x1, -⟩ := HS.out
  have HA := Lib.hid (fun W => specFits n s hs W)
  cases h : Sg.fitB n s.data.toList
  · have HE : Hid (pathZ n s.data.toList = []) := Lib.hid (by unfold pathZ setZ; rw [h]; rfl)
    rw [HE.out]
    rw [h] at HA
    clear h HE
    go_enter Tryz.func16, Tryz.ntmps16
    go_wp2_with fail
    refine (HA.out _).mono ?_
    rintro e w1 ⟨rfl, hb1⟩
    have B1 := Lib.hid (HS.out.on hb1).2.2
    have B2 := Lib.hid (B1.out.alloc B1.out.size (.cells #[] 3))
    clear hb1 x0 x1
    go_wp2
    go_ret
    exact ⟨⟨_, _, rfl, .inl rfl⟩, B2.out⟩
  · obtain ⟨hac, h6⟩ := fitB_n h
    obtain ⟨h3, -⟩ := aciB_n hac
    obtain ⟨m, rfl⟩ : ∃ m : Nat, n = m := ⟨n.toNat, by omega⟩
    have HL := Lib.hid (fun W => l11Sets_is m s hs ((m : Int) - 1) (m - 1) 1 2 (fun _ => ⟨by omega, by omega⟩) (by omega) (by omega) true W)
    have HE : Hid (pathZ m s.data.toList = setZ m s.data.toList (m - 1) 1 2 true) := Lib.hid rfl
    rw [HE.out]
    rw [h] at HA
    generalize setZ m s.data.toList (m - 1) 1 2 true = R at HL ⊢
    clear h HE hac
    go_enter Tryz.func16, Tryz.ntmps16
    go_wp2_with fail
    refine (HA.out _).mono ?_
    rintro e w1 ⟨rfl, hb1⟩
    have X1 := Lib.hid (HS.out.on hb1)
    clear hb1 x0 x1
    obtain ⟨x0, x1, B1⟩ := X1.out
    go_wp2_with fail
    refine (HL.out _).mono ?_
    rintro e w2 ⟨⟨a, c, rfl, hn2⟩, hb2⟩
    have B2 := Lib.hid (B1.trans (hb2.mono B1.size))
    have HN := Lib.hid (new_low hn2 B1.size)
    clear hn2 hb2 x0 x1 B1
    go_wp2
    go_ret
    exact ⟨⟨a, c, rfl, HN.out⟩, B2.out⟩
/-- A natural number of elements, or no signs at all. -/
theorem l11Sets_int (n : Int) (s : ByteArray) (hs : s.size ≤ 9223372036854775807) (size : Int) (least most : Nat) (hz : ∀ m : Nat, n = m → 3 ≤ m → m ≤ 6 → 0 ≤ size ∧ size ≤ 64) (hle : least ≤ 64) (hmo : most ≤ 64) (conn : Bool) (w : World) :
    Calls Tryz.prog 84 #[sg n s, .int .i64 size, .int .i64 least, .int .i64 most, .bool conn] w fun e w' => Got w.heap.size (zl (setZ n s.data.toList size.toNat least most conn)) e w' ∧ Below w.heap.size w w' := by
  cases h : Sg.fitB n s.data.toList
  · have e : setZ n s.data.toList size.toNat least most conn = [] := by unfold setZ; rw [h]; rfl
    rw [e]
    exact l11Sets_no n s h hs size least most conn w
  · obtain ⟨hac, h6⟩ := fitB_n h
    obtain ⟨h3, -⟩ := aciB_n hac
    obtain ⟨m, rfl⟩ : ∃ m : Nat, n = m := ⟨n.toNat, by omega⟩
    obtain ⟨z1, z2⟩ := hz m rfl (by omega) (by omega)
    exact l11Sets_is m s hs size size.toNat least most (fun _ => ⟨by omega, by omega⟩) hle hmo conn w
def ringZ (n : Int) (s : List UInt8) : List Nat := setZ n s n.toNat 2 2 true
set_option maxHeartbeats 1600000 in
set_option maxRecDepth 100000 in
theorem specPolygonsOf (n : Int) (_hn : I64 n) (s : ByteArray) (hs : s.size ≤ 9223372036854775807) (w : World) :
    Calls Tryz.prog 17 #[sg n s] w fun e w' => Got w.heap.size (zl (ringZ n s.data.toList)) e w' ∧ Below w.heap.size w w' := by
  have HS := Lib.hid (box_made w n s 25)
  obtain ⟨x0, x1, -⟩ := HS.out
  have HL := Lib.hid (fun W => l11Sets_int n s hs n 2 2 (fun m e h3 h6 => by omega) (by omega) (by omega) true W)
  have HE : Hid (ringZ n s.data.toList = setZ n s.data.toList n.toNat 2 2 true) := Lib.hid rfl
  rw [HE.out]
  generalize setZ n s.data.toList n.toNat 2 2 true = R at HL ⊢
  clear HE
  go_enter Tryz.func17, Tryz.ntmps17
  go_wp2_with fail
  refine (HL.out _).mono ?_
  rintro e w2 ⟨⟨a, c, rfl, hn2⟩, hb2⟩
  have B2 := Lib.hid (HS.out.on hb2).2.2
  have HN := Lib.hid (new_low hn2 HS.out.2.2.size)
  clear hn2 hb2 x0 x1
  go_wp2
  go_ret
  exact ⟨⟨a, c, rfl, HN.out⟩, B2.out⟩
def pairZ (n : Int) (s : List UInt8) : List Nat := if Int.tmod n 2 = 0 then setZ n s (Int.tdiv n 2).toNat 1 1 false else []
set_option maxHeartbeats 1600000 in
set_option maxRecDepth 100000 in
theorem specPlaneMatchings (n : Int) (hn : I64 n) (s : ByteArray) (hs : s.size ≤ 9223372036854775807) (w : World) :
    Calls Tryz.prog 18 #[sg n s] w fun e w' => Got w.heap.size (zl (pairZ n s.data.toList)) e w' ∧ Below w.heap.size w w' := by
  have HS := Lib.hid (box_made w n s 25)
  obtain ⟨x0, x1, -⟩ := HS.out
  by_cases h2 : Int.tmod n 2 = 0
  · have HL := Lib.hid (fun W => l11Sets_int n s hs (Int.tdiv n 2) 1 1 (fun m e h3 h6 => by
      subst e
      have := Int.tdiv_eq_ediv_of_nonneg (a := (m : Int)) (b := 2) (by omega)
      omega) (by omega) (by omega) false W)
    have HE : Hid (pairZ n s.data.toList = setZ n s.data.toList (Int.tdiv n 2).toNat 1 1 false) := Lib.hid (by unfold pairZ; rw [if_pos h2])
    rw [HE.out]
    generalize setZ n s.data.toList (Int.tdiv n 2).toNat 1 1 false = R at HL ⊢
    have hd := hn
    unfold I64 at hd
    clear HE hn
    go_enter Tryz.func18, Tryz.ntmps18
    go_wp2_with fail
    refine (HL.out _).mono ?_
    rintro e w2 ⟨⟨a, c, rfl, hn2⟩, hb2⟩
    have B2 := Lib.hid (HS.out.on hb2).2.2
    have HN := Lib.hid (new_low hn2 HS.out.2.2.size)
    clear hn2 hb2 x0 x1
    go_wp2
    go_ret
    exact ⟨⟨a, c, rfl, HN.out⟩, B2.out⟩
  · have HE : Hid (pairZ n s.data.toList = []) := Lib.hid (by unfold pairZ; rw [if_neg h2])
    rw [HE.out]
    have HB2 := Lib.hid (HS.out.2.2.alloc HS.out.2.2.size (.cells #[] 3))
    clear HE hn
    go_enter Tryz.func18, Tryz.ntmps18
    go_wp2
    go_ret
    exact ⟨⟨_, _, rfl, .inl rfl⟩, HB2.out⟩
end Go.Proofs.YtinlnafkmoabbaaGreatDoor.Sg
/- Spec's l7Bits of sets of edges, and IsTree. -/
namespace Go.Proofs.YtinlnafkmoabbaaGreatDoor.Sg
open Go.RowKit Pt NewI
set_option maxHeartbeats 800000 in
set_option maxRecDepth 100000 in
theorem l7BitsE_any (S : Nat) (hS : S < 2097152) (w : World) :
    Calls Tryz.prog 88 #[.int .i64 S] w fun e w' => e = .returned (.int .i64 (szF 21 S : Nat)) ∧ w = w' := by
  have HST : Hid (∀ f k, szF (f + 1) k = k % 2 + szF f (k / 2)) := Lib.hid (fun _ _ => rfl)
  have HZ := Lib.hid szF_zero
  have HLE := Lib.hid (szF_le 21 S)
  have H0 : Hid (0 + szF 21 S = szF 21 S) := Lib.hid (Nat.zero_add _)
  generalize hR : szF 21 S = R at HLE H0 ⊢
  rw [← hR] at H0
  have HR := Lib.hid hR
  clear hR
  go_enter Tryz.func88, Tryz.ntmps88
  go_wp2
  go_loop [0, 3] (fun x sv => ∃ k t f : Nat, x = .int .i64 k ∧ sv = .int .i64 t ∧ k < 2097152 ∧ t ≤ 21 ∧ Hid (k < 2 ^ f) ∧ Hid (t + szF f k = R)) (fun x _ => (intOf x).toNat)
  case atStart => exact ⟨S, 0, 21, rfl, rfl, hS, by omega, Lib.hid (by omega), Lib.hid (by rw [Nat.zero_add]; exact HR.out)⟩
  case round =>
    obtain ⟨k, t, f, rfl, rfl, hk, ht, HF, HT⟩ := hrel
    by_cases hz : k = 0
    · subst hz
      have HE : Hid (t = R) := Lib.hid (by have := HT.out; rw [HZ.out] at this; omega)
      clear HT HF
      go_wp2
      go_ret
      exact ⟨ret_int (by rw [HE.out]), rfl⟩
    · obtain ⟨f, rfl⟩ : ∃ g, f = g + 1 := ⟨f - 1, by
        have := HF.out
        rcases f with _ | f
        · simp at this; omega
        · rfl⟩
      have HT2 : Hid (t + k % 2 + szF f (k / 2) = R) := Lib.hid (by have := HT.out; rw [HST.out] at this; omega)
      have HF2 : Hid (k / 2 < 2 ^ f) := Lib.hid (by have := HF.out; rw [Nat.pow_succ] at this; omega)
      have ht2 : t + k % 2 ≤ 21 := by have := HT2.out; have := HLE.out; omega
      have hk2 : k / 2 < 2097152 := by omega
      have hkp : 0 < k := by omega
      have hb := bits_andH2 k (by omega)
      clear HT HF
      go_wp2
      go_round
      case rel => exact ⟨k / 2, t + k % 2, f, by go_num, by go_num, hk2, ht2, HF2, HT2⟩
      case measure => simp only [intOf]; omega
/-- What IsTree answers. -/
def trB (n T : Int) : Bool := inB n 3 7 && (inB T 0 (allZ n) && (decide (((szF 21 T.toNat : Nat) : Int) = n - 1) && conB n.toNat T.toNat))
set_option maxHeartbeats 1600000 in
set_option maxRecDepth 100000 in
theorem specIsTree (n T : Int) (w : World) :
    Calls Tryz.prog 20 #[.int .i64 n, .int .i64 T] w fun e w' => e = .returned (.bool (trB n T)) ∧ w = w' := by
  have HL := Lib.hid (fun W => l1In_any n 3 7 W)
  unfold trB
  cases h : inB n 3 7
  · rw [Bool.false_and]
    rw [h] at HL
    clear h
    go_enter Tryz.func20, Tryz.ntmps20
    go_wp2_with fail
    refine (HL.out _).mono ?_
    rintro e w' ⟨rfl, rfl⟩
    go_wp2
    go_ret
    exact ⟨rfl, rfl⟩
  rw [Bool.true_and]
  obtain ⟨h3, h7⟩ := inB_mem h
  obtain ⟨m, rfl⟩ : ∃ m : Nat, n = m := ⟨n.toNat, by omega⟩
  have m3 : 3 ≤ m := by omega
  have m7 : m ≤ 7 := by omega
  obtain ⟨K, hK, hKb⟩ : ∃ K : Nat, allZ m = K ∧ K < 2097152 := by
    have h0 := Nat.pow_le_pow_right (n := 2) (by omega) (eN_bd m (by omega))
    refine ⟨2 ^ eN m - 1, ?_, by omega⟩
    unfold allZ
    rw [if_pos h, Int.toNat_natCast]
  have HAE := Lib.hid (fun W => specAllEdges (m : Int) W)
  rw [hK] at HAE
  have HLB := Lib.hid (fun W => l1In_any T 0 (K : Int) W)
  rw [h] at HL
  rw [hK]
  cases hin : inB T 0 (K : Int)
  · rw [Bool.false_and]
    rw [hin] at HLB
    clear h hK hin
    go_enter Tryz.func20, Tryz.ntmps20
    go_wp2_with fail
    refine (HL.out _).mono ?_
    rintro e w' ⟨rfl, rfl⟩
    go_wp2_with fail
    refine (HAE.out _).mono ?_
    rintro e w' ⟨rfl, rfl⟩
    go_wp2_with fail
    refine (HLB.out _).mono ?_
    rintro e w' ⟨rfl, rfl⟩
    go_wp2
    go_ret
    exact ⟨rfl, rfl⟩
  rw [Bool.true_and]
  obtain ⟨t0, tK⟩ := inB_mem hin
  obtain ⟨t, rfl⟩ : ∃ t : Nat, T = t := ⟨T.toNat, by omega⟩
  rw [Int.toNat_natCast, Int.toNat_natCast]
  rw [hin] at HLB
  have HBI := Lib.hid (fun W => l7BitsE_any t (by omega) W)
  have HCO := Lib.hid (fun W => l11Con_any m t m3 m7 (by omega) W)
  have hzl := szF_le 21 t
  generalize szF 21 t = z at HBI hzl ⊢
  generalize conB m t = cb at HCO ⊢
  clear h hK hin t0 tK h3 h7
  by_cases hz : ((z : Nat) : Int) = (m : Int) - 1
  · rw [decide_eq_true hz, Bool.true_and]
    have hzb : ((z : Int) == (m : Int) - 1) = true := beq_iff_eq.2 hz
    go_enter Tryz.func20, Tryz.ntmps20
    go_wp2_with fail
    refine (HL.out _).mono ?_
    rintro e w' ⟨rfl, rfl⟩
    go_wp2_with fail
    refine (HAE.out _).mono ?_
    rintro e w' ⟨rfl, rfl⟩
    go_wp2_with fail
    refine (HLB.out _).mono ?_
    rintro e w' ⟨rfl, rfl⟩
    go_wp2_with fail
    refine (HBI.out _).mono ?_
    rintro e w' ⟨rfl, rfl⟩
    go_wp2_with fail
    refine (HCO.out _).mono ?_
    rintro e w' ⟨rfl, rfl⟩
    go_wp2
    go_ret
    exact ⟨rfl, rfl⟩
  · rw [decide_eq_false hz, Bool.false_and]
    have hzb : ((z : Int) == (m : Int) - 1) = false := beq_eq_false_iff_ne.2 hz
    go_enter Tryz.func20, Tryz.ntmps20
    go_wp2_with fail
    refine (HL.out _).mono ?_
    rintro e w' ⟨rfl, rfl⟩
    go_wp2_with fail
    refine (HAE.out _).mono ?_
    rintro e w' ⟨rfl, rfl⟩
    go_wp2_with fail
    refine (HLB.out _).mono ?_
    rintro e w' ⟨rfl, rfl⟩
    go_wp2_with fail
    refine (HBI.out _).mono ?_
    rintro e w' ⟨rfl, rfl⟩
    go_wp2
    go_ret
    exact ⟨rfl, rfl⟩
end Go.Proofs.YtinlnafkmoabbaaGreatDoor.Sg
