/- impl.crossersOf: for each edge the set of the edges that cross it. -/
import Derived.Test.YtinlnafkmoabbaaGreatDoorMgTf
import Derived.Test.YtinlnafkmoabbaaGreatDoorMgKs
import Derived.StillTailTactics
namespace Go.Proofs.YtinlnafkmoabbaaGreatDoor.Sg
open Go.RowKit Pt NewI
/-- What a list of crossing pairs puts into the set of edge k. -/
def accN (L : List Nat) (k : Nat) : Nat := L.foldl (fun a d => if d.testBit k = true then a ||| (d ^^^ (d &&& 2 ^ k)) else a) 0
theorem accN_snoc (L : List Nat) (d k : Nat) : accN (L ++ [d]) k = if d.testBit k = true then accN L k ||| (d ^^^ (d &&& 2 ^ k)) else accN L k := by
  unfold accN
  rw [List.foldl_append]
  rfl
theorem restC_bit (d k y : Nat) : (d ^^^ (d &&& 2 ^ k)).testBit y = (d.testBit y && decide (y ≠ k)) := by
  rw [Nat.testBit_xor, Nat.testBit_and, Nat.testBit_two_pow]
  by_cases e : y = k
  · subst e; cases d.testBit y <;> simp
  · rw [decide_eq_false (fun h => e h.symm), decide_eq_true e]; simp
theorem accF_bit (k y : Nat) : ∀ (L : List Nat) (a : Nat), (L.foldl (fun a d => if d.testBit k = true then a ||| (d ^^^ (d &&& 2 ^ k)) else a) a).testBit y = (a.testBit y || L.any fun d => d.testBit k && (d.testBit y && decide (y ≠ k)))
  | [], a => by simp
  | d :: L, a => by
    rw [List.foldl_cons, accF_bit k y L, List.any_cons]
    cases hb : d.testBit k
    · rw [if_neg (by simp), Bool.false_and, Bool.false_or]
    · rw [if_pos rfl, Nat.testBit_or, restC_bit, Bool.true_and, Bool.or_assoc]
theorem accN_bit (L : List Nat) (k y : Nat) : (accN L k).testBit y = L.any fun d => d.testBit k && (d.testBit y && decide (y ≠ k)) := by
  unfold accN
  rw [accF_bit, Nat.zero_testBit, Bool.false_or]
theorem accN_lt {L : List Nat} (h : ∀ d ∈ L, d < 2097152) (k : Nat) : accN L k < 2097152 := by
  refine lt_of_bits (E := 21) fun y hy => ?_
  rw [accN_bit, List.any_eq_false]
  intro d hd
  rw [bits_of_lt (E := 21) (h d hd) y hy]
  simp
theorem code_bit (x y v : Nat) : (codeE (x, y)).testBit v = (decide (v = x) || decide (v = y)) := by
  unfold codeE
  rw [Nat.testBit_or, Nat.testBit_two_pow, Nat.testBit_two_pow]
  congr 1 <;> exact decide_eq_decide.2 ⟨Eq.symm, Eq.symm⟩
theorem mem_crL {n : Nat} {s : List UInt8} {d : Nat} : d ∈ crL n s ↔ ∃ x y, x < eN n ∧ y < x ∧ crE (sgnF (lookS n s)) n (x, y) = true ∧ codeE (x, y) = d := by
  unfold crL cxL
  rw [List.mem_map]
  constructor
  · rintro ⟨⟨x, y⟩, hp, rfl⟩
    rw [List.mem_filter] at hp
    obtain ⟨h2, h1⟩ := mem_idxs.1 hp.1
    exact ⟨x, y, h1, h2, hp.2, rfl⟩
  · rintro ⟨x, y, h1, h2, h3, rfl⟩
    exact ⟨(x, y), List.mem_filter.2 ⟨mem_idxs.2 ⟨h2, h1⟩, h3⟩, rfl⟩
/-- All pairs together tell the sets. -/
theorem accN_all {n : Nat} {s : List UInt8} (h : aciB n s = true) {k : Nat} (hk : k < eN n) : accN (crL n s) k = cS n s k := by
  refine Nat.eq_of_testBit_eq fun y => ?_
  rw [accN_bit, cS_bit h hk, Bool.eq_iff_iff, List.any_eq_true, Bool.and_eq_true, decide_eq_true_eq]
  constructor
  · rintro ⟨d, hd, hb⟩
    obtain ⟨x, z, h1, h2, h3, rfl⟩ := mem_crL.1 hd
    rw [code_bit, code_bit, Bool.and_eq_true, Bool.and_eq_true, Bool.or_eq_true, Bool.or_eq_true, decide_eq_true_eq, decide_eq_true_eq, decide_eq_true_eq, decide_eq_true_eq, decide_eq_true_eq] at hb
    obtain ⟨hb1, hb2, hb3⟩ := hb
    rcases hb1 with rfl | rfl
    · rcases hb2 with rfl | rfl
      · exact absurd rfl hb3
      · exact ⟨by omega, h3⟩
    · rcases hb2 with rfl | rfl
      · exact ⟨h1, by rw [crE_sym h h1 hk]; exact h3⟩
      · exact absurd rfl hb3
  · rintro ⟨hy, hc⟩
    have hne : y ≠ k := fun e => by rw [e, crE_same] at hc; cases hc
    rcases Nat.lt_or_ge y k with hl | hl
    · exact ⟨codeE (k, y), mem_crL.2 ⟨k, y, hk, hl, hc, rfl⟩, by rw [code_bit, code_bit]; simp [hne]⟩
    · exact ⟨codeE (y, k), mem_crL.2 ⟨y, k, hy, by omega, by rw [crE_sym h hk hy]; exact hc, rfl⟩, by rw [code_bit, code_bit]; simp [hne]⟩
theorem crL_els {n : Nat} {s : List UInt8} {d : Nat} (hd : d ∈ crL n s) {k : Nat} (hk : k ∈ elN d) : k < eN n := by
  obtain ⟨x, y, h1, h2, -, rfl⟩ := mem_crL.1 hd
  have := (mem_elN.1 hk).2
  rw [code_bit, Bool.or_eq_true, decide_eq_true_eq, decide_eq_true_eq] at this
  omega
theorem size_all {m : Nat} (h : m = 0 ∨ 3 ≤ m ∧ m ≤ 6) : sizE 15 (2 ^ eN m - 1) = eN m := by
  have : ∀ m, m < 7 → m = 0 ∨ 3 ≤ m → sizE 15 (2 ^ eN m - 1) = eN m := by decide +kernel
  exact this m (by omega) (by omega)
/-- A list that is read from a block not ahead of B. -/
def LsB (W : World) (B : Nat) (a : Option Addr) (L : List Nat) : Prop := ∀ k : Nat, k < L.length → ∃ g, a = some ⟨g, 0, none⟩ ∧ B ≤ g ∧ W.cell? ⟨g, k, none⟩ = some (.int .i64 (L.getD k 0 : Nat))
theorem LsB.on {W W' : World} {B : Nat} {a : Option Addr} {L : List Nat} (h : LsB W B a L) (hb : Below W.heap.size W W') : LsB W' B a L := fun k hk => by
  obtain ⟨g, h1, h2, h3⟩ := h k hk
  exact ⟨g, h1, h2, by rw [hb.cell (Kit.cell_lt h3)]; exact h3⟩
theorem LsB.low {W : World} {B B' : Nat} {a : Option Addr} {L : List Nat} (h : LsB W B a L) (hb : B' ≤ B) : LsB W B' a L := fun k hk => by
  obtain ⟨g, h1, h2, h3⟩ := h k hk
  exact ⟨g, h1, by omega, h3⟩
theorem LsB.set {W : World} {B g : Nat} {a : Option Addr} {L : List Nat} (h : LsB W B a L) (hg : g < B) (i : Nat) (v : Value) : LsB (W.setCell ⟨g, i, none⟩ v) B a L := fun k hk => by
  obtain ⟨g', h1, h2, h3⟩ := h k hk
  refine ⟨g', h1, h2, ?_⟩
  rw [World.cell?_of_block (a := ⟨g', k, none⟩) (Below.heap_setCell _ _ _ _ (show g' ≠ g by omega))]
  exact h3
theorem lsB_of {W : World} {B : Nat} {v : Value} {L : List Nat} (h : ArgZ W B v (zl L)) : ∃ a c, v = .slice a L.length c ∧ LsB W B a L := by
  have hl := zl_length L
  rcases h with ⟨h0, rfl⟩ | ⟨h0, g, c, rfl, hB, -, -, -, hc⟩
  · rw [h0] at hl
    have hl : 0 = L.length := hl
    exact ⟨none, 0, by rw [← hl], fun k hk => absurd hk (by omega)⟩
  · refine ⟨some ⟨g, 0, none⟩, c, by rw [hl], fun k hk => ⟨g, rfl, hB, ?_⟩⟩
    rw [hc.cell k (by omega), zc_lt (by omega)]
    congr 2
    unfold zl
    rw [List.getElem_map, List.getD_eq_getElem?_getD, List.getElem?_eq_getElem hk]
    rfl
theorem infoC : (Tryz.prog.info? 3).map (fun i => (i.zero, i.size, i.bytes)) = some (some (.int .i64 0), 1, 8) := by kernel_rfl
theorem getD_take {L : List Nat} {q : Nat} (h : q < L.length) : L.take (q + 1) = L.take q ++ [L.getD q 0] := by
  rw [List.take_add_one, List.getD_eq_getElem?_getD, List.getElem?_eq_getElem h]
  rfl
/-- The sets while the elements of one pair are gone through. -/
def accG (f : Nat → Nat) (d : Nat) (q k : Nat) : Nat := if k ∈ (elN d).take q then f k ||| (d ^^^ (d &&& 2 ^ k)) else f k
theorem accG_step (f : Nat → Nat) {d q : Nat} (hq : q < (elN d).length) (k : Nat) : accG f d (q + 1) k = if k = (elN d).getD q 0 then accG f d q k ||| (d ^^^ (d &&& 2 ^ k)) else accG f d q k := by
  have hn : (elN d).Nodup := (List.nodup_range (n := 21)).filter _
  have hm : ∀ k, k ∈ (elN d).take (q + 1) ↔ k ∈ (elN d).take q ∨ k = (elN d).getD q 0 := fun k => by
    rw [getD_take hq, List.mem_append, List.mem_singleton]
  unfold accG
  by_cases e : k = (elN d).getD q 0
  · have hno : k ∉ (elN d).take q := fun hin => by
      rw [← List.take_append_drop q (elN d), List.nodup_append] at hn
      refine hn.2.2 k hin k ?_ rfl
      rw [e, List.getD_eq_getElem?_getD, List.getElem?_eq_getElem hq, List.drop_eq_getElem_cons hq]
      exact List.mem_cons_self
    rw [if_pos ((hm k).2 (.inr e)), if_pos e, if_neg hno]
  · rw [if_neg e]
    by_cases h1 : k ∈ (elN d).take q
    · rw [if_pos h1, if_pos ((hm k).2 (.inl h1))]
    · rw [if_neg h1, if_neg (fun h => ((hm k).1 h).elim h1 e)]
theorem accG_end (L : List Nat) {d : Nat} {k : Nat} (hk : k < 21) : accG (accN L) d (elN d).length k = accN (L ++ [d]) k := by
  unfold accG
  rw [List.take_length, accN_snoc]
  by_cases h : d.testBit k = true
  · rw [if_pos (mem_elN.2 ⟨hk, h⟩), if_pos h]
  · rw [if_neg (fun hm => h (mem_elN.1 hm).2), if_neg h]
theorem accG_lt {f : Nat → Nat} (hf : ∀ k, f k < 2097152) {d : Nat} (hd : d < 2097152) (q k : Nat) : accG f d q k < 2097152 := by
  unfold accG
  split
  · refine Nat.or_lt_two_pow (n := 21) (hf k) (lt_of_bits (E := 21) fun y hy => ?_)
    rw [restC_bit, bits_of_lt (E := 21) hd y hy]
    rfl
  · exact hf k
set_option maxHeartbeats 6400000 in
set_option maxRecDepth 100000 in
theorem crossersOf_any (n : Int) (s : ByteArray) (hs : s.size ≤ 9223372036854775807) (w : World) (hT : Tab w) :
    Calls Tryz.prog 109 #[sg n s] w fun e w' => ∃ v, e = .returned v ∧ CrL w' v n s.data.toList ∧ Below w.heap.size w w' := by
  have HS := Lib.hid (box_made w n s 25)
  have HT := Lib.hid (fun W hW => hT.on (w' := W) hW)
  clear hT
  obtain ⟨x0, x1, B0⟩ := HS.out
  by_cases h6 : 6 < n
  · have HE : Hid (eZ n s.data.toList = 0) := Lib.hid (by unfold eZ fitB; rw [decide_eq_false (by omega)]; rfl)
    have HC : Hid (∀ W, CrL W (.slice none 0 0) n s.data.toList) := Lib.hid (fun W => ⟨none, 0, by rw [HE.out], fun k hk => by rw [HE.out, crTo_len] at hk; exact absurd hk (by omega)⟩)
    go_enter Tryz.func109, Tryz.ntmps109
    go_wp2
    go_ret
    exact ⟨_, rfl, HC.out _, B0⟩
  · have KEY : ∃ (m K : Nat) (L : List Nat), K < 32768 ∧ m ≤ 7 ∧ sizE 15 K = eZ n s.data.toList ∧ L.length ≤ 462 ∧ (∀ c ∈ L, c < 2097152) ∧ (∀ c ∈ L, ∀ k ∈ elN c, k < eZ n s.data.toList) ∧ (∀ k, k < eZ n s.data.toList → accN L k = cS n.toNat s.data.toList k) ∧ allZ m = K ∧
        ∀ W, Tab W → Calls Tryz.prog 97 #[sg n s] W fun e w' => ∃ b a c, e = .returned (.tuple #[.map (some b), .slice a m c]) ∧ Below W.heap.size W w' ∧
          ∀ W', Below w'.heap.size w' W' → Tab W' → Calls Tryz.prog 98 #[.map (some b), .int .i64 m] W' fun e w' => ∃ v, e = .returned v ∧ ArgZ w' W'.heap.size v (zl L) ∧ Below W'.heap.size W' w' := by
      cases h : aciB n s.data.toList
      · have he : eZ n s.data.toList = 0 := by unfold eZ fitB; rw [h, Bool.and_false]; rfl
        refine ⟨0, 0, [], by omega, by omega, by rw [he]; decide, by simp, fun c hc => by simp at hc, fun c hc => by simp at hc, fun k hk => by rw [he] at hk; omega, allZ_out (by omega), fun W hW => ?_⟩
        refine (orderOf_any n s hs W hW).mono ?_
        rintro e w' ⟨b, v, rfl, hm, hv, hb⟩
        rw [elsN_no h] at hv
        rcases hv with ⟨-, rfl⟩ | ⟨h0, -⟩
        · exact ⟨b, none, 0, rfl, hb, fun W' hW' hT' => crossingsOf_any b _ 0 (.inl rfl) W' (hm.on hW') hT'⟩
        · exact absurd rfl h0
      · obtain ⟨h3, h7⟩ := aciB_n h
        obtain ⟨m, rfl⟩ : ∃ m : Nat, n = m := ⟨n.toNat, by omega⟩
        have h7 : m ≤ 7 := by omega
        have he : eZ m s.data.toList = eN m := by unfold eZ fitB; rw [h, decide_eq_true (show (m : Int) ≤ 6 by omega)]; rfl
        have hE15 := eZ_le m s.data.toList
        rw [he] at hE15
        have hp := Nat.pow_le_pow_right (n := 2) (by omega) hE15
        refine ⟨m, 2 ^ eN m - 1, crL m s.data.toList, by omega, h7, by rw [he]; exact size_all (.inr ⟨by omega, by omega⟩), crL_len _ h7, fun c hc => cxL_small _ h7 c hc, fun c hc k hk => by rw [he]; exact crL_els hc hk, fun k hk => by rw [Int.toNat_natCast]; exact accN_all h (by rw [he] at hk; exact hk), allZ_pow (.inr ⟨by omega, h7⟩), fun W hW => ?_⟩
        refine (orderOf_yes m s hs h W hW).mono ?_
        rintro e w' ⟨b, g, c, rfl, hm, -, -, hb⟩
        refine ⟨b, _, c, rfl, hb, fun W' hW' hT' => ?_⟩
        have := crossingsOf_any b (lookS m s.data.toList) m (.inr ⟨by omega, h7⟩) W' (hm.on hW') hT'
        rw [crL_is h] at this
        exact this
    obtain ⟨m, K, L, hK, hm7, hsz, hln, hsm, hel, hacc, hal, horder⟩ := KEY
    have HO := Lib.hid (horder _ (HT.out _ B0))
    have HAL := Lib.hid (fun W => allE_any (m : Int) W)
    rw [hal] at HAL
    have HSZ := Lib.hid (fun W => sizeG_any K hK W)
    rw [hsz] at HSZ
    have HEL := Lib.hid (fun d (hd : d < 2097152) W hW => elementsG_any d hd W hW)
    have HLT := Lib.hid (fun k p => accN_lt (L := L.take p) (fun d hd => hsm d (List.mem_of_mem_take hd)) k)
    have HSM := Lib.hid hsm
    have HIN := Lib.hid hel
    have HACC := Lib.hid hacc
    have hE15 := eZ_le n s.data.toList
    have HFIN : Hid (∀ g W, W.rowIs g 3 (eZ n s.data.toList) (fun k => .int .i64 (accN (L.take L.length) k : Nat)) → CrL W (.slice (some ⟨g, 0, none⟩) (eZ n s.data.toList) (eZ n s.data.toList)) n s.data.toList) := Lib.hid (fun g W hr => ⟨_, _, rfl, fun k hk => ⟨g, rfl, by
      rw [crTo_len] at hk
      rw [hr.cell hk, List.take_length, HACC.out k hk, crTo_get _ hk]⟩⟩)
    generalize eZ n s.data.toList = E at HSZ HIN HACC HFIN hE15
    have hmk := run_make_row' (P := Tryz.prog) 83 3 (.int .i64 0) 8 Tryz.underlying83 infoC rfl .i64 .i64 E (by omega) (by omega)
    obtain ⟨N, hN⟩ : ∃ N, N = L.length := ⟨_, rfl⟩
    have hnN : N ≤ 462 := by omega
    have HNL := Lib.hid hN
    clear horder hal hsm hel hacc hsz hln hN HACC
    go_enter Tryz.func109, Tryz.ntmps109
    go_wp2_with fail
    refine HO.out.mono ?_
    rintro e w1 ⟨b, a, c, rfl, hb1, hcr⟩
    have B1 := Lib.hid (HS.out.on hb1).2.2
    have HCR := Lib.hid hcr
    clear hb1 hcr x0 x1 B0
    have hw1 := B1.out.size
    go_wp2_with fail
    refine (HAL.out _).mono ?_
    rintro e w' ⟨rfl, rfl⟩
    go_wp2_with fail
    refine (HSZ.out _).mono ?_
    rintro e w' ⟨rfl, rfl⟩
    have HR0 := Lib.hid ((World.rowIs_made w1 (.int .i64 0) E 3).congr (g := fun k => .int .i64 (accN (L.take 0) k : Nat)) (fun i _ => rfl))
    have HB0 := Lib.hid ((Below.refl w1.heap.size w1).alloc (Nat.le_refl _) (.cells (madeCells #[.int .i64 0] E) 3))
    go_wp2_with fail
    refine (HCR.out _ HB0.out (HT.out _ (B1.out.trans (HB0.out.mono hw1)))).mono ?_
    rintro e w2 ⟨v, rfl, hv, hb2⟩
    obtain ⟨a2, c2, rfl, hls⟩ := lsB_of hv
    have LS2 : Hid (LsB w2 (w1.heap.size + 1) a2 L) := Lib.hid (hls.low (by simp))
    have HR2 : Hid (w2.rowIs w1.heap.size 3 E (fun k => .int .i64 (accN (L.take 0) k : Nat))) := Lib.hid (HR0.out.of_block (hb2.block _ (by simp)))
    have HB2 := Lib.hid (HB0.out.trans (hb2.mono (by simp)))
    rw [← HNL.out]
    clear hv hls hb2 HR0 HB0 hmk
    go_wp2
    go_loopw [28] (fun x wr => ∃ p : Nat, p ≤ N ∧ x = .int .i64 p ∧ Hid (wr.rowIs w1.heap.size 3 E (fun k => .int .i64 (accN (L.take p) k : Nat))) ∧ Hid (LsB wr (w1.heap.size + 1) a2 L) ∧ Hid (Below w1.heap.size w1 wr)) (fun x _ => N - (intOf x).toNat)
    case atStart => exact ⟨0, Nat.zero_le _, rfl, HR2, LS2, HB2⟩
    case round =>
      obtain ⟨p, hp, rfl, HR, LS, HB⟩ := hrel
      by_cases hlt : p < N
      · have hpl : p < L.length := by have := HNL.out; omega
        obtain ⟨g2, rfl, -, hcell⟩ := LS.out p hpl
        have hmem := getD_mem hpl
        have hd21 := HSM.out _ hmem
        have HIN2 := Lib.hid (HIN.out _ hmem)
        have HNX : Hid (L.take (p + 1) = L.take p ++ [L.getD p 0]) := Lib.hid (getD_take hpl)
        generalize L.getD p 0 = d at hcell hd21 HIN2 HNX
        clear hmem
        go_wp2_with fail
        refine (HEL.out d hd21 _ (HT.out _ (B1.out.trans (HB.out.mono hw1)))).mono ?_
        rintro e w3 ⟨v3, rfl, hv3, hb3⟩
        obtain ⟨a3, c3, rfl, hls3⟩ := lsB_of hv3
        have hwr := HB.out.size
        have hrl := HR.out.lt
        have LS3 : Hid (LsB w3 (w1.heap.size + 1) a3 (elN d)) := Lib.hid (hls3.low (by omega))
        have LSL : Hid (LsB w3 (w1.heap.size + 1) (some ⟨g2, 0, none⟩) L) := Lib.hid (LS.out.on hb3)
        have HR3 : Hid (w3.rowIs w1.heap.size 3 E (fun k => .int .i64 (accG (accN (L.take p)) d 0 k : Nat))) := Lib.hid (HR.out.of_block (hb3.block _ hrl))
        have HB3 := Lib.hid (HB.out.trans (hb3.mono hwr))
        have HEN : Hid (∀ k, k < E → accG (accN (L.take p)) d (elN d).length k = accN (L.take (p + 1)) k) := Lib.hid (fun k hk => by rw [HNX.out]; exact accG_end _ (by omega))
        have HST := Lib.hid (fun q (hq : q < (elN d).length) k => accG_step (accN (L.take p)) hq k)
        have HGL := Lib.hid (fun q k => accG_lt (fun k => HLT.out k p) hd21 q k)
        generalize accG (accN (L.take p)) d = G at HR3 HEN HST HGL
        obtain ⟨M, hM⟩ : ∃ M, M = (elN d).length := ⟨_, rfl⟩
        rw [← hM]
        have HML := Lib.hid hM
        have hM21 : M ≤ 21 := by rw [hM]; exact elN_len d
        clear hv3 hls3 hb3 hM hcell
        go_wp2
        go_loopw [35] (fun x wr => ∃ q : Nat, q ≤ M ∧ x = .int .i64 q ∧ Hid (wr.rowIs w1.heap.size 3 E (fun k => .int .i64 (G q k : Nat))) ∧ Hid (LsB wr (w1.heap.size + 1) (some ⟨g2, 0, none⟩) L) ∧ Hid (LsB wr (w1.heap.size + 1) a3 (elN d)) ∧ Hid (Below w1.heap.size w1 wr)) (fun x _ => M - (intOf x).toNat)
        case atStart => exact ⟨0, Nat.zero_le _, rfl, HR3, LSL, LS3, HB3⟩
        case round =>
          rename World => wA
          obtain ⟨q, hq, rfl, HR, LSL, LS3, HB⟩ := hrel
          by_cases hlt2 : q < M
          · have hql : q < (elN d).length := by have := HML.out; omega
            obtain ⟨g3, rfl, hg3, hcell3⟩ := LS3.out q hql
            have hke := HIN2.out _ (getD_mem hql)
            have HSQ := Lib.hid (HST.out q hql)
            generalize (elN d).getD q 0 = k at hcell3 hke HSQ
            go_wp2
            have hc0 := HR.out.cell hke
            have hfz := HR.out.frozen k
            have hcl := HGL.out q k
            obtain ⟨s1, p1⟩ := shl_edge k (by omega)
            obtain ⟨o1, o2⟩ := bits_andNotE d (2 ^ k) hd21 p1
            have HSK : Hid (G (q + 1) k = G q k ||| (d ^^^ (d &&& 2 ^ k))) := Lib.hid (by rw [HSQ.out k, if_pos rfl])
            have HSO : Hid (∀ j, j ≠ k → G (q + 1) j = G q j) := Lib.hid (fun j hj => by rw [HSQ.out j, if_neg hj])
            generalize d ^^^ (d &&& 2 ^ k) = r at o1 o2 HSK
            generalize (2 : Nat) ^ k = P at s1 o1 p1
            have o3 := bits_orE (G q k) r hcl o2
            rw [← HSK.out] at o3
            have HRN : Hid ((wA.drew.setCell ⟨w1.heap.size, k, none⟩ (.int .i64 (G (q + 1) k : Nat))).rowIs w1.heap.size 3 E (fun k => .int .i64 (G (q + 1) k : Nat))) := Lib.hid ((HR.out.drew.set k (.int .i64 (G (q + 1) k : Nat))).congr (fun j _ => by
              by_cases e : j = k
              · subst e; rw [if_pos rfl]
              · rw [if_neg e, HSO.out j e]))
            have HBN : Hid (Below w1.heap.size w1 (wA.drew.setCell ⟨w1.heap.size, k, none⟩ (.int .i64 (G (q + 1) k : Nat)))) := Lib.hid (HB.out.drew.setCell (p := ⟨w1.heap.size, k, none⟩) (Nat.le_refl _) _)
            have LLN : Hid (LsB (wA.drew.setCell ⟨w1.heap.size, k, none⟩ (.int .i64 (G (q + 1) k : Nat))) (w1.heap.size + 1) (some ⟨g2, 0, none⟩) L) := Lib.hid (LsB.set (W := wA.drew) LSL.out (by omega) _ _)
            have L3N : Hid (LsB (wA.drew.setCell ⟨w1.heap.size, k, none⟩ (.int .i64 (G (q + 1) k : Nat))) (w1.heap.size + 1) (some ⟨g3, 0, none⟩) (elN d)) := Lib.hid (LsB.set (W := wA.drew) LS3.out (by omega) _ _)
            generalize G (q + 1) k = V at o3 HRN HBN LLN L3N
            generalize G q k = U at hc0 o3 hcl
            clear hcell3 HSQ HSO HSK
            refine region_tail 10 (by kernel_rfl) (by kernel_rfl) ?_
            intro W hW
            have g1 : W.cell? ⟨w1.heap.size, k, none⟩ = some (.int .i64 (U : Nat)) := by rw [hW]; exact hc0
            have g2 : W.frozen? ⟨w1.heap.size, k, none⟩ = false := by rw [hW]; exact hfz
            rw [← hW] at HRN HBN LLN L3N
            clear hW hc0 hfz
            simp only [List.take_succ_cons, List.take_zero, List.drop_succ_cons, List.drop_zero]
            still_step
            still_step
            still_step
            still_step
            still_step
            still_step
            still_step
            still_step
            still_step
            still_step
            refine wpStill_nil ?_
            change wpList _ _ _ _ _ W
            go_wp2
            exact ⟨⟨q + 1, by omega, by go_num, HRN, LLN, L3N, HBN⟩, by simp only [intOf]; omega⟩
          · obtain rfl : q = M := by omega
            have HRN : Hid (wA.rowIs w1.heap.size 3 E (fun k => .int .i64 (accN (L.take (p + 1)) k : Nat))) := Lib.hid (HR.out.congr (fun k hk => by rw [← HEN.out k hk, HML.out]))
            go_wp2
            exact ⟨⟨p + 1, by omega, by go_num, HRN, LSL, HB⟩, by simp only [intOf]; omega⟩
      · obtain rfl : p = N := by omega
        have HC := Lib.hid (HFIN.out w1.heap.size wr (by rw [← HNL.out]; exact HR.out))
        have BB := Lib.hid (B1.out.trans (HB.out.mono hw1))
        go_wp2
        go_ret
        exact ⟨_, rfl, HC.out, BB.out⟩
end Go.Proofs.YtinlnafkmoabbaaGreatDoor.Sg
