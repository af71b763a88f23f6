/- Spec's EdgesText. -/
import Derived.Test.YtfggiflngfihcaaGreatDoorMgTc
import Derived.Test.YtfggiflngfihcaaGreatDoorMgTx
import Derived.Deep.AppendLies
import Derived.Deep.Onto
import Derived.Lib.ItoaNum
namespace Go.Proofs.YtfggiflngfihcaaGreatDoor.TrText
open Go.RowKit Pt Sg
theorem infoS : (Tryz.prog.info? 9).map (fun i => (i.zero, i.size, i.bytes)) = some (some (.string ⟨#[]⟩), 1, 16) := by kernel_rfl
theorem itoa_size (n : Int) (h1 : -50 ≤ n) (h2 : n ≤ 50) : (⟨(Lib.itoa n).toArray⟩ : ByteArray).size ≤ 30 := by
  have key : ∀ u : Nat, u ≤ 50 → (Lib.decDigits u).length ≤ 2 := by
    intro u hu
    rw [Lib.decDigits_length]
    by_cases h10 : u < 10
    · rw [Lib.nDigits_small h10]; omega
    · rw [Lib.nDigits_big (by omega), Lib.nDigits_small (by omega)]; omega
  show (Lib.itoa n).toArray.size ≤ 30
  have h := key n.natAbs (by omega)
  have h' := key n.toNat (by omega)
  unfold Lib.itoa
  split <;> simp <;> omega
def OwnsS (w : World) (B : Nat) (v : Value) (xs : List ByteArray) : Prop := w.ownsRow B 9 1 v xs.length (xs.map Value.string)
theorem ownsS_on {w w' : World} {B : Nat} {v : Value} {xs : List ByteArray} (h : OwnsS w B v xs) (hb : Below w.heap.size w w') : OwnsS w' B v xs :=
  World.ownsRow.kept h (row := none) ⟨hb.os, hb.tape, hb.output, hb.size, fun k hk _ => hb.block k hk⟩ (by cases v.ownBlock <;> simp)
theorem held0 (w0 : World) (B : Nat) (v : Value) (xs : List ByteArray) {f : FuncId} {args : Array Value} {W : World} {r : Value} (h : Calls Tryz.prog f args W fun e w' => e = .returned r ∧ Below W.heap.size W w')
    (hS : OwnsS W B v xs ∧ Below w0.heap.size w0 W) :
    Calls Tryz.prog f args W fun e w' => e = .returned r ∧ OwnsS w' B v xs ∧ Below w0.heap.size w0 w' :=
  h.mono fun _ _ ⟨he, hb⟩ => ⟨he, ownsS_on hS.1 hb, hS.2.trans (hb.mono hS.2.size)⟩
theorem ownsS_snoc {w : World} {B : Nat} {v : Value} {xs : List ByteArray} {s t : ByteArray} (e : t = s) (h : w.ownsRow B 9 1 v (xs.length + 1) (xs.map Value.string ++ [.string s])) : OwnsS w B v (xs ++ [t]) := by
  subst e
  unfold OwnsS
  rw [List.length_append, List.map_append]
  exact h
theorem ownsS_row {w : World} {B : Nat} {v : Value} {xs : List ByteArray} (h : OwnsS w B v xs) (h0 : 0 < xs.length) : ∃ b c, v = .slice (some ⟨b, 0, none⟩) xs.length c ∧ B ≤ b ∧ b < w.heap.size ∧ Strs.At w b 0 xs := by
  have hlt := World.ownsRow.lt h
  obtain ⟨hl, ⟨rfl, h1⟩ | ⟨g, cap, cur, hv, hB, hh, hr⟩⟩ := id h
  · omega
  · subst hv
    have hc := World.ownsRow.cells h (g := g) rfl
    refine ⟨g, cap, rfl, hB, (hlt g rfl).2, fun j x hx => ?_⟩
    have := hc j (.string x) (by rw [List.getElem?_map, hx]; rfl)
    rwa [WideShapes.add_plain] at this
theorem ownsS_len {w : World} {B : Nat} {v : Value} {xs : List ByteArray} (h : OwnsS w B v xs) : ∃ a c, v = .slice a xs.length c := by
  obtain ⟨-, ⟨rfl, h1⟩ | ⟨g, cap, cur, hv, hB, hh, hr⟩⟩ := id h
  · exact ⟨none, 0, by rw [h1]⟩
  · exact ⟨_, cap, hv⟩
/-- The text of an edge. -/
def eT (n k : Nat) : ByteArray := ⟨(Lib.itoa ((edL n k).1 : Nat)).toArray⟩ ++ ⟨(Lib.itoa ((edL n k).2 : Nat)).toArray⟩
theorem eT_size {n k : Nat} (h7 : n ≤ 7) (hk : k < eN n) : (eT n k).size ≤ 60 := by
  have h := edL_lt h7 hk
  have h1 := itoa_size ((edL n k).1 : Nat) (by omega) (by omega)
  have h2 := itoa_size ((edL n k).2 : Nat) (by omega) (by omega)
  unfold eT
  rw [ByteArray.size_append]
  omega
/-- The texts of the edges of a set, of those before m. -/
def txs (n T m : Nat) : List ByteArray := ((List.range m).filter fun k => T.testBit k).map (eT n)
theorem txs_succ (n T m : Nat) : txs n T (m + 1) = txs n T m ++ if T.testBit m = true then [eT n m] else [] := by
  unfold txs
  rw [List.range_succ, List.filter_append, List.map_append]
  cases h : T.testBit m <;> simp [h]
theorem txs_len (n T : Nat) : ∀ m, (txs n T m).length ≤ m
  | 0 => Nat.le_refl _
  | m + 1 => by
    have := txs_len n T m
    rw [txs_succ, List.length_append]
    split <;> simp <;> omega
theorem txs_tot {n T : Nat} (h7 : n ≤ 7) : ∀ m, m ≤ eN n → Strs.tot (txs n T m) ≤ 60 * m
  | 0, _ => by simp [txs, Strs.tot]
  | m + 1, hm => by
    have h1 := txs_tot (T := T) h7 m (by omega)
    have h2 := eT_size h7 (k := m) (by omega)
    rw [txs_succ]
    unfold Strs.tot at h1 ⊢
    rw [List.map_append, List.sum_append]
    split <;> simp <;> omega
/-- EdgesText. -/
def etZ (n T : Int) : ByteArray := if inB n 3 7 = true ∧ inB T 0 (allZ n) = true then (if (txs n.toNat T.toNat (eN n.toNat)).length = 0 then ⟨#[45]⟩ else ⟨(Join.J (txs n.toNat T.toNat (eN n.toNat)) ⟨#[32]⟩ (txs n.toNat T.toNat (eN n.toNat)).length).toArray⟩) else ⟨#[]⟩
theorem after_app {w0 W W1 : World} {v : Value} {xs : List ByteArray} {o : Obj} (hS : Below w0.heap.size w0 W) (hown : OwnsS W w0.heap.size v xs) (hg : (W.alloc o).grownBy W1 v.ownBlock) : Below w0.heap.size w0 W1 :=
  (hS.alloc hS.size o).grown hg (hS.alloc hS.size o).size (fun q hq => (World.ownsRow.lt hown q hq).1)
set_option maxHeartbeats 3200000 in
set_option maxRecDepth 100000 in
theorem specEdgesText (n T : Int) (w : World) :
    Calls Tryz.prog 18 #[.int .i64 n, .int .i64 T] w fun e w' => e = .returned (.string (etZ n T)) ∧ Below w.heap.size w w' := by
  have HL := Lib.hid (fun W => l1In_any n 3 7 W)
  cases h : inB n 3 7
  · have HE : Hid (etZ n T = ⟨#[]⟩) := Lib.hid (by unfold etZ; rw [if_neg]; rw [h]; simp)
    rw [HE.out]
    rw [h] at HL
    clear h HE
    have HB0 := Lib.hid (Below.refl w.heap.size w)
    go_enter Tryz.func18, Tryz.ntmps18
    go_wp2_with fail
    refine (HL.out _).mono ?_
    rintro e w' ⟨rfl, rfl⟩
    go_wp2
    go_ret
    exact ⟨rfl, HB0.out⟩
  obtain ⟨h3, h7⟩ := inB_mem h
  obtain ⟨m, rfl⟩ : ∃ m : Nat, n = m := ⟨n.toNat, by omega⟩
  have m3 : 3 ≤ m := by omega
  have m7 : m ≤ 7 := by omega
  obtain ⟨K, hK, hKb⟩ : ∃ K : Nat, allZ m = K ∧ K < 2097152 := by
    have h0 := Nat.pow_le_pow_right (n := 2) (by omega) (eN_bd m (by omega))
    refine ⟨2 ^ eN m - 1, ?_, by omega⟩
    unfold allZ
    rw [if_pos h, Int.toNat_natCast]
  have HAE := Lib.hid (fun W => specAllEdges (m : Int) W)
  rw [hK] at HAE
  have HLB := Lib.hid (fun W => l1In_any T 0 (K : Int) W)
  cases hin : inB T 0 (K : Int)
  · have HE : Hid (etZ m T = ⟨#[]⟩) := Lib.hid (by unfold etZ; rw [if_neg]; rw [hK, hin]; simp)
    rw [HE.out]
    rw [h] at HL
    rw [hin] at HLB
    clear h HE hK hin
    have HB0 := Lib.hid (Below.refl w.heap.size w)
    go_enter Tryz.func18, Tryz.ntmps18
    go_wp2_with fail
    refine (HL.out _).mono ?_
    rintro e w' ⟨rfl, rfl⟩
    go_wp2_with fail
    refine (HAE.out _).mono ?_
    rintro e w' ⟨rfl, rfl⟩
    go_wp2_with fail
    refine (HLB.out _).mono ?_
    rintro e w' ⟨rfl, rfl⟩
    go_wp2
    go_ret
    exact ⟨rfl, HB0.out⟩
  obtain ⟨t0, tK⟩ := inB_mem hin
  obtain ⟨t, rfl⟩ : ∃ t : Nat, T = t := ⟨T.toNat, by omega⟩
  have ht : t < 2097152 := by omega
  have HE : Hid (etZ m t = if (txs m t (eN m)).length = 0 then ⟨#[45]⟩ else ⟨(Join.J (txs m t (eN m)) ⟨#[32]⟩ (txs m t (eN m)).length).toArray⟩) := Lib.hid (by unfold etZ; rw [if_pos ⟨h, by rw [hK]; exact hin⟩, Int.toNat_natCast, Int.toNat_natCast])
  rw [h] at HL
  rw [hin] at HLB
  have hE := eN_bd m (by omega)
  have vP : IntKind.i64.wrap ((m : Int) * ((m : Int) - 1)) = ((2 * eN m : Nat) : Int) := by
    rcases (by omega : m = 3 ∨ m = 4 ∨ m = 5 ∨ m = 6 ∨ m = 7) with rfl | rfl | rfl | rfl | rfl <;> decide +kernel
  have HED : Hid (∀ k : Nat, k < eN m → ∃ i j : Nat, (∀ W, Calls Tryz.prog 52 #[.int .i64 m, .int .i64 k] W fun e w' => e = .returned (.tuple #[.int .i64 (i : Nat), .int .i64 (j : Nat)]) ∧ W = w') ∧ i ≤ 7 ∧ j ≤ 7 ∧ eT m k = ⟨(Lib.itoa i).toArray⟩ ++ ⟨(Lib.itoa j).toArray⟩) := Lib.hid (fun k hk => by
    have h2 := edL_lt m7 hk
    refine ⟨(edL m k).1, (edL m k).2, fun W => ?_, by omega, by omega, rfl⟩
    have := specEdgeAt m k W
    rw [edZ_in m3 m7 hk] at this
    exact this)
  have HHA := Lib.hid (fun (x : Nat) (hx : x < 64) W => l6HasE_any t x (by omega) hx W)
  have HTX := Lib.hid (txs_succ m t)
  have HTL := Lib.hid (txs_len m t)
  have HTT := Lib.hid (txs_tot (T := t) m7 (eN m) (Nat.le_refl _))
  have HT0 : Hid (txs m t 0 = []) := Lib.hid rfl
  generalize txs m t = tx at HTX HTL HTT HT0 HE ⊢
  generalize eT m = et at HED HTX
  generalize eN m = E at hE vP HED HTT HE ⊢
  generalize etZ m t = R at HE ⊢
  generalize hbt : (fun k => t.testBit k) = bt
  have HBT : Hid (∀ k, t.testBit k = bt k) := Lib.hid (fun k => by rw [← hbt])
  clear hbt
  obtain ⟨i0, hi, hz0, hz1, hz2⟩ := info_parts infoS
  have hown0 : OwnsS (w.alloc (.cells #[] 9)) w.heap.size (.slice (some ⟨w.heap.size, 0, none⟩) 0 0) [] := World.ownsRow_made w #[] 0 (Nat.le_refl _) (by decide) rfl
  have HO : Hid (OwnsS (w.alloc (.cells #[] 9)) w.heap.size (.slice (some ⟨w.heap.size, 0, none⟩) 0 0) (tx 0)) := Lib.hid (by rw [HT0.out]; exact hown0)
  have HB0 := Lib.hid ((Below.refl w.heap.size w).alloc (Nat.le_refl _) (.cells #[] 9))
  clear hown0 h hin hK t0 tK h3 h7
  go_enter Tryz.func18, Tryz.ntmps18
  go_wp2_with fail
  refine (HL.out _).mono ?_
  rintro e w' ⟨rfl, rfl⟩
  go_wp2_with fail
  refine (HAE.out _).mono ?_
  rintro e w' ⟨rfl, rfl⟩
  go_wp2_with fail
  refine (HLB.out _).mono ?_
  rintro e w' ⟨rfl, rfl⟩
  clear HL HAE HLB hKb
  go_wp2
  go_loopw [5, 6] (fun vv i wr => ∃ x : Nat, x ≤ E ∧ i = .int .i64 x ∧ OwnsS wr w.heap.size vv (tx x) ∧ Below w.heap.size w wr) (fun _ i _ => E - (intOf i).toNat)
  case atStart => exact ⟨0, Nat.zero_le _, rfl, HO.out, HB0.out⟩
  case round =>
    obtain ⟨x, hx, rfl, hown, hb⟩ := hrel
    by_cases hlt : x < E
    · have HH1 := Lib.hid (HHA.out x (by omega))
      rw [HBT.out x] at HH1
      have hTX := HTX.out x
      rw [HBT.out x] at hTX
      have HTXx := Lib.hid hTX
      clear hTX
      generalize bt x = bx at HH1 HTXx
      go_wp2_with fail
      refine (HH1.out _).mono ?_
      rintro e w' ⟨rfl, rfl⟩
      cases bx
      · go_wp2
        exact ⟨⟨x + 1, by omega, by go_num, by rw [HTXx.out]; simpa using hown, hb⟩, by simp only [intOf]; omega⟩
      · obtain ⟨i, j, he, hi7, hj7, het⟩ := HED.out x hlt
        have HE1 := Lib.hid he
        clear he
        obtain ⟨A, hA⟩ : ∃ A : ByteArray, A = ⟨(Lib.itoa (i : Nat)).toArray⟩ := ⟨_, rfl⟩
        obtain ⟨C, hC⟩ : ∃ C : ByteArray, C = ⟨(Lib.itoa (j : Nat)).toArray⟩ := ⟨_, rfl⟩
        have hAs : A.size ≤ 30 := by rw [hA]; exact itoa_size i (by omega) (by omega)
        have hCs : C.size ≤ 30 := by rw [hC]; exact itoa_size j (by omega) (by omega)
        have HAC : Hid (tx (x + 1) = tx x ++ [A ++ C]) := Lib.hid (by rw [HTXx.out, hA, hC, ← het]; rfl)
        have HX : Hid (∀ W, Calls Tryz.prog 53 #[.int .i64 (i : Nat)] W fun e w' => e = .returned (.string A) ∧ Below W.heap.size W w') := Lib.hid (fun W => by rw [hA]; exact Fmt.spec_any _ (by omega) (by omega) W)
        have HZ : Hid (∀ W, Calls Tryz.prog 53 #[.int .i64 (j : Nat)] W fun e w' => e = .returned (.string C) ∧ Below W.heap.size W w') := Lib.hid (fun W => by rw [hC]; exact Fmt.spec_any _ (by omega) (by omega) W)
        have hr1 : ∀ W, (Op.stringOp .add A C).run Tryz.prog W = .ok (.string (A ++ C)) W := fun W => run_string_add_sum W _ _ (by omega)
        have hLx := HTL.out x
        obtain ⟨ys, hys⟩ : ∃ ys : List ByteArray, tx x = ys := ⟨_, rfl⟩
        rw [hys] at hown hLx HAC
        have hyl : ys.length ≤ 21 := by omega
        clear het hA hC HTXx hys hLx
        go_wp2_with fail
        refine (HE1.out _).mono ?_
        rintro e w' ⟨rfl, rfl⟩
        go_wp2_with fail
        refine (held0 w w.heap.size _ ys (HX.out _) ⟨hown, hb⟩).mono ?_
        rintro e w3 ⟨rfl, hown3, hb3⟩
        clear hown hb HX
        go_wp2_with fail
        refine (held0 w w.heap.size _ ys (HZ.out _) ⟨hown3, hb3⟩).mono ?_
        rintro e w4 ⟨rfl, hown4, hb4⟩
        clear hown3 hb3 HZ
        have hsz4 := hb4.size
        go_wp2_with (at_builtin; refine wpList_append_own _ rfl _ _ 65 rfl w.heap.size 9 i0 _ 1 16 Tryz.underlying65 hi hz0 hz1 hz2 rfl (by decide) _ _ _ rfl (World.ownsRow.alloc hown4 _) ⟨_, 0, none⟩ 1 1 [.string (A ++ C)] rfl rfl (World.news_of_block (cs := #[.string (A ++ C)]) (t := 9) (fr := (0, 0)) (heap_alloc_new w4 _)) (by simp [Value.oneCell']) (by simp only [maxLen]; omega) (by omega) (by simp; omega) ?_)
        intro v6 w6 hown6 hg6 _
        have hk := after_app hb4 hown4 hg6
        have HO1 := Lib.hid (ownsS_snoc rfl hown6)
        clear hown6 hg6
        go_wp2
        exact ⟨⟨x + 1, by omega, by go_num, by rw [HAC.out]; exact HO1.out, hk⟩, by simp only [intOf]; omega⟩
    · have e : x = E := by omega
      subst e
      obtain ⟨a, c, rfl⟩ := ownsS_len hown
      have hLx := HTL.out x
      have hTT := HTT.out
      obtain ⟨ys, hys⟩ : ∃ ys : List ByteArray, tx x = ys := ⟨_, rfl⟩
      have hR := HE.out
      rw [hys] at hown hLx hTT hR ⊢
      by_cases h0 : ys.length = 0
      · rw [if_pos h0] at hR
        rw [h0] at hown ⊢
        have HR := Lib.hid hR
        clear hR
        go_wp2
        go_ret
        exact ⟨by rw [HR.out]; rfl, hb⟩
      · rw [if_neg h0] at hR
        have HR := Lib.hid hR
        clear hR
        have h1 : (((ys.length : Nat) : Int) == 0) = false := by simp; intro h; exact h0 (by rw [h]; rfl)
        obtain ⟨g, cg, hv, hg0, hg1, hat⟩ := ownsS_row hown (by omega)
        injection hv with v1 v2 v3
        subst v1 v3
        have HJ := Lib.hid (Join.spec_any g 0 c ys ⟨#[32]⟩ (by omega) (show 1 ≤ _ by omega) (by omega) wr hat hg1)
        rw [← HR.out] at HJ
        generalize ys.length = q at h0 h1 HJ ⊢
        clear hown hat
        go_wp2_with fail
        refine HJ.out.mono ?_
        rintro e w2 ⟨rfl, hb2⟩
        have B2 := hb.trans (hb2.mono hb.size)
        go_wp2
        go_ret
        exact ⟨rfl, B2⟩
end Go.Proofs.YtfggiflngfihcaaGreatDoor.TrText
