/- Several texts in one: TrText, TiText. -/
import Derived.Test.YtinlnafkmoabbaaGreatDoorMgTc
import Derived.Test.YtinlnafkmoabbaaGreatDoorMgTx
import Derived.Deep.AppendLies
import Derived.Deep.Onto
import Derived.Lib.ItoaNum
import Derived.Test.YtinlnafkmoabbaaGreatDoorMgTf
import Derived.Test.YtinlnafkmoabbaaGreatDoorTiCross
/- Spec's EdgesText. -/
namespace Go.Proofs.YtinlnafkmoabbaaGreatDoor.TrText
open Go.RowKit Pt Sg
theorem infoS : (Tryz.prog.info? 9).map (fun i => (i.zero, i.size, i.bytes)) = some (some (.string ⟨#[]⟩), 1, 16) := by kernel_rfl
theorem itoa_size (n : Int) (h1 : -50 ≤ n) (h2 : n ≤ 50) : (⟨(Lib.itoa n).toArray⟩ : ByteArray).size ≤ 30 := by
  have key : ∀ u : Nat, u ≤ 50 → (Lib.decDigits u).length ≤ 2 := by
    intro u hu
    rw [Lib.decDigits_length]
    by_cases h10 : u < 10
    · rw [Lib.nDigits_small h10]; omega
    · rw [Lib.nDigits_big (by omega), Lib.nDigits_small (by omega)]; omega
  show (Lib.itoa n).toArray.size ≤ 30
  have h := key n.natAbs (by omega)
  have h' := key n.toNat (by omega)
  unfold Lib.itoa
  split <;> simp <;> omega
def OwnsS (w : World) (B : Nat) (v : Value) (xs : List ByteArray) : Prop := w.ownsRow B 9 1 v xs.length (xs.map Value.string)
theorem ownsS_on {w w' : World} {B : Nat} {v : Value} {xs : List ByteArray} (h : OwnsS w B v xs) (hb : Below w.heap.size w w') : OwnsS w' B v xs :=
  World.ownsRow.kept h (row := none) ⟨hb.os, hb.tape, hb.output, hb.size, fun k hk _ => hb.block k hk⟩ (by cases v.ownBlock <;> simp)
theorem held0 (w0 : World) (B : Nat) (v : Value) (xs : List ByteArray) {f : FuncId} {args : Array Value} {W : World} {r : Value} (h : Calls Tryz.prog f args W fun e w' => e = .returned r ∧ Below W.heap.size W w')
    (hS : OwnsS W B v xs ∧ Below w0.heap.size w0 W) :
    Calls Tryz.prog f args W fun e w' => e = .returned r ∧ OwnsS w' B v xs ∧ Below w0.heap.size w0 w' :=
  h.mono fun _ _ ⟨he, hb⟩ => ⟨he, ownsS_on hS.1 hb, hS.2.trans (hb.mono hS.2.size)⟩
theorem ownsS_snoc {w : World} {B : Nat} {v : Value} {xs : List ByteArray} {s t : ByteArray} (e : t = s) (h : w.ownsRow B 9 1 v (xs.length + 1) (xs.map Value.string ++ [.string s])) : OwnsS w B v (xs ++ [t]) := by
  subst e
  unfold OwnsS
  rw [List.length_append, List.map_append]
  exact h
theorem ownsS_row {w : World} {B : Nat} {v : Value} {xs : List ByteArray} (h : OwnsS w B v xs) (h0 : 0 < xs.length) : ∃ b c, v = .slice (some ⟨b, 0, none⟩) xs.length c ∧ B ≤ b ∧ b < w.heap.size ∧ Strs.At w b 0 xs := by
  have hlt := World.ownsRow.lt h
  obtain ⟨hl, ⟨rfl, h1⟩ | ⟨g, cap, cur, hv, hB, hh, hr⟩⟩ := id h
  · omega
  · subst hv
    have hc := World.ownsRow.cells h (g := g) rfl
    refine ⟨g, cap, rfl, hB, (hlt g rfl).2, fun j x hx => ?_⟩
    have := hc j (.string x) (by rw [List.getElem?_map, hx]; rfl)
    rwa [WideShapes.add_plain] at this
theorem ownsS_len {w : World} {B : Nat} {v : Value} {xs : List ByteArray} (h : OwnsS w B v xs) : ∃ a c, v = .slice a xs.length c := by
  obtain ⟨-, ⟨rfl, h1⟩ | ⟨g, cap, cur, hv, hB, hh, hr⟩⟩ := id h
  · exact ⟨none, 0, by rw [h1]⟩
  · exact ⟨_, cap, hv⟩
/-- The text of an edge. -/
def eT (n k : Nat) : ByteArray := ⟨(Lib.itoa ((edL n k).1 : Nat)).toArray⟩ ++ ⟨(Lib.itoa ((edL n k).2 : Nat)).toArray⟩
theorem eT_size {n k : Nat} (h7 : n ≤ 7) (hk : k < eN n) : (eT n k).size ≤ 60 := by
  have h := edL_lt h7 hk
  have h1 := itoa_size ((edL n k).1 : Nat) (by omega) (by omega)
  have h2 := itoa_size ((edL n k).2 : Nat) (by omega) (by omega)
  unfold eT
  rw [ByteArray.size_append]
  omega
/-- The texts of the edges of a set, of those before m. -/
def txs (n T m : Nat) : List ByteArray := ((List.range m).filter fun k => T.testBit k).map (eT n)
theorem txs_succ (n T m : Nat) : txs n T (m + 1) = txs n T m ++ if T.testBit m = true then [eT n m] else [] := by
  unfold txs
  rw [List.range_succ, List.filter_append, List.map_append]
  cases h : T.testBit m <;> simp [h]
theorem txs_len (n T : Nat) : ∀ m, (txs n T m).length ≤ m
  | 0 => Nat.le_refl _
  | m + 1 => by
    have := txs_len n T m
    rw [txs_succ, List.length_append]
    split <;> simp <;> omega
theorem txs_tot {n T : Nat} (h7 : n ≤ 7) : ∀ m, m ≤ eN n → Strs.tot (txs n T m) ≤ 60 * m
  | 0, _ => by simp [txs, Strs.tot]
  | m + 1, hm => by
    have h1 := txs_tot (T := T) h7 m (by omega)
    have h2 := eT_size h7 (k := m) (by omega)
    rw [txs_succ]
    unfold Strs.tot at h1 ⊢
    rw [List.map_append, List.sum_append]
    split <;> simp <;> omega
/-- EdgesText. -/
def etZ (n T : Int) : ByteArray := if inB n 3 7 = true ∧ inB T 0 (allZ n) = true then (if (txs n.toNat T.toNat (eN n.toNat)).length = 0 then ⟨#[45]⟩ else ⟨(Join.J (txs n.toNat T.toNat (eN n.toNat)) ⟨#[32]⟩ (txs n.toNat T.toNat (eN n.toNat)).length).toArray⟩) else ⟨#[]⟩
theorem after_app {w0 W W1 : World} {v : Value} {xs : List ByteArray} {o : Obj} (hS : Below w0.heap.size w0 W) (hown : OwnsS W w0.heap.size v xs) (hg : (W.alloc o).grownBy W1 v.ownBlock) : Below w0.heap.size w0 W1 :=
  (hS.alloc hS.size o).grown hg (hS.alloc hS.size o).size (fun q hq => (World.ownsRow.lt hown q hq).1)
set_option maxHeartbeats 3200000 in
set_option maxRecDepth 100000 in
theorem specEdgesText (n T : Int) (w : World) :
    Calls Tryz.prog 63 #[.int .i64 n, .int .i64 T] w fun e w' => e = .returned (.string (etZ n T)) ∧ Below w.heap.size w w' := by
  have HL := Lib.hid (fun W => l1In_any n 3 7 W)
  cases h : inB n 3 7
  · have HE : Hid (etZ n T = ⟨#[]⟩) := Lib.hid (by unfold etZ; rw [if_neg]; rw [h]; simp)
    rw [HE.out]
    rw [h] at HL
    clear h HE
    have HB0 := Lib.hid (Below.refl w.heap.size w)
    go_enter Tryz.func63, Tryz.ntmps63
    go_wp2_with fail
    refine (HL.out _).mono ?_
    rintro e w' ⟨rfl, rfl⟩
    go_wp2
    go_ret
    exact ⟨rfl, HB0.out⟩
  obtain ⟨h3, h7⟩ := inB_mem h
  obtain ⟨m, rfl⟩ : ∃ m : Nat, n = m := ⟨n.toNat, by omega⟩
  have m3 : 3 ≤ m := by omega
  have m7 : m ≤ 7 := by omega
  obtain ⟨K, hK, hKb⟩ : ∃ K : Nat, allZ m = K ∧ K < 2097152 := by
    have h0 := Nat.pow_le_pow_right (n := 2) (by omega) (eN_bd m (by omega))
    refine ⟨2 ^ eN m - 1, ?_, by omega⟩
    unfold allZ
    rw [if_pos h, Int.toNat_natCast]
  have HAE := Lib.hid (fun W => specAllEdges (m : Int) W)
  rw [hK] at HAE
  have HLB := Lib.hid (fun W => l1In_any T 0 (K : Int) W)
  cases hin : inB T 0 (K : Int)
  · have HE : Hid (etZ m T = ⟨#[]⟩) := Lib.hid (by unfold etZ; rw [if_neg]; rw [hK, hin]; simp)
    rw [HE.out]
    rw [h] at HL
    rw [hin] at HLB
    clear h HE hK hin
    have HB0 := Lib.hid (Below.refl w.heap.size w)
    go_enter Tryz.func63, Tryz.ntmps63
    go_wp2_with fail
    refine (HL.out _).mono ?_
    rintro e w' ⟨rfl, rfl⟩
    go_wp2_with fail
    refine (HAE.out _).mono ?_
    rintro e w' ⟨rfl, rfl⟩
    go_wp2_with fail
    refine (HLB.out _).mono ?_
    rintro e w' ⟨rfl, rfl⟩
    go_wp2
    go_ret
    exact ⟨rfl, HB0.out⟩
  obtain ⟨t0, tK⟩ := inB_mem hin
  obtain ⟨t, rfl⟩ : ∃ t : Nat, T = t := ⟨T.toNat, by omega⟩
  have ht : t < 2097152 := by omega
  have HE : Hid (etZ m t = if (txs m t (eN m)).length = 0 then ⟨#[45]⟩ else ⟨(Join.J (txs m t (eN m)) ⟨#[32]⟩ (txs m t (eN m)).length).toArray⟩) := Lib.hid (by unfold etZ; rw [if_pos ⟨h, by rw [hK]; exact hin⟩, Int.toNat_natCast, Int.toNat_natCast])
  rw [h] at HL
  rw [hin] at HLB
  have hE := eN_bd m (by omega)
  have vP : IntKind.i64.wrap ((m : Int) * ((m : Int) - 1)) = ((2 * eN m : Nat) : Int) := by
    rcases (by omega : m = 3 ∨ m = 4 ∨ m = 5 ∨ m = 6 ∨ m = 7) with rfl | rfl | rfl | rfl | rfl <;> decide +kernel
  have HED : Hid (∀ k : Nat, k < eN m → ∃ i j : Nat, (∀ W, Calls Tryz.prog 32 #[.int .i64 m, .int .i64 k] W fun e w' => e = .returned (.tuple #[.int .i64 (i : Nat), .int .i64 (j : Nat)]) ∧ W = w') ∧ i ≤ 7 ∧ j ≤ 7 ∧ eT m k = ⟨(Lib.itoa i).toArray⟩ ++ ⟨(Lib.itoa j).toArray⟩) := Lib.hid (fun k hk => by
    have h2 := edL_lt m7 hk
    refine ⟨(edL m k).1, (edL m k).2, fun W => ?_, by omega, by omega, rfl⟩
    have := specEdgeAt m k W
    rw [edZ_in m3 m7 hk] at this
    exact this)
  have HHA := Lib.hid (fun (x : Nat) (hx : x < 64) W => l6HasE_any t x (by omega) hx W)
  have HTX := Lib.hid (txs_succ m t)
  have HTL := Lib.hid (txs_len m t)
  have HTT := Lib.hid (txs_tot (T := t) m7 (eN m) (Nat.le_refl _))
  have HT0 : Hid (txs m t 0 = []) := Lib.hid rfl
  generalize txs m t = tx at HTX HTL HTT HT0 HE ⊢
  generalize eT m = et at HED HTX
  generalize eN m = E at hE vP HED HTT HE ⊢
  generalize etZ m t = R at HE ⊢
  generalize hbt : (fun k => t.testBit k) = bt
  have HBT : Hid (∀ k, t.testBit k = bt k) := Lib.hid (fun k => by rw [← hbt])
  clear hbt
  obtain ⟨i0, hi, hz0, hz1, hz2⟩ := info_parts infoS
  have hown0 : OwnsS (w.alloc (.cells #[] 9)) w.heap.size (.slice (some ⟨w.heap.size, 0, none⟩) 0 0) [] := World.ownsRow_made w #[] 0 (Nat.le_refl _) (by decide) rfl
  have HO : Hid (OwnsS (w.alloc (.cells #[] 9)) w.heap.size (.slice (some ⟨w.heap.size, 0, none⟩) 0 0) (tx 0)) := Lib.hid (by rw [HT0.out]; exact hown0)
  have HB0 := Lib.hid ((Below.refl w.heap.size w).alloc (Nat.le_refl _) (.cells #[] 9))
  clear hown0 h hin hK t0 tK h3 h7
  go_enter Tryz.func63, Tryz.ntmps63
  go_wp2_with fail
  refine (HL.out _).mono ?_
  rintro e w' ⟨rfl, rfl⟩
  go_wp2_with fail
  refine (HAE.out _).mono ?_
  rintro e w' ⟨rfl, rfl⟩
  go_wp2_with fail
  refine (HLB.out _).mono ?_
  rintro e w' ⟨rfl, rfl⟩
  clear HL HAE HLB hKb
  go_wp2
  go_loopw [5, 6] (fun vv i wr => ∃ x : Nat, x ≤ E ∧ i = .int .i64 x ∧ OwnsS wr w.heap.size vv (tx x) ∧ Below w.heap.size w wr) (fun _ i _ => E - (intOf i).toNat)
  case atStart => exact ⟨0, Nat.zero_le _, rfl, HO.out, HB0.out⟩
  case round =>
    obtain ⟨x, hx, rfl, hown, hb⟩ := hrel
    by_cases hlt : x < E
    · have HH1 := Lib.hid (HHA.out x (by omega))
      rw [HBT.out x] at HH1
      have hTX := HTX.out x
      rw [HBT.out x] at hTX
      have HTXx := Lib.hid hTX
      clear hTX
      generalize bt x = bx at HH1 HTXx
      go_wp2_with fail
      refine (HH1.out _).mono ?_
      rintro e w' ⟨rfl, rfl⟩
      cases bx
      · go_wp2
        exact ⟨⟨x + 1, by omega, by go_num, by rw [HTXx.out]; simpa using hown, hb⟩, by simp only [intOf]; omega⟩
      · obtain ⟨i, j, he, hi7, hj7, het⟩ := HED.out x hlt
        have HE1 := Lib.hid he
        clear he
        obtain ⟨A, hA⟩ : ∃ A : ByteArray, A = ⟨(Lib.itoa (i : Nat)).toArray⟩ := ⟨_, rfl⟩
        obtain ⟨C, hC⟩ : ∃ C : ByteArray, C = ⟨(Lib.itoa (j : Nat)).toArray⟩ := ⟨_, rfl⟩
        have hAs : A.size ≤ 30 := by rw [hA]; exact itoa_size i (by omega) (by omega)
        have hCs : C.size ≤ 30 := by rw [hC]; exact itoa_size j (by omega) (by omega)
        have HAC : Hid (tx (x + 1) = tx x ++ [A ++ C]) := Lib.hid (by rw [HTXx.out, hA, hC, ← het]; rfl)
        have HX : Hid (∀ W, Calls Tryz.prog 120 #[.int .i64 (i : Nat)] W fun e w' => e = .returned (.string A) ∧ Below W.heap.size W w') := Lib.hid (fun W => by rw [hA]; exact Fmt.spec_any _ (by omega) (by omega) W)
        have HZ : Hid (∀ W, Calls Tryz.prog 120 #[.int .i64 (j : Nat)] W fun e w' => e = .returned (.string C) ∧ Below W.heap.size W w') := Lib.hid (fun W => by rw [hC]; exact Fmt.spec_any _ (by omega) (by omega) W)
        have hr1 : ∀ W, (Op.stringOp .add A C).run Tryz.prog W = .ok (.string (A ++ C)) W := fun W => run_string_add_sum W _ _ (by omega)
        have hLx := HTL.out x
        obtain ⟨ys, hys⟩ : ∃ ys : List ByteArray, tx x = ys := ⟨_, rfl⟩
        rw [hys] at hown hLx HAC
        have hyl : ys.length ≤ 21 := by omega
        clear het hA hC HTXx hys hLx
        go_wp2_with fail
        refine (HE1.out _).mono ?_
        rintro e w' ⟨rfl, rfl⟩
        go_wp2_with fail
        refine (held0 w w.heap.size _ ys (HX.out _) ⟨hown, hb⟩).mono ?_
        rintro e w3 ⟨rfl, hown3, hb3⟩
        clear hown hb HX
        go_wp2_with fail
        refine (held0 w w.heap.size _ ys (HZ.out _) ⟨hown3, hb3⟩).mono ?_
        rintro e w4 ⟨rfl, hown4, hb4⟩
        clear hown3 hb3 HZ
        have hsz4 := hb4.size
        go_wp2_with (at_builtin; refine wpList_append_own _ rfl _ _ 93 rfl w.heap.size 9 i0 _ 1 16 Tryz.underlying93 hi hz0 hz1 hz2 rfl (by decide) _ _ _ rfl (World.ownsRow.alloc hown4 _) ⟨_, 0, none⟩ 1 1 [.string (A ++ C)] rfl rfl (World.news_of_block (cs := #[.string (A ++ C)]) (t := 9) (fr := (0, 0)) (heap_alloc_new w4 _)) (by simp [Value.oneCell']) (by simp only [maxLen]; omega) (by omega) (by simp; omega) ?_)
        intro v6 w6 hown6 hg6 _
        have hk := after_app hb4 hown4 hg6
        have HO1 := Lib.hid (ownsS_snoc rfl hown6)
        clear hown6 hg6
        go_wp2
        exact ⟨⟨x + 1, by omega, by go_num, by rw [HAC.out]; exact HO1.out, hk⟩, by simp only [intOf]; omega⟩
    · have e : x = E := by omega
      subst e
      obtain ⟨a, c, rfl⟩ := ownsS_len hown
      have hLx := HTL.out x
      have hTT := HTT.out
      obtain ⟨ys, hys⟩ : ∃ ys : List ByteArray, tx x = ys := ⟨_, rfl⟩
      have hR := HE.out
      rw [hys] at hown hLx hTT hR ⊢
      by_cases h0 : ys.length = 0
      · rw [if_pos h0] at hR
        rw [h0] at hown ⊢
        have HR := Lib.hid hR
        clear hR
        go_wp2
        go_ret
        exact ⟨by rw [HR.out]; rfl, hb⟩
      · rw [if_neg h0] at hR
        have HR := Lib.hid hR
        clear hR
        have h1 : (((ys.length : Nat) : Int) == 0) = false := by simp; intro h; exact h0 (by rw [h]; rfl)
        obtain ⟨g, cg, hv, hg0, hg1, hat⟩ := ownsS_row hown (by omega)
        injection hv with v1 v2 v3
        subst v1 v3
        have HJ := Lib.hid (Join.spec_any g 0 c ys ⟨#[32]⟩ (by omega) (show 1 ≤ _ by omega) (by omega) wr hat hg1)
        rw [← HR.out] at HJ
        generalize ys.length = q at h0 h1 HJ ⊢
        clear hown hat
        go_wp2_with fail
        refine HJ.out.mono ?_
        rintro e w2 ⟨rfl, hb2⟩
        have B2 := hb.trans (hb2.mono hb.size)
        go_wp2
        go_ret
        exact ⟨rfl, B2⟩
end Go.Proofs.YtinlnafkmoabbaaGreatDoor.TrText
/- impl's EdgesText. -/
namespace Go.Proofs.YtinlnafkmoabbaaGreatDoor.TrText
open Go.RowKit Pt Sg NewI
theorem ret_strD {s t : ByteArray} (h : s = t) : Ending.returned (.string s) = Ending.returned (.string t) := by rw [h]
set_option maxHeartbeats 1600000 in
set_option maxRecDepth 100000 in
theorem fmt_small (k : Nat) (hk : k ≤ 7) (w : World) :
    Calls Tryz.prog 118 #[.int .i64 k] w fun e w' => e = .returned (.string ⟨(Lib.itoa (k : Nat)).toArray⟩) ∧ w = w' := by
  have key : ∀ (x : Int), x = 0 ∨ x = 1 ∨ x = 2 ∨ x = 3 ∨ x = 4 ∨ x = 5 ∨ x = 6 ∨ x = 7 → Calls Tryz.prog 211 #[.int .i64 x] w fun e w' => e = .returned (.string ⟨(Lib.itoa x).toArray⟩) ∧ w = w' := by
    intro x hx
    rcases hx with rfl | rfl | rfl | rfl | rfl | rfl | rfl | rfl <;>
    · go_enter Tryz.func211, Tryz.ntmps211
      go_wp2
      go_ret
      exact ⟨ret_strD (by decide +kernel), rfl⟩
  have HK := Lib.hid (key (k : Int) (by omega))
  obtain ⟨A, hA⟩ : ∃ A : ByteArray, A = ⟨(Lib.itoa (k : Nat)).toArray⟩ := ⟨_, rfl⟩
  rw [← hA] at HK ⊢
  clear key hA
  have H1 : Hid (Calls Tryz.prog 197 #[.int .i64 k, .int .i64 10] w fun e w' => e = .returned (.string A) ∧ w = w') := Lib.hid (by
    go_enter Tryz.func197, Tryz.ntmps197
    go_wp2_with fail
    refine HK.out.mono ?_
    rintro e w' ⟨rfl, rfl⟩
    go_wp2
    go_ret
    exact ⟨rfl, rfl⟩)
  clear HK
  have H2 : Hid (Calls Tryz.prog 177 #[.int .i64 k] w fun e w' => e = .returned (.string A) ∧ w = w') := Lib.hid (by
    go_enter Tryz.func177, Tryz.ntmps177
    go_wp2_with fail
    refine H1.out.mono ?_
    rintro e w' ⟨rfl, rfl⟩
    go_wp2
    go_ret
    exact ⟨rfl, rfl⟩)
  clear H1
  have H3 : Hid (Calls Tryz.prog 153 #[.int .i64 k] w fun e w' => e = .returned (.string A) ∧ w = w') := Lib.hid (by
    go_enter Tryz.func153, Tryz.ntmps153
    go_wp2_with fail
    refine H2.out.mono ?_
    rintro e w' ⟨rfl, rfl⟩
    go_wp2
    go_ret
    exact ⟨rfl, rfl⟩)
  clear H2
  go_enter Tryz.func118, Tryz.ntmps118
  go_wp2_with fail
  refine H3.out.mono ?_
  rintro e w' ⟨rfl, rfl⟩
  go_wp2
  go_ret
  exact ⟨rfl, rfl⟩
theorem elN_low {t E : Nat} (hE : E ≤ 21) (ht : t < 2 ^ E) : elN t = (List.range E).filter fun k => t.testBit k := by
  unfold elN
  have e2 : List.range 21 = List.range E ++ (List.range (21 - E)).map (E + ·) := by
    rw [← List.range_add, show E + (21 - E) = 21 by omega]
  rw [e2, List.filter_append]
  have e3 : ((List.range (21 - E)).map (E + ·)).filter (fun k => t.testBit k) = [] := by
    rw [List.filter_eq_nil_iff]
    intro x hx
    obtain ⟨y, -, rfl⟩ := List.mem_map.1 hx
    rw [bits_of_lt ht (E + y) (by omega)]
    simp
  rw [e3, List.append_nil]
theorem txs_els {m t : Nat} (h7 : m ≤ 7) (ht : t < 2 ^ eN m) : (elN t).map (eT m) = txs m t (eN m) := by
  unfold txs
  rw [elN_low (eN_bd m (by omega)) ht]
set_option maxHeartbeats 6400000 in
set_option maxRecDepth 100000 in
theorem implEdgesText (n T : Int) (_hn : I64 n) (_hI : I64 T) (w : World) (hT : Tab w) :
    Calls Tryz.prog 62 #[.int .i64 n, .int .i64 T] w fun e w' => e = .returned (.string (etZ n T)) ∧ Below w.heap.size w w' := by
  obtain ⟨K, hK, hKb⟩ := allZ_small n
  have HES := Lib.hid (fun W => edgeSet_any n T W)
  rw [hK] at HES
  have HB0 := Lib.hid (Below.refl w.heap.size w)
  by_cases hin : (inB n 3 7 && inB T 0 (K : Int)) = false
  · have HE : Hid (etZ n T = ⟨#[]⟩) := Lib.hid (by
      unfold etZ
      rw [if_neg]
      rintro ⟨h1, h2⟩
      rw [h1, ← hK, h2] at hin
      cases hin)
    rw [HE.out]
    rw [hin] at HES
    clear HE hK hT hin
    go_enter Tryz.func62, Tryz.ntmps62
    go_wp2_with fail
    refine (HES.out _).mono ?_
    rintro e w' ⟨rfl, rfl⟩
    go_wp2
    go_ret
    exact ⟨rfl, HB0.out⟩
  have hin : (inB n 3 7 && inB T 0 (K : Int)) = true := by simpa using hin
  rw [hin] at HES
  rw [Bool.and_eq_true] at hin
  have hn37 := inB_mem hin.1
  obtain ⟨hT0, hTK⟩ := inB_mem hin.2
  clear hin
  obtain ⟨t, rfl⟩ : ∃ t : Nat, T = t := ⟨T.toNat, by omega⟩
  obtain ⟨m, rfl⟩ : ∃ m : Nat, n = m := ⟨n.toNat, by omega⟩
  have m3 : 3 ≤ m := by omega
  have m7 : m ≤ 7 := by omega
  have hp := allZ_pow (n := m) (.inr ⟨m3, m7⟩)
  have hE := eN_bd m (by omega)
  have htE : t < 2 ^ eN m := by
    have := Nat.pow_pos (n := eN m) (show 0 < 2 by omega)
    omega
  have ht21 : t < 2097152 := by omega
  have HE : Hid (etZ m t = if (txs m t (eN m)).length = 0 then ⟨#[45]⟩ else ⟨(Join.J (txs m t (eN m)) ⟨#[32]⟩ (txs m t (eN m)).length).toArray⟩) := Lib.hid (by unfold etZ; rw [if_pos ⟨inB_yes (by omega) (by omega), by rw [hK]; exact inB_yes (by omega) (by omega)⟩, Int.toNat_natCast, Int.toNat_natCast])
  have HXE := Lib.hid (txs_els m7 htE)
  by_cases ht0 : t = 0
  · subst ht0
    have HE2 : Hid (etZ m (0 : Nat) = ⟨#[45]⟩) := Lib.hid (by
      rw [HE.out, if_pos]
      rw [← HXE.out, elN_zero]
      rfl)
    rw [HE2.out]
    clear HE HE2 HXE hK hT
    go_enter Tryz.func62, Tryz.ntmps62
    go_wp2_with fail
    refine (HES.out _).mono ?_
    rintro e w' ⟨rfl, rfl⟩
    go_wp2
    go_ret
    exact ⟨rfl, HB0.out⟩
  have htz : ((t : Int) == 0) = false := by simp; omega
  have HEL := Lib.hid (elementsG_any t ht21 w hT)
  have HED : Hid (∀ k ∈ elN t, ∃ i j : Nat, (∀ W, Calls Tryz.prog 31 #[.int .i64 m, .int .i64 k] W fun e w' => e = .returned (.tuple #[.int .i64 (i : Nat), .int .i64 (j : Nat)]) ∧ W = w') ∧ i ≤ 7 ∧ j ≤ 7 ∧ eT m k = ⟨(Lib.itoa i).toArray⟩ ++ ⟨(Lib.itoa j).toArray⟩) := Lib.hid (fun k hk => by
    have hkE : k < eN m := by
      refine Classical.byContradiction fun hn => ?_
      have := (mem_elN.1 hk).2
      rw [bits_of_lt htE k (by omega)] at this
      cases this
    have h2 := edL_lt m7 hkE
    refine ⟨(edL m k).1, (edL m k).2, fun W => ?_, by omega, by omega, rfl⟩
    have := edgeAt_any (m : Int) (k : Int) (i64_nat (by omega)) W
    rw [edZ_in m3 m7 hkE] at this
    exact this)
  have HTT := Lib.hid (txs_tot (T := t) m7 (eN m) (Nat.le_refl _))
  rw [← HXE.out] at HE HTT
  have hne : elN t ≠ [] := fun e => by
    obtain ⟨k, -, -, -, -, e2, -⟩ := low_bitG (r := t) (by omega) ht21
    rw [e] at e2
    cases e2
  obtain ⟨els, hels⟩ : ∃ els, els = elN t := ⟨_, rfl⟩
  rw [← hels] at HEL HED HE HTT hne
  have hM : els.length ≤ 21 := by rw [hels]; exact elN_len t
  have hM0 : 0 < els.length := List.length_pos_iff.2 hne
  have HTX : Hid (∀ q, q < els.length → (els.take (q + 1)).map (eT m) = (els.take q).map (eT m) ++ [eT m (els.getD q 0)]) := Lib.hid (fun q hq => by rw [getD_take hq, List.map_append]; rfl)
  have HTF : Hid ((els.take els.length).map (eT m) = els.map (eT m)) := Lib.hid (by rw [List.take_length])
  have HTL : Hid (∀ q, ((els.take q).map (eT m)).length ≤ 21) := Lib.hid (fun q => by rw [List.length_map, List.length_take]; omega)
  have HLF : Hid ((els.map (eT m)).length = els.length) := Lib.hid (List.length_map _)
  have HT0 : Hid ((els.take 0).map (eT m) = []) := Lib.hid rfl
  generalize hfe : els.map (eT m) = tf at HE HTT HTF HLF
  obtain ⟨tx, htx⟩ : ∃ tx : Nat → List ByteArray, tx = fun q => (els.take q).map (eT m) := ⟨_, rfl⟩
  have HTX : Hid (∀ q, q < els.length → tx (q + 1) = tx q ++ [eT m (els.getD q 0)]) := Lib.hid (fun q hq => by rw [htx]; exact HTX.out q hq)
  have HTF : Hid (tx els.length = tf) := Lib.hid (by rw [htx]; exact HTF.out)
  have HTL : Hid (∀ q, (tx q).length ≤ 21) := Lib.hid (fun q => by rw [htx]; exact HTL.out q)
  have HT0 : Hid (tx 0 = []) := Lib.hid (by rw [htx]; exact HT0.out)
  have hEb : eN m ≤ 21 := hE
  generalize etZ m t = R at HE ⊢
  generalize eT m = et at HED HTX
  generalize eN m = E at hEb HTT
  obtain ⟨i0, hi, hz0, hz1, hz2⟩ := info_parts infoS
  clear hfe htx hels hne hp hE htE HXE hT hK
  go_enter Tryz.func62, Tryz.ntmps62
  go_wp2_with fail
  refine (HES.out _).mono ?_
  rintro e w' ⟨rfl, rfl⟩
  go_wp2_with fail
  refine HEL.out.mono ?_
  rintro e w1 ⟨v1, rfl, hv1, hb1⟩
  obtain ⟨a1, c1, rfl, hls⟩ := lsA_of hv1
  have LS := Lib.hid hls
  have B1 := Lib.hid hb1
  have hown0 : OwnsS w1 w1.heap.size (.slice none 0 0) (tx 0) := by rw [HT0.out]; exact World.ownsRow_nil _ _ _ _
  have HO0 := Lib.hid hown0
  obtain ⟨M, hMe⟩ : ∃ M, M = els.length := ⟨_, rfl⟩
  rw [← hMe] at hM hM0 HTF HLF ⊢
  have HML := Lib.hid hMe
  clear hv1 hls hb1 hMe hown0 HES HEL
  go_wp2
  go_loopw [5, 19] (fun vv i wr => ∃ x : Nat, x ≤ M ∧ i = .int .i64 x ∧ OwnsS wr w1.heap.size vv (tx x) ∧ Below w1.heap.size w1 wr) (fun _ i _ => M - (intOf i).toNat)
  case atStart => exact ⟨0, Nat.zero_le _, rfl, HO0.out, Below.refl _ _⟩
  case round =>
    obtain ⟨x, hx, rfl, hown, hb⟩ := hrel
    by_cases hlt : x < M
    · have hql : x < els.length := by have := HML.out; omega
      obtain ⟨g2, rfl, hcell⟩ := LS.out.on hb x hql
      obtain ⟨i, j, he, hi7, hj7, het⟩ := HED.out _ (getD_mem hql)
      have HTXx := Lib.hid (HTX.out x hql)
      generalize els.getD x 0 = k at hcell he het HTXx
      have HE1 := Lib.hid he
      clear he
      obtain ⟨A, hA⟩ : ∃ A : ByteArray, A = ⟨(Lib.itoa (i : Nat)).toArray⟩ := ⟨_, rfl⟩
      obtain ⟨C, hC⟩ : ∃ C : ByteArray, C = ⟨(Lib.itoa (j : Nat)).toArray⟩ := ⟨_, rfl⟩
      have hAs : A.size ≤ 30 := by rw [hA]; exact itoa_size i (by omega) (by omega)
      have hCs : C.size ≤ 30 := by rw [hC]; exact itoa_size j (by omega) (by omega)
      have HAC : Hid (tx (x + 1) = tx x ++ [A ++ C]) := Lib.hid (by rw [HTXx.out, hA, hC, ← het])
      have HX : Hid (∀ W, Calls Tryz.prog 118 #[.int .i64 (i : Nat)] W fun e w' => e = .returned (.string A) ∧ W = w') := Lib.hid (fun W => by rw [hA]; exact fmt_small i hi7 W)
      have HZ : Hid (∀ W, Calls Tryz.prog 118 #[.int .i64 (j : Nat)] W fun e w' => e = .returned (.string C) ∧ W = w') := Lib.hid (fun W => by rw [hC]; exact fmt_small j hj7 W)
      have hr1 : ∀ W, (Op.stringOp .add A C).run Tryz.prog W = .ok (.string (A ++ C)) W := fun W => run_string_add_sum W _ _ (by omega)
      have hLx := HTL.out x
      obtain ⟨ys, hys⟩ : ∃ ys : List ByteArray, tx x = ys := ⟨_, rfl⟩
      rw [hys] at hown hLx HAC
      clear het hA hC HTXx hys
      have hszr := hb.size
      go_wp2_with fail
      refine (HE1.out _).mono ?_
      rintro e w' ⟨rfl, rfl⟩
      go_wp2_with fail
      refine (HX.out _).mono ?_
      rintro e w' ⟨rfl, rfl⟩
      go_wp2_with fail
      refine (HZ.out _).mono ?_
      rintro e w' ⟨rfl, rfl⟩
      go_wp2_with (at_builtin; refine wpList_append_own _ rfl _ _ 93 rfl w1.heap.size 9 i0 _ 1 16 Tryz.underlying93 hi hz0 hz1 hz2 rfl (by decide) _ _ _ rfl (World.ownsRow.alloc hown _) ⟨_, 0, none⟩ 1 1 [.string (A ++ C)] rfl rfl (World.news_of_block (cs := #[.string (A ++ C)]) (t := 9) (fr := (0, 0)) (heap_alloc_new wr _)) (by simp [Value.oneCell']) (by simp only [maxLen]; omega) (by omega) (by simp; omega) ?_)
      intro v6 w6 hown6 hg6 _
      have hk := after_app hb hown hg6
      have HO1 := Lib.hid (ownsS_snoc rfl hown6)
      clear hown6 hg6
      go_wp2
      exact ⟨⟨x + 1, by omega, by go_num, by rw [HAC.out]; exact HO1.out, hk⟩, by simp only [intOf]; omega⟩
    · have e : x = M := by omega
      subst e
      rw [HTF.out] at hown
      have hR := HE.out
      have hTT := HTT.out
      have hl := HLF.out
      rw [if_neg (by omega)] at hR
      obtain ⟨g, cg, hv, hg0, hg1, hat⟩ := ownsS_row hown (by omega)
      have hcap : tf.length ≤ cg := by
        rcases hown.2 with ⟨e1, e2⟩ | ⟨g', cap, cur, e1, -, -, e4, -⟩
        · rw [e1] at hv; cases hv
        · rw [e1] at hv; cases hv; exact e4
      have HJ := Lib.hid (Join.impl_any g 0 cg tf ⟨#[32]⟩ (by omega) hcap (show 1 ≤ _ by omega) (by omega) wr hat hg1)
      have HR := Lib.hid hR
      rw [← HR.out, hl] at HJ
      rw [hl] at hv
      subst hv
      clear hown hat hR
      go_wp2_with fail
      refine HJ.out.mono ?_
      rintro e w2 ⟨rfl, hb2⟩
      have B2 := B1.out.trans ((hb.trans (hb2.mono hb.size)).mono B1.out.size)
      go_wp2
      go_ret
      exact ⟨rfl, B2⟩
end Go.Proofs.YtinlnafkmoabbaaGreatDoor.TrText
