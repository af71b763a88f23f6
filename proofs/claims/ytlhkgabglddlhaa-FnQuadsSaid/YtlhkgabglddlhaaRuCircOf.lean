/- CircuitOf, as impl answers it. -/
import Derived.Test.YtlhkgabglddlhaaRuCirc
import Derived.Test.YtlhkgabglddlhaaSgBy
import Derived.Test.YtlhkgabglddlhaaSgOthers
namespace Go.Proofs.Ytlhkgabglddlhaa.Sg
open Go.RowKit Pt
/-- The text of a circuit; empty if a sign is 0. -/
def cirT (x : Int × Int × Int × Int) : List UInt8 := if x.1 = 0 ∨ x.2.1 = 0 ∨ x.2.2.1 = 0 ∨ x.2.2.2 = 0 then [] else [byteOf x.1, byteOf x.2.1, byteOf x.2.2.1, byteOf x.2.2.2]
theorem newsB (w : World) (x : UInt8) (t : TypeId) : ∀ (j : Nat) u, [Value.int .u8 (x.toNat : Nat)][j]? = some u → (w.alloc (.cells #[.int .u8 (x.toNat : Nat)] t)).cell? (Addr.add ⟨w.heap.size, 0, none⟩ j) = some u
  | 0, u, h => by
    rw [WideShapes.add_plain, Nat.add_zero, World.cell?_alloc_new]
    simpa using h
  | j + 1, u, h => by simp at h
theorem oneB (x : UInt8) : ∀ u ∈ [Value.int .u8 (x.toNat : Nat)], u.oneCell' = true := fun u hu => by
  simp only [List.mem_cons, List.not_mem_nil, or_false] at hu
  subst hu; rfl
/-- A value that owns just these bytes. -/
def OwnsB (w : World) (B : Nat) (v : Value) (L : List UInt8) : Prop := w.ownsRow B 5 1 v L.length (L.map fun (x : UInt8) => Value.int .u8 (x.toNat : Nat))
theorem ownsB_snoc {w : World} {B : Nat} {v : Value} {L : List UInt8} {x : UInt8} (h : w.ownsRow B 5 1 v (L.length + 1) ((L.map fun (x : UInt8) => Value.int .u8 (x.toNat : Nat)) ++ [.int .u8 (x.toNat : Nat)])) : OwnsB w B v (L ++ [x]) := by
  unfold OwnsB
  rw [List.map_append, List.length_append]
  exact h
theorem convB {w : World} {B : Nat} {v : Value} {L : List UInt8} (h : OwnsB w B v L) (h0 : 0 < L.length) : (convert 22 9 v).run Try.prog w = .ok (.string ⟨L.toArray⟩) w := by
  obtain ⟨hl, ⟨rfl, h1⟩ | ⟨g, cap, cur, hv, hB, hh, hr⟩⟩ := id h
  · omega
  · subst hv
    have hc := World.ownsRow.cells h (g := g) rfl
    refine run_convert_bytes_back (P := Try.prog) w 22 9 5 ⟨g, 0, none⟩ cap L Try.underlying22 Try.underlying5 Try.underlying9 (fun j hj => ?_)
    have := hc j (.int .u8 (L[j].toNat : Nat)) (by rw [List.getElem?_map, List.getElem?_eq_getElem hj]; rfl)
    exact this
set_option maxRecDepth 100000 in
theorem index4 (x0 x1 x2 x3 : Int) (W : World) :
    (Instr.index 67 (.agg #[.int .i64 x0, .int .i64 x1, .int .i64 x2, .int .i64 x3]) (.int .i64 0)).run Try.prog W = .ok (.int .i64 x0) W ∧
    (Instr.index 67 (.agg #[.int .i64 x0, .int .i64 x1, .int .i64 x2, .int .i64 x3]) (.int .i64 1)).run Try.prog W = .ok (.int .i64 x1) W ∧
    (Instr.index 67 (.agg #[.int .i64 x0, .int .i64 x1, .int .i64 x2, .int .i64 x3]) (.int .i64 2)).run Try.prog W = .ok (.int .i64 x2) W ∧
    (Instr.index 67 (.agg #[.int .i64 x0, .int .i64 x1, .int .i64 x2, .int .i64 x3]) (.int .i64 3)).run Try.prog W = .ok (.int .i64 x3) W := by
  refine ⟨?_, ?_, ?_, ?_⟩ <;> kernel_rfl
set_option maxHeartbeats 3200000 in
set_option maxRecDepth 100000 in
theorem implCirc (n : Int) (s : ByteArray) (a b c d : Int) (ha : -9223372036854775808 ≤ a ∧ a ≤ 9223372036854775807) (hb : -9223372036854775808 ≤ b ∧ b ≤ 9223372036854775807) (hc : -9223372036854775808 ≤ c ∧ c ≤ 9223372036854775807) (hd : -9223372036854775808 ≤ d ∧ d ≤ 9223372036854775807) (hs : s.size ≤ 9223372036854775807) (w : World) :
    Calls Try.prog 23 #[sg n s, .int .i64 a, .int .i64 b, .int .i64 c, .int .i64 d] w fun e w' => e = .returned (.string ⟨(cirT (cir (sgnF (lookS n s.data.toList)) a b c d)).toArray⟩) ∧ Below w.heap.size w w' := by
  have HMO := Lib.hid (fun W => mapOf_sg n s hs W)
  have HS := Lib.hid (box_made w n s 25)
  obtain ⟨x0, x1, x2, x3, hx⟩ : ∃ x0 x1 x2 x3, cir (sgnF (lookS n s.data.toList)) a b c d = (x0, x1, x2, x3) := ⟨_, _, _, _, rfl⟩
  have HCC : Hid (∀ B W, MapIs W B (lookS n s.data.toList) → Calls Try.prog 75 #[.map (some B), .int .i64 a, .int .i64 b, .int .i64 c, .int .i64 d] W fun e w' => e = .returned (.agg #[.int .i64 x0, .int .i64 x1, .int .i64 x2, .int .i64 x3]) ∧ Below W.heap.size W w') := Lib.hid (fun B W hm => by
    have := circuitOf_any B (lookS n s.data.toList) a b c d ha hb hc hd W hm
    rw [hx] at this
    exact this)
  rw [hx]
  have ix0 := fun W => (index4 x0 x1 x2 x3 W).1
  have ix1 := fun W => (index4 x0 x1 x2 x3 W).2.1
  have ix2 := fun W => (index4 x0 x1 x2 x3 W).2.2.1
  have ix3 := fun W => (index4 x0 x1 x2 x3 W).2.2.2
  clear hx
  obtain ⟨i0, hi, hz0, hz1, hz2⟩ := info_parts info8
  go_enter Try.func23, Try.ntmps23
  go_wp2_with fail
  refine (HMO.out _).mono ?_
  rintro e w1 ⟨mb, rfl, -, hm, hb1⟩
  have X1 := Lib.hid (HS.out.on hb1)
  have B1 := X1.out.2.2
  have HM1 := Lib.hid hm
  clear hm hb1
  go_wp2_with fail
  refine (HCC.out _ _ HM1.out).mono ?_
  rintro e w2 ⟨rfl, hb2⟩
  have B2 := B1.trans (hb2.mono B1.size)
  clear hb2
  have O0 : Hid (OwnsB w2 w.heap.size (.slice none 0 0) []) := Lib.hid (World.ownsRow_nil _ _ _ _)
  go_wp2
  refine wp_loop_rounds 5 ?_
  rw [rounds_succ]
  cases e0 : (x0 == 0)
  · go_wp2_with fail
    refine (byteOf_any _ _).mono ?_
    rintro e w' ⟨rfl, rfl⟩
    have hle0 := B2.size
    go_wp2_with (at_builtin; refine wpList_append_own _ rfl (.tmp 26) (.tmp 29) 22 rfl w.heap.size 5 i0 _ 1 1 Try.underlying22 hi hz0 hz1 hz2 rfl (by decide) _ _ _ rfl (World.ownsRow.alloc O0.out _) ⟨_, 0, none⟩ 1 1 [.int .u8 ((byteOf x0).toNat : Nat)] rfl rfl (newsB _ _ _) (oneB _) (by simp only [maxLen, List.length_nil]; omega) (by simp) (by simp; omega) ?_)
    intro v3 w3 hown hg _
    have B3 := (B2.alloc hle0 (.cells #[.int .u8 ((byteOf x0).toNat : Nat)] 5)).grown hg (by simp; omega) (fun q hq => (World.ownsRow.lt O0.out q hq).1)
    have O3 : Hid (OwnsB w3 w.heap.size v3 [byteOf x0]) := Lib.hid hown
    clear hown hg
    go_wp2
    rw [rounds_succ]
    cases e1 : (x1 == 0)
    · go_wp2_with fail
      refine (byteOf_any _ _).mono ?_
      rintro e w' ⟨rfl, rfl⟩
      have hle1 := B3.size
      go_wp2_with (at_builtin; refine wpList_append_own _ rfl (.tmp 26) (.tmp 29) 22 rfl w.heap.size 5 i0 _ 1 1 Try.underlying22 hi hz0 hz1 hz2 rfl (by decide) _ _ _ rfl (World.ownsRow.alloc O3.out _) ⟨_, 0, none⟩ 1 1 [.int .u8 ((byteOf x1).toNat : Nat)] rfl rfl (newsB _ _ _) (oneB _) (by simp only [maxLen, List.length_nil, List.length_cons]; omega) (by simp) (by simp; omega) ?_)
      intro v4 w4 hown hg _
      have B4 := (B3.alloc hle1 (.cells #[.int .u8 ((byteOf x1).toNat : Nat)] 5)).grown hg (by simp; omega) (fun q hq => (World.ownsRow.lt O3.out q hq).1)
      have O4 : Hid (OwnsB w4 w.heap.size v4 [byteOf x0, byteOf x1]) := Lib.hid hown
      clear hown hg
      go_wp2
      rw [rounds_succ]
      cases e2 : (x2 == 0)
      · go_wp2_with fail
        refine (byteOf_any _ _).mono ?_
        rintro e w' ⟨rfl, rfl⟩
        have hle2 := B4.size
        go_wp2_with (at_builtin; refine wpList_append_own _ rfl (.tmp 26) (.tmp 29) 22 rfl w.heap.size 5 i0 _ 1 1 Try.underlying22 hi hz0 hz1 hz2 rfl (by decide) _ _ _ rfl (World.ownsRow.alloc O4.out _) ⟨_, 0, none⟩ 1 1 [.int .u8 ((byteOf x2).toNat : Nat)] rfl rfl (newsB _ _ _) (oneB _) (by simp only [maxLen, List.length_nil, List.length_cons]; omega) (by simp) (by simp; omega) ?_)
        intro v5 w5 hown hg _
        have B5 := (B4.alloc hle2 (.cells #[.int .u8 ((byteOf x2).toNat : Nat)] 5)).grown hg (by simp; omega) (fun q hq => (World.ownsRow.lt O4.out q hq).1)
        have O5 : Hid (OwnsB w5 w.heap.size v5 [byteOf x0, byteOf x1, byteOf x2]) := Lib.hid hown
        clear hown hg
        go_wp2
        rw [rounds_succ]
        cases e3 : (x3 == 0)
        · go_wp2_with fail
          refine (byteOf_any _ _).mono ?_
          rintro e w' ⟨rfl, rfl⟩
          have hle3 := B5.size
          go_wp2_with (at_builtin; refine wpList_append_own _ rfl (.tmp 26) (.tmp 29) 22 rfl w.heap.size 5 i0 _ 1 1 Try.underlying22 hi hz0 hz1 hz2 rfl (by decide) _ _ _ rfl (World.ownsRow.alloc O5.out _) ⟨_, 0, none⟩ 1 1 [.int .u8 ((byteOf x3).toNat : Nat)] rfl rfl (newsB _ _ _) (oneB _) (by simp only [maxLen, List.length_nil, List.length_cons]; omega) (by simp) (by simp; omega) ?_)
          intro v6 w6 hown hg _
          have B6 := (B5.alloc hle3 (.cells #[.int .u8 ((byteOf x3).toNat : Nat)] 5)).grown hg (by simp; omega) (fun q hq => (World.ownsRow.lt O5.out q hq).1)
          have O6 : Hid (OwnsB w6 w.heap.size v6 [byteOf x0, byteOf x1, byteOf x2, byteOf x3]) := Lib.hid hown
          clear hown hg
          go_wp2
          have HT : Hid (cirT (x0, x1, x2, x3) = [byteOf x0, byteOf x1, byteOf x2, byteOf x3]) := Lib.hid (by
            have n0 : x0 ≠ 0 := by simpa using e0
            have n1 : x1 ≠ 0 := by simpa using e1
            have n2 : x2 ≠ 0 := by simpa using e2
            have n3 : x3 ≠ 0 := by simpa using e3
            unfold cirT; rw [if_neg (by simp [n0, n1, n2, n3])])
          have hcv := convB O6.out (by simp)
          rw [rounds_succ]
          go_wp2
          go_ret
          exact ⟨by rw [HT.out]; rfl, B6⟩
        · have HT : Hid (cirT (x0, x1, x2, x3) = []) := Lib.hid (by unfold cirT; rw [if_pos (Or.inr (Or.inr (Or.inr (by simpa using e3))))])
          go_wp2
          go_ret
          exact ⟨by rw [HT.out]; rfl, B5⟩
      · have HT : Hid (cirT (x0, x1, x2, x3) = []) := Lib.hid (by unfold cirT; rw [if_pos (Or.inr (Or.inr (Or.inl (by simpa using e2))))])
        go_wp2
        go_ret
        exact ⟨by rw [HT.out]; rfl, B4⟩
    · have HT : Hid (cirT (x0, x1, x2, x3) = []) := Lib.hid (by unfold cirT; rw [if_pos (Or.inr (Or.inl (by simpa using e1)))])
      go_wp2
      go_ret
      exact ⟨by rw [HT.out]; rfl, B3⟩
  · have HT : Hid (cirT (x0, x1, x2, x3) = []) := Lib.hid (by unfold cirT; rw [if_pos (Or.inl (by simpa using e0))])
    go_wp2
    go_ret
    exact ⟨by rw [HT.out]; rfl, B2⟩
end Go.Proofs.Ytlhkgabglddlhaa.Sg
