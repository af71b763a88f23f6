/- spec.Join by the library's plain 'join'. -/
import Derived.Test.YticekiniljemeaaDoorStrs
import Derived.Test.YticekiniljemeaaDoorJoinMath
import Derived.Lib.AppendStr
import Derived.Lib.Join
import Derived.Laws.OwnMore
import Derived.Laws.IdiomStrings
namespace Go.Proofs.YticekiniljemeaaDoor.Join
open Go.RowKit Strs
theorem info5 : (Tryd.prog.info? 5).map (fun i => (i.zero, i.size, i.bytes)) = some (some (.int .u8 0), 1, 1) := by kernel_rfl

theorem conv_own (w : World) (v : Value) (B : Nat) (l : List UInt8) (h : w.ownsRow B 5 1 v l.length (cs l)) : (convert 50 9 v).run Tryd.prog w = .ok (.string ⟨l.toArray⟩) w := by
  obtain ⟨hl, ⟨rfl, h0⟩ | ⟨g, cap, cur, hv, hB, hh, hr⟩⟩ := id h
  · obtain rfl : l = [] := List.eq_nil_of_length_eq_zero h0
    show (convert 50 9 (.slice none 0 0)).run Tryd.prog w = _
    rw [run_convert_bytes_string w 50 9 5 none 0 0 Tryd.underlying50 Tryd.underlying5 Tryd.underlying9]
    simp [Conv.bytesToString]
    rfl
  · subst hv
    have hc := h.cells (g := g) rfl
    exact run_convert_bytes_back (P := Tryd.prog) w 50 9 5 ⟨g, 0, none⟩ cap l Tryd.underlying50 Tryd.underlying5 Tryd.underlying9 (fun j hj => hc j _ (by simp [cs, hj]))

set_option maxHeartbeats 400000 in
set_option maxRecDepth 100000 in
theorem spec_any (b o c : Nat) (xs : List ByteArray) (sep : ByteArray) (hx : xs.length ≤ 1048576) (hs : sep.size ≤ 1048576) (ht : tot xs ≤ 1048576) (w : World) (hc : At w b o xs) (hbw : b < w.heap.size) :
    Calls Tryd.prog 16 #[.slice (some ⟨b, o, none⟩) xs.length c, .string sep] w fun e w' => e = .returned (.string ⟨(J xs sep xs.length).toArray⟩) ∧ Below w.heap.size w w' := by
  obtain ⟨i0, hi, hz0, hz1, hz2⟩ := info_parts info5
  have HJ0 : Hid (J xs sep 0 = []) := Lib.hid rfl
  have HL : Hid (∀ k, (J xs sep k).length ≤ 1099512676352) := Lib.hid (fun k => by
    have h1 := J_length xs sep k
    have h2 := Nat.mul_le_mul hs hx
    omega)
  have hown0 : (w.alloc (.cells #[] 5)).ownsRow w.heap.size 5 1 (.slice (some ⟨w.heap.size, 0, none⟩) 0 0) 0 [] := World.ownsRow_made w #[] 0 (Nat.le_refl _) (by decide) rfl
  have HO := Lib.hid hown0
  have HB0 := Lib.hid ((Below.refl w.heap.size w).alloc (Nat.le_refl _) (.cells #[] 5))
  clear hown0
  go_enter Tryd.func16, Tryd.ntmps16
  go_wp2
  go_loopw [5, 6] (fun vv i wr => ∃ (k : Nat) (v : Value), k ≤ xs.length ∧ i = .int .i64 k ∧ vv = v ∧ wr.ownsRow w.heap.size 5 1 v (J xs sep k).length (cs (J xs sep k)) ∧ Below w.heap.size w wr) (fun _ i _ => xs.length - (intOf i).toNat)
  case atStart => exact ⟨0, _, Nat.zero_le _, rfl, rfl, by rw [HJ0.out]; exact HO.out, HB0.out⟩
  case round =>
    obtain ⟨k, v, hk, rfl, rfl, hown, hb⟩ := hrel
    by_cases hlt : k < xs.length
    · have hcell := (hc.on hb hbw).get k hlt
      have hB := hb.size
      have hL0 := HL.out k
      have hL1 := HL.out (k + 1)
      by_cases hk0 : k ≤ 0
      · have H1 : Hid (J xs sep (k + 1) = J xs sep k ++ xs[k].data.toList) := Lib.hid (by
          obtain rfl : k = 0 := by omega
          rw [J_one xs sep hlt, HJ0.out]; rfl)
        have hz : xs[k].size ≤ 1099512676352 := by rw [H1.out] at hL1; simp at hL1; omega
        have hcs : Hid (cs (J xs sep k) ++ Lib.strCells xs[k] = cs (J xs sep (k + 1))) := Lib.hid (by rw [H1.out, cs_append, cs_str])
        have hln : Hid ((J xs sep k).length + xs[k].size = (J xs sep (k + 1)).length) := Lib.hid (by rw [H1.out]; simp)
        go_wp2_with (at_builtin; refine Lib.wpList_append_own_string _ rfl (.tmp 19) (.tmp 23) 50 9 rfl w.heap.size 5 i0 Tryd.underlying50 Tryd.underlying9 hi hz0 hz1 hz2 _ _ _ rfl hown xs[k] rfl ?_ ?_ (hb.size) ?_)
        · unfold maxLen; omega
        · omega
        intro v1 w1 hown1 hg1 _
        rw [hcs.out, hln.out] at hown1
        have hb1 := hb.grown hg1 hb.size (fun q hq => (hown.lt q hq).1)
        have HO1 := Lib.hid hown1
        clear hown1 hown
        go_wp2
        exact ⟨⟨k + 1, _, by omega, by go_num, rfl, HO1.out, hb1⟩, by simp only [intOf]; omega⟩
      · have hk1 : 0 < k := by omega
        have H1 : Hid (J xs sep (k + 1) = J xs sep k ++ sep.data.toList ++ xs[k].data.toList) := Lib.hid (by
          obtain ⟨m, rfl⟩ : ∃ m, k = m + 1 := ⟨k - 1, by omega⟩
          exact J_step xs sep m hlt)
        have hz : (J xs sep k).length + sep.size + xs[k].size ≤ 1099512676352 := by rw [H1.out] at hL1; simp at hL1; omega
        have hcs : Hid (cs (J xs sep k) ++ (Lib.strCells sep ++ Lib.strCells xs[k]) = cs (J xs sep (k + 1))) := Lib.hid (by rw [H1.out, cs_append, cs_append, cs_str, cs_str, List.append_assoc])
        have hln : Hid ((J xs sep k).length + sep.size + xs[k].size = (J xs sep (k + 1)).length) := Lib.hid (by rw [H1.out]; simp [Nat.add_assoc])
        go_wp2_with (at_builtin; refine Lib.wpList_append_own_string _ rfl (.tmp 16) (.tmp 17) 50 9 rfl w.heap.size 5 i0 Tryd.underlying50 Tryd.underlying9 hi hz0 hz1 hz2 _ _ _ rfl hown sep rfl ?_ ?_ (hb.size) ?_)
        · unfold maxLen; omega
        · omega
        intro v1 w1 hown1 hg1 _
        have hb1 := hb.grown hg1 hb.size (fun q hq => (hown.lt q hq).1)
        have hcell1 := (hc.on hb1 hbw).get k hlt
        have HO1 := Lib.hid hown1
        clear hown1 hown
        go_wp2_with (at_builtin; refine Lib.wpList_append_own_string _ rfl (.tmp 19) (.tmp 23) 50 9 rfl w.heap.size 5 i0 Tryd.underlying50 Tryd.underlying9 hi hz0 hz1 hz2 _ _ _ rfl HO1.out xs[k] rfl ?_ ?_ (hb1.size) ?_)
        · unfold maxLen; omega
        · omega
        intro v2 w2 hown2 hg2 _
        rw [hcs.out, hln.out] at hown2
        have hb2 := hb1.grown hg2 hb1.size (fun q hq => (HO1.out.lt q hq).1)
        have HO2 := Lib.hid hown2
        clear hown2
        go_wp2
        exact ⟨⟨k + 1, _, by omega, by go_num, rfl, HO2.out, hb2⟩, by simp only [intOf]; omega⟩
    · obtain rfl : k = xs.length := by omega
      have hconv := conv_own wr _ _ _ hown
      have HO := Lib.hid hown
      clear hown
      go_wp2
      go_ret
      exact ⟨rfl, hb⟩
set_option maxRecDepth 100000 in
theorem spec_none (a : Option Addr) (c : Nat) (sep : ByteArray) (w : World) :
    Calls Tryd.prog 16 #[.slice a 0 c, .string sep] w fun e w' => e = .returned (.string ⟨#[]⟩) ∧ Below w.heap.size w w' := by
  have hown0 : (w.alloc (.cells #[] 5)).ownsRow w.heap.size 5 1 (.slice (some ⟨w.heap.size, 0, none⟩) 0 0) 0 [] := World.ownsRow_made w #[] 0 (Nat.le_refl _) (by decide) rfl
  have hconv := conv_own _ _ _ [] hown0
  have HB0 := Lib.hid ((Below.refl w.heap.size w).alloc (Nat.le_refl _) (.cells #[] 5))
  clear hown0
  go_enter Tryd.func16, Tryd.ntmps16
  go_wp2
  refine wp_loop_rounds 1 ?_
  rw [rounds_succ]
  go_wp2
  go_ret
  exact ⟨rfl, HB0.out⟩
end Go.Proofs.YticekiniljemeaaDoor.Join
