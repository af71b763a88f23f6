/- spec.Join by the library's plain 'join'. -/
import Derived.Test.YtillgegbkfhpnaaStrs
import Derived.Lib.AppendStr
import Derived.Lib.Join
import Derived.Laws.OwnMore
import Derived.Laws.IdiomStrings
namespace Go.Proofs.Ytillgegbkfhpnaa.Join
open Go.RowKit Strs
def dat (xs : List ByteArray) : List (List UInt8) := xs.map (·.data.toList)
/-- What is joined of the first k. -/
def J (xs : List ByteArray) (sep : ByteArray) (k : Nat) : List UInt8 := Lib.join (dat (xs.take k)) sep.data.toList
def cs (l : List UInt8) : List Value := l.map fun b => Value.int .u8 b.toNat
theorem cs_append (a b : List UInt8) : cs (a ++ b) = cs a ++ cs b := by simp [cs]
theorem cs_str (s : ByteArray) : Lib.strCells s = cs s.data.toList := rfl
theorem J_one (xs : List ByteArray) (sep : ByteArray) (h : 0 < xs.length) : J xs sep 1 = xs[0].data.toList := by
  cases xs with
  | nil => simp at h
  | cons x r => simp [J, dat, Lib.join_one]
theorem J_step (xs : List ByteArray) (sep : ByteArray) (k : Nat) (hk : k + 1 < xs.length) : J xs sep (k + 2) = J xs sep (k + 1) ++ sep.data.toList ++ xs[k + 1].data.toList := by
  cases xs with
  | nil => simp at hk
  | cons x r =>
    have hk' : k < r.length := by simpa using hk
    simp only [J, dat, List.take_succ_cons, List.map_cons, Lib.join_cons, List.getElem_cons_succ]
    rw [List.map_take, List.map_take, Lib.joinTail_take_succ _ _ k r[k].data.toList (by simp [hk'])]
    simp [List.append_assoc]
theorem lens_dat (xs : List ByteArray) : Lib.lens (dat xs) = tot xs := by
  induction xs with
  | nil => rfl
  | cons x r ih => simp only [dat, List.map_cons, Lib.lens, tot, List.sum_cons] at ih ⊢; simp at ih ⊢; omega
theorem tot_take (xs : List ByteArray) : ∀ k, tot (xs.take k) ≤ tot xs := by
  induction xs with
  | nil => intro k; simp
  | cons x r ih =>
    intro k
    cases k with
    | zero => simp [tot]
    | succ k => have := ih k; simp only [tot, List.take_succ_cons, List.map_cons, List.sum_cons] at this ⊢; omega
theorem J_length (xs : List ByteArray) (sep : ByteArray) (k : Nat) : (J xs sep k).length ≤ sep.size * xs.length + tot xs := by
  unfold J
  have ht := tot_take xs k
  cases h : xs.take k with
  | nil => simp [dat, Lib.join_nil]
  | cons x r =>
    rw [h] at ht
    have e : dat (x :: r) = x.data.toList :: dat r := rfl
    rw [e, Lib.join_length, ← e, lens_dat]
    have hl : r.length + 1 ≤ xs.length := by
      have := congrArg List.length h
      simp at this
      omega
    have h1 : (dat r).length ≤ xs.length := by simp [dat]; omega
    have h2 := Nat.mul_le_mul_left sep.data.toList.length h1
    have h3 : sep.data.toList.length = sep.size := by simp
    rw [h3] at h2 ⊢
    omega
theorem info5 : (Try.prog.info? 5).map (fun i => (i.zero, i.size, i.bytes)) = some (some (.int .u8 0), 1, 1) := by kernel_rfl

theorem conv_own (w : World) (v : Value) (B : Nat) (l : List UInt8) (h : w.ownsRow B 5 1 v l.length (cs l)) : (convert 28 9 v).run Try.prog w = .ok (.string ⟨l.toArray⟩) w := by
  obtain ⟨hl, ⟨rfl, h0⟩ | ⟨g, cap, cur, hv, hB, hh, hr⟩⟩ := id h
  · obtain rfl : l = [] := List.eq_nil_of_length_eq_zero h0
    show (convert 28 9 (.slice none 0 0)).run Try.prog w = _
    rw [run_convert_bytes_string w 28 9 5 none 0 0 Try.underlying28 Try.underlying5 Try.underlying9]
    simp [Conv.bytesToString]
    rfl
  · subst hv
    have hc := h.cells (g := g) rfl
    exact run_convert_bytes_back (P := Try.prog) w 28 9 5 ⟨g, 0, none⟩ cap l Try.underlying28 Try.underlying5 Try.underlying9 (fun j hj => hc j _ (by simp [cs, hj]))

set_option maxHeartbeats 400000 in
set_option maxRecDepth 100000 in
theorem spec_any (b o c : Nat) (xs : List ByteArray) (sep : ByteArray) (hx : xs.length ≤ 1048576) (hs : sep.size ≤ 1048576) (ht : tot xs ≤ 1048576) (w : World) (hc : At w b o xs) (hbw : b < w.heap.size) :
    Calls Try.prog 5 #[.slice (some ⟨b, o, none⟩) xs.length c, .string sep] w fun e w' => e = .returned (.string ⟨(J xs sep xs.length).toArray⟩) ∧ Below w.heap.size w w' := by
  obtain ⟨i0, hi, hz0, hz1, hz2⟩ := info_parts info5
  have HJ0 : Hid (J xs sep 0 = []) := Lib.hid rfl
  have HL : Hid (∀ k, (J xs sep k).length ≤ 1099512676352) := Lib.hid (fun k => by
    have h1 := J_length xs sep k
    have h2 := Nat.mul_le_mul hs hx
    omega)
  have hown0 : (w.alloc (.cells #[] 5)).ownsRow w.heap.size 5 1 (.slice (some ⟨w.heap.size, 0, none⟩) 0 0) 0 [] := World.ownsRow_made w #[] 0 (Nat.le_refl _) (by decide) rfl
  have HO := Lib.hid hown0
  have HB0 := Lib.hid ((Below.refl w.heap.size w).alloc (Nat.le_refl _) (.cells #[] 5))
  clear hown0
  go_enter Try.func5, Try.ntmps5
  go_wp2
  go_loopw [5, 6] (fun vv i wr => ∃ (k : Nat) (v : Value), k ≤ xs.length ∧ i = .int .i64 k ∧ vv = v ∧ wr.ownsRow w.heap.size 5 1 v (J xs sep k).length (cs (J xs sep k)) ∧ Below w.heap.size w wr) (fun _ i _ => xs.length - (intOf i).toNat)
  case atStart => exact ⟨0, _, Nat.zero_le _, rfl, rfl, by rw [HJ0.out]; exact HO.out, HB0.out⟩
  case round =>
    obtain ⟨k, v, hk, rfl, rfl, hown, hb⟩ := hrel
    by_cases hlt : k < xs.length
    · have hcell := (hc.on hb hbw).get k hlt
      have hB := hb.size
      have hL0 := HL.out k
      have hL1 := HL.out (k + 1)
      by_cases hk0 : k ≤ 0
      · have H1 : Hid (J xs sep (k + 1) = J xs sep k ++ xs[k].data.toList) := Lib.hid (by
          obtain rfl : k = 0 := by omega
          rw [J_one xs sep hlt, HJ0.out]; rfl)
        have hz : xs[k].size ≤ 1099512676352 := by rw [H1.out] at hL1; simp at hL1; omega
        have hcs : Hid (cs (J xs sep k) ++ Lib.strCells xs[k] = cs (J xs sep (k + 1))) := Lib.hid (by rw [H1.out, cs_append, cs_str])
        have hln : Hid ((J xs sep k).length + xs[k].size = (J xs sep (k + 1)).length) := Lib.hid (by rw [H1.out]; simp)
        go_wp2_with (at_builtin; refine Lib.wpList_append_own_string _ rfl (.tmp 19) (.tmp 23) 28 9 rfl w.heap.size 5 i0 Try.underlying28 Try.underlying9 hi hz0 hz1 hz2 _ _ _ rfl hown xs[k] rfl ?_ ?_ (hb.size) ?_)
        · unfold maxLen; omega
        · omega
        intro v1 w1 hown1 hg1 _
        rw [hcs.out, hln.out] at hown1
        have hb1 := hb.grown hg1 hb.size (fun q hq => (hown.lt q hq).1)
        have HO1 := Lib.hid hown1
        clear hown1 hown
        go_wp2
        exact ⟨⟨k + 1, _, by omega, by go_num, rfl, HO1.out, hb1⟩, by simp only [intOf]; omega⟩
      · have hk1 : 0 < k := by omega
        have H1 : Hid (J xs sep (k + 1) = J xs sep k ++ sep.data.toList ++ xs[k].data.toList) := Lib.hid (by
          obtain ⟨m, rfl⟩ : ∃ m, k = m + 1 := ⟨k - 1, by omega⟩
          exact J_step xs sep m hlt)
        have hz : (J xs sep k).length + sep.size + xs[k].size ≤ 1099512676352 := by rw [H1.out] at hL1; simp at hL1; omega
        have hcs : Hid (cs (J xs sep k) ++ (Lib.strCells sep ++ Lib.strCells xs[k]) = cs (J xs sep (k + 1))) := Lib.hid (by rw [H1.out, cs_append, cs_append, cs_str, cs_str, List.append_assoc])
        have hln : Hid ((J xs sep k).length + sep.size + xs[k].size = (J xs sep (k + 1)).length) := Lib.hid (by rw [H1.out]; simp [Nat.add_assoc])
        go_wp2_with (at_builtin; refine Lib.wpList_append_own_string _ rfl (.tmp 16) (.tmp 17) 28 9 rfl w.heap.size 5 i0 Try.underlying28 Try.underlying9 hi hz0 hz1 hz2 _ _ _ rfl hown sep rfl ?_ ?_ (hb.size) ?_)
        · unfold maxLen; omega
        · omega
        intro v1 w1 hown1 hg1 _
        have hb1 := hb.grown hg1 hb.size (fun q hq => (hown.lt q hq).1)
        have hcell1 := (hc.on hb1 hbw).get k hlt
        have HO1 := Lib.hid hown1
        clear hown1 hown
        go_wp2_with (at_builtin; refine Lib.wpList_append_own_string _ rfl (.tmp 19) (.tmp 23) 28 9 rfl w.heap.size 5 i0 Try.underlying28 Try.underlying9 hi hz0 hz1 hz2 _ _ _ rfl HO1.out xs[k] rfl ?_ ?_ (hb1.size) ?_)
        · unfold maxLen; omega
        · omega
        intro v2 w2 hown2 hg2 _
        rw [hcs.out, hln.out] at hown2
        have hb2 := hb1.grown hg2 hb1.size (fun q hq => (HO1.out.lt q hq).1)
        have HO2 := Lib.hid hown2
        clear hown2
        go_wp2
        exact ⟨⟨k + 1, _, by omega, by go_num, rfl, HO2.out, hb2⟩, by simp only [intOf]; omega⟩
    · obtain rfl : k = xs.length := by omega
      have hconv := conv_own wr _ _ _ hown
      have HO := Lib.hid hown
      clear hown
      go_wp2
      go_ret
      exact ⟨rfl, hb⟩
set_option maxRecDepth 100000 in
theorem spec_none (a : Option Addr) (c : Nat) (sep : ByteArray) (w : World) :
    Calls Try.prog 5 #[.slice a 0 c, .string sep] w fun e w' => e = .returned (.string ⟨#[]⟩) ∧ Below w.heap.size w w' := by
  have hown0 : (w.alloc (.cells #[] 5)).ownsRow w.heap.size 5 1 (.slice (some ⟨w.heap.size, 0, none⟩) 0 0) 0 [] := World.ownsRow_made w #[] 0 (Nat.le_refl _) (by decide) rfl
  have hconv := conv_own _ _ _ [] hown0
  have HB0 := Lib.hid ((Below.refl w.heap.size w).alloc (Nat.le_refl _) (.cells #[] 5))
  clear hown0
  go_enter Try.func5, Try.ntmps5
  go_wp2
  refine wp_loop_rounds 1 ?_
  rw [rounds_succ]
  go_wp2
  go_ret
  exact ⟨rfl, HB0.out⟩
end Go.Proofs.Ytillgegbkfhpnaa.Join
