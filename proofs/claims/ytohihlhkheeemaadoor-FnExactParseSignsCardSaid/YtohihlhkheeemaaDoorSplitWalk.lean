/- The walks of spec.SplitByte and impl.SplitByte. -/
import Derived.Test.YtohihlhkheeemaaDoorSplit
import Derived.Test.YtohihlhkheeemaaDoorShelf
namespace Go.Proofs.YtohihlhkheeemaaDoor.Split
open Go.RowKit Strs

/-- A value that owns just these strings. -/
def Owns (w : World) (B : Nat) (v : Value) (xs : List ByteArray) : Prop := w.ownsRow B 9 1 v xs.length (xs.map Value.string)
theorem info9 : (Tryd.prog.info? 9).map (fun i => (i.zero, i.size, i.bytes)) = some (some (.string ⟨#[]⟩), 1, 16) := by kernel_rfl
theorem owns_row {w : World} {B : Nat} {v : Value} {xs : List ByteArray} (h : Owns w B v xs) (h0 : 0 < xs.length) : ∃ b c, v = .slice (some ⟨b, 0, none⟩) xs.length c ∧ B ≤ b ∧ b < w.heap.size ∧ At w b 0 xs := by
  have hlt := h.lt
  obtain ⟨hl, ⟨rfl, h1⟩ | ⟨g, cap, cur, hv, hB, hh, hr⟩⟩ := id h
  · omega
  · subst hv
    have hc := h.cells (g := g) rfl
    refine ⟨g, cap, rfl, hB, (hlt g rfl).2, fun j x hx => ?_⟩
    have := hc j (.string x) (by rw [List.getElem?_map, hx]; rfl)
    rwa [WideShapes.add_plain] at this

set_option maxHeartbeats 400000 in
set_option maxRecDepth 100000 in
theorem spec_any (s : ByteArray) (c : UInt8) (hs : s.size ≤ 1048576) (w : World) :
    Calls Tryd.prog 16 #[.string s, .int .u8 c.toNat] w fun e w' => ∃ v, e = .returned v ∧ Owns w' w.heap.size v (pieces c s.data.toList) ∧ Below w.heap.size w w' := by
  obtain ⟨i0, hi, hz0, hz1, hz2⟩ := info_parts info9
  have hown0 : Owns (w.alloc (.cells #[] 9)) w.heap.size (.slice (some ⟨w.heap.size, 0, none⟩) 0 0) [] := World.ownsRow_made w #[] 0 (Nat.le_refl _) (by decide) rfl
  have HO := Lib.hid hown0
  have HB0 := Lib.hid ((Below.refl w.heap.size w).alloc (Nat.le_refl _) (.cells #[] 9))
  clear hown0
  have hsl : s.data.toList.length = s.size := by simp
  have HSL := Lib.hid hsl
  clear hsl
  go_enter Tryd.func16, Tryd.ntmps16
  go_wp2
  go_loopw [5, 6, 7] (fun vv fv i wr => ∃ (k f : Nat) (v : Value) (done : List ByteArray), k ≤ s.size + 1 ∧ i = .int .i64 k ∧ fv = .int .i64 f ∧ vv = v ∧ Hid (Inv c s f k done) ∧ Owns wr w.heap.size v done ∧ Below w.heap.size w wr) (fun _ _ i _ => s.size + 1 - (intOf i).toNat)
  case atStart => exact ⟨0, 0, _, [], Nat.zero_le _, rfl, rfl, rfl, Lib.hid (inv_start c s), HO.out, HB0.out⟩
  case round =>
    obtain ⟨k, f, v, done, hk, rfl, rfl, rfl, hinv, hown, hb⟩ := hrel
    obtain ⟨hfk, hdl⟩ := inv_le hinv.out
    by_cases hlt : k < s.size
    · by_cases hc : s[k] = c
      · have HI := Lib.hid (inv_hit c s f k done hinv.out hlt hc)
        have ht : ((s[k].toNat : Int) == (c.toNat : Int)) = true := by rw [hc]; simp
        have ht2 : ((k : Int) == (s.size : Int)) = false := by rw [beq_eq_false_iff_ne]; omega
        clear hc
        go_wp2_with (at_builtin; refine wpList_append_own _ rfl (.tmp 26) (.tmp 31) 35 rfl w.heap.size 9 i0 (.string ⟨#[]⟩) 1 16 Tryd.underlying35 hi hz0 hz1 hz2 rfl (by decide) _ _ _ rfl (World.ownsRow.alloc hown _) ⟨wr.heap.size, 0, none⟩ 1 1 [.string (s.extract f k)] rfl rfl ?_ ?_ ?_ ?_ ?_ ?_)
        · intro j u hj
          have hj0 : j = 0 := by
            have := (List.getElem?_eq_some_iff.1 hj).1
            simpa using this
          subst hj0
          simp only [List.getElem?_cons_zero, Option.some.injEq] at hj
          subst hj
          rw [WideShapes.add_plain, Nat.add_zero, World.cell?_alloc_new]
          rfl
        · intro u hu
          simp only [List.mem_singleton] at hu
          subst hu
          rfl
        · unfold maxLen; omega
        · omega
        · have := hb.size; simp; omega
        intro v1 w1 hown1 hg1 _
        have hb1 := ((hb.alloc hb.size (.cells #[.string (s.extract f k)] 9)).grown hg1 (by have := hb.size; simp; omega) (fun q hq => (hown.lt q hq).1))
        have hown1' : Owns w1 w.heap.size v1 (done ++ [s.extract f k]) := by unfold Owns; rw [List.length_append, List.map_append]; exact hown1
        have HO := Lib.hid hown1'
        clear hown1 hown1' hown
        go_wp2
        exact ⟨⟨k + 1, k + 1, _, done ++ [s.extract f k], by omega, by go_num, by go_num, rfl, HI, HO.out, hb1⟩, by simp only [intOf]; omega⟩
      · have HI := Lib.hid (inv_go c s f k done hinv.out hlt hc)
        have ht : ((s[k].toNat : Int) == (c.toNat : Int)) = false := by
          rw [beq_eq_false_iff_ne]
          intro e
          exact hc (UInt8.toNat_inj.1 (by omega))
        have ht2 : ((k : Int) == (s.size : Int)) = false := by rw [beq_eq_false_iff_ne]; omega
        clear hc
        have HO := Lib.hid hown
        clear hown
        go_wp2
        exact ⟨⟨k + 1, f, _, done, by omega, by go_num, rfl, rfl, HI, HO.out, hb⟩, by simp only [intOf]; omega⟩
    · by_cases hk1 : k = s.size
      · subst hk1
        have HI := Lib.hid (inv_end c s f done hinv.out)
        have ht2 : ((s.size : Int) == (s.size : Int)) = true := by simp
        go_wp2_with (at_builtin; refine wpList_append_own _ rfl (.tmp 26) (.tmp 31) 35 rfl w.heap.size 9 i0 (.string ⟨#[]⟩) 1 16 Tryd.underlying35 hi hz0 hz1 hz2 rfl (by decide) _ _ _ rfl (World.ownsRow.alloc hown _) ⟨wr.heap.size, 0, none⟩ 1 1 [.string (s.extract f s.size)] rfl rfl ?_ ?_ ?_ ?_ ?_ ?_)
        · intro j u hj
          have hj0 : j = 0 := by
            have := (List.getElem?_eq_some_iff.1 hj).1
            simpa using this
          subst hj0
          simp only [List.getElem?_cons_zero, Option.some.injEq] at hj
          subst hj
          rw [WideShapes.add_plain, Nat.add_zero, World.cell?_alloc_new]
          rfl
        · intro u hu
          simp only [List.mem_singleton] at hu
          subst hu
          rfl
        · unfold maxLen; omega
        · omega
        · have := hb.size; simp; omega
        intro v1 w1 hown1 hg1 _
        have hb1 := ((hb.alloc hb.size (.cells #[.string (s.extract f s.size)] 9)).grown hg1 (by have := hb.size; simp; omega) (fun q hq => (hown.lt q hq).1))
        have hown1' : Owns w1 w.heap.size v1 (done ++ [s.extract f s.size]) := by unfold Owns; rw [List.length_append, List.map_append]; exact hown1
        have HO := Lib.hid hown1'
        clear hown1 hown1' hown
        go_wp2
        exact ⟨⟨s.size + 1, s.size + 1, _, done ++ [s.extract f s.size], by omega, by go_num, by go_num, rfl, HI, HO.out, hb1⟩, by simp only [intOf]; omega⟩
      · have hk2 : k = s.size + 1 := by omega
        have HI : Hid (pieces c s.data.toList = done) := by
          rcases hinv.out with ⟨h0, _, _⟩ | ⟨_, _, h⟩
          · omega
          · exact Lib.hid h
        have hk3 : s.size < k := by omega
        clear hk1 hk2
        have HO := Lib.hid hown
        clear hown
        go_wp2
        go_ret
        exact ⟨_, rfl, by rw [HI.out]; exact HO.out, hb⟩

end Go.Proofs.YtohihlhkheeemaaDoor.Split
