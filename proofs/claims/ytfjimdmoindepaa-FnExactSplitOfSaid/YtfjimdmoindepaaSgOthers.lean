/- The elements other than one, in memory of the call's own (spec.l3Others); what a function that hands back signs and a bool keeps in sight. -/
import Derived.Test.YtfjimdmoindepaaSgElem
namespace Go.Proofs.Ytfjimdmoindepaa.Sg
open Go.RowKit Pt
/-- A value that owns just these small numbers. -/
def OwnsI (w : World) (B : Nat) (v : Value) (xs : List Nat) : Prop := w.ownsRow B 3 1 v xs.length (xs.map fun (x : Nat) => Value.int .i64 (x : Int))
theorem ownsI_row {w : World} {B : Nat} {v : Value} {xs : List Nat} (h : OwnsI w B v xs) (h0 : 0 < xs.length) : ∃ b c, v = .slice (some ⟨b, 0, none⟩) xs.length c ∧ B ≤ b ∧ b < w.heap.size ∧ IntsAt w b xs := by
  have hlt := World.ownsRow.lt h
  obtain ⟨hl, ⟨rfl, h1⟩ | ⟨g, cap, cur, hv, hB, hh, hr⟩⟩ := id h
  · omega
  · subst hv
    have hc := World.ownsRow.cells h (g := g) rfl
    refine ⟨g, cap, rfl, hB, (hlt g rfl).2, fun j x hx => ?_⟩
    have := hc j (.int .i64 x) (by rw [List.getElem?_map, hx]; rfl)
    rwa [WideShapes.add_plain, Nat.zero_add] at this
theorem ownsI_snoc {w : World} {B : Nat} {v : Value} {xs : List Nat} {x : Nat} (h : w.ownsRow B 3 1 v (xs.length + 1) ((xs.map fun (x : Nat) => Value.int .i64 (x : Int)) ++ [.int .i64 x])) : OwnsI w B v (xs ++ [x]) := by
  unfold OwnsI
  rw [List.map_append, List.length_append]
  exact h
set_option maxRecDepth 100000 in
theorem infoI : (Try.prog.info? 3).map (fun i => (i.zero, i.size, i.bytes)) = some (some (.int .i64 0), 1, 8) := by kernel_rfl
theorem news1 (w : World) (x : Int) (t : TypeId) : ∀ (j : Nat) u, [Value.int .i64 x][j]? = some u → (w.alloc (.cells #[.int .i64 x] t)).cell? (Addr.add ⟨w.heap.size, 0, none⟩ j) = some u
  | 0, u, h => by
    rw [WideShapes.add_plain, Nat.add_zero, World.cell?_alloc_new]
    simpa using h
  | j + 1, u, h => by simp at h
theorem one1 (x : Int) : ∀ u ∈ [Value.int .i64 x], u.oneCell' = true := fun u hu => by
  simp only [List.mem_cons, List.not_mem_nil, or_false] at hu
  subst hu; rfl
/-- The numbers below k other than i. -/
def othersTo (i k : Nat) : List Nat := (List.range k).filter (fun x => x != i)
theorem othersTo_same (i : Nat) : othersTo i (i + 1) = othersTo i i := by unfold othersTo; rw [List.range_succ, List.filter_append]; simp
theorem othersTo_step {i k : Nat} (h : k ≠ i) : othersTo i (k + 1) = othersTo i k ++ [k] := by unfold othersTo; rw [List.range_succ, List.filter_append]; simp [h]
theorem othersTo_le (i k : Nat) : (othersTo i k).length ≤ k := by unfold othersTo; exact Nat.le_trans (List.length_filter_le _ _) (by simp)
theorem othersTo_length {i n : Nat} (h : i < n) : (othersTo i n).length = n - 1 := by
  induction n with
  | zero => omega
  | succ n ih =>
    by_cases e : n = i
    · subst e
      rw [othersTo_same]
      have key : ∀ m, m ≤ n → (othersTo n m).length = m := fun m => by
        induction m with
        | zero => intro _; rfl
        | succ m ihm => intro hm; rw [othersTo_step (by omega), List.length_append, ihm (by omega)]; rfl
      rw [key n (Nat.le_refl _)]; omega
    · rw [othersTo_step e, List.length_append, ih (by omega)]
      simp; omega
theorem othersTo_lt {i n : Nat} : ∀ x ∈ othersTo i n, x < n := fun x hx => by
  unfold othersTo at hx
  exact List.mem_range.1 (List.mem_filter.1 hx).1
theorem othersTo_nodup (i n : Nat) : (othersTo i n).Nodup := List.Pairwise.filter _ List.nodup_range
set_option maxHeartbeats 800000 in
set_option maxRecDepth 100000 in
theorem l3Others_any (n i : Nat) (hn : n ≤ 7) (hi : i < n) (hn2 : 2 ≤ n) (w : World) :
    Calls Try.prog 77 #[.int .i64 n, .int .i64 i] w fun e w' => ∃ b c, e = .returned (.slice (some ⟨b, 0, none⟩) (n - 1) c) ∧ IntsAt w' b (othersTo i n) ∧ b < w'.heap.size ∧ Below w.heap.size w w' := by
  obtain ⟨i0, hi0, hz0, hz1, hz2⟩ := info_parts infoI
  have HO : Hid (OwnsI (w.alloc (.cells #[] 3)) w.heap.size (.slice (some ⟨w.heap.size, 0, none⟩) 0 0) (othersTo i 0)) := Lib.hid (World.ownsRow_made w #[] 0 (Nat.le_refl _) (by decide) rfl)
  have HB0 := Lib.hid ((Below.refl w.heap.size w).alloc (Nat.le_refl _) (.cells #[] 3))
  have HLE := Lib.hid (othersTo_le i)
  have HLN := Lib.hid (othersTo_length hi)
  go_enter Try.func77, Try.ntmps77
  go_wp2
  go_loopw [5, 6] (fun vv c wr => ∃ k : Nat, k ≤ n ∧ c = .int .i64 k ∧ Hid (OwnsI wr w.heap.size vv (othersTo i k)) ∧ Below w.heap.size w wr) (fun _ c _ => n - (intOf c).toNat)
  case atStart => exact ⟨0, Nat.zero_le _, rfl, HO, HB0.out⟩
  case round =>
    obtain ⟨k, hk, rfl, HV, hb⟩ := hrel
    by_cases hlt : k < n
    · by_cases e : k = i
      · have ht : ((k : Int) != (i : Int)) = false := by simp; omega
        have HV2 : Hid (OwnsI wr w.heap.size u5 (othersTo i (k + 1))) := Lib.hid (by subst e; rw [othersTo_same]; exact HV.out)
        go_wp2
        exact ⟨⟨k + 1, by omega, by go_num, HV2, hb⟩, by simp only [intOf]; omega⟩
      · have ht : ((k : Int) != (i : Int)) = true := by simp; omega
        have HS := Lib.hid (othersTo_step e)
        have hyl := HLE.out k
        generalize othersTo i k = ys at HV HS hyl
        go_wp2_with (at_builtin; refine wpList_append_own _ rfl (.tmp 16) (.tmp 18) 40 rfl w.heap.size 3 i0 _ 1 8 Try.underlying40 hi0 hz0 hz1 hz2 rfl (by decide) _ _ _ rfl (World.ownsRow.alloc HV.out _) ⟨wr.heap.size, 0, none⟩ 1 1 [.int .i64 k] rfl rfl ?_ ?_ ?_ ?_ ?_ ?_)
        · exact news1 _ _ _
        · exact one1 _
        · simp only [maxLen]; omega
        · omega
        · have := hb.size; simp; omega
        intro v1 w1 hown1 hg1 _
        have hb1 := ((hb.alloc hb.size (.cells #[.int .i64 k] 3)).grown hg1 (by have := hb.size; simp; omega) (fun q hq => (World.ownsRow.lt HV.out q hq).1))
        have HV1 := Lib.hid (ownsI_snoc hown1)
        rw [← HS.out] at HV1
        clear hown1
        go_wp2
        exact ⟨⟨k + 1, by omega, by go_num, HV1, hb1⟩, by simp only [intOf]; omega⟩
    · obtain rfl : k = n := by omega
      obtain ⟨b, c, hv, -, hbl, hat⟩ := ownsI_row HV.out (by rw [HLN.out]; omega)
      rw [HLN.out] at hv
      subst hv
      have HAT := Lib.hid hat
      clear hat
      go_wp2
      go_ret
      exact ⟨b, c, rfl, HAT.out, hbl, hb⟩
/-- The signs by value and the zero result, in the two blocks that the call makes first. -/
structure WAt (w : World) (n : Int) (s : ByteArray) (W : World) : Prop where
  b0 : W.cell? ⟨w.heap.size, 0, none⟩ = some (.int .i64 n)
  b1 : W.cell? ⟨w.heap.size, 1, none⟩ = some (.string s)
  r0 : W.cell? ⟨w.heap.size + 1, 0, none⟩ = some (.int .i64 0)
  r1 : W.cell? ⟨w.heap.size + 1, 1, none⟩ = some (.string ⟨#[]⟩)
  z0 : W.frozen? ⟨w.heap.size + 1, 0, none⟩ = false
  z1 : W.frozen? ⟨w.heap.size + 1, 1, none⟩ = false
  below : Below w.heap.size w W
theorem wAt_made (w : World) (n : Int) (s : ByteArray) (t : TypeId) : WAt w n s ((w.alloc (.cells #[.int .i64 n, .string s] t)).alloc (.cells #[.int .i64 0, .string ⟨#[]⟩] t)) := by
  refine ⟨?_, ?_, ?_, ?_, ?_, ?_, ((Below.refl _ _).alloc (Nat.le_refl _) _).alloc (by simp) _⟩
  all_goals go_simp
theorem WAt.on {w : World} {n : Int} {s : ByteArray} {W W' : World} (h : WAt w n s W) (hb : Below W.heap.size W W') : WAt w n s W' := by
  have l0 : w.heap.size < W.heap.size := Kit.cell_lt h.b0
  have l1 : w.heap.size + 1 < W.heap.size := Kit.cell_lt h.r0
  exact ⟨by rw [hb.cell l0]; exact h.b0, by rw [hb.cell l0]; exact h.b1, by rw [hb.cell l1]; exact h.r0, by rw [hb.cell l1]; exact h.r1, by rw [hb.frozen l1]; exact h.z0, by rw [hb.frozen l1]; exact h.z1, h.below.trans (hb.mono (by omega))⟩
theorem WAt.drew {w : World} {n : Int} {s : ByteArray} {W : World} (h : WAt w n s W) : WAt w n s W.drew := ⟨h.b0, h.b1, h.r0, h.r1, h.z0, h.z1, h.below.drew⟩
end Go.Proofs.Ytfjimdmoindepaa.Sg
