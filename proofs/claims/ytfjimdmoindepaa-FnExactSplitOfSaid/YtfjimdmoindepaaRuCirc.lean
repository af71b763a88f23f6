/- Circuits: the four signs, as impl's circuitOf tells them over a map. -/
import Derived.Test.YtfjimdmoindepaaRuBrk
namespace Go.Proofs.Ytfjimdmoindepaa.Sg
open Go.RowKit Pt
abbrev c4V (x : Int × Int × Int × Int) : Value := .agg #[.int .i64 x.1, .int .i64 x.2.1, .int .i64 x.2.2.1, .int .i64 x.2.2.2]
theorem box44_made (w : World) (x y z u : Int) (t : TypeId) : ((w.alloc (.cells #[.int .i64 x, .int .i64 y, .int .i64 z, .int .i64 u] t)).alloc (.cells #[.int .i64 x, .int .i64 y, .int .i64 z, .int .i64 u] t)).cell? ⟨w.heap.size, 0, none⟩ = some (.int .i64 x) ∧ ((w.alloc (.cells #[.int .i64 x, .int .i64 y, .int .i64 z, .int .i64 u] t)).alloc (.cells #[.int .i64 x, .int .i64 y, .int .i64 z, .int .i64 u] t)).cell? ⟨w.heap.size, 1, none⟩ = some (.int .i64 y) ∧ ((w.alloc (.cells #[.int .i64 x, .int .i64 y, .int .i64 z, .int .i64 u] t)).alloc (.cells #[.int .i64 x, .int .i64 y, .int .i64 z, .int .i64 u] t)).cell? ⟨w.heap.size, 2, none⟩ = some (.int .i64 z) ∧ ((w.alloc (.cells #[.int .i64 x, .int .i64 y, .int .i64 z, .int .i64 u] t)).alloc (.cells #[.int .i64 x, .int .i64 y, .int .i64 z, .int .i64 u] t)).cell? ⟨w.heap.size, 3, none⟩ = some (.int .i64 u) := by
  obtain ⟨h0, h1, h2, h3⟩ := box4_made w x y z u t
  refine ⟨?_, ?_, ?_, ?_⟩
  · rw [World.cell?_alloc_lt _ _ _ (by simp)]; exact h0
  · rw [World.cell?_alloc_lt _ _ _ (by simp)]; exact h1
  · rw [World.cell?_alloc_lt _ _ _ (by simp)]; exact h2
  · rw [World.cell?_alloc_lt _ _ _ (by simp)]; exact h3
set_option maxHeartbeats 3200000 in
set_option maxRecDepth 100000 in
theorem circuitOf_any (B : Nat) (f : Int → Int → Int → Int) (a b c d : Int) (ha : -9223372036854775808 ≤ a ∧ a ≤ 9223372036854775807) (hb : -9223372036854775808 ≤ b ∧ b ≤ 9223372036854775807) (hc : -9223372036854775808 ≤ c ∧ c ≤ 9223372036854775807) (hd : -9223372036854775808 ≤ d ∧ d ≤ 9223372036854775807) (w : World) (hm : MapIs w B f) :
    Calls Try.prog 54 #[.map (some B), .int .i64 a, .int .i64 b, .int .i64 c, .int .i64 d] w fun e w' => e = .returned (c4V (cir (sgnF f) a b c d)) ∧ Below w.heap.size w w' := by
  have HM0 := Lib.hid hm
  have hbd := fun x y z => sgnF_bd hm.2 x y z
  obtain ⟨v0, h0⟩ : ∃ v, sgnF f b c d = v := ⟨_, rfl⟩
  obtain ⟨v1, h1⟩ : ∃ v, sgnF f a c d = v := ⟨_, rfl⟩
  obtain ⟨v2, h2⟩ : ∃ v, sgnF f a b d = v := ⟨_, rfl⟩
  obtain ⟨v3, h3⟩ : ∃ v, sgnF f a b c = v := ⟨_, rfl⟩
  have b0 := hbd b c d
  have b1 := hbd a c d
  have b2 := hbd a b d
  have b3 := hbd a b c
  rw [h0] at b0; rw [h1] at b1; rw [h2] at b2; rw [h3] at b3
  have m0 := mul_bd b0 b0
  have m1 := mul_bd (x := -v1) (by omega) b0
  have m2 := mul_bd b2 b0
  have m3 := mul_bd (x := -v3) (by omega) b0
  have hE : cir (sgnF f) a b c d = (v0 * v0, -v1 * v0, v2 * v0, -v3 * v0) := by unfold cir; rw [h0, h1, h2, h3]
  rw [hE]
  have HA0 : Hid (∀ W, Below w.heap.size w W → Calls Try.prog 42 #[.map (some B), .int .i64 b, .int .i64 c, .int .i64 d] W fun e w' => e = .returned (.int .i64 v0) ∧ W = w') := Lib.hid (fun W hW => by rw [← h0]; exact at_any B f b c d hb hc hd W (HM0.out.on hW))
  have HA1 : Hid (∀ W, Below w.heap.size w W → Calls Try.prog 42 #[.map (some B), .int .i64 a, .int .i64 c, .int .i64 d] W fun e w' => e = .returned (.int .i64 v1) ∧ W = w') := Lib.hid (fun W hW => by rw [← h1]; exact at_any B f a c d ha hc hd W (HM0.out.on hW))
  have HA2 : Hid (∀ W, Below w.heap.size w W → Calls Try.prog 42 #[.map (some B), .int .i64 a, .int .i64 b, .int .i64 d] W fun e w' => e = .returned (.int .i64 v2) ∧ W = w') := Lib.hid (fun W hW => by rw [← h2]; exact at_any B f a b d ha hb hd W (HM0.out.on hW))
  have HA3 : Hid (∀ W, Below w.heap.size w W → Calls Try.prog 42 #[.map (some B), .int .i64 a, .int .i64 b, .int .i64 c] W fun e w' => e = .returned (.int .i64 v3) ∧ W = w') := Lib.hid (fun W hW => by rw [← h3]; exact at_any B f a b c ha hb hc W (HM0.out.on hW))
  have HB := Lib.hid (fun o => (Below.refl w.heap.size w).alloc (Nat.le_refl _) o)
  have HB2 := Lib.hid (fun o o' => ((Below.refl w.heap.size w).alloc (Nat.le_refl _) o).alloc (by simp) o')
  clear hm hbd h0 h1 h2 h3 hE
  go_enter Try.func54, Try.ntmps54
  go_wp2_with fail
  refine (HA0.out _ (HB.out _)).mono ?_
  rintro e w' ⟨rfl, rfl⟩
  go_wp2_with fail
  refine (HA1.out _ (HB.out _)).mono ?_
  rintro e w' ⟨rfl, rfl⟩
  go_wp2_with fail
  refine (HA2.out _ (HB.out _)).mono ?_
  rintro e w' ⟨rfl, rfl⟩
  go_wp2_with fail
  refine (HA3.out _ (HB.out _)).mono ?_
  rintro e w' ⟨rfl, rfl⟩
  go_wp2
  refine wp_loop_rounds 5 ?_
  rw [rounds_succ]
  go_wp2
  rw [rounds_succ]
  go_wp2
  rw [rounds_succ]
  go_wp2
  rw [rounds_succ]
  go_wp2
  rw [rounds_succ]
  go_wp2
  obtain ⟨k0, k1, k2, k3⟩ := box44_made w (v0 * v0) (-v1 * v0) (v2 * v0) (-v3 * v0) 71
  exact bodyPost_ret (v := .agg #[.int .i64 (v0 * v0), .int .i64 (-v1 * v0), .int .i64 (v2 * v0), .int .i64 (-v3 * v0)]) (by simp [results, Try.results54, go_sem, k0, k1, k2, k3]) rfl ⟨rfl, HB2.out _ _⟩
end Go.Proofs.Ytfjimdmoindepaa.Sg
