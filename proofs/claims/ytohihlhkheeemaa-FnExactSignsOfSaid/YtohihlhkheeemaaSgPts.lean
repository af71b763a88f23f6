/- SignsOf, as impl and spec answer it. -/
import Derived.Test.YtohihlhkheeemaaSgOthers
import Derived.Test.YtohihlhkheeemaaPtAre
import Derived.Test.YtohihlhkheeemaaPtArg
namespace Go.Proofs.Ytohihlhkheeemaa.Sg
open Go.RowKit Pt
/-- The turn of three of these points, and twice their area. -/
def turnF (xs : List P2) (i j k : Nat) : Int := turnB (xs.getD i (0, 0)).1 (xs.getD i (0, 0)).2 (xs.getD j (0, 0)).1 (xs.getD j (0, 0)).2 (xs.getD k (0, 0)).1 (xs.getD k (0, 0)).2
def areaF (xs : List P2) (i j k : Nat) : Int := crs (xs.getD i (0, 0)).1 (xs.getD i (0, 0)).2 (xs.getD j (0, 0)).1 (xs.getD j (0, 0)).2 (xs.getD k (0, 0)).1 (xs.getD k (0, 0)).2
theorem getD_p {xs : List P2} {i : Nat} (h : i < xs.length) : xs.getD i (0, 0) = xs[i] := by rw [List.getD_eq_getElem?_getD, List.getElem?_eq_getElem h]; rfl
theorem byteOf_sgn (x : Int) : byteOf (sgn x) = byteOf x := by
  unfold byteOf sgn
  by_cases h : 0 < x
  · simp [h]
  · by_cases h2 : x < 0
    · simp [h, h2]
    · simp [h, h2]
theorem text3_bytes {n : Nat} (h7 : n ≤ 7) {f g : Nat → Nat → Nat → Int} (h : ∀ i j k, i < j → j < k → k < n → byteOf (f i j k) = byteOf (g i j k)) : text3 n f = text3 n g := by
  unfold text3
  refine List.map_congr_left fun t ht => ?_
  obtain ⟨h1, h2, h3⟩ := threes_mem h7 ht
  exact h _ _ _ h1 h2 h3
theorem text_points {xs : List P2} (h : okB xs = true) : text3 xs.length (areaF xs) = text3 xs.length (turnF xs) := by
  obtain ⟨⟨-, h7⟩, hfit, -⟩ := okB_ok h
  refine text3_bytes h7 fun i j k h1 h2 h3 => ?_
  have f : ∀ {i : Nat} (hi : i < xs.length), fitB (xs.getD i (0, 0)).1 (xs.getD i (0, 0)).2 1000 = true := fun {i} hi => by
    rw [getD_p hi]
    exact fit_mono (hfit _ (List.getElem_mem hi)) (by omega)
  unfold turnF turnB
  rw [byteOf_sgn, areaB_yes (f (by omega)) (f (by omega)) (f h3)]
  rfl
/-- What SignsOf answers. -/
noncomputable def ptsV (xs : List P2) : Value := if okB xs = true then .tuple #[sg xs.length ⟨(text3 xs.length (turnF xs)).toArray⟩, .bool true] else .tuple #[sg 0 ⟨#[]⟩, .bool false]
theorem ptsV_no {xs : List P2} (h : okB xs = false) : ptsV xs = .tuple #[sg 0 ⟨#[]⟩, .bool false] := by unfold ptsV; rw [h]; rfl
theorem ptsV_yes {xs : List P2} (h : okB xs = true) : ptsV xs = .tuple #[sg xs.length ⟨(text3 xs.length (turnF xs)).toArray⟩, .bool true] := by unfold ptsV; rw [if_pos h]
set_option maxHeartbeats 800000 in
set_option maxRecDepth 100000 in
theorem signsOf1_any (B b c : Nat) (xs : List P2) (hx : xs.length ≤ 7) (i j k : Nat) (hi : i < xs.length) (hj : j < xs.length) (hk : k < xs.length) (w : World) (h1 : w.cell? ⟨B, 0, none⟩ = some (.slice (some ⟨b, 0, none⟩) xs.length c)) (hat : AtP w b 0 xs) :
    Calls Try.prog 41 #[.int .i64 i, .int .i64 j, .int .i64 k, .pointer (some ⟨B, 0, none⟩)] w fun e w' => e = .returned (.int .i64 (turnF xs i j k)) ∧ Below w.heap.size w w' := by
  have HT : Hid (∀ W, Calls Try.prog 42 #[.agg #[.int .i64 xs[i].1, .int .i64 xs[i].2], .agg #[.int .i64 xs[j].1, .int .i64 xs[j].2], .agg #[.int .i64 xs[k].1, .int .i64 xs[k].2]] W fun e w' => e = .returned (.int .i64 (turnF xs i j k)) ∧ Below W.heap.size W w') := Lib.hid (fun W => by
    have := implTurn_any xs[i].1 xs[i].2 xs[j].1 xs[j].2 xs[k].1 xs[k].2 W
    unfold turnF
    rw [getD_p hi, getD_p hj, getD_p hk]
    exact this)
  obtain ⟨a0, a1⟩ := hat.get i hi
  obtain ⟨b0, b1⟩ := hat.get j hj
  obtain ⟨c0, c1⟩ := hat.get k hk
  simp only [Nat.zero_add] at a0 a1 b0 b1 c0 c1
  generalize xs[i] = p at a0 a1 HT
  generalize xs[j] = q at b0 b1 HT
  generalize xs[k] = r at c0 c1 HT
  generalize turnF xs i j k = v at HT
  clear hat
  go_enter Try.func41, Try.ntmps41
  go_wp2
  refine region_tail 12 (by kernel_rfl) (by kernel_rfl) ?_
  intro W hW
  have g1 : W.cell? ⟨B, 0, none⟩ = some (.slice (some ⟨b, 0, none⟩) xs.length c) := by rw [hW]; exact h1
  have ga0 : W.cell? ⟨b, i * 2, none⟩ = some (.int .i64 p.1) := by rw [hW]; exact a0
  have ga1 : W.cell? ⟨b, i * 2 + 1, none⟩ = some (.int .i64 p.2) := by rw [hW]; exact a1
  have gb0 : W.cell? ⟨b, j * 2, none⟩ = some (.int .i64 q.1) := by rw [hW]; exact b0
  have gb1 : W.cell? ⟨b, j * 2 + 1, none⟩ = some (.int .i64 q.2) := by rw [hW]; exact b1
  have gc0 : W.cell? ⟨b, k * 2, none⟩ = some (.int .i64 r.1) := by rw [hW]; exact c0
  have gc1 : W.cell? ⟨b, k * 2 + 1, none⟩ = some (.int .i64 r.2) := by rw [hW]; exact c1
  have HB : Hid (Below w.heap.size w W) := Lib.hid (by rw [hW]; exact (Below.refl _ _).drew)
  clear hW h1 a0 a1 b0 b1 c0 c1
  simp only [List.take_succ_cons, List.take_zero, List.drop_succ_cons, List.drop_zero]
  still_step
  still_step
  still_step
  still_step
  still_step
  still_step
  still_step
  still_step
  still_step
  still_step
  still_step
  still_step
  refine wpStill_nil ?_
  change wpList _ _ _ _ _ W
  go_wp2_with fail
  refine (HT.out _).mono ?_
  rintro e w2 ⟨rfl, hb2⟩
  have B2 := HB.out.trans (hb2.mono HB.out.size)
  go_wp2
  go_ret
  exact ⟨rfl, B2⟩
set_option maxHeartbeats 800000 in
set_option maxRecDepth 100000 in
theorem implPts_no (b c : Nat) (xs : List P2) (hx : xs.length ≤ 1048576) (h : okB xs = false) (w : World) (hr : RowP w b xs) :
    Calls Try.prog 18 #[.slice (some ⟨b, 0, none⟩) xs.length c] w fun e w' => e = .returned (ptsV xs) ∧ Below w.heap.size w w' := by
  have HR := Lib.hid (ptsV_no h)
  obtain ⟨w0, hw0⟩ : ∃ w0, w0 = w.alloc (.cells #[.slice (some ⟨b, 0, none⟩) xs.length c] 35) := ⟨_, rfl⟩
  have hsz : w0.heap.size = w.heap.size + 1 := by rw [hw0]; simp
  have B0 : Below w.heap.size w w0 := by rw [hw0]; exact (Below.refl _ _).alloc (Nat.le_refl _) _
  have HM := Lib.hid (resC_made w0 26)
  have HB := Lib.hid B0
  have HA := Lib.hid (fun W (hW : Below w.heap.size w W) => implAre b 0 c xs (by omega) W (hr.on hW).at (hr.on hW).lt)
  rw [h] at HA
  rw [hw0] at HM
  have HW0 := Lib.hid hw0
  clear h hr hw0 B0
  go_enter Try.func18, Try.ntmps18
  go_wp2_with fail
  refine (HA.out _ (((Below.refl _ _).alloc (Nat.le_refl _) _).alloc (by simp) _)).mono ?_
  rintro e w1 ⟨rfl, hb1⟩
  obtain ⟨⟨e0, e1⟩, ⟨z0, z1⟩, B1⟩ := HM.out.on hb1
  rw [← HW0.out] at e0 e1 z0 z1 B1
  rw [hsz] at e0 e1 z0 z1
  have B := HB.out.trans (B1.mono (by rw [hsz]; omega))
  obtain ⟨g0, g1⟩ := ret_sg e0 e1 (.int .i64 0) (.string ⟨#[]⟩)
  clear B1 hb1
  go_wp2
  exact bodyPost_ret (v := .tuple #[.agg #[.int .i64 0, .string ⟨#[]⟩], .bool false]) (by simp [results, Try.results18, go_sem, g0, g1]) rfl ⟨ret_v HR.out.symm, (B.setCell (by simp) _).setCell (by simp) _⟩
set_option maxHeartbeats 1600000 in
set_option maxRecDepth 100000 in
theorem implPts_yes (b c : Nat) (xs : List P2) (h : okB xs = true) (w : World) (hr : RowP w b xs) :
    Calls Try.prog 18 #[.slice (some ⟨b, 0, none⟩) xs.length c] w fun e w' => e = .returned (ptsV xs) ∧ Below w.heap.size w w' := by
  have hmf : ∀ (fn : Fn) (first cap : Array Value) (w : World), (Instr.makeFunc fn first cap).run Try.prog w = .ok (.func fn first cap) w := fun _ _ _ _ => rfl
  have HR := Lib.hid (ptsV_yes h)
  obtain ⟨⟨h3, h7⟩, -, -⟩ := okB_ok h
  obtain ⟨w0, hw0⟩ : ∃ w0, w0 = w.alloc (.cells #[.slice (some ⟨b, 0, none⟩) xs.length c] 35) := ⟨_, rfl⟩
  have hsz : w0.heap.size = w.heap.size + 1 := by rw [hw0]; simp
  have B0 : Below w.heap.size w w0 := by rw [hw0]; exact (Below.refl _ _).alloc (Nat.le_refl _) _
  have C0 : Hid (w0.cell? ⟨w.heap.size, 0, none⟩ = some (.slice (some ⟨b, 0, none⟩) xs.length c)) := Lib.hid (by rw [hw0]; go_simp)
  have HM := Lib.hid (resC_made w0 26)
  have HB := Lib.hid B0
  have HA := Lib.hid (fun W (hW : Below w.heap.size w W) => implAre b 0 c xs (by omega) W (hr.on hW).at (hr.on hW).lt)
  have HRR := Lib.hid hr
  rw [h] at HA
  rw [hw0] at HM
  have HW0 := Lib.hid hw0
  clear h hr hw0 B0
  go_enter Try.func18, Try.ntmps18
  go_wp2_with fail
  refine (HA.out _ (((Below.refl _ _).alloc (Nat.le_refl _) _).alloc (by simp) _)).mono ?_
  rintro e w1 ⟨rfl, hb1⟩
  rw [← HW0.out] at HM hb1
  have R1 := Lib.hid (HM.out.on hb1)
  have B1 := HB.out.trans (R1.out.2.2.mono (by rw [hsz]; omega))
  have c1 : w1.cell? ⟨w.heap.size, 0, none⟩ = some (.slice (some ⟨b, 0, none⟩) xs.length c) := by rw [R1.out.2.2.cell (by rw [hsz]; simp)]; exact C0.out
  have C1 := Lib.hid c1
  have HAT := Lib.hid (HRR.out.on B1)
  clear hb1
  go_wp2_with fail
  refine (signsBy_any xs.length h3 h7 41 #[.pointer (some ⟨w.heap.size, 0, none⟩)] (turnF xs) (enters _ _ _ Try.func41 (by kernel_rfl) rfl) _ (Lib.hid fun W i j k hW h1 h2 h4 => signsOf1_any w.heap.size b c xs h7 i j k (by omega) (by omega) h4 W (by rw [hW.cell (Kit.cell_lt C1.out)]; exact C1.out) (HAT.out.on hW).at)).mono ?_
  rintro e w3 ⟨rfl, hb3⟩
  obtain ⟨⟨e0, e1⟩, ⟨z0, z1⟩, B3⟩ := R1.out.on hb3
  rw [hsz] at e0 e1 z0 z1
  have B := HB.out.trans (B3.mono (by rw [hsz]; omega))
  generalize hT : (text3 xs.length (turnF xs)).toArray = T
  have HT := Lib.hid hT
  obtain ⟨k0, k1⟩ := ret_sg e0 e1 (.int .i64 xs.length) (.string ⟨T⟩)
  clear B3 hb3 hmf c1 hT
  go_wp2
  exact bodyPost_ret (v := .tuple #[.agg #[.int .i64 xs.length, .string ⟨T⟩], .bool true]) (by simp [results, Try.results18, go_sem, k0, k1]) rfl ⟨ret_v (by rw [HR.out, HT.out]), (B.setCell (by simp) _).setCell (by simp) _⟩
end Go.Proofs.Ytohihlhkheeemaa.Sg
