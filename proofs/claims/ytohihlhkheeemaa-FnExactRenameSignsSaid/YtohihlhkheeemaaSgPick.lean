/- The signs of some elements: spec.l3Pick. -/
import Derived.Test.YtohihlhkheeemaaSgOppSpec
import Derived.Deep.RegionHeld3
import Derived.Test.YtohihlhkheeemaaLast
namespace Go.Proofs.Ytohihlhkheeemaa.Sg
open Go.RowKit Pt
/-- The cells of a slice of small numbers. -/
def IntsAt (w : World) (b : Nat) (es : List Nat) : Prop := ∀ (j x : Nat), es[j]? = some x → w.cell? ⟨b, j, none⟩ = some (.int .i64 x)
theorem IntsAt.on {w w' : World} {B b : Nat} {es : List Nat} (h : IntsAt w b es) (hb : Below B w w') (hB : b < B) : IntsAt w' b es := fun j x hx => by rw [hb.cell hB]; exact h j x hx
theorem IntsAt.get {w : World} {b : Nat} {es : List Nat} (h : IntsAt w b es) {i : Nat} (hi : i < es.length) : w.cell? ⟨b, i, none⟩ = some (.int .i64 es[i]) := h i _ (List.getElem?_eq_getElem hi)
/-- The signs of these elements. -/
def pickF (n : Nat) (s : List UInt8) (es : List Nat) (i j k : Nat) : Int := sgnF (lookS n s) (es.getD i 0) (es.getD j 0) (es.getD k 0)
def textTo (n : Nat) (f : Nat → Nat → Nat → Int) (i j k : Nat) : List UInt8 := (upto n i j k).map fun t => byteOf (f t.1 t.2.1 t.2.2)
theorem textTo_le {n : Nat} (h7 : n ≤ 7) (f : Nat → Nat → Nat → Int) (i j k : Nat) : (textTo n f i j k).length ≤ 35 := by
  unfold textTo
  rw [List.length_map]
  exact Nat.le_trans (upto_length n i j k) (by rw [threes_length h7]; exact cnt_le h7)
theorem textTo_zero {n : Nat} (h7 : n ≤ 7) (f : Nat → Nat → Nat → Int) : textTo n f 0 (0 + 1) (0 + 2) = [] := by unfold textTo; rw [upto_zero n (by omega)]; rfl
theorem textTo_step {n i j k : Nat} (h7 : n ≤ 7) (f : Nat → Nat → Nat → Int) (h1 : i < j) (h2 : j < k) (h3 : k < n) : textTo n f i j (k + 1) = textTo n f i j k ++ [byteOf (f i j k)] := by
  unfold textTo
  rw [upto_step h7 h1 h2 h3, List.map_append]; rfl
theorem textTo_inner {n i j : Nat} (h7 : n ≤ 7) (f : Nat → Nat → Nat → Int) (h1 : i < j) (h2 : j < n) : textTo n f i j n = textTo n f i (j + 1) (j + 1 + 1) := by unfold textTo; rw [upto_inner h7 h1 h2]
theorem textTo_mid {n i : Nat} (h7 : n ≤ 7) (f : Nat → Nat → Nat → Int) (h1 : i < n) : textTo n f i n (n + 1) = textTo n f (i + 1) (i + 1 + 1) (i + 1 + 2) := by unfold textTo; rw [upto_mid h7 h1]
theorem textTo_end {n : Nat} (h7 : n ≤ 7) (f : Nat → Nat → Nat → Int) : textTo n f n (n + 1) (n + 2) = text3 n f := by unfold textTo text3; rw [upto_end h7]
/-- Beside a call that writes nothing of what was there eight facts stand. -/
theorem held8 (wr : World) (Bo : Nat) (X : ByteArray) (a1 a2 a3 a4 a5 : Addr) (v1 v2 v3 v4 v5 : Value) {f : FuncId} {args : Array Value} {W : World} {v : Value} (h : Calls Try.prog f args W fun e w' => e = .returned v ∧ Below W.heap.size W w')
    (hS : W.cell? ⟨Bo, 1, none⟩ = some (.string X) ∧ W.frozen? ⟨Bo, 1, none⟩ = false ∧ W.cell? a1 = some v1 ∧ W.cell? a2 = some v2 ∧ W.cell? a3 = some v3 ∧ W.cell? a4 = some v4 ∧ W.cell? a5 = some v5 ∧ Below wr.heap.size wr W) :
    Calls Try.prog f args W fun e w' => e = .returned v ∧ w'.cell? ⟨Bo, 1, none⟩ = some (.string X) ∧ w'.frozen? ⟨Bo, 1, none⟩ = false ∧ w'.cell? a1 = some v1 ∧ w'.cell? a2 = some v2 ∧ w'.cell? a3 = some v3 ∧ w'.cell? a4 = some v4 ∧ w'.cell? a5 = some v5 ∧ Below wr.heap.size wr w' := by
  obtain ⟨c0, f0, c1, c2, c3, c4, c5, hB⟩ := hS
  have hl : Bo < W.heap.size := Kit.cell_lt c0
  exact h.mono fun _ _ ⟨he, hb⟩ => ⟨he, by rw [hb.cell hl]; exact c0, by rw [hb.frozen hl]; exact f0, by rw [hb.cell (Kit.cell_lt c1)]; exact c1, by rw [hb.cell (Kit.cell_lt c2)]; exact c2, by rw [hb.cell (Kit.cell_lt c3)]; exact c3, by rw [hb.cell (Kit.cell_lt c4)]; exact c4, by rw [hb.cell (Kit.cell_lt c5)]; exact c5, hB.trans (hb.mono hB.size)⟩
/-- The loops' memory: the text so far in block Bo; below Bo nothing has changed. -/
def PickSt (Bo : Nat) (w1 : World) (m : Nat) (L : List UInt8) (wr : World) : Prop := OutC Bo m ⟨L.toArray⟩ wr ∧ Below Bo w1 wr
theorem PickSt.store {Bo : Nat} {w1 : World} {m : Nat} {L : List UInt8} {wr W : World} (h : PickSt Bo w1 m L wr) (hb : Below wr.heap.size wr W) (b : UInt8) : PickSt Bo w1 m (L ++ [b]) (W.setCell ⟨Bo, 1, none⟩ (.string (⟨L.toArray⟩ ++ ⟨#[b]⟩))) := by
  have hl : Bo < wr.heap.size := Kit.cell_lt h.1.1.1
  rw [bytes_snoc]
  exact ⟨(h.1.on hb).set _, (h.2.trans (hb.mono (by omega))).setCell (p := ⟨Bo, 1, none⟩) (Nat.le_refl _) _⟩
set_option maxHeartbeats 3200000 in
set_option maxRecDepth 100000 in
theorem l3Pick_any (n : Nat) (s : ByteArray) (es : List Nat) (b c : Nat) (h : arB n s.data.toList = true) (hm3 : 3 ≤ es.length) (hm7 : es.length ≤ 7) (hlt : ∀ x ∈ es, x < n) (hnd : es.Nodup) (w : World) (hat : IntsAt w b es) (hbw : b < w.heap.size) :
    Calls Try.prog 47 #[sg n s, .slice (some ⟨b, 0, none⟩) es.length c] w fun e w' => e = .returned (sg es.length ⟨(text3 es.length (pickF n s.data.toList es)).toArray⟩) ∧ Below w.heap.size w w' := by
  have HE := Lib.hid hat
  have HLT := Lib.hid hlt
  have HND := Lib.hid hnd
  have HAR := Lib.hid h
  have hsz : (w.alloc (.cells #[.int .i64 n, .string s] 26)).heap.size = w.heap.size + 1 := by simp
  have HM := Lib.hid (resC_made (w.alloc (.cells #[.int .i64 n, .string s] 26)) 26)
  have HX := Lib.hid ((box_made w n s 26).alloc (.cells #[.int .i64 0, .string ⟨#[]⟩] 26))
  have HB := Lib.hid ((Below.refl w.heap.size w).alloc (Nat.le_refl _) (.cells #[.int .i64 n, .string s] 26))
  clear hat hlt hnd h
  obtain ⟨w1, hw1⟩ : ∃ w1, w1 = (w.alloc (.cells #[.int .i64 n, .string s] 26)).alloc (.cells #[.int .i64 0, .string ⟨#[]⟩] 26) := ⟨_, rfl⟩
  have hs1 : w1.heap.size = w.heap.size + 1 + 1 := by rw [hw1]; simp
  have X1 := HX
  rw [← hw1] at X1
  have R1 := HM
  rw [← hw1] at R1
  have B01 := Lib.hid X1.out.2.2
  have O0 := Lib.hid (outC_made w1 es.length ⟨#[]⟩ 26)
  have P0 : Hid (PickSt (w.heap.size + 1 + 1) w1 es.length (textTo es.length (pickF n s.data.toList es) 0 (0 + 1) (0 + 2)) (((w.alloc (.cells #[.int .i64 n, .string s] 26)).alloc (.cells #[.int .i64 0, .string ⟨#[]⟩] 26)).alloc (.cells #[.int .i64 es.length, .string ⟨#[]⟩] 26))) := Lib.hid (by
    have h0 := O0.out
    rw [hs1] at h0
    rw [← hw1]
    exact ⟨by rw [textTo_zero hm7]; exact h0, (Below.refl (w.heap.size + 1 + 1) w1).alloc (by omega) _⟩)
  have HL : Hid (∀ (i j k : Nat) (hi : i < es.length) (hj : j < es.length) (hk : k < es.length) (W : World), i < j → j < k → Calls Try.prog 32 #[sg n s, .int .i64 (es[i] : Nat), .int .i64 (es[j] : Nat), .int .i64 (es[k] : Nat)] W fun e w' => e = .returned (.int .i64 (pickF n s.data.toList es i j k)) ∧ Below W.heap.size W w') := Lib.hid (fun i j k hi hj hk W h1 h2 => by
    have e : pickF n s.data.toList es i j k = sgnF (lookS n s.data.toList) (es[i] : Nat) (es[j] : Nat) (es[k] : Nat) := by
      unfold pickF
      rw [List.getD_eq_getElem?_getD, List.getD_eq_getElem?_getD, List.getD_eq_getElem?_getD, List.getElem?_eq_getElem hi, List.getElem?_eq_getElem hj, List.getElem?_eq_getElem hk]
      rfl
    have ne : ∀ (x y : Nat) (hx : x < es.length) (hy : y < es.length), x < y → es[x] ≠ es[y] := fun x y hx hy hxy he => by
      exact (List.pairwise_iff_getElem.1 HND.out x y hx hy hxy) he
    rw [e]
    exact l3At_any n s _ _ _ HAR.out (HLT.out _ (List.getElem_mem hi)) (HLT.out _ (List.getElem_mem hj)) (HLT.out _ (List.getElem_mem hk)) (ne _ _ hi hj h1) (ne _ _ hj hk h2) (ne _ _ hi hk (by omega)) W)
  have HEE := Lib.hid (HE.out.on B01.out hbw)
  generalize pickF n s.data.toList es = F at P0 HL
  have HW1 := Lib.hid hs1
  have hbB : b < w.heap.size + 1 + 1 := by omega
  clear hw1 HX HM O0 HND HLT HAR HE hs1
  go_enter Try.func47, Try.ntmps47
  go_wp2
  go_loopw [6] (fun c wr => ∃ i : Nat, i ≤ es.length ∧ c = .int .i64 i ∧ Hid (PickSt (w.heap.size + 1 + 1) w1 es.length (textTo es.length F i (i + 1) (i + 2)) wr)) (fun c _ => es.length - (intOf c).toNat)
  case atStart => exact ⟨0, Nat.zero_le _, rfl, P0⟩
  case round =>
    obtain ⟨i, hin, rfl, HP⟩ := hrel
    by_cases hlt : i < es.length
    · go_wp2
      go_loopw [7] (fun c wr => ∃ j : Nat, i < j ∧ j ≤ es.length ∧ c = .int .i64 j ∧ Hid (PickSt (w.heap.size + 1 + 1) w1 es.length (textTo es.length F i j (j + 1)) wr)) (fun c _ => es.length - (intOf c).toNat)
      case atStart => exact ⟨i + 1, by omega, by omega, by go_num, HP⟩
      case round =>
        obtain ⟨j, hij, hjn, rfl, HP⟩ := hrel
        by_cases hltj : j < es.length
        · go_wp2
          go_loopw [8] (fun c wr => ∃ k : Nat, j < k ∧ k ≤ es.length ∧ c = .int .i64 k ∧ Hid (PickSt (w.heap.size + 1 + 1) w1 es.length (textTo es.length F i j k) wr)) (fun c _ => es.length - (intOf c).toNat)
          case atStart => exact ⟨j + 1, by omega, by omega, by go_num, HP⟩
          case round =>
            obtain ⟨k, hjk, hkn, rfl, HP⟩ := hrel
            by_cases hltk : k < es.length
            · obtain ⟨⟨⟨o0, o1⟩, ⟨f0, f1⟩⟩, hbb⟩ := HP.out
              obtain ⟨x0, x1, -⟩ := X1.out.on' hbb (by omega) (by rw [HW1.out]; omega)
              have hEt := HEE.out.on hbb hbB
              have y0 := hEt.get hlt
              have y1 := hEt.get hltj
              have y2 := hEt.get hltk
              have HC := Lib.hid (fun W => HL.out i j k hlt hltj hltk W hij hjk)
              have hXl := textTo_le hm7 F i j k
              have HST : Hid (textTo es.length F i j (k + 1) = textTo es.length F i j k ++ [byteOf (F i j k)]) := Lib.hid (textTo_step hm7 F hij hjk hltk)
              generalize textTo es.length F i j k = L at hXl HP HST o1
              generalize F i j k = v at HC HST
              have hr1 : ∀ W (x : UInt8), (Op.stringOp .add ⟨L.toArray⟩ ⟨#[x]⟩).run Try.prog W = .ok (.string (⟨L.toArray⟩ ++ ⟨#[x]⟩)) W := fun W x => run_string_add_sum W _ _ (by show L.toArray.size + 1 ≤ _; simp; omega)
              generalize es[i] = p at y0 HC
              generalize es[j] = q at y1 HC
              generalize es[k] = r at y2 HC
              clear hEt hbb o0 f0
              go_wp2
              have hS0 := (⟨o1, f1, x0, x1, y0, y1, y2, (Below.refl wr.heap.size wr).drew⟩ : wr.drew.cell? ⟨w.heap.size + 1 + 1, 1, none⟩ = some (.string ⟨L.toArray⟩) ∧ wr.drew.frozen? ⟨w.heap.size + 1 + 1, 1, none⟩ = false ∧ wr.drew.cell? ⟨w.heap.size, 0, none⟩ = some (.int .i64 n) ∧ wr.drew.cell? ⟨w.heap.size, 1, none⟩ = some (.string s) ∧ wr.drew.cell? ⟨b, i, none⟩ = some (.int .i64 p) ∧ wr.drew.cell? ⟨b, j, none⟩ = some (.int .i64 q) ∧ wr.drew.cell? ⟨b, k, none⟩ = some (.int .i64 r) ∧ Below wr.heap.size wr wr.drew)
              refine Last.wp_region_last' (S := fun W => W.cell? ⟨w.heap.size + 1 + 1, 1, none⟩ = some (.string ⟨L.toArray⟩) ∧ W.frozen? ⟨w.heap.size + 1 + 1, 1, none⟩ = false ∧ W.cell? ⟨w.heap.size, 0, none⟩ = some (.int .i64 n) ∧ W.cell? ⟨w.heap.size, 1, none⟩ = some (.string s) ∧ W.cell? ⟨b, i, none⟩ = some (.int .i64 p) ∧ W.cell? ⟨b, j, none⟩ = some (.int .i64 q) ∧ W.cell? ⟨b, k, none⟩ = some (.int .i64 r) ∧ Below wr.heap.size wr W) 19 _ rfl rfl (by kernel_rfl) (by kernel_rfl) hS0 (fun hHeld => ?_)
              clear hS0 o1 f1 x0 x1 y0 y1 y2
              simp only [List.take_succ_cons, List.take_zero]
              (refine wpAnyH_take (i := 0) (v := ?_) rfl (by kernel_rfl) (by kernel_rfl) (by kernel_rfl) (fun _ _ _ h => h) (Or.inl ⟨by rfl, ?_⟩) (by assumption) ?_; rotate_left; (focus (intro w hSw; (try dsimp only at hSw); go_simp; (try with_reducible rfl))); (simp only [Act.put, List.setIfInBounds_toArray, List.set_cons_zero, List.set_cons_succ]))
              (refine wpAnyH_take (i := 1) (v := ?_) rfl (by kernel_rfl) (by kernel_rfl) (by kernel_rfl) (fun _ _ _ h => h) (Or.inl ⟨by rfl, ?_⟩) (by assumption) ?_; rotate_left; (focus (intro w hSw; (try dsimp only at hSw); go_simp; (try with_reducible rfl))); (simp only [Act.put, List.setIfInBounds_toArray, List.set_cons_zero, List.set_cons_succ]))
              (refine wpAnyH_take (i := 2) (v := ?_) rfl (by kernel_rfl) (by kernel_rfl) (by kernel_rfl) (fun _ _ _ h => h) (Or.inl ⟨by rfl, ?_⟩) (by assumption) ?_; rotate_left; (focus (intro w hSw; (try dsimp only at hSw); go_simp; (try with_reducible rfl))); (simp only [Act.put, List.setIfInBounds_toArray, List.set_cons_zero, List.set_cons_succ]))
              (refine wpAnyH_take (i := 3) (v := ?_) rfl (by kernel_rfl) (by kernel_rfl) (by kernel_rfl) (fun _ _ _ h => h) (Or.inl ⟨by rfl, ?_⟩) (by assumption) ?_; rotate_left; (focus (intro w hSw; (try dsimp only at hSw); go_simp; (try with_reducible rfl))); (simp only [Act.put, List.setIfInBounds_toArray, List.set_cons_zero, List.set_cons_succ]))
              (refine wpAnyH_take (i := 4) (v := ?_) rfl (by kernel_rfl) (by kernel_rfl) (by kernel_rfl) (fun _ _ _ h => h) (Or.inl ⟨by rfl, ?_⟩) (by assumption) ?_; rotate_left; (focus (intro w hSw; (try dsimp only at hSw); go_simp; (try with_reducible rfl))); (simp only [Act.put, List.setIfInBounds_toArray, List.set_cons_zero, List.set_cons_succ]))
              (refine wpAnyH_take (i := 5) (v := ?_) rfl (by kernel_rfl) (by kernel_rfl) (by kernel_rfl) (fun _ _ _ h => h) (Or.inl ⟨by rfl, ?_⟩) (by assumption) ?_; rotate_left; (focus (intro w hSw; (try dsimp only at hSw); go_simp; (try with_reducible rfl))); (simp only [Act.put, List.setIfInBounds_toArray, List.set_cons_zero, List.set_cons_succ]))
              (refine wpAnyH_take (i := 6) (v := ?_) rfl (by kernel_rfl) (by kernel_rfl) (by kernel_rfl) (fun _ _ _ h => h) (Or.inl ⟨by rfl, ?_⟩) (by assumption) ?_; rotate_left; (focus (intro w hSw; (try dsimp only at hSw); go_simp; (try with_reducible rfl))); (simp only [Act.put, List.setIfInBounds_toArray, List.set_cons_zero, List.set_cons_succ]))
              (refine wpAnyH_take (i := 7) (v := ?_) rfl (by kernel_rfl) (by kernel_rfl) (by kernel_rfl) (fun _ _ _ h => h) (Or.inl ⟨by rfl, ?_⟩) (by assumption) ?_; rotate_left; (focus (intro w hSw; (try dsimp only at hSw); go_simp; (try with_reducible rfl))); (simp only [Act.put, List.setIfInBounds_toArray, List.set_cons_zero, List.set_cons_succ]))
              (refine wpAnyH_take (i := 8) (v := ?_) rfl (by kernel_rfl) (by kernel_rfl) (by kernel_rfl) (fun _ _ _ h => h) (Or.inl ⟨by rfl, ?_⟩) (by assumption) ?_; rotate_left; (focus (intro w hSw; (try dsimp only at hSw); go_simp; (try with_reducible rfl))); (simp only [Act.put, List.setIfInBounds_toArray, List.set_cons_zero, List.set_cons_succ]))
              (refine wpAnyH_take (i := 9) (v := ?_) rfl (by kernel_rfl) (by kernel_rfl) (by kernel_rfl) (fun _ _ _ h => h) (Or.inl ⟨by rfl, ?_⟩) (by assumption) ?_; rotate_left; (focus (intro w hSw; (try dsimp only at hSw); go_simp; (try with_reducible rfl))); (simp only [Act.put, List.setIfInBounds_toArray, List.set_cons_zero, List.set_cons_succ]))
              (refine wpAnyH_take (i := 10) (v := ?_) rfl (by kernel_rfl) (by kernel_rfl) (by kernel_rfl) (fun _ _ _ h => h) (Or.inl ⟨by rfl, ?_⟩) (by assumption) ?_; rotate_left; (focus (intro w hSw; (try dsimp only at hSw); go_simp; (try with_reducible rfl))); (simp only [Act.put, List.setIfInBounds_toArray, List.set_cons_zero, List.set_cons_succ]))
              (refine wpAnyH_take (i := 11) (v := ?_) rfl (by kernel_rfl) (by kernel_rfl) (by kernel_rfl) (fun _ _ _ h => h) (Or.inl ⟨by rfl, ?_⟩) (by assumption) ?_; rotate_left; (focus (intro w hSw; (try dsimp only at hSw); go_simp; (try with_reducible rfl))); (simp only [Act.put, List.setIfInBounds_toArray, List.set_cons_zero, List.set_cons_succ]))
              (refine wpAnyH_take (i := 12) (v := ?_) rfl (by kernel_rfl) (by kernel_rfl) (by kernel_rfl) (fun _ _ _ h => h) (Or.inl ⟨by rfl, ?_⟩) (by assumption) ?_; rotate_left; (focus (intro w hSw; (try dsimp only at hSw); go_simp; (try with_reducible rfl))); (simp only [Act.put, List.setIfInBounds_toArray, List.set_cons_zero, List.set_cons_succ]))
              (refine wpAnyH_take (i := 13) (v := ?_) rfl (by kernel_rfl) (by kernel_rfl) (by kernel_rfl) (fun _ _ _ h => h) (Or.inl ⟨by rfl, ?_⟩) (by assumption) ?_; rotate_left; (focus (intro w hSw; (try dsimp only at hSw); go_simp; (try with_reducible rfl))); (simp only [Act.put, List.setIfInBounds_toArray, List.set_cons_zero, List.set_cons_succ]))
              (refine wpAnyH_take (i := 14) (v := ?_) rfl (by kernel_rfl) (by kernel_rfl) (by kernel_rfl) (fun _ _ _ h => h) (Or.inl ⟨by rfl, ?_⟩) (by assumption) ?_; rotate_left; (focus (intro w hSw; (try dsimp only at hSw); go_simp; (try with_reducible rfl))); (simp only [Act.put, List.setIfInBounds_toArray, List.set_cons_zero, List.set_cons_succ]))
              refine wpAnyH_ready (rs := [15]) (by kernel_rfl) (by simp) ?_
              refine AllReadyH.cons rfl (fun K hK => ?_) AllReadyH.nil
              go_simp
              refine (held8 wr (w.heap.size + 1 + 1) ⟨L.toArray⟩ ⟨w.heap.size, 0, none⟩ ⟨w.heap.size, 1, none⟩ ⟨b, i, none⟩ ⟨b, j, none⟩ ⟨b, k, none⟩ (.int .i64 n) (.string s) (.int .i64 p) (.int .i64 q) (.int .i64 r) (HC.out _) hHeld).mono ?_
              clear hHeld
              rintro e w' ⟨rfl, hc⟩
              refine hK.out _ _ hc (fun hHeld => ?_)
              clear hK K
              try simp only [Act.put, List.setIfInBounds_toArray, List.set_cons_zero, List.set_cons_succ]
              refine wpAnyH_ready (rs := [16]) (by kernel_rfl) (by simp) ?_
              refine AllReadyH.cons rfl (fun K hK => ?_) AllReadyH.nil
              go_simp
              refine (l3Byte_any _ _).mono ?_
              rintro e w2 ⟨rfl, rfl⟩
              refine hK.out _ _ hHeld (fun hHeld => ?_)
              clear hK K
              try simp only [Act.put, List.setIfInBounds_toArray, List.set_cons_zero, List.set_cons_succ]
              (refine wpAnyH_take (i := 17) (v := ?_) rfl (by kernel_rfl) (by kernel_rfl) (by kernel_rfl) (fun _ _ _ h => h) (Or.inl ⟨by rfl, ?_⟩) (by assumption) ?_; rotate_left; (focus (intro w hSw; (try dsimp only at hSw); go_simp; (try with_reducible rfl))); (simp only [Act.put, List.setIfInBounds_toArray, List.set_cons_zero, List.set_cons_succ]))
              (refine wpAnyH_take (i := 18) (v := ?_) rfl (by kernel_rfl) (by kernel_rfl) (by kernel_rfl) (fun _ _ _ h => h) (Or.inl ⟨by rfl, ?_⟩) (by assumption) ?_; rotate_left; (focus (intro w hSw; (try dsimp only at hSw); go_simp; (try with_reducible rfl))); (simp only [Act.put, List.setIfInBounds_toArray, List.set_cons_zero, List.set_cons_succ]))
              refine wpAnyH_done (by kernel_rfl) ?_ _
              obtain ⟨o1, f1, -, -, -, -, -, hbw2⟩ := hHeld
              have HP2 := Lib.hid (HP.out.store hbw2 (byteOf v))
              rw [← HST.out] at HP2
              clear hc
              change wpList _ _ _ [_] _ _
              go_wp2
              exact ⟨⟨k + 1, by omega, by omega, by go_num, HP2⟩, by simp only [intOf]; omega⟩
            · have HP2 : Hid (PickSt (w.heap.size + 1 + 1) w1 es.length (textTo es.length F i (j + 1) (j + 1 + 1)) wr) := Lib.hid (by
                have := HP.out
                rw [show k = es.length by omega, textTo_inner hm7 F hij hltj] at this
                exact this)
              go_wp2
              exact ⟨⟨j + 1, by omega, by omega, by go_num, HP2⟩, by simp only [intOf]; omega⟩
        · have HP2 : Hid (PickSt (w.heap.size + 1 + 1) w1 es.length (textTo es.length F (i + 1) (i + 1 + 1) (i + 1 + 2)) wr) := Lib.hid (by
            have := HP.out
            rw [show j = es.length by omega, textTo_mid hm7 F hlt] at this
            exact this)
          go_wp2
          exact ⟨⟨i + 1, by omega, by go_num, HP2⟩, by simp only [intOf]; omega⟩
    · have HP2 : Hid (PickSt (w.heap.size + 1 + 1) w1 es.length (text3 es.length F) wr) := Lib.hid (by
        have := HP.out
        rw [show i = es.length by omega, textTo_end hm7 F] at this
        exact this)
      obtain ⟨⟨⟨o0, o1⟩, -⟩, hbb⟩ := HP2.out
      obtain ⟨⟨e0, e1⟩, ⟨z0, z1⟩, B1⟩ := R1.out.on' hbb (by rw [hsz]; omega) (by rw [HW1.out]; omega)
      have B := HB.out.trans (B1.mono (by rw [hsz]; omega))
      rw [hsz] at e0 e1 z0 z1
      obtain ⟨k0, k1⟩ := ret_sg e0 e1 (.int .i64 es.length) (.string ⟨(text3 es.length F).toArray⟩)
      generalize hT : (text3 es.length F).toArray = T at o1 k0 k1
      have HTT := Lib.hid hT
      clear B1 hbb hT
      go_wp2
      exact bodyPost_ret (v := .agg #[.int .i64 es.length, .string ⟨T⟩]) (by simp [results, Try.results47, go_sem, k0, k1]) rfl ⟨ret_v (by rw [HTT.out]), (B.setCell (by simp) _).setCell (by simp) _⟩
end Go.Proofs.Ytohihlhkheeemaa.Sg
