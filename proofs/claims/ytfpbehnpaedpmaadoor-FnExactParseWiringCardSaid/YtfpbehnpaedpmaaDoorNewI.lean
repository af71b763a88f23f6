/- A slice of ints of a call's own, empty or not: asked, marked, asked again. -/
import Derived.Test.YtfpbehnpaedpmaaDoorMgSa
import Derived.Laws.AppendOwn
import Derived.Laws.OwnMore
import Derived.OwnWalk
import Derived.Deep.AppendLies
import Derived.BigQuiet
namespace Go.Proofs.YtfpbehnpaedpmaaDoor.NewI
open Go.RowKit
/-- The first m cells of block b hold f; none is frozen. -/
structure Cells (w : World) (b m : Nat) (f : Nat → Value) : Prop where
  cell : ∀ j, j < m → w.cell? ⟨b, j, none⟩ = some (f j)
  frozen : ∀ j, w.frozen? ⟨b, j, none⟩ = false
  lt : b < w.heap.size
theorem Cells.congr {w : World} {b m : Nat} {f g : Nat → Value} (h : Cells w b m f) (e : ∀ i, i < m → f i = g i) : Cells w b m g := ⟨fun j hj => by rw [h.cell j hj, e j hj], h.frozen, h.lt⟩
theorem Cells.block {w w' : World} {b m : Nat} {f : Nat → Value} (h : Cells w b m f) (e : w'.heap[b]? = w.heap[b]?) (hs : w.heap.size ≤ w'.heap.size) : Cells w' b m f :=
  ⟨fun j hj => by rw [World.cell?_of_block (a := ⟨b, j, none⟩) e]; exact h.cell j hj, fun j => by rw [World.frozen?_of_block (a := ⟨b, j, none⟩) e]; exact h.frozen j, Nat.lt_of_lt_of_le h.lt hs⟩
theorem Cells.on {w w' : World} {b m : Nat} {f : Nat → Value} (h : Cells w b m f) (hb : Below w.heap.size w w') : Cells w' b m f := h.block (hb.block b h.lt) hb.size
theorem Cells.set {w : World} {b m : Nat} {f : Nat → Value} (h : Cells w b m f) (i : Nat) (hi : i < m) (v : Value) : Cells (w.setCell ⟨b, i, none⟩ v) b m (fun j => if j = i then v else f j) :=
  ⟨fun j hj => by
    by_cases e : j = i
    · subst e
      rw [if_pos rfl]
      exact World.cell?_setCell_same w ⟨b, j, none⟩ v (h.cell j hj)
    · rw [if_neg e, World.cell?_setCell_other w _ _ v (fun he => e (by injection he with _ h2; exact h2.symm))]
      exact h.cell j hj, fun j => by rw [World.frozen?_setCell]; exact h.frozen j, by simpa [World.setCell] using h.lt⟩
def zc (zs : List Int) (j : Nat) : Value := .int .i64 (zs.getD j 0)
theorem zc_lt {zs : List Int} {j : Nat} (h : j < zs.length) : zc zs j = .int .i64 zs[j] := by unfold zc; rw [List.getD_eq_getElem?_getD, List.getElem?_eq_getElem h]; rfl
/-- A value that owns just these numbers. -/
def OwnsZ (w : World) (B : Nat) (v : Value) (zs : List Int) : Prop := w.ownsRow B 3 1 v zs.length (zs.map (Value.int .i64))
theorem ownsZ_snoc {w : World} {B : Nat} {v : Value} {zs ys : List Int} (h : w.ownsRow B 3 1 v (zs.length + ys.length) (zs.map (Value.int .i64) ++ ys.map (Value.int .i64))) : OwnsZ w B v (zs ++ ys) := by
  unfold OwnsZ
  rw [List.map_append, List.length_append]
  exact h
/-- A slice that is empty, or whose cells lie in a block from lo on and before hi. -/
def New (w : World) (lo hi : Nat) (a : Option Addr) (n : Nat) (f : Nat → Value) : Prop := n = 0 ∨ ∃ b, a = some ⟨b, 0, none⟩ ∧ lo ≤ b ∧ b < hi ∧ Cells w b n f
theorem New.on {w w' : World} {lo hi n : Nat} {a : Option Addr} {f : Nat → Value} (h : New w lo hi a n f) (hb : Below w.heap.size w w') : New w' lo hi a n f := by
  rcases h with h | ⟨b, h1, h2, h3, h4⟩
  · exact .inl h
  · exact .inr ⟨b, h1, h2, h3, h4.on hb⟩
/-- Below B and from hi on nothing has changed; the heap has grown. -/
structure Out (lo hi : Nat) (w w' : World) : Prop where
  os : w'.os = w.os
  tape : w'.tape = w.tape
  output : w'.output = w.output
  size : w.heap.size ≤ w'.heap.size
  block : ∀ i, i < w.heap.size → ¬ (lo ≤ i ∧ i < hi) → w'.heap[i]? = w.heap[i]?
theorem Out.refl (lo hi : Nat) (w : World) : Out lo hi w w := ⟨rfl, rfl, rfl, Nat.le_refl _, fun _ _ _ => rfl⟩
theorem Out.below {lo hi B : Nat} {w w' : World} (h : Out lo hi w w') (hB : B ≤ lo) (hBw : B ≤ w.heap.size) : Below B w w' := ⟨h.os, h.tape, h.output, h.size, fun i hi => h.block i (by omega) (by omega)⟩
theorem New.far {w w' : World} {lo hi lo' hi' n : Nat} {a : Option Addr} {f : Nat → Value} (h : New w lo hi a n f) (ho : Out lo' hi' w w') (hd : hi ≤ lo' ∨ hi' ≤ lo) : New w' lo hi a n f := by
  rcases h with h | ⟨b, h1, h2, h3, h4⟩
  · exact .inl h
  · exact .inr ⟨b, h1, h2, h3, h4.block (ho.block b h4.lt (by omega)) ho.size⟩
theorem New.of_own {w : World} {B : Nat} {v : Value} {zs : List Int} (h : OwnsZ w B v zs) : ∃ a c, v = .slice a zs.length c ∧ New w B w.heap.size a zs.length (zc zs) ∧ (zs ≠ [] → a.isNone = false) := by
  obtain ⟨-, ⟨rfl, h1⟩ | ⟨g, cap, cur, rfl, hB, hh, hr⟩⟩ := id h
  · exact ⟨none, 0, by rw [h1], .inl h1, fun hne => absurd (List.eq_nil_of_length_eq_zero h1) hne⟩
  · have hlt := (World.ownsRow.lt h g rfl).2
    refine ⟨some ⟨g, 0, none⟩, cap, rfl, .inr ⟨g, rfl, hB, hlt, fun j hj => ?_, fun j => World.ownsRow.frozenAt h j, hlt⟩, fun _ => rfl⟩
    rw [World.ownsRow.cellAt h j (by omega), List.getElem?_map, List.getElem?_eq_getElem hj, zc_lt hj]; rfl
/-- What a function hands back that makes a slice of these numbers. -/
def Got (B : Nat) (zs : List Int) (e : Ending) (w' : World) : Prop := ∃ a c, e = .returned (.slice a zs.length c) ∧ New w' B w'.heap.size a zs.length (zc zs)
/-- Of the cells of a row: the first m bear the marks from k on. -/
def marked (k m : Nat) (f : Nat → Value) (j : Nat) : Value := if j < m then .int .i64 (k + j : Nat) else f j
theorem marked_step (k0 k : Nat) (f : Nat → Value) (i : Nat) : (if i = k then Value.int .i64 ((k0 + k : Nat) : Int) else marked k0 k f i) = marked k0 (k + 1) f i := by
  unfold marked
  by_cases e : i = k
  · subst e; rw [if_pos rfl, if_pos (by omega)]
  · rw [if_neg e]
    by_cases h2 : i < k
    · rw [if_pos h2, if_pos (by omega)]
    · rw [if_neg h2, if_neg (by omega)]
theorem grown_set {w w' : World} {b : Nat} (h : w.grownBy w' (some b)) (j : Nat) (v : Value) : w.grownBy (w'.setCell ⟨b, j, none⟩ v) (some b) :=
  ⟨h.os, h.tape, h.output, by simpa [World.setCell] using h.size, fun i hi hn => (Below.heap_setCell w' ⟨b, j, none⟩ v i (fun e => hn (by rw [e]))).trans (h.block i hi hn)⟩
set_option maxHeartbeats 400000 in
set_option maxRecDepth 100000 in
theorem mark_any (b n c k0 : Nat) (f : Nat → Value) (hf : ∀ j, ∃ x, f j = .int .i64 x) (hn : n ≤ 2000000) (hk0 : 1 ≤ k0) (hk1 : k0 ≤ 2000000) (w : World) (hrow : Cells w b n f) :
    Calls Tryd.prog 31 #[.slice (some ⟨b, 0, none⟩) n c, .int .i64 k0] w fun e w' => e = .returned (.int .i64 (k0 + n : Nat)) ∧ Cells w' b n (marked k0 n f) ∧ w.grownBy w' (some b) := by
  have HR0 := Lib.hid (hrow.congr (g := marked k0 0 f) (fun i hi => by simp [marked]))
  have HG0 : Hid (w.grownBy w (some b)) := Lib.hid ⟨rfl, rfl, rfl, Nat.le_refl _, fun _ _ _ => rfl⟩
  clear hrow
  go_enter Tryd.func31, Tryd.ntmps31
  go_wp2
  go_loopw [1, 5] (fun kv i wr => ∃ k : Nat, k ≤ n ∧ i = .int .i64 k ∧ kv = .int .i64 (k0 + k : Nat) ∧ Cells wr b n (marked k0 k f) ∧ w.grownBy wr (some b)) (fun _ i _ => n - (intOf i).toNat)
  case atStart => exact ⟨0, Nat.zero_le _, rfl, rfl, HR0.out, HG0.out⟩
  case round =>
    obtain ⟨k, hk, rfl, rfl, hrow, hg⟩ := hrel
    by_cases hlt : k < n
    · obtain ⟨s0, hs0⟩ := hf k
      have hd0 : wr.cell? ⟨b, k, none⟩ = some (.int .i64 s0) := by rw [hrow.cell k hlt]; unfold marked; rw [if_neg (by omega), hs0]
      have hf0 := hrow.frozen k
      have HR1 := Lib.hid ((hrow.set k hlt (.int .i64 ((k0 + k : Nat) : Int))).congr (g := marked k0 (k + 1) f) (fun i hi => marked_step k0 k f i))
      have HG1 := Lib.hid (grown_set hg k (.int .i64 ((k0 + k : Nat) : Int)))
      clear hs0 hrow hg
      go_wp2
      exact ⟨⟨k + 1, by omega, by go_num, by go_num, HR1.out, HG1.out⟩, by simp only [intOf]; omega⟩
    · obtain rfl : k = n := by omega
      have HR := Lib.hid hrow
      clear hrow
      go_wp2
      go_ret
      exact ⟨rfl, HR.out, hg⟩
set_option maxHeartbeats 400000 in
set_option maxRecDepth 100000 in
theorem held_any (b n c k0 : Nat) (f : Nat → Value) (hn : n ≤ 2000000) (hk0 : 1 ≤ k0) (hk1 : k0 ≤ 2000000) (w : World) (hrow : Cells w b n (marked k0 n f)) :
    Calls Tryd.prog 32 #[.slice (some ⟨b, 0, none⟩) n c, .int .i64 k0] w fun e w' => e = .returned (.int .i64 (k0 + n : Nat)) ∧ w = w' := by
  have HR0 := Lib.hid hrow
  clear hrow
  go_enter Tryd.func32, Tryd.ntmps32
  go_wp2
  go_loop [1, 5] (fun kv i => ∃ k : Nat, k ≤ n ∧ i = .int .i64 k ∧ kv = .int .i64 (k0 + k : Nat)) (fun _ i => n - (intOf i).toNat)
  case atStart => exact ⟨0, Nat.zero_le _, rfl, rfl⟩
  case round =>
    obtain ⟨k, hk, rfl, rfl⟩ := hrel
    by_cases hlt : k < n
    · have hd0 : w.cell? ⟨b, k, none⟩ = some (.int .i64 ((k0 + k : Nat) : Int)) := by rw [HR0.out.cell k hlt]; unfold marked; rw [if_pos (by omega)]
      have e0 : (((k0 + k : Nat) : Int) != ((k0 + k : Nat) : Int)) = false := by simp
      go_wp2
      go_round
      case rel => exact ⟨k + 1, by omega, by go_num, by go_num⟩
      case measure => simp [intOf]; omega
    · obtain rfl : k = n := by omega
      go_wp2
      go_ret
      exact ⟨rfl, rfl⟩
set_option maxRecDepth 100000 in
theorem mark_none (a : Option Addr) (c : Nat) (k0 : Int) (w : World) :
    Calls Tryd.prog 31 #[.slice a 0 c, .int .i64 k0] w fun e w' => e = .returned (.int .i64 k0) ∧ w = w' := by
  go_enter Tryd.func31, Tryd.ntmps31
  go_wp2
  refine wp_loop_rounds 1 ?_
  rw [rounds_succ]
  go_wp2
  go_ret
  exact ⟨rfl, rfl⟩
set_option maxRecDepth 100000 in
theorem held_none (a : Option Addr) (c : Nat) (k0 : Int) (w : World) :
    Calls Tryd.prog 32 #[.slice a 0 c, .int .i64 k0] w fun e w' => e = .returned (.int .i64 k0) ∧ w = w' := by
  go_enter Tryd.func32, Tryd.ntmps32
  go_wp2
  refine wp_loop_rounds 1 ?_
  rw [rounds_succ]
  go_wp2
  go_ret
  exact ⟨rfl, rfl⟩
set_option maxRecDepth 100000 in
theorem eq_none (a a2 : Option Addr) (c c2 : Nat) (w : World) :
    Calls Tryd.prog 30 #[.slice a 0 c, .slice a2 0 c2] w fun e w' => e = .returned (.bool true) ∧ w = w' := by
  go_enter Tryd.func30, Tryd.ntmps30
  go_wp2
  refine wp_loop_rounds 1 ?_
  rw [rounds_succ]
  go_wp2
  go_ret
  exact ⟨rfl, rfl⟩
set_option maxHeartbeats 400000 in
set_option maxRecDepth 100000 in
theorem eq_same (b c b2 c2 : Nat) (zs : List Int) (hx : zs.length ≤ 2000000) (w : World) (h1 : Cells w b zs.length (zc zs)) (h2 : Cells w b2 zs.length (zc zs)) :
    Calls Tryd.prog 30 #[.slice (some ⟨b, 0, none⟩) zs.length c, .slice (some ⟨b2, 0, none⟩) zs.length c2] w fun e w' => e = .returned (.bool true) ∧ Below w.heap.size w w' := by
  have hne : ((zs.length : Int) != (zs.length : Int)) = false := by simp
  have H1 := Lib.hid h1
  have H2 := Lib.hid h2
  clear h1 h2
  go_enter Tryd.func30, Tryd.ntmps30
  go_wp2
  go_loopw [5] (fun i wr => ∃ k : Nat, k ≤ zs.length ∧ i = .int .i64 k ∧ Hid (∃ n, wr = w.drewN n)) (fun i _ => zs.length - (intOf i).toNat)
  case atStart => exact ⟨0, Nat.zero_le _, rfl, Lib.hid ⟨0, rfl⟩⟩
  case round =>
    obtain ⟨k, hk, rfl, hn⟩ := hrel
    obtain ⟨n, rfl⟩ := hn.out
    by_cases hlt : k < zs.length
    · have x1 : w.cell? ⟨b, k, none⟩ = some (.int .i64 zs[k]) := by rw [H1.out.cell k hlt, zc_lt hlt]
      have x2 : w.cell? ⟨b2, k, none⟩ = some (.int .i64 zs[k]) := by rw [H2.out.cell k hlt, zc_lt hlt]
      have hse : (zs[k] != zs[k]) = false := by simp
      generalize zs[k] = z at x1 x2 hse
      go_wp2
      go_quiet (fail)
      go_wp2
      exact ⟨⟨k + 1, by omega, by go_num, Lib.hid ⟨_, rfl⟩⟩, by simp only [intOf]; omega⟩
    · go_wp2
      go_ret
      exact ⟨rfl, Sg.drewN_below (Below.refl _ _) _⟩
theorem zc_int (zs : List Int) (j : Nat) : ∃ x, zc zs j = .int .i64 x := ⟨_, rfl⟩
theorem eq_new (lo hi lo2 hi2 : Nat) (a a2 : Option Addr) (c c2 : Nat) (zs : List Int) (hx : zs.length ≤ 2000000) (w : World) (h1 : New w lo hi a zs.length (zc zs)) (h2 : New w lo2 hi2 a2 zs.length (zc zs)) :
    Calls Tryd.prog 30 #[.slice a zs.length c, .slice a2 zs.length c2] w fun e w' => e = .returned (.bool true) ∧ Below w.heap.size w w' := by
  rcases h1 with h1 | ⟨b, rfl, -, -, h1⟩
  · rw [h1]; exact (eq_none a a2 c c2 w).mono fun _ _ ⟨he, hw⟩ => ⟨he, by subst hw; exact Below.refl _ _⟩
  · rcases h2 with h2 | ⟨b2, rfl, -, -, h2⟩
    · rw [h2]; exact (eq_none _ a2 c c2 w).mono fun _ _ ⟨he, hw⟩ => ⟨he, by subst hw; exact Below.refl _ _⟩
    · exact eq_same b c b2 c2 zs hx w h1 h2
theorem mark_new (lo hi : Nat) (a : Option Addr) (n c : Nat) (f : Nat → Value) (hf : ∀ j, ∃ x, f j = .int .i64 x) (hn : n ≤ 2000000) (w : World) (h : New w lo hi a n f) :
    Calls Tryd.prog 31 #[.slice a n c, .int .i64 1] w fun e w' => e = .returned (.int .i64 (1 + n : Nat)) ∧ New w' lo hi a n (marked 1 n f) ∧ Out lo hi w w' := by
  rcases h with h | ⟨b, rfl, h1, h2, h3⟩
  · subst h; exact (mark_none a c 1 w).mono fun _ _ ⟨he, hw⟩ => ⟨he, .inl rfl, by subst hw; exact Out.refl _ _ _⟩
  · exact (mark_any b n c 1 f hf hn (by omega) (by omega) w h3).mono fun _ _ ⟨he, hc, hg⟩ => ⟨he, .inr ⟨b, rfl, h1, h2, hc⟩, hg.os, hg.tape, hg.output, hg.size, fun i hi hne => hg.block i hi (fun e => hne (by injection e with e; omega))⟩
theorem held_new (lo hi : Nat) (a : Option Addr) (n c : Nat) (f : Nat → Value) (hn : n ≤ 2000000) (w : World) (h : New w lo hi a n (marked 1 n f)) :
    Calls Tryd.prog 32 #[.slice a n c, .int .i64 1] w fun e w' => e = .returned (.int .i64 (1 + n : Nat)) ∧ w = w' := by
  rcases h with h | ⟨b, rfl, h1, h2, h3⟩
  · subst h; exact held_none a c 1 w
  · exact held_any b n c 1 f hn (by omega) (by omega) w h3
end Go.Proofs.YtfpbehnpaedpmaaDoor.NewI
