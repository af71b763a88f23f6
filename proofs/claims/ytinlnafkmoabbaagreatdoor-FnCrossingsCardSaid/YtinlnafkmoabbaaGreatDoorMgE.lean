/- Several texts in one: HuElt, HuDel, HuTest, HuAmong. -/
import Derived.Test.YtinlnafkmoabbaaGreatDoorMgK
import Derived.Test.YtinlnafkmoabbaaGreatDoorNewI
import Derived.Lib.LaidTab
import Derived.Laws.Rows
import Derived.Lib.SliceRun
import Derived.Laws.IdiomCopy
import Derived.Lib.LazyBuf
import Derived.WalkSpells
import Derived.Test.YtinlnafkmoabbaaGreatDoorMgO
/- impl.elementsOf: the elements of a set, ascending; math/bits.TrailingZeros of small numbers. -/
namespace Go.Proofs.YtinlnafkmoabbaaGreatDoor.Sg
open Go.RowKit Pt NewI
/-- The table of math/bits, as its initialiser lays it. -/
def tab64 : List Int := [0, 1, 56, 2, 57, 49, 28, 3, 61, 58, 42, 50, 38, 29, 17, 4, 62, 47, 59, 36, 45, 43, 51, 22, 53, 39, 33, 30, 24, 18, 12, 5, 63, 55, 48, 27, 60, 41, 37, 16, 46, 35, 44, 21, 52, 32, 23, 11, 54, 26, 40, 15, 34, 20, 31, 10, 25, 14, 19, 9, 13, 8, 7, 6]
def Tab (w : World) : Prop := ∀ i, i < 64 → w.cell? ⟨1, i, none⟩ = some (.int .u8 (tab64.getD i 0))
theorem Tab.on {w w' : World} (h : Tab w) (hb : Below w.heap.size w w') : Tab w' := fun i hi => by
  rw [hb.cell (Kit.cell_lt (h i hi))]; exact h i hi
theorem Tab.of {w : World} (h : Lib.TabIs Tryz.prog w "math/bits.deBruijn64tab" .u8 tab64) : Tab w := fun i hi => Lib.TabIs.cell h (by kernel_rfl) i hi
/-- Where a number's lowest bit stands in the table. -/
def tzIdx (x : Nat) : Nat := 2 ^ firstS x * 285870213051353865 % 18446744073709551616 / 288230376151711744
theorem bits_andU (a b : Nat) (ha : a < 18446744073709551616) (hb : b < 18446744073709551616) : bits BinOp.and IntKind.u64 (a : Int) (b : Int) = ((a &&& b : Nat) : Int) := by
  have hl : a &&& b < 18446744073709551616 := Nat.lt_of_le_of_lt Nat.and_le_left ha
  show IntKind.u64.wrap ((BitVec.ofInt 64 a &&& BitVec.ofInt 64 b).toNat : Int) = _
  rw [BitVec.toNat_and, BitVec.ofInt_natCast, BitVec.ofInt_natCast, BitVec.toNat_ofNat, BitVec.toNat_ofNat, Nat.mod_eq_of_lt ha, Nat.mod_eq_of_lt hb, IntKind.wrap_u64]
  omega
theorem low_bit : ∀ x : Nat, x < 128 → 0 < x → x &&& (18446744073709551616 - x) = 2 ^ firstS x := by decide +kernel
theorem tz_key (x : Nat) (h7 : x < 128) (h0 : 0 < x) : IntKind.u64.wrap (bits BinOp.and IntKind.u64 (x : Int) (IntKind.u64.wrap (-(x : Int))) * 285870213051353865) / 288230376151711744 = (tzIdx x : Int) := by
  have e1 : IntKind.u64.wrap (-(x : Int)) = ((18446744073709551616 - x : Nat) : Int) := by rw [IntKind.wrap_u64]; omega
  rw [e1, bits_andU x _ (by omega) (by omega), low_bit x h7 h0, IntKind.wrap_u64]
  unfold tzIdx
  omega
theorem firstS_lt : ∀ x : Nat, x < 128 → 0 < x → firstS x < 7 := by decide +kernel
theorem tz_at0 : ∀ k : Nat, k < 7 → 2 ^ k * 285870213051353865 % 18446744073709551616 / 288230376151711744 < 64 ∧ tab64.getD (2 ^ k * 285870213051353865 % 18446744073709551616 / 288230376151711744) 0 = (k : Int) := by decide +kernel
theorem tz_at (x : Nat) (h7 : x < 128) (h0 : 0 < x) : tzIdx x < 64 ∧ tab64.getD (tzIdx x) 0 = (firstS x : Int) ∧ firstS x < 7 :=
  ⟨(tz_at0 _ (firstS_lt x h7 h0)).1, (tz_at0 _ (firstS_lt x h7 h0)).2, firstS_lt x h7 h0⟩
theorem elt_step0 : ((List.range 128).all fun r => r == 0 || ((eltN r == firstS r :: eltN (r &&& (r - 1))) && decide (r &&& (r - 1) < r))) = true := by decide +kernel
theorem elt_step (r : Nat) (h7 : r < 128) (h0 : 0 < r) : eltN r = firstS r :: eltN (r &&& (r - 1)) ∧ (r &&& (r - 1)) < r ∧ bits BinOp.and IntKind.u64 (r : Int) ((r - 1 : Nat) : Int) = ((r &&& (r - 1) : Nat) : Int) := by
  have h := List.all_eq_true.1 elt_step0 r (List.mem_range.2 h7)
  simp only [Bool.or_eq_true, beq_iff_eq, Bool.and_eq_true, decide_eq_true_eq] at h
  rcases h with h | ⟨h1, h2⟩
  · omega
  · exact ⟨h1, h2, bits_andU r (r - 1) (by omega) (by omega)⟩
set_option maxRecDepth 100000 in
theorem tz64_core (x k idx : Nat) (w : World) (hx0 : ((x : Int) == 0) = false)
    (key : IntKind.u64.wrap (bits BinOp.and IntKind.u64 (x : Int) (IntKind.u64.wrap (-(x : Int))) * 285870213051353865) / 288230376151711744 = (idx : Int))
    (hi : idx < 64) (hk : k < 64) (hcell : w.cell? ⟨1, idx, none⟩ = some (.int .u8 (k : Int))) :
    Calls Tryz.prog 167 #[.int .u64 x] w fun e w' => e = .returned (.int .i64 k) ∧ w = w' := by
  go_enter Tryz.func167, Tryz.ntmps167
  go_wp2_with (simp only [key])
  go_ret
  exact ⟨rfl, rfl⟩
theorem tz64_any (x : Nat) (h0 : 0 < x) (h7 : x < 128) (w : World) (hT : Tab w) :
    Calls Tryz.prog 167 #[.int .u64 x] w fun e w' => e = .returned (.int .i64 (firstS x)) ∧ w = w' := by
  obtain ⟨hi, ht, hk⟩ := tz_at x h7 h0
  have hcell := hT _ hi
  rw [ht] at hcell
  exact tz64_core x _ _ w (by simp; omega) (tz_key x h7 h0) hi (by omega) hcell
set_option maxRecDepth 100000 in
theorem tz_any (x : Nat) (h0 : 0 < x) (h7 : x < 128) (w : World) (hT : Tab w) :
    Calls Tryz.prog 136 #[.int .u64 x] w fun e w' => e = .returned (.int .i64 (firstS x)) ∧ w = w' := by
  have HC := Lib.hid (tz64_any x h0 h7 w hT)
  have hw : IntKind.u64.wrap (x : Int) = (x : Int) := by rw [IntKind.wrap_u64]; omega
  clear hT
  go_enter Tryz.func136, Tryz.ntmps136
  go_wp2_with fail
  refine HC.out.mono ?_
  rintro e w' ⟨rfl, rfl⟩
  go_wp2
  go_ret
  exact ⟨rfl, rfl⟩
/-- A block of ints. -/
def IntB (w : World) (g : Nat) : Prop := ∃ cs, w.heap[g]? = some (.cells cs 3)
theorem IntB.block {w w' : World} {g : Nat} (h : IntB w g) (e : w'.heap[g]? = w.heap[g]?) : IntB w' g := by
  obtain ⟨cs, h⟩ := h
  exact ⟨cs, e.trans h⟩
theorem IntB.lt {w : World} {g : Nat} (h : IntB w g) : g < w.heap.size := by
  obtain ⟨cs, h⟩ := h
  exact (Array.getElem?_eq_some_iff.1 h).1
theorem IntB.on {w w' : World} {g : Nat} (h : IntB w g) (hb : Below w.heap.size w w') : IntB w' g := h.block (hb.block g h.lt)
theorem IntB.set {w : World} {g : Nat} (h : IntB w g) (i : Nat) (v : Value) : IntB (w.setCell ⟨g, i, none⟩ v) g := by
  obtain ⟨cs, h⟩ := h
  exact ⟨_, heap_setCell_same w g i cs _ v h⟩
/-- A slice of these numbers in one block of its own (from B on), or nil. -/
def ArgZ (w : World) (B : Nat) (v : Value) (zs : List Int) : Prop :=
  (zs = [] ∧ v = .slice none 0 0) ∨ (zs ≠ [] ∧ ∃ g c, v = .slice (some ⟨g, 0, none⟩) zs.length c ∧ B ≤ g ∧ zs.length ≤ c ∧ c ≤ maxLen ∧ IntB w g ∧ Cells w g zs.length (zc zs))
theorem ArgZ.on {w w' : World} {B : Nat} {v : Value} {zs : List Int} (h : ArgZ w B v zs) (hb : Below w.heap.size w w') : ArgZ w' B v zs := by
  rcases h with h | ⟨h0, g, c, h1, h2, h3, h4, h5, h6⟩
  · exact .inl h
  · exact .inr ⟨h0, g, c, h1, h2, h3, h4, h5.on hb, h6.on hb⟩
theorem ArgZ.low {w : World} {B B' : Nat} {v : Value} {zs : List Int} (h : ArgZ w B v zs) (hb : B' ≤ B) : ArgZ w B' v zs := by
  rcases h with h | ⟨h0, g, c, h1, h2, h3⟩
  · exact .inl h
  · exact .inr ⟨h0, g, c, h1, Nat.le_trans hb h2, h3⟩
theorem ArgZ.of_own {w : World} {B : Nat} {v : Value} {zs : List Int} (h : OwnsZ w B v zs) (h0 : zs = [] → v = .slice none 0 0) : ArgZ w B v zs := by
  by_cases e : zs = []
  · exact .inl ⟨e, h0 e⟩
  · obtain ⟨-, ⟨rfl, h1⟩ | ⟨g, cap, cur, rfl, hB, hh, hc1, hc2, hr⟩⟩ := id h
    · exact absurd (List.eq_nil_of_length_eq_zero h1) e
    · obtain ⟨a, c, hv, hn, -⟩ := NewI.New.of_own h
      injection hv with hv1 hv2 hv3
      subst hv1 hv3
      rcases hn with hn | ⟨b, hb, h1, h2, h3⟩
      · exact absurd (List.eq_nil_of_length_eq_zero hn) e
      · injection hb with hb
        injection hb with hb
        subst hb
        exact .inr ⟨e, g, cap, rfl, h1, hc1, hc2, ⟨_, hh⟩, h3⟩
/-- The like, where no number is left the slice may be any. -/
def ResZ (w : World) (B : Nat) (v : Value) (zs : List Int) : Prop :=
  (zs = [] ∧ ∃ a c, v = .slice a 0 c) ∨ (zs ≠ [] ∧ ∃ g c, v = .slice (some ⟨g, 0, none⟩) zs.length c ∧ B ≤ g ∧ zs.length ≤ c ∧ c ≤ maxLen ∧ IntB w g ∧ Cells w g zs.length (zc zs))
theorem ResZ.on {w w' : World} {B : Nat} {v : Value} {zs : List Int} (h : ResZ w B v zs) (hb : Below w.heap.size w w') : ResZ w' B v zs := by
  rcases h with h | ⟨h0, g, c, h1, h2, h3, h4, h5, h6⟩
  · exact .inl h
  · exact .inr ⟨h0, g, c, h1, h2, h3, h4, h5.on hb, h6.on hb⟩
theorem ResZ.low {w : World} {B B' : Nat} {v : Value} {zs : List Int} (h : ResZ w B v zs) (hb : B' ≤ B) : ResZ w B' v zs := by
  rcases h with h | ⟨h0, g, c, h1, h2, h3⟩
  · exact .inl h
  · exact .inr ⟨h0, g, c, h1, Nat.le_trans hb h2, h3⟩
set_option maxHeartbeats 1600000 in
set_option maxRecDepth 100000 in
theorem elementsOf_any (set : Nat) (hset : set < 128) (w : World) (hT : Tab w) :
    Calls Tryz.prog 90 #[.int .i64 set] w fun e w' => ∃ v, e = .returned v ∧ ArgZ w' w.heap.size v (zl (eltN set)) ∧ Below w.heap.size w w' := by
  have HTAB := Lib.hid hT
  have HTZ := Lib.hid (fun (r : Nat) (h0 : 0 < r) (h1 : r < 128) W (hW : Tab W) => tz_any r h0 h1 W hW)
  have HST := Lib.hid elt_step
  have HLE := Lib.hid (elt_len set)
  obtain ⟨i0, hi, hz0, hz1, hz2⟩ := info_parts infoI
  have hcv : IntKind.u64.wrap (set : Int) = (set : Int) := by rw [IntKind.wrap_u64]; omega
  have HO0 : Hid (OwnsZ w w.heap.size (.slice none 0 0) (zl [])) := Lib.hid (World.ownsRow_nil _ _ _ _)
  clear hT
  go_enter Tryz.func90, Tryz.ntmps90
  go_wp2
  go_loopw [3, 4] (fun vv rv wr => ∃ (r : Nat) (L : List Nat), rv = .int .u64 r ∧ r < 128 ∧ Hid (L ++ eltN r = eltN set) ∧ Hid (OwnsZ wr w.heap.size vv (zl L)) ∧ Hid (L = [] → vv = .slice none 0 0) ∧ Hid (Below w.heap.size w wr)) (fun _ rv _ => (intOf rv).toNat)
  case atStart => exact ⟨set, [], rfl, hset, Lib.hid rfl, HO0, Lib.hid (fun _ => rfl), Lib.hid (Below.refl _ _)⟩
  case round =>
    obtain ⟨r, L, rfl, hr, HL, HO, HN, HB⟩ := hrel
    by_cases hz : r = 0
    · subst hz
      have HE : Hid (L = eltN set) := Lib.hid (by rw [← HL.out]; exact (List.append_nil L).symm)
      have HA : Hid (ArgZ wr w.heap.size _ (zl (eltN set))) := Lib.hid (ArgZ.of_own (by rw [← HE.out]; exact HO.out) (fun e => HN.out (by rw [HE.out]; exact zl_nil e)))
      clear HO HN HL
      go_wp2
      go_ret
      exact ⟨_, rfl, HA.out, HB.out⟩
    · obtain ⟨s1, s2, s3⟩ := HST.out r hr (by omega)
      have HC := Lib.hid (fun W hW => HTZ.out r (by omega) hr W hW)
      have HL2 : Hid ((L ++ [firstS r]) ++ eltN (r &&& (r - 1)) = eltN set) := Lib.hid (by rw [← HL.out, s1]; simp)
      have hll : L.length ≤ 7 := by have := HLE.out; rw [← HL.out, List.length_append] at this; omega
      obtain ⟨p, hp⟩ : ∃ p, p = r - 1 := ⟨_, rfl⟩
      have hp1 : IntKind.u64.wrap ((r : Int) - 1) = (p : Int) := by rw [IntKind.wrap_u64]; omega
      rw [← hp] at s2 s3 HL2
      have hnz : ((r : Int) != 0) = true := by simp; omega
      generalize r &&& p = q at s2 s3 HL2
      generalize firstS r = x at HC HL2
      have hzl : (zl L).length ≤ 7 := by rw [zl_length]; exact hll
      have hwr := HB.out.size
      clear s1 hp HL
      go_wp2_with fail
      refine (HC.out _ (HTAB.out.on HB.out)).mono ?_
      rintro e w' ⟨rfl, rfl⟩
      go_wp2_with (at_builtin; refine wpList_append_own _ rfl (.tmp 13) (.tmp 16) 27 rfl w.heap.size 3 i0 _ 1 8 Tryz.underlying27 hi hz0 hz1 hz2 rfl (by decide) _ _ _ rfl (World.ownsRow.alloc HO.out _) ⟨_, 0, none⟩ 1 1 [.int .i64 (x : Int)] rfl rfl (news1 _ _ _) (one1 _) (by simp only [maxLen]; omega) (by omega) (by simp; omega) ?_)
      intro v6 w6 hown6 hg6 _
      have HB6 := Lib.hid ((HB.out.alloc hwr (.cells #[.int .i64 (x : Int)] 3)).grown hg6 (by simp; omega) (fun k hk => (World.ownsRow.lt HO.out k hk).1))
      have HO6 : Hid (OwnsZ w6 w.heap.size v6 (zl (L ++ [x]))) := Lib.hid (by
        have := ownsZ_snoc (ys := [(x : Int)]) hown6
        unfold zl at this ⊢
        rw [List.map_append]; exact this)
      clear hown6 hg6
      go_wp2
      exact ⟨⟨q, L ++ [x], rfl, by omega, HL2, HO6, Lib.hid (fun e => absurd e (by simp)), HB6⟩, by simp only [intOf]; omega⟩
end Go.Proofs.YtinlnafkmoabbaaGreatDoor.Sg
/- slices.Clone, slices.IndexFunc and slices.DeleteFunc of ints, over whatever function that tells a Boolean and leaves memory as it was. -/
namespace Go.Proofs.YtinlnafkmoabbaaGreatDoor.Sg
open Go.RowKit Pt NewI
theorem getD_n {L : List Nat} {i : Nat} (h : i < L.length) : L.getD i 0 = L[i] := by rw [List.getD_eq_getElem?_getD, List.getElem?_eq_getElem h]; rfl
theorem take_n {L : List Nat} {i : Nat} (h : i < L.length) : L.take (i + 1) = L.take i ++ [L.getD i 0] := by
  rw [List.take_add_one, List.getElem?_eq_getElem h, getD_n h]; rfl
theorem zc_zl {L : List Nat} {j : Nat} (h : j < L.length) : zc (zl L) j = .int .i64 (L.getD j 0 : Nat) := by
  rw [zc_lt (by rw [zl_length]; exact h), getD_n h]
  simp [zl]
/-- Of the first j elements those of which q is false. -/
def keepQ (q : Nat → Bool) (L : List Nat) (j : Nat) : List Nat := (L.take j).filter fun x => !q x
theorem keepQ_yes {q : Nat → Bool} {L : List Nat} {j : Nat} (hj : j < L.length) (h : q (L.getD j 0) = true) : keepQ q L (j + 1) = keepQ q L j := by
  unfold keepQ; rw [take_n hj, List.filter_append, List.filter_cons_of_neg (by rw [h]; decide), List.filter_nil, List.append_nil]
/-- While elements are moved: the first ones are those that stay, those from j on are as they were. -/
structure Half (q : Nat → Bool) (L : List Nat) (m j : Nat) (f : Nat → Value) : Prop where
  len : (keepQ q L j).length = m
  lo : ∀ t, t < m → f t = .int .i64 ((keepQ q L j).getD t 0 : Nat)
  hi : ∀ t, j ≤ t → t < L.length → f t = .int .i64 (L.getD t 0 : Nat)
theorem Half.skip {q : Nat → Bool} {L : List Nat} {m j : Nat} {f : Nat → Value} (h : Half q L m j f) (hj : j < L.length) (hq : q (L.getD j 0) = true) : Half q L m (j + 1) f :=
  ⟨by rw [keepQ_yes hj hq]; exact h.len, by rw [keepQ_yes hj hq]; exact h.lo, fun t h1 h2 => h.hi t (by omega) h2⟩
theorem grown_refl (w : World) (row : Option Nat) : w.grownBy w row := ⟨rfl, rfl, rfl, Nat.le_refl _, fun _ _ _ => rfl⟩
end Go.Proofs.YtinlnafkmoabbaaGreatDoor.Sg
/- impl's insideTest: the function that it hands back, what that keeps in memory, and what it answers. -/
namespace Go.Proofs.YtinlnafkmoabbaaGreatDoor.Sg
open Go.RowKit Pt NewI
/-- Where a slice of threes lies, if it has any. -/
def Thr (gx : Option Nat) (W : World) (a : Option Addr) (xs : List T3) : Prop := xs ≠ [] → ∃ g, a = some ⟨g, 0, none⟩ ∧ g < W.heap.size ∧ some g ≠ gx ∧ At3 W g xs
theorem Thr.keep {gx : Option Nat} {W W' : World} {a : Option Addr} {xs : List T3} (h : Thr gx W a xs) (hg : W.grownBy W' gx) : Thr gx W' a xs := fun hne => by
  obtain ⟨g, h1, h2, h3, h4⟩ := h hne
  exact ⟨g, h1, Nat.lt_of_lt_of_le h2 hg.size, h3, h4.block (hg.block g h2 h3)⟩
/-- What insideTest's function keeps in memory: but for block gx all of it stays. -/
structure Test (gx : Option Nat) (W : World) (p5 p2 p3 b : Nat) (f : Int → Int → Int → Int) (L : List Nat) : Prop where
  thr : ∃ a c, W.cell? ⟨p5, 0, none⟩ = some (.slice a (threes L.length).length c) ∧ Thr gx W a (threes L.length)
  sig : W.cell? ⟨p2, 0, none⟩ = some (.map (some b))
  arg : L ≠ [] → ∃ g c, W.cell? ⟨p3, 0, none⟩ = some (.slice (some ⟨g, 0, none⟩) L.length c) ∧ some g ≠ gx ∧ Cells W g L.length (zc (zl L))
  map : MapIs W b f
  n5 : some p5 ≠ gx
  n2 : some p2 ≠ gx
  n3 : some p3 ≠ gx
  nb : some b ≠ gx
theorem mapIs_keep {W W' : World} {gx : Option Nat} {b : Nat} {f : Int → Int → Int → Int} (h : MapIs W b f) (hg : W.grownBy W' gx) (hn : some b ≠ gx) : MapIs W' b f := by
  obtain ⟨⟨m, D, h, ha⟩, hf⟩ := h
  exact ⟨⟨m, D, World.ownsMap.kept h hg hn, ha⟩, hf⟩
theorem cells_keep {W W' : World} {gx : Option Nat} {g n : Nat} {f : Nat → Value} (h : Cells W g n f) (hg : W.grownBy W' gx) (hn : some g ≠ gx) : Cells W' g n f := h.block (hg.block g h.lt hn) hg.size
theorem Test.keep {gx : Option Nat} {W W' : World} {p5 p2 p3 b : Nat} {f : Int → Int → Int → Int} {L : List Nat} (h : Test gx W p5 p2 p3 b f L) (hg : W.grownBy W' gx) : Test gx W' p5 p2 p3 b f L := by
  obtain ⟨⟨a, c, h1, h2⟩, h3, h4, h5, n5, n2, n3, nb⟩ := h
  refine ⟨⟨a, c, hg.cell h1 n5, h2.keep hg⟩, hg.cell h3 n2, fun hne => ?_, mapIs_keep h5 hg nb, n5, n2, n3, nb⟩
  obtain ⟨g, c, k1, k2, k3⟩ := h4 hne
  exact ⟨g, c, hg.cell k1 n3, k2, cells_keep k3 hg k2⟩
theorem grown_of {w w' : World} (hb : Below w.heap.size w w') (gx : Option Nat) : w.grownBy w' gx := ⟨hb.os, hb.tape, hb.output, hb.size, fun i hi _ => hb.block i hi⟩
theorem Test.on {gx : Option Nat} {W W' : World} {p5 p2 p3 b : Nat} {f : Int → Int → Int → Int} {L : List Nat} (h : Test gx W p5 p2 p3 b f L) (hb : Below W.heap.size W W') : Test gx W' p5 p2 p3 b f L := h.keep (grown_of hb gx)
end Go.Proofs.YtinlnafkmoabbaaGreatDoor.Sg
/- impl's extremeAmong and orderOf. -/
namespace Go.Proofs.YtinlnafkmoabbaaGreatDoor.Sg
open Go.RowKit Pt NewI
/-- The elements of order signs; none of others. -/
def elsN (n : Int) (s : List UInt8) : List Nat := if aciB n s = true then eltN (2 ^ n.toNat - 1) else []
theorem elsN_no {n : Int} {s : List UInt8} (h : aciB n s = false) : elsN n s = [] := by unfold elsN; rw [h]; rfl
theorem elsN_yes {n : Nat} {s : List UInt8} (h : aciB n s = true) : elsN n s = eltN (2 ^ n - 1) := by unfold elsN; rw [if_pos h, Int.toNat_natCast]
set_option maxHeartbeats 1600000 in
set_option maxRecDepth 100000 in
theorem orderOf_any (n : Int) (s : ByteArray) (hs : s.size ≤ 9223372036854775807) (w : World) (hT : Tab w) :
    Calls Tryz.prog 97 #[sg n s] w fun e w' => ∃ b v, e = .returned (.tuple #[.map (some b), v]) ∧ MapIs w' b (ordF n s.data.toList) ∧ ArgZ w' w.heap.size v (zl (elsN n s.data.toList)) ∧ Below w.heap.size w w' := by
  have HO := Lib.hid (fun W => implOrd n s hs W)
  have HS := Lib.hid (box_made w n s 25)
  have HTAB := Lib.hid hT
  clear hT
  cases h : aciB n s.data.toList
  · have HE := Lib.hid (elsN_no h)
    rw [h] at HO
    clear h
    go_enter Tryz.func97, Tryz.ntmps97
    go_wp2_with fail
    refine (HO.out _).mono ?_
    rintro e w1 ⟨b, rfl, hm, hb1⟩
    have B1 := Lib.hid (HS.out.on hb1).2.2
    have HM := Lib.hid hm.is
    obtain ⟨⟨m, D, hown, hz, -⟩, -⟩ := hm
    have hz : ((Maps.size D : Int) == 0) = true := hz
    have HW := Lib.hid hown
    clear hown hb1
    go_wp2_with (at_len; refine wpList_len_own _ rfl _ 73 rfl 99 3 Tryz.underlying73 _ b m D rfl HW.out ?_)
    exact bodyPost_ret (v := .tuple #[.map (some b), .slice none 0 0]) (by simp [results, Tryz.results97, go_sem]) rfl ⟨b, _, rfl, HM.out, .inl ⟨by rw [HE.out]; rfl, rfl⟩, B1.out⟩
  · obtain ⟨h3, h7⟩ := aciB_n h
    obtain ⟨m, rfl⟩ : ∃ m : Nat, n = m := ⟨n.toNat, by omega⟩
    have h7 : m ≤ 7 := by omega
    obtain ⟨M, hM⟩ := allS_of (m := m) (by omega) (by omega)
    obtain ⟨⟨hM8, hMl⟩, v2, hMe, hMc⟩ := hM
    have hp7 := pow_le7 h7
    have hpos := Nat.pow_pos (n := m) (show 0 < 2 by omega)
    have HE : Hid (elsN m s.data.toList = eltN (M - 1)) := Lib.hid (by rw [elsN_yes h, hMe])
    have HEL := Lib.hid (fun W hW => elementsOf_any (M - 1) (by omega) W hW)
    rw [hMc] at HEL
    have v3 : IntKind.i64.wrap ((M : Int) - 1) = (M : Int) - 1 := IntWalk.i64_in _ (by omega)
    rw [h] at HO
    clear h hMe hMc hp7 hpos
    go_enter Tryz.func97, Tryz.ntmps97
    go_wp2_with fail
    refine (HO.out _).mono ?_
    rintro e w1 ⟨b, rfl, hm, hb1⟩
    have X1 := Lib.hid (HS.out.on hb1)
    obtain ⟨c0, c1, -⟩ := X1.out
    have HM := Lib.hid hm.is
    obtain ⟨⟨q, D, hown, hz, -⟩, -⟩ := hm
    have hz : ((Maps.size D : Int) == 0) = false := hz
    have HW := Lib.hid hown
    clear hown hb1
    go_wp2_with (at_len; refine wpList_len_own _ rfl _ 73 rfl 99 3 Tryz.underlying73 _ b q D rfl HW.out ?_)
    refine (HEL.out _ (HTAB.out.on X1.out.2.2)).mono ?_
    rintro e w2 ⟨v, rfl, hv, hb2⟩
    have B2 := Lib.hid (X1.out.2.2.trans (hb2.mono X1.out.2.2.size))
    have HM2 := Lib.hid (HM.out.on hb2)
    have HV : Hid (ArgZ w2 w.heap.size v (zl (elsN m s.data.toList))) := Lib.hid (by rw [HE.out]; exact hv.low X1.out.2.2.size)
    clear hv hb2 c0 c1 hz HW
    go_wp2
    exact bodyPost_ret (v := .tuple #[.map (some b), v]) (by simp [results, Tryz.results97, go_sem]) rfl ⟨b, v, rfl, HM2.out, HV.out, B2.out⟩
end Go.Proofs.YtinlnafkmoabbaaGreatDoor.Sg
