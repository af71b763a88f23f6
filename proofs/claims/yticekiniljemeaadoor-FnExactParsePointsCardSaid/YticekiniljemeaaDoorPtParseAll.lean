/- ParsePoints, as impl and spec answer. -/
import Derived.Test.YticekiniljemeaaDoorPtParse
namespace Go.Proofs.YticekiniljemeaaDoor.PtParse
open Go.RowKit Pt
theorem cells_own {w : World} {B : Nat} {v : Value} {xs : List P2} (h : Owns w B v xs) (h0 : 0 < xs.length) : ∃ g c, v = .slice (some ⟨g, 0, none⟩) xs.length c ∧ B ≤ g ∧ Cells w g (xs.length * 2) (ptCell xs) := by
  obtain ⟨a, c, rfl, hn⟩ := New.of_own h
  rcases hn with hn | ⟨b, rfl, h1, h2, h3⟩
  · omega
  · exact ⟨b, c, rfl, h1, h3⟩
theorem pair_news' (w : World) (x y : Int) (t : TypeId) (B : Nat) (hB : w.heap.size = B) : ∀ (j : Nat) u, [Value.int .i64 x, Value.int .i64 y][j]? = some u → (w.alloc (.cells #[.int .i64 x, .int .i64 y] t)).cell? (Addr.add ⟨B, 0, none⟩ j) = some u := by
  subst hB; exact pair_news w x y t
theorem ptOf_none {t : ByteArray} (h : readP t = none) : ptOf (readP t) = .tuple #[.agg #[.int .i64 0, .int .i64 0], .bool false] := by rw [h]; rfl
theorem ptOf_some {t : ByteArray} {p : P2} (h : readP t = some p) : ptOf (readP t) = .tuple #[.agg #[.int .i64 p.1, .int .i64 p.2], .bool true] := by rw [h]; rfl
theorem owns_mono {w : World} {B B' : Nat} {v : Value} {xs : List P2} (h : Owns w B v xs) (hB : B' ≤ B) : Owns w B' v xs := World.ownsRow.mono h hB
theorem owns_str {w : World} {B b n c : Nat} {xs : List ByteArray} (h : Split.Owns w B (.slice (some ⟨b, 0, none⟩) n c) xs) {k : Nat} (hk : k < xs.length) : w.cell? ⟨b, k, none⟩ = some (.string xs[k]) := by
  have hc := World.ownsRow.cells h (g := b) rfl k (.string xs[k]) (by rw [List.getElem?_map, List.getElem?_eq_getElem hk]; rfl)
  rwa [WideShapes.add_plain, Nat.zero_add] at hc
theorem splitOwns_on {w w' : World} {B : Nat} {v : Value} {xs : List ByteArray} (h : Split.Owns w B v xs) (hb : Below w.heap.size w w') : Split.Owns w' B v xs :=
  World.ownsRow.kept h (row := none) ⟨hb.os, hb.tape, hb.output, hb.size, fun k hk _ => hb.block k hk⟩ (by cases v.ownBlock <;> simp)
theorem own_ne {w : World} {B B' b n c m : Nat} {v : Value} {l : List P2} {xs : List Value} (h : Owns w B v l) (h2 : w.ownsRow B' 9 1 (.slice (some ⟨b, 0, none⟩) n c) m xs) : (Value.slice (some ⟨b, 0, none⟩) n c).ownBlock ≠ v.ownBlock := by
  rcases h.2 with ⟨rfl, -⟩ | ⟨g, cap, cur, rfl, -, hh, -⟩
  · simp [Value.ownBlock]
  · rcases h2.2 with ⟨hv, -⟩ | ⟨g', cap', cur', hv, -, hh', -⟩
    · cases hv
    · injection hv with h1
      injection h1 with h1
      injection h1 with h1
      subst h1
      intro e
      have e2 : b = g := by simpa [Value.ownBlock] using e
      subst e2
      rw [hh] at hh'
      injection hh' with hh'
      injection hh' with _ ht
      exact absurd ht (by decide)
theorem owns_nil (w : World) (B : Nat) : Owns w B (.slice none 0 0) [] := World.ownsRow_nil w B _ 2

set_option maxHeartbeats 1600000 in
set_option maxRecDepth 100000 in
theorem implParse (s : ByteArray) (hs : s.size ≤ 1048576) (w : World) (a1 a2 a3 : Addr) (tp : TypeId) (mm : Int) (HE : Hid (Env a1 a2 a3 tp mm w)) (xs : List ByteArray) (hxs : xs = Split.pieces 32 s.data.toList) :
    Calls Tryd.prog 11 #[.string s] w fun e w' => Got w.heap.size (parseR xs) (parseB xs) e w' ∧ Below w.heap.size w w' := by
  obtain ⟨i0, hi, hz0, hz1, hz2⟩ := info_parts infoPt
  have hpos : 0 < xs.length := by rw [hxs]; exact Split.pieces_pos _ _
  have hle : xs.length ≤ 1048577 := by
    rw [hxs]
    have h1 := Split.pieces_le 32 s.data.toList
    have h2 : s.data.toList.length = s.size := by simp
    omega
  have HSZ : Hid (∀ t ∈ xs, t.size ≤ 1048576) := Lib.hid (fun t ht => by rw [hxs] at ht; exact Nat.le_trans (pieces_size 32 s t ht) hs)
  have HS : Hid (Calls Tryd.prog 24 #[.string s, .int .u8 32] w fun e w' => ∃ g, e = .returned (.slice (some ⟨g, 0, none⟩) xs.length xs.length) ∧ w.heap.size ≤ g ∧ w'.rowIs g 9 xs.length (Strs.strAt xs) ∧ Below w.heap.size w w') :=
    Lib.hid (by rw [hxs]; exact Split.impl_any s 32 hs w mm HE.out.max (lt_of_cell HE.out.max))
  have HP : Hid (∀ (t : ByteArray) (W : World), t.size ≤ 1048576 → Below w.heap.size w W → Calls Tryd.prog 25 #[.string t] W fun e w' => e = .returned (ptOf (readP t)) ∧ Below W.heap.size W w') :=
    Lib.hid (fun t W ht hW => parsePoint_any t ht W a1 a2 a3 tp mm (Lib.hid (HE.out.on hW)))
  clear hxs HE
  go_enter Tryd.func11, Tryd.ntmps11
  go_wp2_with fail
  refine HS.out.mono ?_
  rintro e w1 ⟨b, rfl, hb1, hr1, B1⟩
  have HR1 := Lib.hid hr1
  have hbl := hr1.lt
  clear hr1
  go_wp2
  go_loopw [4, 12] (fun vv i wr => ∃ (k : Nat) (v : Value) (l : List P2), k ≤ xs.length ∧ i = .int .i64 k ∧ vv = v ∧ Hid (readK xs k = some l) ∧ l.length ≤ 1048577 ∧ Hid (Owns wr w1.heap.size v l) ∧ Below w1.heap.size w1 wr) (fun _ i _ => xs.length - (intOf i).toNat)
  case atStart => exact ⟨0, _, [], Nat.zero_le _, rfl, rfl, Lib.hid rfl, by simp, Lib.hid (owns_nil _ _), Below.refl _ _⟩
  case round =>
    obtain ⟨k, v, l, hk, rfl, rfl, HK, hll, HO, hb⟩ := hrel
    have hBB := B1.trans (hb.mono B1.size)
    by_cases hlt : k < xs.length
    · have ht? := List.getElem?_eq_getElem hlt
      have hts := HSZ.out _ (List.getElem_mem hlt)
      have hcell := (HR1.out.of_block (hb.block b hbl)).cell hlt
      rw [Strs.strAt_lt xs k hlt] at hcell
      generalize xs[k] = t at ht? hts hcell
      cases hp : readP t with
      | none =>
        have HC := Lib.hid (HP.out t wr hts hBB)
        rw [ptOf_none hp] at HC
        have HE := Lib.hid (parse_stop ht? hp)
        clear ht? hp
        go_wp2_with fail
        refine HC.out.mono ?_
        rintro e w2 ⟨rfl, hb2⟩
        have B2 := hBB.trans (hb2.mono hBB.size)
        go_wp2
        go_ret2
        exact ⟨by rw [HE.out.1, HE.out.2]; exact Got.none_, by go_grown; exact B2.size⟩
      | some p =>
        have HC := Lib.hid (HP.out t wr hts hBB)
        rw [ptOf_some hp] at HC
        have HK2 := Lib.hid (readK_step HK.out ht? hp)
        have HL : Hid ((l ++ [(p.1, p.2)]).length ≤ 1048577) := Lib.hid (by have := readK_length _ _ _ HK2.out; rw [this]; omega)
        clear ht? hp
        go_wp2_with fail
        refine HC.out.mono ?_
        rintro e w2 ⟨rfl, hb2⟩
        have hbw2 := hb.trans (hb2.mono hb.size)
        have B2 := hBB.trans (hb2.mono hBB.size)
        have HO2 := Lib.hid (owns_alloc (owns_alloc (owns_on HO.out hb2) (.cells #[.int .i64 p.1, .int .i64 p.2] 37)) (.cells #[.int .i64 p.1, .int .i64 p.2] 37))
        go_wp2_with (at_builtin; refine wpList_append_own _ rfl (.tmp 23) (.tmp 25) 25 rfl w1.heap.size 37 i0 _ 2 16 Tryd.underlying25 hi hz0 hz1 hz2 rfl (by decide) _ _ _ rfl HO2.out ⟨w2.heap.size + 1, 0, none⟩ 1 1 [.int .i64 p.1, .int .i64 p.2] rfl rfl (pair_news' _ _ _ _ _ (by simp)) (pair_one _ _) (by simp only [maxLen]; omega) (by omega) (by have := hbw2.size; simp; omega) ?_)
        intro v3 w3 hown3 hg3 _
        have hbx := (hbw2.alloc hbw2.size (.cells #[.int .i64 p.1, .int .i64 p.2] 37))
        have hb3 := (hbx.alloc hbx.size (.cells #[.int .i64 p.1, .int .i64 p.2] 37)).grown hg3 (by have := hbw2.size; simp; omega) (fun q hq => (World.ownsRow.lt HO2.out q hq).1)
        have HO3 := Lib.hid (owns_snoc hown3)
        clear hown3 hbx
        go_wp2
        exact ⟨⟨k + 1, _, l ++ [(p.1, p.2)], by omega, by go_num, rfl, HK2, HL.out, HO3, hb3⟩, by simp only [intOf]; omega⟩
    · have e : k = xs.length := by omega
      have hlen : l.length = xs.length := by rw [readK_length _ _ _ HK.out, e]
      have HKE : Hid (readK xs xs.length = some l) := Lib.hid (by rw [← e]; exact HK.out)
      obtain ⟨g, cg, hv, hg, hcl⟩ := cells_own HO.out (by omega)
      subst hv
      have HA := Lib.hid (implAre g 0 cg l (by omega) wr hcl.atP hcl.lt)
      clear e hlen hcl hg
      cases ho : okB l
      · have HF := Lib.hid (parse_bad HKE.out ho)
        rw [ho] at HA
        clear ho
        go_wp2_with fail
        refine HA.out.mono ?_
        rintro e w2 ⟨rfl, hb2⟩
        have B2 := hBB.trans (hb2.mono hBB.size)
        go_wp2
        go_ret2
        exact ⟨by rw [HF.out.1, HF.out.2]; exact Got.none_, B2⟩
      · have HF := Lib.hid (parse_good HKE.out ho)
        rw [ho] at HA
        clear ho
        go_wp2_with fail
        refine HA.out.mono ?_
        rintro e w2 ⟨rfl, hb2⟩
        have B2 := hBB.trans (hb2.mono hBB.size)
        have HN := Lib.hid (New.of_own (owns_mono (owns_on HO.out hb2) B1.size))
        go_wp2
        go_ret2
        exact ⟨by
          obtain ⟨a', c', hv, hn⟩ := HN.out
          injection hv with h1 h2 h3
          subst h1 h3
          rw [HF.out.1, HF.out.2]
          exact ⟨_, _, rfl, hn⟩, B2⟩

set_option maxHeartbeats 1600000 in
set_option maxRecDepth 100000 in
theorem specParse (s : ByteArray) (hs : s.size ≤ 1048576) (w : World) (xs : List ByteArray) (hxs : xs = Split.pieces 32 s.data.toList) :
    Calls Tryd.prog 10 #[.string s] w fun e w' => Got w.heap.size (parseR xs) (parseB xs) e w' ∧ Below w.heap.size w w' := by
  obtain ⟨i0, hi, hz0, hz1, hz2⟩ := info_parts infoPt
  have hpos : 0 < xs.length := by rw [hxs]; exact Split.pieces_pos _ _
  have hle : xs.length ≤ 1048577 := by
    rw [hxs]
    have h1 := Split.pieces_le 32 s.data.toList
    have h2 : s.data.toList.length = s.size := by simp
    omega
  have HSZ : Hid (∀ t ∈ xs, t.size ≤ 1048576) := Lib.hid (fun t ht => by rw [hxs] at ht; exact Nat.le_trans (pieces_size 32 s t ht) hs)
  have HS : Hid (∀ W, Calls Tryd.prog 22 #[.string s, .int .u8 32] W fun e w' => ∃ v, e = .returned v ∧ Split.Owns w' W.heap.size v xs ∧ Below W.heap.size W w') :=
    Lib.hid (fun W => by rw [hxs]; exact Split.spec_any s 32 hs W)
  have hown0 : Owns (w.alloc (.cells #[] 37)) w.heap.size (.slice (some ⟨w.heap.size, 0, none⟩) 0 0) [] := World.ownsRow_made w #[] 0 (Nat.le_refl _) (by decide) rfl
  have HO0 := Lib.hid hown0
  have B0 := (Below.refl w.heap.size w).alloc (Nat.le_refl _) (.cells #[] 37)
  clear hxs hown0
  go_enter Tryd.func10, Tryd.ntmps10
  go_wp2_with fail
  refine (HS.out _).mono ?_
  rintro e w1 ⟨v1, rfl, hown1, hb1⟩
  have B1 := B0.trans (hb1.mono B0.size)
  have HO1 := Lib.hid (owns_on HO0.out hb1)
  obtain ⟨b, cb, rfl, -, hbl, hat⟩ := Split.owns_row hown1 hpos
  have HS1 : Hid (Split.Owns w1 w.heap.size (.slice (some ⟨b, 0, none⟩) xs.length cb) xs) := Lib.hid (World.ownsRow.mono hown1 B0.size)
  have HSP : Hid (∀ (t : ByteArray) (W : World), t.size ≤ 1048576 → Calls Tryd.prog 22 #[.string t, .int .u8 44] W fun e w' => ∃ v, e = .returned v ∧ Split.Owns w' W.heap.size v (Split.pieces 44 t.data.toList) ∧ Below W.heap.size W w') := Lib.hid (fun t W ht => Split.spec_any t 44 ht W)
  clear hown1 hat hb1 B0
  go_wp2
  go_loopw [4, 6] (fun vv i wr => ∃ (k : Nat) (v : Value) (l : List P2), k ≤ xs.length ∧ i = .int .i64 k ∧ vv = v ∧ Hid (readK xs k = some l) ∧ l.length ≤ 1048577 ∧ Hid (Owns wr w.heap.size v l) ∧ Hid (Split.Owns wr w.heap.size (.slice (some ⟨b, 0, none⟩) xs.length cb) xs) ∧ Below w.heap.size w wr) (fun _ i _ => xs.length - (intOf i).toNat)
  case atStart => exact ⟨0, _, [], Nat.zero_le _, rfl, rfl, Lib.hid rfl, by simp, HO1, HS1, B1⟩
  case round =>
    obtain ⟨k, v, l, hk, rfl, rfl, HK, hll, HO, HX, hb⟩ := hrel
    by_cases hlt : k < xs.length
    · have ht? := List.getElem?_eq_getElem hlt
      have hts := HSZ.out _ (List.getElem_mem hlt)
      have hcell := owns_str HX.out hlt
      generalize xs[k] = t at ht? hts hcell
      by_cases hl2 : (Split.pieces 44 t.data.toList).length = 2
      · obtain ⟨c, d, hp⟩ := two_of hl2
        obtain ⟨hsa, hsb⟩ := size_head hp
        have HSC : Hid (∀ W, Calls Tryd.prog 22 #[.string t, .int .u8 44] W fun e w' => ∃ v, e = .returned v ∧ Split.Owns w' W.heap.size v [c, d] ∧ Below W.heap.size W w') := Lib.hid (fun W => by rw [← hp]; exact HSP.out t W hts)
        obtain ⟨x, hx⟩ : ∃ x, x = (Num.readS c.data.toList 12).getD 0 := ⟨_, rfl⟩
        obtain ⟨y, hy⟩ : ∃ y, y = (Num.readS d.data.toList 12).getD 0 := ⟨_, rfl⟩
        obtain ⟨p, hpp⟩ : ∃ p, p = (Num.readS c.data.toList 12).isSome := ⟨_, rfl⟩
        obtain ⟨q, hqq⟩ : ∃ q, q = (Num.readS d.data.toList 12).isSome := ⟨_, rfl⟩
        have HPA : Hid (∀ W, Calls Tryd.prog 23 #[.string c] W fun e w' => e = .returned (.tuple #[.int .i64 x, .bool p]) ∧ Below W.heap.size W w') :=
          Lib.hid (fun W => by rw [hx, hpp, ← pair_eq]; exact ParseInt.specInt c (by omega) W)
        have HPB : Hid (∀ W, Calls Tryd.prog 23 #[.string d] W fun e w' => e = .returned (.tuple #[.int .i64 y, .bool q]) ∧ Below W.heap.size W w') :=
          Lib.hid (fun W => by rw [hy, hqq, ← pair_eq]; exact ParseInt.specInt d (by omega) W)
        have HR : Hid (readP t = if p = true ∧ q = true then some (x, y) else none) := Lib.hid (by
          cases h1 : Num.readS c.data.toList 12 with
          | none => rw [readP_none1 hp h1, hpp, h1]; rfl
          | some x' =>
            cases h2 : Num.readS d.data.toList 12 with
            | none => rw [readP_none2 hp h2, hqq, h2]; simp
            | some y' => rw [readP_some hp h1 h2, hpp, hqq, hx, hy, h1, h2]; rfl)
        clear hx hy hpp hqq hp hl2 hsa hsb
        by_cases hpq : p = true ∧ q = true
        · obtain ⟨rfl, rfl⟩ := hpq
          have hrp : readP t = some (x, y) := by rw [HR.out]; rfl
          have HK2 := Lib.hid (readK_step HK.out ht? hrp)
          have HL : Hid ((l ++ [(x, y)]).length ≤ 1048577) := Lib.hid (by have := readK_length _ _ _ HK2.out; rw [this]; omega)
          clear ht? hrp HR
          go_wp2_with fail
          refine (HSC.out _).mono ?_
          rintro e w2 ⟨v2, rfl, hown2, hb2⟩
          have B2 := hb.trans (hb2.mono hb.size)
          obtain ⟨g, cg, rfl, -, hgl, hat2⟩ := Split.owns_row hown2 (by simp)
          have s0 : w2.cell? ⟨g, 0, none⟩ = some (.string c) := by have := hat2 0 c rfl; simpa using this
          have s1 : w2.cell? ⟨g, 1, none⟩ = some (.string d) := by have := hat2 1 d rfl; simpa using this
          have HO2 := Lib.hid (owns_on HO.out hb2)
          have HX2 := Lib.hid (splitOwns_on HX.out hb2)
          clear hown2 hat2 hb
          go_wp2_with fail
          refine (HPA.out _).mono ?_
          rintro e w3 ⟨rfl, hb3⟩
          have B3 := B2.trans (hb3.mono B2.size)
          have s13 : w3.cell? ⟨g, 1, none⟩ = some (.string d) := by rw [hb3.cell hgl]; exact s1
          have HO3 := Lib.hid (owns_on HO2.out hb3)
          have HX3 := Lib.hid (splitOwns_on HX2.out hb3)
          clear s0 s1
          go_wp2_with fail
          refine (HPB.out _).mono ?_
          rintro e w4 ⟨rfl, hb4⟩
          have B4 := B3.trans (hb4.mono B3.size)
          have HO4 := Lib.hid (owns_alloc (owns_on HO3.out hb4) (.cells #[.int .i64 x, .int .i64 y] 37))
          have HX4 := Lib.hid (World.ownsRow.alloc (splitOwns_on HX3.out hb4) (.cells #[.int .i64 x, .int .i64 y] 37))
          have B4a := B4.alloc B4.size (.cells #[.int .i64 x, .int .i64 y] 37)
          clear s13
          go_wp2_with (at_builtin; refine wpList_append_own _ rfl (.tmp 51) (.tmp 55) 25 rfl w.heap.size 37 i0 _ 2 16 Tryd.underlying25 hi hz0 hz1 hz2 rfl (by decide) _ _ _ rfl HO4.out ⟨w4.heap.size, 0, none⟩ 1 1 [.int .i64 x, .int .i64 y] rfl rfl (pair_news _ _ _ _) (pair_one _ _) (by simp only [maxLen]; omega) (by omega) B4a.size ?_)
          intro v5 w5 hown5 hg5 _
          have hb5 := B4a.grown hg5 B4a.size (fun q hq => (World.ownsRow.lt HO4.out q hq).1)
          have HX5 := Lib.hid (World.ownsRow.kept HX4.out hg5 (.inr (own_ne HO4.out HX4.out)))
          have HO5 := Lib.hid (owns_snoc hown5)
          clear hown5 hg5 B4a
          go_wp2
          exact ⟨⟨k + 1, _, l ++ [(x, y)], by omega, by go_num, rfl, HK2, HL.out, HO5, HX5, hb5⟩, by simp only [intOf]; omega⟩
        · have hrp : readP t = none := by rw [HR.out, if_neg hpq]
          have HE := Lib.hid (parse_stop ht? hrp)
          clear ht? hrp HR
          cases p
          all_goals cases q
          all_goals try exact absurd ⟨rfl, rfl⟩ hpq
          all_goals
            go_wp2_with fail
            refine (HSC.out _).mono ?_
            rintro e w2 ⟨v2, rfl, hown2, hb2⟩
            have B2 := hb.trans (hb2.mono hb.size)
            obtain ⟨g, cg, rfl, -, hgl, hat2⟩ := Split.owns_row hown2 (by simp)
            have s0 : w2.cell? ⟨g, 0, none⟩ = some (.string c) := by have := hat2 0 c rfl; simpa using this
            have s1 : w2.cell? ⟨g, 1, none⟩ = some (.string d) := by have := hat2 1 d rfl; simpa using this
            clear hown2 hat2 hb
            go_wp2_with fail
            refine (HPA.out _).mono ?_
            rintro e w3 ⟨rfl, hb3⟩
            have B3 := B2.trans (hb3.mono B2.size)
            have s13 : w3.cell? ⟨g, 1, none⟩ = some (.string d) := by rw [hb3.cell hgl]; exact s1
            clear s0 s1
            go_wp2_with fail
            refine (HPB.out _).mono ?_
            rintro e w4 ⟨rfl, hb4⟩
            have B4 := B3.trans (hb4.mono B3.size)
            clear s13
            go_wp2
            go_ret2
            exact ⟨by rw [HE.out.1, HE.out.2]; exact Got.none_, by go_grown; exact B4.size⟩
      · have HE := Lib.hid (parse_stop ht? (readP_len hl2))
        have HSC := Lib.hid (HSP.out t wr hts)
        have hpos2 := Split.pieces_pos 44 t.data.toList
        generalize Split.pieces 44 t.data.toList = ps at hl2 HSC hpos2
        have hne : ((ps.length : Int) != 2) = true := by simp; omega
        clear ht?
        go_wp2_with fail
        refine HSC.out.mono ?_
        rintro e w2 ⟨v2, rfl, hown2, hb2⟩
        have B2 := hb.trans (hb2.mono hb.size)
        obtain ⟨g, cg, rfl, -, -, -⟩ := Split.owns_row hown2 hpos2
        clear hown2
        go_wp2
        go_ret2
        exact ⟨by rw [HE.out.1, HE.out.2]; exact Got.none_, by go_grown; exact B2.size⟩
    · have e : k = xs.length := by omega
      have hlen : l.length = xs.length := by rw [readK_length _ _ _ HK.out, e]
      have HKE : Hid (readK xs xs.length = some l) := Lib.hid (by rw [← e]; exact HK.out)
      obtain ⟨g, cg, hv, hg, hcl⟩ := cells_own HO.out (by omega)
      subst hv
      have HA := Lib.hid (specAre g 0 cg l (by omega) wr hcl.atP hcl.lt)
      clear e hlen hcl hg
      cases ho : okB l
      · have HF := Lib.hid (parse_bad HKE.out ho)
        rw [ho] at HA
        clear ho
        go_wp2_with fail
        refine HA.out.mono ?_
        rintro e w2 ⟨rfl, hb2⟩
        have B2 := hb.trans (hb2.mono hb.size)
        go_wp2
        go_ret2
        exact ⟨by rw [HF.out.1, HF.out.2]; exact Got.none_, by go_grown; exact B2.size⟩
      · have HF := Lib.hid (parse_good HKE.out ho)
        rw [ho] at HA
        clear ho
        go_wp2_with fail
        refine HA.out.mono ?_
        rintro e w2 ⟨rfl, hb2⟩
        have B2 := hb.trans (hb2.mono hb.size)
        have HN := Lib.hid (New.of_own (owns_on HO.out hb2))
        go_wp2
        go_ret2
        exact ⟨by
          obtain ⟨a', c', hv, hn⟩ := HN.out
          injection hv with h1 h2 h3
          subst h1 h3
          rw [HF.out.1, HF.out.2]
          exact ⟨_, _, rfl, hn⟩, B2⟩
end Go.Proofs.YticekiniljemeaaDoor.PtParse
