/- Several texts in one: WiParse, WiSwaps, RuMath, RuFours. -/
import Derived.Test.YtfpbehnpaedpmaaDoorMgN
import Derived.Test.YtfpbehnpaedpmaaDoorMgWc
import Derived.Test.YtfpbehnpaedpmaaDoorMgPa
import Derived.Test.YtfpbehnpaedpmaaDoorMgSb
import Derived.BigQuiet
/- Wirings, as spec tells them: ParseWiring. -/
namespace Go.Proofs.YtfpbehnpaedpmaaDoor.Sg
open Go.RowKit Pt NewI Wi
set_option maxRecDepth 100000 in
theorem specIntW (s : ByteArray) (hs : s.size ≤ 1048576) (w : World) :
    Calls Tryd.prog 53 #[.string s] w fun e w' => e = .returned (Read.pair (Num.readS s.data.toList 12)) ∧ Below w.heap.size w w' := by
  have hc := Read.l1Read_any s 12 (by omega) hs w
  revert hc
  cases Num.readS s.data.toList 12 with
  | some n =>
    intro hc
    unfold Read.pair at hc
    have HC := Lib.hid hc
    clear hc
    go_enter Tryd.func53, Tryd.ntmps53
    go_wp2_with fail
    refine HC.out.mono ?_
    rintro e w1 ⟨rfl, hb⟩
    go_wp2
    go_ret2
    exact ⟨rfl, hb⟩
  | none =>
    intro hc
    unfold Read.pair at hc
    have HC := Lib.hid hc
    clear hc
    go_enter Tryd.func53, Tryd.ntmps53
    go_wp2_with fail
    refine HC.out.mono ?_
    rintro e w1 ⟨rfl, hb⟩
    go_wp2
    go_ret2
    exact ⟨rfl, hb⟩
/-- The numbers of a text's bytes. -/
def dgs (s : ByteArray) : List Int := s.data.toList.map fun b => ((b.toNat : Nat) : Int) - 48
/-- What ParseWiring answers. -/
def wpZ (s : ByteArray) : Option (Int × List Int) :=
  if (Split.pieces 58 s.data.toList).length = 2 then
    match Num.readS ((Split.pieces 58 s.data.toList).getD 0 ⟨#[]⟩).data.toList 12 with
    | some n => if wiB n (dgs ((Split.pieces 58 s.data.toList).getD 1 ⟨#[]⟩)) = true then some (n, dgs ((Split.pieces 58 s.data.toList).getD 1 ⟨#[]⟩)) else none
    | none => none
  else none
def parV (r : Option (Int × List Int)) : Int × List Int × Bool := match r with
  | some (n, zs) => (n, zs, true)
  | none => (0, [], false)
def Got3 (B : Nat) (r : Int × List Int × Bool) (e : Ending) (w' : World) : Prop := ∃ a c, e = .returned (.tuple #[.int .i64 r.1, .slice a r.2.1.length c, .bool r.2.2]) ∧ New w' B w'.heap.size a r.2.1.length (zc r.2.1)
theorem wp_read {n : Int} {zs : List Int} (h : wiB n zs = true) : wpZ (wtZ n zs) = some (n, zs) := by
  obtain ⟨h1, h2, h3⟩ := wt_pieces h
  unfold wpZ
  rw [h1]
  have e : dgs ⟨(zs.map dgU).toArray⟩ = zs := back_digits h3
  show (if 2 = 2 then (match Num.readS [dgU n] 12 with
    | some n => if wiB n (dgs ⟨(zs.map dgU).toArray⟩) = true then some (n, dgs ⟨(zs.map dgU).toArray⟩) else none
    | none => none) else none) = _
  rw [h2, e, if_pos rfl]
  show (if wiB n zs = true then some (n, zs) else none) = _
  rw [if_pos h]
theorem strW {w : World} {B b n c : Nat} {xs : List ByteArray} (h : Split.Owns w B (.slice (some ⟨b, 0, none⟩) n c) xs) {k : Nat} (hk : k < xs.length) : w.cell? ⟨b, k, none⟩ = some (.string (xs.getD k ⟨#[]⟩)) := by
  have hc := World.ownsRow.cells h (g := b) rfl k (.string xs[k]) (by rw [List.getElem?_map, List.getElem?_eq_getElem hk]; rfl)
  rw [WideShapes.add_plain, Nat.zero_add] at hc
  rw [hc, List.getD_eq_getElem?_getD, List.getElem?_eq_getElem hk]; rfl
theorem ownsW_on {w w' : World} {B : Nat} {v : Value} {xs : List ByteArray} (h : Split.Owns w B v xs) (hb : Below w.heap.size w w') : Split.Owns w' B v xs :=
  World.ownsRow.kept h (row := none) ⟨hb.os, hb.tape, hb.output, hb.size, fun k hk _ => hb.block k hk⟩ (by cases v.ownBlock <;> simp)
theorem dgs_len (s : ByteArray) : (dgs s).length = s.size := by unfold dgs; simp
theorem dgs_take {s : ByteArray} {k : Nat} (hk : k < s.size) : (dgs s).take (k + 1) = (dgs s).take k ++ [((s[k].toNat : Nat) : Int) - 48] := by
  have h : k < (dgs s).length := by rw [dgs_len]; exact hk
  rw [List.take_add_one, List.getElem?_eq_getElem h]
  congr 1
  show [(dgs s)[k]] = _
  congr 1
  simp only [dgs, List.getElem_map]
  rfl
theorem sizeW (c : UInt8) (l cur : List UInt8) : ∀ x ∈ Split.Q c cur l, x.length ≤ cur.length + l.length := by
  induction l generalizing cur with
  | nil => intro x hx; simp [Split.Q] at hx; subst hx; omega
  | cons b l ih =>
    intro x hx
    simp only [Split.Q] at hx
    simp only [List.length_cons]
    split at hx
    · rcases List.mem_cons.1 hx with rfl | hx
      · omega
      · have := ih _ x hx; simp at this; omega
    · have := ih _ x hx; simp at this; omega
theorem piecesW {s t : ByteArray} (h : t ∈ Split.pieces 58 s.data.toList) : t.size ≤ s.size := by
  obtain ⟨x, hx, rfl⟩ := List.mem_map.1 h
  have := sizeW 58 _ _ x hx
  simp at this
  show x.toArray.size ≤ _
  simpa using this
set_option maxHeartbeats 6400000 in
set_option maxRecDepth 100000 in
theorem specParseWiring (s : ByteArray) (hs : s.size ≤ 1048576) (w : World) :
    Calls Tryd.prog 15 #[.string s] w fun e w' => Got3 w.heap.size (parV (wpZ s)) e w' ∧ Below w.heap.size w w' := by
  have HSP : Hid (∀ W, Calls Tryd.prog 52 #[.string s, .int .u8 58] W fun e w' => ∃ v, e = .returned v ∧ Split.Owns w' W.heap.size v (Split.pieces 58 s.data.toList) ∧ Below W.heap.size W w') := Lib.hid (fun W => Split.spec_any s 58 hs W)
  have hpos := Split.pieces_pos 58 s.data.toList
  have HSZ : Hid (∀ t ∈ Split.pieces 58 s.data.toList, t.size ≤ 1048576) := Lib.hid (fun t ht => Nat.le_trans (piecesW ht) hs)
  obtain ⟨R, hR⟩ : ∃ R, R = wpZ s := ⟨_, rfl⟩
  have hR2 := hR
  unfold wpZ at hR2
  rw [← hR]
  have HBE := Lib.hid (fun W (hW : Below w.heap.size w W) => hW.alloc hW.size (.cells #[] 3))
  have hll : (Split.pieces 58 s.data.toList).length ≤ 1048577 := by
    have h1 := Split.pieces_le 58 s.data.toList
    have h2 : s.data.toList.length = s.size := by simp
    omega
  generalize Split.pieces 58 s.data.toList = xs at HSP hpos HSZ hR2 hll
  obtain ⟨x0, hx0⟩ : ∃ x0, x0 = xs.getD 0 ⟨#[]⟩ := ⟨_, rfl⟩
  obtain ⟨x1, hx1⟩ : ∃ x1, x1 = xs.getD 1 ⟨#[]⟩ := ⟨_, rfl⟩
  have hmem : x0 ∈ xs := by rw [hx0, List.getD_eq_getElem?_getD, List.getElem?_eq_getElem hpos]; exact List.getElem_mem hpos
  have hmem1 : xs.length = 2 → x1.size ≤ 1048576 := fun h => HSZ.out _ (by rw [hx1, List.getD_eq_getElem?_getD, List.getElem?_eq_getElem (by omega)]; exact List.getElem_mem (by omega))
  have HIN := Lib.hid (fun W => specIntW x0 (HSZ.out _ hmem) W)
  rw [← hx0, ← hx1] at hR2
  have HS0 : Hid (∀ W B b n c, Split.Owns W B (.slice (some ⟨b, 0, none⟩) n c) xs → W.cell? ⟨b, 0, none⟩ = some (.string x0)) := Lib.hid (fun W B b n c h => by rw [hx0]; exact strW h hpos)
  have HS1 : Hid (xs.length = 2 → ∀ W B b n c, Split.Owns W B (.slice (some ⟨b, 0, none⟩) n c) xs → W.cell? ⟨b, 1, none⟩ = some (.string x1)) := Lib.hid (fun h2 W B b n c h => by rw [hx1]; exact strW h (by omega))
  clear hR hmem hx0 hx1 HSZ
  generalize Num.readS x0.data.toList 12 = r at HIN hR2
  have HR := Lib.hid hR2
  clear hR2
  go_enter Tryd.func15, Tryd.ntmps15
  go_wp2_with fail
  refine (HSP.out _).mono ?_
  rintro e w1 ⟨v1, rfl, hown1, hb1⟩
  obtain ⟨b, cb, rfl, -, hbl, -⟩ := Split.owns_row hown1 hpos
  have HX1 : Hid (Split.Owns w1 w.heap.size (.slice (some ⟨b, 0, none⟩) xs.length cb) xs) := Lib.hid hown1
  have HB1 := Lib.hid hb1
  have s0 := HS0.out _ _ _ _ _ hown1
  clear hown1 hb1
  go_wp2_with fail
  refine (HIN.out _).mono ?_
  rintro e w2 ⟨rfl, hb2⟩
  have HB2 := Lib.hid (HB1.out.trans (hb2.mono HB1.out.size))
  have HX2 : Hid (Split.Owns w2 w.heap.size (.slice (some ⟨b, 0, none⟩) xs.length cb) xs) := Lib.hid (ownsW_on HX1.out hb2)
  clear hb2 HX1 HB1 s0 HIN HSP
  by_cases h2 : xs.length = 2
  · cases r with
    | none =>
      have e0 : R = none := by have := HR.out; rw [if_pos h2] at this; exact this
      subst e0
      rw [h2]
      unfold Read.pair
      clear HR HX2 HS0 HS1
      go_wp2
      go_ret3
      exact ⟨⟨_, _, rfl, .inl rfl⟩, HBE.out _ HB2.out⟩
    | some m =>
      have e0 : R = if wiB m (dgs x1) = true then some (m, dgs x1) else none := by have := HR.out; rw [if_pos h2] at this; exact this
      have s1 := HS1.out h2 _ _ _ _ _ HX2.out
      have HX1s : Hid (∀ W, Below w2.heap.size w2 W → W.cell? ⟨b, 1, none⟩ = some (.string x1)) := Lib.hid (fun W hW => by rw [hW.cell (Kit.cell_lt s1)]; exact s1)
      have hx1s := hmem1 h2
      obtain ⟨i0, hi, hz0, hz1, hz2⟩ := info_parts infoI
      have HO0 : Hid (OwnsZ (w2.alloc (.cells #[] 3)) w2.heap.size (.slice (some ⟨w2.heap.size, 0, none⟩) 0 0) ((dgs x1).take 0)) := Lib.hid (World.ownsRow_made (base := w2.heap.size) (e := 3) (size := 1) w2 #[] 0 (Nat.le_refl _) (by decide) rfl)
      have HB0 : Hid (Below w2.heap.size w2 (w2.alloc (.cells #[] 3))) := Lib.hid ((Below.refl _ _).alloc (Nat.le_refl _) _)
      have HTK := Lib.hid (fun (k : Nat) (hk : k < x1.size) => dgs_take hk)
      have HLN := Lib.hid (dgs_len x1)
      have HIW := Lib.hid (fun a c W (hW : SrcZ W W.heap.size a (dgs x1)) => specIsWiring m a c (dgs x1) (by rw [dgs_len]; exact hx1s) W hW)
      generalize dgs x1 = Z at e0 HO0 HTK HLN HIW
      rw [h2]
      unfold Read.pair
      clear HR HX2 HS0 HS1 s1 hmem1
      go_wp2
      go_loopw [8, 9] (fun vv x wr => ∃ k : Nat, k ≤ x1.size ∧ x = .int .i64 k ∧ Hid (OwnsZ wr w2.heap.size vv (Z.take k)) ∧ Hid (Below w2.heap.size w2 wr)) (fun _ x _ => x1.size - (intOf x).toNat)
      case atStart => exact ⟨0, Nat.zero_le _, rfl, HO0, HB0⟩
      case round =>
        obtain ⟨k, hk, rfl, HO, HB⟩ := hrel
        have hwr := HB.out.size
        have sx := HX1s.out _ HB.out
        by_cases hlt : k < x1.size
        · have HTE := Lib.hid (HTK.out k hlt)
          have hpl : (Z.take k).length = k := by rw [List.length_take, HLN.out]; omega
          have hu : x1[k].toNat < 256 := UInt8.toNat_lt _
          generalize hy : ((x1[k].toNat : Nat) : Int) - 48 = y at HTE
          go_wp2_with (at_builtin; refine wpList_append_own _ rfl (.tmp 36) (.tmp 44) 24 rfl w2.heap.size 3 i0 _ 1 8 Tryd.underlying24 hi hz0 hz1 hz2 rfl (by decide) _ _ _ rfl (World.ownsRow.alloc HO.out _) ⟨_, 0, none⟩ 1 1 [.int .i64 y] rfl rfl (news1 _ _ _) (one1 _) (by simp only [maxLen]; omega) (by omega) (by simp; omega) ?_)
          intro v6 w6 hown6 hg6 _
          have HB6 := Lib.hid ((HB.out.alloc hwr (.cells #[.int .i64 y] 3)).grown hg6 (by simp; omega) (fun k hk => (World.ownsRow.lt HO.out k hk).1))
          have HO6 : Hid (OwnsZ w6 w2.heap.size v6 (Z.take k ++ [y])) := Lib.hid (ownsZ_snoc (zs := Z.take k) (ys := [y]) (by rw [hpl, List.map_take]; exact hown6))
          rw [← HTE.out] at HO6
          clear hown6 hg6
          go_wp2
          exact ⟨⟨k + 1, by omega, by go_num, HO6, HB6⟩, by simp only [intOf]; omega⟩
        · obtain rfl : k = x1.size := by omega
          have HO' : Hid (OwnsZ wr w2.heap.size u8 Z) := Lib.hid (by have := HO.out; rwa [← HLN.out, List.take_length] at this)
          obtain ⟨ra, rc, rfl, hnew, -⟩ := New.of_own HO'.out
          have HNW := Lib.hid hnew
          have HWr := Lib.hid (HB2.out.trans (HB.out.mono HB2.out.size))
          have HIW2 := Lib.hid (HIW.out ra rc wr (SrcZ.of_new hnew))
          clear hnew HO HO' HIW HTK
          cases hw : wiB m Z
          · rw [hw] at HIW2 e0
            have e1 : R = none := e0
            subst e1
            go_wp2_with fail
            refine HIW2.out.mono ?_
            rintro e w7 ⟨rfl, hb7⟩
            have B7 := HWr.out.trans (hb7.mono HWr.out.size)
            go_wp2
            go_ret3
            exact ⟨⟨_, _, rfl, .inl rfl⟩, HBE.out _ B7⟩
          · rw [hw] at HIW2 e0
            have e1 : R = some (m, Z) := e0
            subst e1
            go_wp2_with fail
            refine HIW2.out.mono ?_
            rintro e w7 ⟨rfl, hb7⟩
            have B7 := HWr.out.trans (hb7.mono HWr.out.size)
            have N7 := Lib.hid (HNW.out.on hb7)
            go_wp2
            go_ret3
            refine ⟨⟨ra, rc, rfl, ?_⟩, B7⟩
            rcases N7.out with h | ⟨g, g1, g2, g3, g4⟩
            · exact .inl h
            · exact .inr ⟨g, g1, Nat.le_trans HB2.out.size g2, g4.lt, g4⟩
  · have e0 : R = none := by have := HR.out; rw [if_neg h2] at this; exact this
    subst e0
    have k0 : ((xs.length : Int) != 2) = true := by simp; omega
    clear HR HX2 HS0 HS1
    cases r <;>
    · unfold Read.pair
      go_wp2
      go_ret3
      exact ⟨⟨_, _, rfl, .inl rfl⟩, HBE.out _ HB2.out⟩
end Go.Proofs.YtfpbehnpaedpmaaDoor.Sg
/- Wirings: the pairs that are exchanged, and the word that is found from them. Plain mathematics. -/
namespace Go.Proofs.YtfpbehnpaedpmaaDoor.Sg
open Go.RowKit Pt NewI Wi
/-- What SwapsOf answers. -/
def swZ (n : Int) (zs : List Int) : List (List Int) := if wiB n zs = true then swL (List.range n.toNat) (zs.map Int.toNat) else []
/-- What WiringFrom answers. -/
def wfZ (n : Int) (S : List (List Int)) : Option (List Nat) := if inB n 3 6 = true ∧ S.length = n.toNat * (n.toNat - 1) / 2 then wf (List.range n.toNat) S else none
theorem wl_toNat (u : List Nat) : (wl u).map Int.toNat = u := by
  unfold wl
  rw [List.map_map]
  conv => rhs; rw [← List.map_id u]
  exact List.map_congr_left (fun x _ => Int.toNat_natCast x)
theorem wfZ_some {n : Int} {S : List (List Int)} {u : List Nat} (h : wfZ n S = some u) : wiB n (wl u) = true ∧ swZ n (wl u) = S := by
  unfold wfZ at h
  split at h
  · rename_i hc
    obtain ⟨h1, h2⟩ := wf_some h
    obtain ⟨a, b⟩ := inB_mem hc.1
    obtain ⟨m, rfl⟩ : ∃ m : Nat, n = m := ⟨n.toNat, by omega⟩
    rw [Int.toNat_natCast] at h1 h2 hc
    have hl : u.length = m * (m - 1) / 2 := by rw [← swL_len (List.range m) u, h1, hc.2]
    have hw := fine_wiB (m := m) (u := u) (by omega) (by omega) ⟨hl, h2⟩
    refine ⟨hw, ?_⟩
    unfold swZ
    rw [if_pos hw, Int.toNat_natCast, wl_toNat, h1]
  · simp at h
theorem wfZ_swZ {n : Int} {zs : List Int} (h : wiB n zs = true) : ∃ u, wfZ n (swZ n zs) = some u ∧ wl u = zs := by
  obtain ⟨m, u, rfl, h3, h6, rfl, hf⟩ := wiB_fine h
  refine ⟨u, ?_, rfl⟩
  have e : inB (m : Int) 3 6 = true := by simp only [inB, decide_eq_true_eq]; omega
  unfold wfZ swZ
  rw [if_pos h, Int.toNat_natCast, wl_toNat, if_pos ⟨e, by rw [swL_len]; exact hf.1⟩]
  exact wf_swL List.nodup_range hf.2
/-- One pair's place. -/
def wf1 (L : List Nat) (s : List Int) : Option Nat :=
  if s.length = 2 ∧ s.getD 0 0 < s.getD 1 0 then
    match L.findIdx? (fun a : Nat => decide ((a : Int) = s.getD 0 0)) with
    | some p => if p + 1 < L.length ∧ (L.getD (p + 1) 0 : Int) = s.getD 1 0 then some p else none
    | none => none
  else none
theorem wf_cons (L : List Nat) (s : List Int) (S : List (List Int)) : wf L (s :: S) = (wf1 L s).bind fun p => (wf (swp L p) S).map (p :: ·) := by
  simp only [wf, wf1]
  split
  · cases L.findIdx? (fun a : Nat => decide ((a : Int) = s.getD 0 0)) with
    | none => rfl
    | some p =>
      simp only []
      split <;> rfl
  · rfl
theorem wf_snoc (L : List Nat) (S : List (List Int)) (s : List Int) : wf L (S ++ [s]) = (wf L S).bind fun u => (wf1 (act L u) s).map fun p => u ++ [p] := by
  induction S generalizing L with
  | nil =>
    rw [List.nil_append, wf_cons]
    simp only [wf, act, Option.bind_some, Option.map_some, List.nil_append]
    cases wf1 L s <;> rfl
  | cons t S ih =>
    rw [List.cons_append, wf_cons, wf_cons]
    cases wf1 L t with
    | none => rfl
    | some p =>
      simp only [Option.bind_some]
      rw [ih]
      cases wf (swp L p) S with
      | none => rfl
      | some u =>
        simp only [Option.bind_some, Option.map_some, act]
        cases wf1 (act (swp L p) u) s <;> rfl
theorem wf_none (L : List Nat) (A B : List (List Int)) (h : wf L A = none) : wf L (A ++ B) = none := by
  induction A generalizing L with
  | nil => simp [wf] at h
  | cons t A ih =>
    rw [List.cons_append, wf_cons]
    rw [wf_cons] at h
    cases e : wf1 L t with
    | none => rfl
    | some p =>
      rw [e] at h
      simp only [Option.bind_some, Option.map_eq_none_iff] at h ⊢
      exact ih _ h
end Go.Proofs.YtfpbehnpaedpmaaDoor.Sg
/- The exchange rule on plain functions: the fours of n elements in their order, breaks, the first break, circuits, reversed signs. -/
namespace Go.Proofs.YtfpbehnpaedpmaaDoor.Sg
abbrev T4 := Nat × Nat × Nat × Nat
/-- The first m fours that begin with three elements. -/
def row4 (t : T3) (m : Nat) : List T4 := (List.range' (t.2.2 + 1) m).map fun l => (t.1, t.2.1, t.2.2, l)
def fours (n : Nat) : List T4 := (threes n).flatMap fun t => row4 t (n - (t.2.2 + 1))
theorem fours_mem0 : ∀ n, n < 8 → ∀ t ∈ fours n, t.1 < t.2.1 ∧ t.2.1 < t.2.2.1 ∧ t.2.2.1 < t.2.2.2 ∧ t.2.2.2 < n := by decide +kernel
theorem fours_mem {n : Nat} (hn : n ≤ 7) {t : T4} (h : t ∈ fours n) : t.1 < t.2.1 ∧ t.2.1 < t.2.2.1 ∧ t.2.2.1 < t.2.2.2 ∧ t.2.2.2 < n := fours_mem0 n (by omega) t h
theorem fours_has0 : ((List.range 8).all fun n => (List.range n).all fun l => (List.range l).all fun k => (List.range k).all fun j => (List.range j).all fun i => (fours n).contains (i, j, k, l)) = true := by decide +kernel
theorem fours_has {n i j k l : Nat} (hn : n ≤ 7) (h1 : i < j) (h2 : j < k) (h3 : k < l) (h4 : l < n) : (i, j, k, l) ∈ fours n := by
  simpa using all_lt (all_lt (all_lt (all_lt (all_lt fours_has0 (show n < 8 by omega)) h4) h3) h2) h1
/-- Is a four ahead of another one? -/
def Lt4 (b c d e b' c' d' e' : Nat) : Prop := b < b' ∨ b = b' ∧ (c < c' ∨ c = c' ∧ (d < d' ∨ d = d' ∧ e < e'))
instance (b c d e b' c' d' e' : Nat) : Decidable (Lt4 b c d e b' c' d' e') := by unfold Lt4; infer_instance
/-- Do five break the rule? -/
def brk (f : Int → Int → Int → Int) (a b c d e : Nat) : Bool := (f a b c * f a d e == f a b e * f a c d) && (f a b c * f a d e == -(f a b d) * f a c e)
def Val (n a b c d e : Nat) : Prop := a < n ∧ b < c ∧ c < d ∧ d < e ∧ e < n ∧ a ≠ b ∧ a ≠ c ∧ a ≠ d ∧ a ≠ e
/-- No five ahead of these break the rule. -/
def NoB (f : Int → Int → Int → Int) (n a b c d e : Nat) : Prop := ∀ a' b' c' d' e', Val n a' b' c' d' e' → (a' < a ∨ a' = a ∧ Lt4 b' c' d' e' b c d e) → brk f a' b' c' d' e' = false
/-- The first five that break the rule. -/
def IsF (f : Int → Int → Int → Int) (n : Nat) (xs : List Int) : Prop :=
  (xs = [] ∧ NoB f n n 0 0 0 0) ∨ ∃ a b c d e : Nat, xs = [(a : Int), (b : Int), (c : Int), (d : Int), (e : Int)] ∧ Val n a b c d e ∧ brk f a b c d e = true ∧ NoB f n a b c d e
/-- Does no five break the rule? -/
def okB (f : Int → Int → Int → Int) (n : Nat) : Bool := (List.range n).all fun a => (fours n).all fun t => (a == t.1 || a == t.2.1 || a == t.2.2.1 || a == t.2.2.2) || !brk f a t.1 t.2.1 t.2.2.1 t.2.2.2
theorem okB_iff {f : Int → Int → Int → Int} {n : Nat} (hn : n ≤ 7) : okB f n = true ↔ ∀ a b c d e, Val n a b c d e → brk f a b c d e = false := by
  unfold okB
  simp only [List.all_eq_true, List.mem_range, Bool.or_eq_true, beq_iff_eq, Bool.not_eq_true']
  constructor
  · rintro h a b c d e ⟨h1, h2, h3, h4, h5, h6, h7, h8, h9⟩
    rcases h a h1 _ (fours_has hn h2 h3 h4 h5) with h | h
    · simp only at h; omega
    · exact h
  · intro h a ha t ht
    obtain ⟨h1, h2, h3, h4⟩ := fours_mem hn ht
    by_cases e : ((a = t.1 ∨ a = t.2.1) ∨ a = t.2.2.1) ∨ a = t.2.2.2
    · exact Or.inl e
    · exact Or.inr (h _ _ _ _ _ ⟨ha, h1, h2, h3, h4, by omega, by omega, by omega, by omega⟩)
theorem IsF.ok {f : Int → Int → Int → Int} {n : Nat} {xs : List Int} (hn : n ≤ 7) (h : IsF f n xs) : okB f n = xs.isEmpty := by
  rcases h with ⟨rfl, h⟩ | ⟨a, b, c, d, e, rfl, v, b1, -⟩
  · exact (okB_iff hn).2 fun a b c d e v => h a b c d e v (Or.inl v.1)
  · cases ho : okB f n
    · rfl
    · rw [(okB_iff hn).1 ho a b c d e v] at b1; cases b1
end Go.Proofs.YtfpbehnpaedpmaaDoor.Sg
/- impl.foursOf: the fours of n elements, in memory of the call's own. -/
namespace Go.Proofs.YtfpbehnpaedpmaaDoor.Sg
open Go.RowKit Pt
/-- The cells of a list of fours. -/
def c4 : List T4 → List Value
  | [] => []
  | t :: r => .int .i64 t.1 :: .int .i64 t.2.1 :: .int .i64 t.2.2.1 :: .int .i64 t.2.2.2 :: c4 r
/-- The cells of a row of fours. -/
def At4 (w : World) (g : Nat) (xs : List T4) : Prop := ∀ (j : Nat) t, xs[j]? = some t → w.cell? ⟨g, j * 4, none⟩ = some (.int .i64 t.1) ∧ w.cell? ⟨g, j * 4 + 1, none⟩ = some (.int .i64 t.2.1) ∧ w.cell? ⟨g, j * 4 + 2, none⟩ = some (.int .i64 t.2.2.1) ∧ w.cell? ⟨g, j * 4 + 3, none⟩ = some (.int .i64 t.2.2.2)
theorem At4.block {w w' : World} {g : Nat} {xs : List T4} (h : At4 w g xs) (e : w'.heap[g]? = w.heap[g]?) : At4 w' g xs := fun j t hj => by
  have c := fun o => World.cell?_of_block (a := ⟨g, o, none⟩) e
  rw [c, c, c, c]
  exact h j t hj
theorem At4.on {w w' : World} {B g : Nat} {xs : List T4} (h : At4 w g xs) (hb : Below B w w') (hB : g < B) : At4 w' g xs := h.block (hb.block g hB)
/-- A row's block is none whose cells are of another type. -/
theorem own_box {w : World} {B b n size : Nat} {e e' : TypeId} {v : Value} {xs : List Value} {cs : Array Value} (h : w.ownsRow B e size v n xs) (hb : w.heap[b]? = some (.cells cs e')) (hne : e ≠ e') : some b ≠ v.ownBlock := by
  rcases h.2 with ⟨rfl, -⟩ | ⟨g, cap, cur, rfl, -, hh, -⟩
  · simp [Value.ownBlock]
  · intro e2
    have e2 : b = g := by simpa [Value.ownBlock] using e2
    subst e2
    rw [hh] at hb
    injection hb with hb
    injection hb with _ ht
    exact hne ht
theorem heap_made (w : World) (o : Obj) : (w.alloc o).heap[w.heap.size]? = some o := (MapKept.heap_alloc w o).1
end Go.Proofs.YtfpbehnpaedpmaaDoor.Sg
