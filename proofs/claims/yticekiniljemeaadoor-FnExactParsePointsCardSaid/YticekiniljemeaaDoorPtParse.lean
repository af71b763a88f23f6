/- ParsePoints: a point's text as impl and spec read it. -/
import Derived.Test.YticekiniljemeaaDoorPtNew
import Derived.Test.YticekiniljemeaaDoorPtAre
import Derived.Test.YticekiniljemeaaDoorPtShear
import Derived.Test.YticekiniljemeaaDoorParseInt
import Derived.Test.YticekiniljemeaaDoorSplitWalk
namespace Go.Proofs.YticekiniljemeaaDoor.PtParse
open Go.RowKit Pt
/-- The point that a text tells. -/
def readP (t : ByteArray) : Option P2 := match Split.pieces 44 t.data.toList with
  | [a, b] => match Num.readS a.data.toList 12, Num.readS b.data.toList 12 with
    | some x, some y => some (x, y)
    | _, _ => none
  | _ => none
theorem readP_len {t : ByteArray} (h : (Split.pieces 44 t.data.toList).length ≠ 2) : readP t = none := by
  unfold readP
  split
  · rename_i e; rw [e] at h; simp at h
  · rfl
theorem readP_some {t a b : ByteArray} {x y : Int} (h : Split.pieces 44 t.data.toList = [a, b]) (h1 : Num.readS a.data.toList 12 = some x) (h2 : Num.readS b.data.toList 12 = some y) : readP t = some (x, y) := by
  unfold readP; rw [h]; simp only [h1, h2]
theorem readP_none1 {t a b : ByteArray} (h : Split.pieces 44 t.data.toList = [a, b]) (h1 : Num.readS a.data.toList 12 = none) : readP t = none := by
  unfold readP; rw [h]; simp only [h1]
theorem readP_none2 {t a b : ByteArray} (h : Split.pieces 44 t.data.toList = [a, b]) (h2 : Num.readS b.data.toList 12 = none) : readP t = none := by
  unfold readP; rw [h]; simp only [h2]
  split
  · rename_i e; cases e
  · rfl
def readK (xs : List ByteArray) : Nat → Option (List P2)
  | 0 => some []
  | k + 1 => match readK xs k, xs[k]?.bind readP with
    | some l, some p => some (l ++ [p])
    | _, _ => none
theorem readK_step {xs : List ByteArray} {k : Nat} {l : List P2} {t : ByteArray} {p : P2} (h : readK xs k = some l) (ht : xs[k]? = some t) (hp : readP t = some p) : readK xs (k + 1) = some (l ++ [p]) := by
  show (match readK xs k, xs[k]?.bind readP with | some l, some p => some (l ++ [p]) | _, _ => none) = _
  rw [h, ht]
  show (match (some l : Option (List P2)), readP t with | some l, some p => some (l ++ [p]) | _, _ => none) = _
  rw [hp]
theorem readK_stop {xs : List ByteArray} {k : Nat} {t : ByteArray} (ht : xs[k]? = some t) (hp : readP t = none) : readK xs (k + 1) = none := by
  show (match readK xs k, xs[k]?.bind readP with | some l, some p => some (l ++ [p]) | _, _ => none) = _
  rw [ht]
  show (match readK xs k, readP t with | some l, some p => some (l ++ [p]) | _, _ => none) = _
  rw [hp]
  cases readK xs k <;> rfl
theorem readK_none {xs : List ByteArray} {k : Nat} (h : readK xs k = none) : ∀ d, readK xs (k + d) = none
  | 0 => h
  | d + 1 => by
    show (match readK xs (k + d), xs[k + d]?.bind readP with | some l, some p => some (l ++ [p]) | _, _ => none) = _
    rw [readK_none h d]
noncomputable def parseR (xs : List ByteArray) : List P2 := match readK xs xs.length with
  | some l => if okB l = true then l else []
  | none => []
noncomputable def parseB (xs : List ByteArray) : Bool := match readK xs xs.length with
  | some l => okB l
  | none => false
theorem parse_stop {xs : List ByteArray} {k : Nat} {t : ByteArray} (ht : xs[k]? = some t) (hp : readP t = none) : parseR xs = [] ∧ parseB xs = false := by
  obtain ⟨hk, -⟩ := List.getElem?_eq_some_iff.1 ht
  have h := readK_none (readK_stop ht hp) (xs.length - (k + 1))
  rw [show k + 1 + (xs.length - (k + 1)) = xs.length by omega] at h
  unfold parseR parseB
  rw [h]
  exact ⟨rfl, rfl⟩
theorem parse_bad {xs : List ByteArray} {l : List P2} (h : readK xs xs.length = some l) (ho : okB l = false) : parseR xs = [] ∧ parseB xs = false := by
  unfold parseR parseB
  rw [h]
  simp [ho]
theorem parse_good {xs : List ByteArray} {l : List P2} (h : readK xs xs.length = some l) (ho : okB l = true) : parseR xs = l ∧ parseB xs = true := by
  unfold parseR parseB
  rw [h]
  simp [ho]
theorem readK_length (xs : List ByteArray) : ∀ (k : Nat) (l : List P2), readK xs k = some l → l.length = k
  | 0, l, h => by cases h; rfl
  | k + 1, l, h => by
    have h' : (match readK xs k, xs[k]?.bind readP with | some l, some p => some (l ++ [p]) | _, _ => none) = some l := h
    cases e : readK xs k with
    | none => rw [e] at h'; cases h'
    | some l1 =>
      cases e2 : xs[k]?.bind readP with
      | none => rw [e, e2] at h'; cases h'
      | some p =>
        rw [e, e2] at h'
        cases h'
        rw [List.length_append, readK_length xs k l1 e]; rfl
theorem parseR_length (xs : List ByteArray) : (parseR xs).length ≤ xs.length := by
  unfold parseR
  split
  · rename_i l h
    split
    · rw [readK_length _ _ _ h]; exact Nat.le_refl _
    · simp
  · simp
theorem Q_size (c : UInt8) : ∀ (l cur : List UInt8), ∀ x ∈ Split.Q c cur l, x.length ≤ cur.length + l.length
  | [], cur, x, h => by
    simp only [Split.Q, List.mem_singleton] at h
    subst h; simp
  | b :: r, cur, x, h => by
    unfold Split.Q at h
    split at h
    · rcases List.mem_cons.1 h with rfl | h
      · simp
      · have := Q_size c r [] x h
        simp only [List.length_nil, List.length_cons] at this ⊢; omega
    · have := Q_size c r (cur ++ [b]) x h
      simp only [List.length_append, List.length_cons, List.length_nil] at this ⊢; omega
theorem pieces_size (c : UInt8) (s : ByteArray) : ∀ x ∈ Split.pieces c s.data.toList, x.size ≤ s.size := by
  intro x hx
  unfold Split.pieces at hx
  obtain ⟨y, hy, rfl⟩ := List.mem_map.1 hx
  have h := Q_size c _ _ y hy
  show y.toArray.size ≤ _
  simpa using h

/-- What a text's number needs of memory. -/
structure Env (a1 a2 a3 : Addr) (tp : TypeId) (m : Int) (w : World) : Prop where
  held : Parse.Held w.heap.size w a1 a2 a3 tp
  max : w.cell? ⟨2, 0, none⟩ = some (.int .i64 m)
theorem Env.on {a1 a2 a3 : Addr} {tp : TypeId} {m : Int} {w w' : World} (h : Env a1 a2 a3 tp m w) (hb : Below w.heap.size w w') : Env a1 a2 a3 tp m w' :=
  ⟨h.held.up hb, by rw [hb.cell (lt_of_cell h.max)]; exact h.max⟩
theorem ret_pt {w1 : World} {B : Nat} {x0 y0 : Value} (e0 : w1.cell? ⟨B, 0, none⟩ = some x0) (e1 : w1.cell? ⟨B, 1, none⟩ = some y0) (x y : Value) :
    ((w1.setCell ⟨B, 0, none⟩ x).setCell ⟨B, 1, none⟩ y).cell? ⟨B, 0, none⟩ = some x ∧ ((w1.setCell ⟨B, 0, none⟩ x).setCell ⟨B, 1, none⟩ y).cell? ⟨B, 1, none⟩ = some y := by
  constructor
  · rw [World.cell?_setCell_other _ _ _ _ (by simp)]; exact World.cell?_setCell_same _ _ _ e0
  · exact World.cell?_setCell_same _ _ _ (by rw [World.cell?_setCell_other _ _ _ _ (by simp)]; exact e1)
/-- What parsePoint answers. -/
def ptOf : Option P2 → Value
  | some p => .tuple #[.agg #[.int .i64 p.1, .int .i64 p.2], .bool true]
  | none => .tuple #[.agg #[.int .i64 0, .int .i64 0], .bool false]
theorem two_of {xs : List ByteArray} (h : xs.length = 2) : ∃ a b, xs = [a, b] := by
  match xs, h with
  | [a, b], _ => exact ⟨a, b, rfl⟩
set_option maxHeartbeats 800000 in
set_option maxRecDepth 100000 in
theorem parsePoint_len (t : ByteArray) (ht : t.size ≤ 1048576) (w : World) (a1 a2 a3 : Addr) (tp : TypeId) (m : Int) (HE : Hid (Env a1 a2 a3 tp m w)) (hl : (Split.pieces 44 t.data.toList).length ≠ 2) :
    Calls Tryd.prog 25 #[.string t] w fun e w' => e = .returned (.tuple #[.agg #[.int .i64 0, .int .i64 0], .bool false]) ∧ Below w.heap.size w w' := by
  have hle := Split.pieces_le 44 t.data.toList
  have hts : t.data.toList.length = t.size := by simp
  obtain ⟨xs, hxs⟩ : ∃ xs, xs = Split.pieces 44 t.data.toList := ⟨_, rfl⟩
  rw [← hxs] at hl hle
  have hle2 : xs.length ≤ 1048577 := by omega
  have HS : Hid (∀ W, Below w.heap.size w W → Calls Tryd.prog 24 #[.string t, .int .u8 44] W fun e w' => ∃ b, e = .returned (.slice (some ⟨b, 0, none⟩) xs.length xs.length) ∧ W.heap.size ≤ b ∧ w'.rowIs b 9 xs.length (Strs.strAt xs) ∧ Below W.heap.size W w') :=
    Lib.hid (fun W hW => by rw [hxs]; exact Split.impl_any t 44 ht W m (HE.out.on hW).max (lt_of_cell (HE.out.on hW).max))
  have hne : ((xs.length : Int) != 2) = true := by simp; omega
  clear hxs hts hle HE
  go_enter Tryd.func25, Tryd.ntmps25
  go_wp2_with fail
  refine (HS.out _ ((Below.refl _ _).alloc (Nat.le_refl _) _)).mono ?_
  rintro e w1 ⟨b, rfl, hb1, hr1, hbl1⟩
  clear hr1
  obtain ⟨hc1, hf1⟩ := bcell hbl1
  have B1 : Below w.heap.size w w1 := below_call hbl1 (by go_grown)
  have e0 : w1.cell? ⟨w.heap.size, 0, none⟩ = some (.int .i64 0) := by rw [hc1 _ _ (by simp)]; simp [go_sem]
  have e1 : w1.cell? ⟨w.heap.size, 1, none⟩ = some (.int .i64 0) := by rw [hc1 _ _ (by simp)]; simp [go_sem]
  obtain ⟨g0, g1⟩ := ret_pt e0 e1 (.int .i64 0) (.int .i64 0)
  go_wp2
  exact bodyPost_ret (v := .tuple #[.agg #[.int .i64 0, .int .i64 0], .bool false]) (by simp [results, Tryd.results25, go_sem, g0, g1]) rfl ⟨rfl, (B1.setCell (by simp) _).setCell (by simp) _⟩
theorem pair_eq (o : Option Int) : Read.pair o = .tuple #[.int .i64 (o.getD 0), .bool o.isSome] := by cases o <;> rfl
theorem size_head {t a b : ByteArray} (h : Split.pieces 44 t.data.toList = [a, b]) : a.size ≤ t.size ∧ b.size ≤ t.size :=
  ⟨pieces_size 44 t a (by rw [h]; simp), pieces_size 44 t b (by rw [h]; simp)⟩
set_option maxHeartbeats 800000 in
set_option maxRecDepth 100000 in
theorem parsePoint_two (t : ByteArray) (ht : t.size ≤ 1048576) (w : World) (a1 a2 a3 : Addr) (tp : TypeId) (m : Int) (HE : Hid (Env a1 a2 a3 tp m w)) (a b : ByteArray) (hp : Split.pieces 44 t.data.toList = [a, b]) :
    Calls Tryd.prog 25 #[.string t] w fun e w' => e = .returned (ptOf (readP t)) ∧ Below w.heap.size w w' := by
  obtain ⟨hsa, hsb⟩ := size_head hp
  have HS : Hid (∀ W, Below w.heap.size w W → Calls Tryd.prog 24 #[.string t, .int .u8 44] W fun e w' => ∃ g, e = .returned (.slice (some ⟨g, 0, none⟩) 2 2) ∧ W.heap.size ≤ g ∧ w'.rowIs g 9 2 (Strs.strAt [a, b]) ∧ Below W.heap.size W w') :=
    Lib.hid (fun W hW => by have h := Split.impl_any t 44 ht W m (HE.out.on hW).max (lt_of_cell (HE.out.on hW).max); rw [hp] at h; exact h)
  obtain ⟨x, hx⟩ : ∃ x, x = (Num.readS a.data.toList 12).getD 0 := ⟨_, rfl⟩
  obtain ⟨y, hy⟩ : ∃ y, y = (Num.readS b.data.toList 12).getD 0 := ⟨_, rfl⟩
  obtain ⟨p, hpp⟩ : ∃ p, p = (Num.readS a.data.toList 12).isSome := ⟨_, rfl⟩
  obtain ⟨q, hqq⟩ : ∃ q, q = (Num.readS b.data.toList 12).isSome := ⟨_, rfl⟩
  have HA : Hid (∀ W, Below w.heap.size w W → Calls Tryd.prog 35 #[.string a] W fun e w' => e = .returned (.tuple #[.int .i64 x, .bool p]) ∧ Below W.heap.size W w') :=
    Lib.hid (fun W hW => by rw [hx, hpp, ← pair_eq]; exact ParseInt.implInt a (by omega) W a1 a2 a3 tp (HE.out.on hW).held)
  have HB : Hid (∀ W, Below w.heap.size w W → Calls Tryd.prog 35 #[.string b] W fun e w' => e = .returned (.tuple #[.int .i64 y, .bool q]) ∧ Below W.heap.size W w') :=
    Lib.hid (fun W hW => by rw [hy, hqq, ← pair_eq]; exact ParseInt.implInt b (by omega) W a1 a2 a3 tp (HE.out.on hW).held)
  have HR : Hid (ptOf (readP t) = if p = true ∧ q = true then .tuple #[.agg #[.int .i64 x, .int .i64 y], .bool true] else .tuple #[.agg #[.int .i64 0, .int .i64 0], .bool false]) := Lib.hid (by
    cases h1 : Num.readS a.data.toList 12 with
    | none => rw [readP_none1 hp h1, hpp, h1]; rfl
    | some x' =>
      cases h2 : Num.readS b.data.toList 12 with
      | none => rw [readP_none2 hp h2, hqq, h2]; simp; rfl
      | some y' => rw [readP_some hp h1 h2, hpp, hqq, hx, hy, h1, h2]; rfl)
  clear hx hy hpp hqq HE hp hsa hsb
  rw [HR.out]
  cases p
  all_goals cases q
  all_goals
    go_enter Tryd.func25, Tryd.ntmps25
    go_wp2_with fail
    refine (HS.out _ ((Below.refl _ _).alloc (Nat.le_refl _) _)).mono ?_
    rintro e w1 ⟨g, rfl, hg1, hr1, hbl1⟩
    obtain ⟨hc1, hf1⟩ := bcell hbl1
    have B1 : Below w.heap.size w w1 := below_call hbl1 (by go_grown)
    have s0 := hr1.cell (show 0 < 2 by omega)
    have s1 := hr1.cell (show 1 < 2 by omega)
    have s0' : w1.cell? ⟨g, 0, none⟩ = some (.string a) := s0
    have s1' : w1.cell? ⟨g, 1, none⟩ = some (.string b) := s1
    have hgl := hr1.lt
    have e0 : w1.cell? ⟨w.heap.size, 0, none⟩ = some (.int .i64 0) := by rw [hc1 _ _ (by simp)]; simp [go_sem]
    have e1 : w1.cell? ⟨w.heap.size, 1, none⟩ = some (.int .i64 0) := by rw [hc1 _ _ (by simp)]; simp [go_sem]
    have z0 : w1.frozen? ⟨w.heap.size, 0, none⟩ = false := by rw [hf1 _ _ (by simp)]; simp [go_sem]
    have z1 : w1.frozen? ⟨w.heap.size, 1, none⟩ = false := by rw [hf1 _ _ (by simp)]; simp [go_sem]
    clear hr1 s0 s1 hc1 hf1 hbl1
    go_wp2_with fail
    refine (HA.out _ B1).mono ?_
    rintro e w2 ⟨rfl, hb2⟩
    have B2 := B1.trans (hb2.mono B1.size)
    have s2 : w2.cell? ⟨g, 1, none⟩ = some (.string b) := by rw [hb2.cell hgl]; exact s1'
    have hs1 := B1.size
    have hwl : w.heap.size < w1.heap.size := lt_of_cell e0
    have e02 : w2.cell? ⟨w.heap.size, 0, none⟩ = some (.int .i64 0) := by rw [hb2.cell hwl]; exact e0
    have e12 : w2.cell? ⟨w.heap.size, 1, none⟩ = some (.int .i64 0) := by rw [hb2.cell hwl]; exact e1
    have z02 : w2.frozen? ⟨w.heap.size, 0, none⟩ = false := by rw [hb2.frozen hwl]; exact z0
    have z12 : w2.frozen? ⟨w.heap.size, 1, none⟩ = false := by rw [hb2.frozen hwl]; exact z1
    have hwl2 := lt_of_cell e02
    clear e0 e1 z0 z1 s0' s1'
    go_wp2_with fail
    refine (HB.out _ B2).mono ?_
    rintro e w3 ⟨rfl, hb3⟩
    have B3 := B2.trans (hb3.mono B2.size)
    have e03 : w3.cell? ⟨w.heap.size, 0, none⟩ = some (.int .i64 0) := by rw [hb3.cell hwl2]; exact e02
    have e13 : w3.cell? ⟨w.heap.size, 1, none⟩ = some (.int .i64 0) := by rw [hb3.cell hwl2]; exact e12
    have z03 : w3.frozen? ⟨w.heap.size, 0, none⟩ = false := by rw [hb3.frozen hwl2]; exact z02
    have z13 : w3.frozen? ⟨w.heap.size, 1, none⟩ = false := by rw [hb3.frozen hwl2]; exact z12
    clear e02 e12 z02 z12 s2
    obtain ⟨g0, g1⟩ := ret_pt e03 e13 (.int .i64 0) (.int .i64 0)
    obtain ⟨k0, k1⟩ := ret_pt e03 e13 (.int .i64 x) (.int .i64 y)
    go_wp2
    first
      | exact bodyPost_ret (v := .tuple #[.agg #[.int .i64 0, .int .i64 0], .bool false]) (by simp [results, Tryd.results25, go_sem, g0, g1]) rfl ⟨rfl, (B3.setCell (by simp) _).setCell (by simp) _⟩
      | exact bodyPost_ret (v := .tuple #[.agg #[.int .i64 x, .int .i64 y], .bool true]) (by simp [results, Tryd.results25, go_sem, k0, k1]) rfl ⟨rfl, (B3.setCell (by simp) _).setCell (by simp) _⟩
theorem parsePoint_any (t : ByteArray) (ht : t.size ≤ 1048576) (w : World) (a1 a2 a3 : Addr) (tp : TypeId) (m : Int) (HE : Hid (Env a1 a2 a3 tp m w)) :
    Calls Tryd.prog 25 #[.string t] w fun e w' => e = .returned (ptOf (readP t)) ∧ Below w.heap.size w w' := by
  by_cases hl : (Split.pieces 44 t.data.toList).length = 2
  · obtain ⟨a, b, hp⟩ := two_of hl
    exact parsePoint_two t ht w a1 a2 a3 tp m HE a b hp
  · rw [readP_len hl]
    exact parsePoint_len t ht w a1 a2 a3 tp m HE hl
end Go.Proofs.YticekiniljemeaaDoor.PtParse
