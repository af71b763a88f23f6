/- ParseSigns, as impl and spec read it; the law. -/
import Derived.Test.YtohihlhkheeemaaDoorSgAreImpl
import Derived.Test.YtohihlhkheeemaaDoorSplitWalk
import Derived.Test.YtohihlhkheeemaaDoorParseIntN
namespace Go.Proofs.YtohihlhkheeemaaDoor.SgParse
open Go.RowKit Pt Sg
def cutAt (c : UInt8) : List UInt8 → Option (List UInt8 × List UInt8)
  | [] => none
  | b :: r => if b = c then some ([], r) else (cutAt c r).map fun q => (b :: q.1, q.2)
theorem index_cut (c : UInt8) : ∀ l : List UInt8, (match cutAt c l with | some q => Lib.index l [c] = q.1.length ∧ l = q.1 ++ c :: q.2 | none => Lib.index l [c] = -1)
  | [] => by simp [cutAt, Lib.index]
  | b :: r => by
    have ih := index_cut c r
    unfold cutAt
    by_cases h : b = c
    · subst h
      rw [if_pos rfl]
      simp [Lib.index, List.isPrefixOf]
    · rw [if_neg h]
      have hp : ([c].isPrefixOf (b :: r)) = false := by simp [List.isPrefixOf]; exact fun e => h e.symm
      have hi : Lib.index (b :: r) [c] = if Lib.index r [c] == -1 then -1 else Lib.index r [c] + 1 := by
        rw [Lib.index, hp]; simp
      cases e : cutAt c r with
      | none =>
        rw [e] at ih
        simp only [Option.map_none]
        rw [hi, ih]; rfl
      | some q =>
        rw [e] at ih
        simp only [Option.map_some]
        refine ⟨?_, by rw [ih.2]; simp⟩
        rw [hi, ih.1, if_neg (by simp)]
        simp
theorem cut_of (c : UInt8) (l : List UInt8) : Lib.cut l [c] = (match cutAt c l with | some q => (q.1, q.2, true) | none => (l, [], false)) := by
  have h := index_cut c l
  unfold Lib.cut
  cases e : cutAt c l with
  | none => rw [e] at h; simp only [] at h; rw [h]; simp
  | some q =>
    rw [e] at h
    obtain ⟨h1, h2⟩ := h
    simp only []
    rw [h1, if_pos (by omega)]
    simp only [Int.toNat_natCast]
    generalize q.1.length = k at h1
    rw [h2]
    have hk : k = q.1.length := by
      have : Lib.index l [c] = q.1.length := by have := index_cut c l; rw [e] at this; exact this.1
      omega
    subst hk
    simp
theorem Q_cut (c : UInt8) : ∀ (l cur : List UInt8), Split.Q c cur l = (match cutAt c l with | some q => (cur ++ q.1) :: Split.Q c [] q.2 | none => [cur ++ l])
  | [], cur => by simp [Split.Q, cutAt]
  | b :: r, cur => by
    have hQ : Split.Q c cur (b :: r) = if b = c then cur :: Split.Q c [] r else Split.Q c (cur ++ [b]) r := rfl
    have hC : cutAt c (b :: r) = if b = c then some ([], r) else (cutAt c r).map fun q => (b :: q.1, q.2) := rfl
    rw [hQ, hC]
    by_cases h : b = c
    · rw [if_pos h, if_pos h]
      show cur :: Split.Q c [] r = (cur ++ []) :: Split.Q c [] r
      rw [List.append_nil]
    · rw [if_neg h, if_neg h, Q_cut c r (cur ++ [b])]
      cases cutAt c r with
      | none => show [cur ++ [b] ++ r] = [cur ++ b :: r]; simp
      | some q => show (cur ++ [b] ++ q.1) :: Split.Q c [] q.2 = (cur ++ b :: q.1) :: Split.Q c [] q.2; simp
theorem Q_one {c : UInt8} : ∀ {l : List UInt8}, c ∉ l → ∀ cur, Split.Q c cur l = [cur ++ l]
  | [], _, cur => by simp [Split.Q]
  | b :: r, h, cur => by
    have hb : b ≠ c := fun e => h (by simp [e])
    unfold Split.Q
    rw [if_neg hb, Q_one (fun e => h (List.mem_cons_of_mem _ e))]
    simp
/-- What is read: a number and a text, or nothing. -/
def parseR (l : List UInt8) : Option (Int × List UInt8) :=
  match cutAt 58 l with
  | none => none
  | some q => match Num.readI 0 999999 q.1 with
    | none => none
    | some n => if arB n q.2 = true then some (n, q.2) else none
def outv : Option (Int × List UInt8) → Value
  | some q => .tuple #[sg q.1 ⟨q.2.toArray⟩, .bool true]
  | none => .tuple #[sg 0 ⟨#[]⟩, .bool false]
theorem readI_mem {l : List UInt8} {n lo hi : Int} (h : Num.readI lo hi l = some n) : lo ≤ n ∧ n ≤ hi := by
  unfold Num.readI at h
  cases e : Lib.atoiAll l with
  | ok m =>
    rw [e] at h
    simp only [] at h
    split at h
    · rename_i hc
      cases h
      exact hc.2
    · cases h
  | _ => rw [e] at h; simp at h
theorem readI_wide {l : List UInt8} {n lo hi lo2 hi2 : Int} (h : Num.readI lo hi l = some n) (h1 : lo2 ≤ n) (h2 : n ≤ hi2) : Num.readI lo2 hi2 l = some n := by
  unfold Num.readI at h ⊢
  cases e : Lib.atoiAll l with
  | ok m =>
    rw [e] at h
    simp only [] at h ⊢
    split at h
    · rename_i hc
      cases h
      rw [if_pos ⟨hc.1, h1, h2⟩]
    · cases h
  | _ => rw [e] at h; simp at h
theorem arB_has {n : Int} {l : List UInt8} (h : (58 : UInt8) ∈ l) : arB n l = false := arB_no (.inr (.inr ⟨58, h, by decide, by decide⟩))
/-- By the pieces: two of them. -/
theorem parse_two {l a d : List UInt8} (h : cutAt 58 l = some (a, d)) : outv (parseR l) = (if (Num.readS a 12).isSome = true ∧ arB ((Num.readS a 12).getD 0) d = true then .tuple #[sg ((Num.readS a 12).getD 0) ⟨d.toArray⟩, .bool true] else .tuple #[sg 0 ⟨#[]⟩, .bool false]) := by
  unfold parseR
  rw [h, ← ParseInt.int_same]
  simp only []
  cases e : Num.readI (-999999999999) 999999999999 a with
  | none =>
    cases e2 : Num.readI 0 999999 a with
    | none => simp [outv]
    | some n =>
      have := readI_wide (lo2 := -999999999999) (hi2 := 999999999999) e2 (by have := readI_mem e2; omega) (by have := readI_mem e2; omega)
      rw [this] at e; cases e
  | some n =>
    simp only [Option.isSome_some, Option.getD_some, true_and]
    cases hA : arB n d
    · cases e2 : Num.readI 0 999999 a with
      | none => simp [outv]
      | some m =>
        have := readI_wide (lo2 := -999999999999) (hi2 := 999999999999) e2 (by have := readI_mem e2; omega) (by have := readI_mem e2; omega)
        rw [this] at e; cases e
        simp [outv, hA]
    · obtain ⟨h3, h7, -⟩ := arB_yes hA
      rw [readI_wide (lo2 := 0) (hi2 := 999999) e (by omega) (by omega)]
      simp [outv, hA]
/-- The result's block: still as it was made. -/
def ResC (w0 W : World) : Prop := (W.cell? ⟨w0.heap.size, 0, none⟩ = some (.int .i64 0) ∧ W.cell? ⟨w0.heap.size, 1, none⟩ = some (.string ⟨#[]⟩)) ∧ (W.frozen? ⟨w0.heap.size, 0, none⟩ = false ∧ W.frozen? ⟨w0.heap.size, 1, none⟩ = false) ∧ Below w0.heap.size w0 W
theorem resC_made (w : World) (t : TypeId) : ResC w (w.alloc (.cells #[.int .i64 0, .string ⟨#[]⟩] t)) := by
  refine ⟨⟨?_, ?_⟩, ⟨?_, ?_⟩, (Below.refl _ _).alloc (Nat.le_refl _) _⟩
  all_goals go_simp
theorem ResC.lt {w0 W : World} (h : ResC w0 W) : w0.heap.size < W.heap.size := Kit.cell_lt h.1.1
theorem ResC.on {w0 W W' : World} (h : ResC w0 W) (hb : Below W.heap.size W W') : ResC w0 W' := by
  have hl := h.lt
  obtain ⟨⟨h1, h2⟩, ⟨h3, h4⟩, h5⟩ := h
  exact ⟨⟨by rw [hb.cell hl]; exact h1, by rw [hb.cell hl]; exact h2⟩, ⟨by rw [hb.frozen hl]; exact h3, by rw [hb.frozen hl]; exact h4⟩, h5.trans (hb.mono h5.size)⟩
theorem ResC.alloc {w0 W : World} (h : ResC w0 W) (o : Obj) : ResC w0 (W.alloc o) := h.on ((Below.refl _ _).alloc (Nat.le_refl _) o)
theorem ret_sg {w1 : World} {B : Nat} {x0 y0 : Value} (e0 : w1.cell? ⟨B, 0, none⟩ = some x0) (e1 : w1.cell? ⟨B, 1, none⟩ = some y0) (x y : Value) :
    ((w1.setCell ⟨B, 0, none⟩ x).setCell ⟨B, 1, none⟩ y).cell? ⟨B, 0, none⟩ = some x ∧ ((w1.setCell ⟨B, 0, none⟩ x).setCell ⟨B, 1, none⟩ y).cell? ⟨B, 1, none⟩ = some y := by
  constructor
  · rw [World.cell?_setCell_other _ _ _ _ (by simp)]; exact World.cell?_setCell_same _ _ _ e0
  · exact World.cell?_setCell_same _ _ _ (by rw [World.cell?_setCell_other _ _ _ _ (by simp)]; exact e1)
theorem pair_eq (o : Option Int) : Read.pair o = .tuple #[.int .i64 (o.getD 0), .bool o.isSome] := by cases o <;> rfl
/-- What a text's number needs of memory. -/
structure Env (a1 a2 a3 : Addr) (tp : TypeId) (m : Int) (w : World) : Prop where
  held : Parse.Held w.heap.size w a1 a2 a3 tp
  max : w.cell? ⟨1, 0, none⟩ = some (.int .i64 m)
theorem Env.on {a1 a2 a3 : Addr} {tp : TypeId} {m : Int} {w w' : World} (h : Env a1 a2 a3 tp m w) (hb : Below w.heap.size w w') : Env a1 a2 a3 tp m w' :=
  ⟨h.held.up hb, by rw [hb.cell (Kit.cell_lt h.max)]; exact h.max⟩
theorem below_drawn (w : World) (n : Nat) : Below w.heap.size w (w.drewN n) := drewN_below (Below.refl _ _) n
set_option maxHeartbeats 3200000 in
set_option maxRecDepth 100000 in
theorem implParse_by (s a d : ByteArray) (f p z : Bool) (x : Int) (w : World)
    (HC : Hid (∀ W, Below w.heap.size w W → Calls Tryd.prog 18 #[.string s, .string ⟨#[58]⟩] W fun e w' => e = .returned (.tuple #[.string a, .string d, .bool f]) ∧ Below W.heap.size W w'))
    (HN : Hid (∀ W, Below w.heap.size w W → Calls Tryd.prog 19 #[.string a] W fun e w' => e = .returned (.tuple #[.int .i64 x, .bool p]) ∧ Below W.heap.size W w'))
    (HA : Hid (∀ W, Calls Tryd.prog 14 #[sg x d] W fun e w' => e = .returned (.bool z) ∧ Below W.heap.size W w')) :
    Calls Tryd.prog 10 #[.string s] w fun e w' => e = .returned (if f = true ∧ p = true ∧ z = true then .tuple #[sg x d, .bool true] else .tuple #[sg 0 ⟨#[]⟩, .bool false]) ∧ Below w.heap.size w w' := by
  have HM := Lib.hid (resC_made w 26)
  cases f
  all_goals cases p
  all_goals cases z
  all_goals
    go_enter Tryd.func10, Tryd.ntmps10
    go_wp2_with fail
    refine (HC.out _ HM.out.2.2).mono ?_
    rintro e w1 ⟨rfl, hb1⟩
    have R1 := HM.out.on hb1
    go_wp2_with fail
    refine (HN.out _ R1.2.2).mono ?_
    rintro e w2 ⟨rfl, hb2⟩
    have R2 := Lib.hid (R1.on hb2)
    clear R1
    obtain ⟨⟨e0, e1⟩, ⟨z0, z1⟩, B2⟩ := R2.out
    have R3 := Lib.hid (R2.out.alloc (.cells #[.int .i64 x, .string d] 26))
    obtain ⟨⟨r0, r1⟩, ⟨s0, s1⟩, B3⟩ := R3.out
    obtain ⟨g0, g1⟩ := ret_sg r0 r1 (.int .i64 0) (.string ⟨#[]⟩)
    first
      | (go_wp2_with fail
         exact bodyPost_ret (v := .tuple #[.agg #[.int .i64 0, .string ⟨#[]⟩], .bool false]) (by simp [results, Tryd.results10, go_sem, g0, g1]) rfl ⟨rfl, (B3.setCell (by simp) _).setCell (by simp) _⟩)
      | (clear g0 g1
         have X3 := Lib.hid (box_made w2 x d 26)
         go_wp2_with fail
         refine (HA.out _).mono ?_
         rintro e w4 ⟨rfl, hb4⟩
         obtain ⟨x0, x1, -⟩ := X3.out.on hb4
         obtain ⟨⟨r0, r1⟩, ⟨s0, s1⟩, B4⟩ := R3.out.on hb4
         obtain ⟨g0, g1⟩ := ret_sg r0 r1 (.int .i64 0) (.string ⟨#[]⟩)
         obtain ⟨k0, k1⟩ := ret_sg r0 r1 (.int .i64 x) (.string d)
         go_wp2
         first
           | exact bodyPost_ret (v := .tuple #[.agg #[.int .i64 0, .string ⟨#[]⟩], .bool false]) (by simp [results, Tryd.results10, go_sem, g0, g1]) rfl ⟨rfl, (B4.setCell (by simp) _).setCell (by simp) _⟩
           | exact bodyPost_ret (v := .tuple #[.agg #[.int .i64 x, .string d], .bool true]) (by simp [results, Tryd.results10, go_sem, k0, k1]) rfl ⟨rfl, (B4.setCell (by simp) _).setCell (by simp) _⟩)
theorem implParse (s : ByteArray) (hs : s.size ≤ 1048576) (w : World) (a1 a2 a3 : Addr) (tp : TypeId) (m : Int) (HE : Hid (Env a1 a2 a3 tp m w)) :
    Calls Tryd.prog 10 #[.string s] w fun e w' => e = .returned (outv (parseR s.data.toList)) ∧ Below w.heap.size w w' := by
  have hsl : s.data.toList.length = s.size := by simp
  obtain ⟨a, d, f, hcut, hin, hres⟩ : ∃ (a d : List UInt8) (f : Bool), Lib.cut s.data.toList [58] = (a, d, f) ∧ (a.length ≤ s.size ∧ d.length ≤ s.size) ∧ outv (parseR s.data.toList) = (if f = true ∧ (Num.readI 0 999999 a).isSome = true ∧ arB ((Num.readI 0 999999 a).getD 0) d = true then .tuple #[sg ((Num.readI 0 999999 a).getD 0) ⟨d.toArray⟩, .bool true] else .tuple #[sg 0 ⟨#[]⟩, .bool false]) := by
    have h1 := cut_of 58 s.data.toList
    have h2 := index_cut 58 s.data.toList
    cases e : cutAt 58 s.data.toList with
    | none =>
      rw [e] at h1
      exact ⟨_, _, _, h1, ⟨by omega, by simp⟩, by unfold parseR; rw [e]; simp [outv]⟩
    | some q =>
      rw [e] at h1 h2
      refine ⟨_, _, _, h1, ?_, ?_⟩
      · have := congrArg List.length h2.2
        simp at this
        have hq : s.data.size = s.size := rfl
        omega
      · unfold parseR
        rw [e]
        simp only []
        cases e2 : Num.readI 0 999999 q.1 with
        | none => simp [outv]
        | some n =>
          cases hA : arB n q.2 <;> simp [outv, hA]
  rw [hres]
  refine implParse_by s ⟨a.toArray⟩ ⟨d.toArray⟩ f _ _ _ w (Lib.hid fun W hW => ?_) (Lib.hid fun W hW => ?_) (Lib.hid fun W => implAre_sg _ _ (by show d.toArray.size ≤ _; simp; omega) W)
  · refine (Tryd.strings_Cut s ⟨#[58]⟩ m W (by omega) (HE.out.on hW).max).mono fun e w' ⟨he, n, hn⟩ => ⟨?_, by rw [hn]; exact below_drawn W n⟩
    rw [he]
    have h58 : (⟨#[58]⟩ : ByteArray).data.toList = [58] := rfl
    rw [h58, hcut]
  · rw [← pair_eq]
    exact Parse.parseNumber_any ⟨a.toArray⟩ (by show a.toArray.size ≤ _; simp; omega) W a1 a2 a3 tp (HE.out.on hW).held
/-- The pieces of a text, in memory of the call's own. -/
def Pieces (xs : List ByteArray) (W : World) (e : Ending) (w' : World) : Prop := ∃ b c, e = .returned (.slice (some ⟨b, 0, none⟩) xs.length c) ∧ (∀ (j : Nat) x, xs[j]? = some x → w'.cell? ⟨b, j, none⟩ = some (.string x)) ∧ b < w'.heap.size ∧ Below W.heap.size W w'
theorem split_pieces (s : ByteArray) (hs : s.size ≤ 1048576) (W : World) : Calls Tryd.prog 16 #[.string s, .int .u8 58] W fun e w' => Pieces (Split.pieces 58 s.data.toList) W e w' := by
  refine (Split.spec_any s 58 hs W).mono fun e w' ⟨v, he, ho, hb⟩ => ?_
  obtain ⟨b, c, rfl, -, hl, hat⟩ := Split.owns_row ho (Split.pieces_pos 58 _)
  exact ⟨b, c, he, fun j x hx => by have := hat j x hx; rwa [Nat.zero_add] at this, hl, hb⟩
set_option maxHeartbeats 800000 in
set_option maxRecDepth 100000 in
theorem specParse_len (s : ByteArray) (xs : List ByteArray) (x0 : ByteArray) (x : Int) (p : Bool) (hx0 : xs[0]? = some x0) (hl : xs.length ≠ 2) (hl2 : xs.length ≤ 2000000) (w : World)
    (HC : Hid (∀ W, Calls Tryd.prog 16 #[.string s, .int .u8 58] W fun e w' => Pieces xs W e w'))
    (HN : Hid (∀ W, Calls Tryd.prog 17 #[.string x0] W fun e w' => e = .returned (.tuple #[.int .i64 x, .bool p]) ∧ Below W.heap.size W w')) :
    Calls Tryd.prog 9 #[.string s] w fun e w' => e = .returned (.tuple #[sg 0 ⟨#[]⟩, .bool false]) ∧ Below w.heap.size w w' := by
  have HM := Lib.hid (resC_made w 26)
  have hpos : 0 < xs.length := (List.getElem?_eq_some_iff.1 hx0).1
  have HX := Lib.hid hx0
  have hne : ((xs.length : Int) != 2) = true := by simp; omega
  clear hx0
  go_enter Tryd.func9, Tryd.ntmps9
  go_wp2_with fail
  refine (HC.out _).mono ?_
  rintro e w1 ⟨b, c, rfl, hat, hbl, hb1⟩
  have R1 := HM.out.on hb1
  have c0 := hat 0 x0 HX.out
  clear hat
  go_wp2_with fail
  refine (HN.out _).mono ?_
  rintro e w2 ⟨rfl, hb2⟩
  obtain ⟨⟨r0, r1⟩, ⟨s0, s1⟩, B2⟩ := R1.on hb2
  obtain ⟨g0, g1⟩ := ret_sg r0 r1 (.int .i64 0) (.string ⟨#[]⟩)
  clear R1 c0
  go_wp2
  exact bodyPost_ret (v := .tuple #[.agg #[.int .i64 0, .string ⟨#[]⟩], .bool false]) (by simp [results, Tryd.results9, go_sem, g0, g1]) rfl ⟨rfl, (B2.setCell (by simp) _).setCell (by simp) _⟩
set_option maxHeartbeats 1600000 in
set_option maxRecDepth 100000 in
theorem specParse_two (s a d : ByteArray) (x : Int) (p z : Bool) (w : World)
    (HC : Hid (∀ W, Calls Tryd.prog 16 #[.string s, .int .u8 58] W fun e w' => Pieces [a, d] W e w'))
    (HN : Hid (∀ W, Calls Tryd.prog 17 #[.string a] W fun e w' => e = .returned (.tuple #[.int .i64 x, .bool p]) ∧ Below W.heap.size W w'))
    (HA : Hid (∀ W, Calls Tryd.prog 12 #[sg x d] W fun e w' => e = .returned (.bool z) ∧ Below W.heap.size W w')) :
    Calls Tryd.prog 9 #[.string s] w fun e w' => e = .returned (if p = true ∧ z = true then .tuple #[sg x d, .bool true] else .tuple #[sg 0 ⟨#[]⟩, .bool false]) ∧ Below w.heap.size w w' := by
  have HM := Lib.hid (resC_made w 26)
  cases p
  all_goals cases z
  all_goals
    go_enter Tryd.func9, Tryd.ntmps9
    go_wp2_with fail
    refine (HC.out _).mono ?_
    rintro e w1 ⟨b, c, rfl, hat, hbl, hb1⟩
    have R1 := HM.out.on hb1
    have c0 := hat 0 a rfl
    have c1 := hat 1 d rfl
    clear hat
    go_wp2_with fail
    refine (HN.out _).mono ?_
    rintro e w2 ⟨rfl, hb2⟩
    have c1' : w2.cell? ⟨b, 1, none⟩ = some (.string d) := by rw [hb2.cell hbl]; exact c1
    have R2 := Lib.hid (R1.on hb2)
    clear R1 c0 c1
    obtain ⟨⟨r0, r1⟩, ⟨s0, s1⟩, B2⟩ := R2.out
    obtain ⟨g0, g1⟩ := ret_sg r0 r1 (.int .i64 0) (.string ⟨#[]⟩)
    first
      | (go_wp2_with fail
         exact bodyPost_ret (v := .tuple #[.agg #[.int .i64 0, .string ⟨#[]⟩], .bool false]) (by simp [results, Tryd.results9, go_sem, g0, g1]) rfl ⟨rfl, (B2.setCell (by simp) _).setCell (by simp) _⟩)
      | (clear g0 g1
         have X3 := Lib.hid (box_made w2 x d 26)
         have R3 := Lib.hid (R2.out.alloc (.cells #[.int .i64 x, .string d] 26))
         go_wp2_with fail
         refine (HA.out _).mono ?_
         rintro e w4 ⟨rfl, hb4⟩
         obtain ⟨x0, x1, -⟩ := X3.out.on hb4
         obtain ⟨⟨r0, r1⟩, ⟨s0, s1⟩, B4⟩ := R3.out.on hb4
         obtain ⟨g0, g1⟩ := ret_sg r0 r1 (.int .i64 0) (.string ⟨#[]⟩)
         obtain ⟨k0, k1⟩ := ret_sg r0 r1 (.int .i64 x) (.string d)
         go_wp2
         first
           | exact bodyPost_ret (v := .tuple #[.agg #[.int .i64 0, .string ⟨#[]⟩], .bool false]) (by simp [results, Tryd.results9, go_sem, g0, g1]) rfl ⟨rfl, (B4.setCell (by simp) _).setCell (by simp) _⟩
           | exact bodyPost_ret (v := .tuple #[.agg #[.int .i64 x, .string d], .bool true]) (by simp [results, Tryd.results9, go_sem, k0, k1]) rfl ⟨rfl, (B4.setCell (by simp) _).setCell (by simp) _⟩)
theorem pieces_head {s : ByteArray} {x : ByteArray} (h : x ∈ Split.pieces 58 s.data.toList) : x.size ≤ s.size := by
  have key : ∀ (l cur : List UInt8), ∀ y ∈ Split.Q 58 cur l, y.length ≤ cur.length + l.length := by
    intro l
    induction l with
    | nil => intro cur y hy; simp only [Split.Q, List.mem_singleton] at hy; subst hy; simp
    | cons b r ih =>
      intro cur y hy
      unfold Split.Q at hy
      split at hy
      · rcases List.mem_cons.1 hy with rfl | hy
        · simp
        · have := ih [] y hy
          simp only [List.length_nil, List.length_cons] at this ⊢; omega
      · have := ih (cur ++ [b]) y hy
        simp only [List.length_append, List.length_cons, List.length_nil] at this ⊢; omega
  unfold Split.pieces at h
  obtain ⟨y, hy, rfl⟩ := List.mem_map.1 h
  have h := key _ _ y hy
  show y.toArray.size ≤ _
  simpa using h
theorem specParse (s : ByteArray) (hs : s.size ≤ 1048576) (w : World) :
    Calls Tryd.prog 9 #[.string s] w fun e w' => e = .returned (outv (parseR s.data.toList)) ∧ Below w.heap.size w w' := by
  have hsl : s.data.toList.length = s.size := by simp
  have hle := Split.pieces_le 58 s.data.toList
  by_cases hl : (Split.pieces 58 s.data.toList).length = 2
  · obtain ⟨a, d, hc, hp⟩ : ∃ a d : List UInt8, cutAt 58 s.data.toList = some (a, d) ∧ Split.pieces 58 s.data.toList = [⟨a.toArray⟩, ⟨d.toArray⟩] := by
      have hq := Q_cut 58 s.data.toList []
      cases e : cutAt 58 s.data.toList with
      | none => unfold Split.pieces at hl; rw [hq, e] at hl; simp at hl
      | some q =>
        obtain ⟨a, d⟩ := q
        rw [e] at hq
        have hd : (58 : UInt8) ∉ d := fun hm => by
          have h2 := Split.Q_length 58 d []
          have h3 := List.count_pos_iff.2 hm
          unfold Split.pieces at hl
          rw [hq] at hl
          simp only [List.map_cons, List.length_cons, List.length_map] at hl
          omega
        refine ⟨a, d, rfl, ?_⟩
        unfold Split.pieces
        rw [hq]
        simp only [List.nil_append]
        rw [Q_one hd]
        rfl
    have ha : (⟨a.toArray⟩ : ByteArray).size ≤ s.size := pieces_head (by rw [hp]; simp)
    have hd : (⟨d.toArray⟩ : ByteArray).size ≤ s.size := pieces_head (by rw [hp]; simp)
    rw [parse_two hc]
    refine specParse_two s ⟨a.toArray⟩ ⟨d.toArray⟩ _ _ _ w (Lib.hid fun W => ?_) (Lib.hid fun W => ?_) (Lib.hid fun W => specAre_sg _ _ (by omega) W)
    · rw [← hp]; exact split_pieces s hs W
    · rw [← pair_eq]; exact ParseInt.specInt ⟨a.toArray⟩ (by omega) W
  · have hno : outv (parseR s.data.toList) = .tuple #[sg 0 ⟨#[]⟩, .bool false] := by
      unfold parseR
      cases e : cutAt 58 s.data.toList with
      | none => rfl
      | some q =>
        simp only []
        have hd : (58 : UInt8) ∈ q.2 := by
          refine Classical.byContradiction fun hm => hl ?_
          have hq := Q_cut 58 s.data.toList []
          rw [e] at hq
          simp only [] at hq
          rw [Q_one hm] at hq
          unfold Split.pieces
          rw [hq]
          rfl
        cases Num.readI 0 999999 q.1 with
        | none => rfl
        | some n => simp only [arB_has hd]; rfl
    rw [hno]
    have hpos := Split.pieces_pos 58 s.data.toList
    obtain ⟨x0, hx0⟩ : ∃ x0, (Split.pieces 58 s.data.toList)[0]? = some x0 := ⟨_, List.getElem?_eq_getElem hpos⟩
    have hxs := pieces_head (List.mem_of_getElem? hx0)
    refine specParse_len s _ x0 ((Num.readS x0.data.toList 12).getD 0) (Num.readS x0.data.toList 12).isSome hx0 hl (by omega) w (Lib.hid fun W => split_pieces s hs W) (Lib.hid fun W => ?_)
    rw [← pair_eq]; exact ParseInt.specInt x0 (by omega) W
theorem outv_ex (o : Option (Int × List UInt8)) : ∃ n s b, outv o = .tuple #[sg n s, .bool b] := by
  cases o with
  | none => exact ⟨_, _, _, rfl⟩
  | some q => exact ⟨_, _, _, rfl⟩
set_option maxHeartbeats 800000 in
set_option maxRecDepth 100000 in
theorem walkParseSigns_big (s : ByteArray) (hs : s.size ≤ 9223372036854775807) (hb : 1048576 < s.size) (w : World) :
    Calls Tryd.prog 4 #[.string s] w fun e w' => e = .returned (.bool true) ∧ Below w.heap.size w w' := by
  have h1 : (1048576 : Int) < s.size := by omega
  go_enter Tryd.func4, Tryd.ntmps4
  go_wp2
  go_ret
  exact ⟨rfl, by first | exact Below.refl _ _ | go_grown⟩
set_option maxHeartbeats 800000 in
set_option maxRecDepth 100000 in
theorem walkParseSigns_in (s : ByteArray) (hs : s.size ≤ 1048576) (w : World) (a1 a2 a3 : Addr) (tp : TypeId) (m : Int) (HE : Hid (Env a1 a2 a3 tp m w)) :
    Calls Tryd.prog 4 #[.string s] w fun e w' => e = .returned (.bool true) ∧ Below w.heap.size w w' := by
  obtain ⟨n, t, b, ho⟩ := outv_ex (parseR s.data.toList)
  have HA : Hid (∀ W, Calls Tryd.prog 9 #[.string s] W fun e w' => e = .returned (.tuple #[sg n t, .bool b]) ∧ Below W.heap.size W w') := Lib.hid (fun W => by rw [← ho]; exact specParse s hs W)
  have HI : Hid (∀ W, Below w.heap.size w W → Calls Tryd.prog 10 #[.string s] W fun e w' => e = .returned (.tuple #[sg n t, .bool b]) ∧ Below W.heap.size W w') := Lib.hid (fun W hW => by rw [← ho]; exact implParse s hs W a1 a2 a3 tp m (Lib.hid (HE.out.on hW)))
  have hself : (b != b) = false := by simp
  clear ho HE
  have HQ := Lib.hid (fun W => eq_sg n t W)
  go_enter Tryd.func4, Tryd.ntmps4
  go_wp2_with fail
  refine (HA.out _).mono ?_
  rintro e w1 ⟨rfl, B1⟩
  have X1 := Lib.hid (box_made w1 n t 26)
  have B1' := B1.alloc B1.size (.cells #[.int .i64 n, .string t] 26)
  go_wp2_with fail
  refine (HI.out _ B1').mono ?_
  rintro e w2 ⟨rfl, hb2⟩
  obtain ⟨x0, x1, -⟩ := (X1.out.on hb2).alloc (.cells #[.int .i64 n, .string t] 26)
  have B2 := B1'.trans (hb2.mono B1'.size)
  have B2' := B2.alloc B2.size (.cells #[.int .i64 n, .string t] 26)
  go_wp2_with fail
  refine (HQ.out _).mono ?_
  rintro e w3 ⟨rfl, hb3⟩
  have B3 := B2'.trans (hb3.mono B2'.size)
  go_wp2
  go_ret
  exact ⟨rfl, B3⟩
theorem walkParseSigns (s : ByteArray) (hs : s.size ≤ 9223372036854775807) (w : World) (a1 a2 a3 : Addr) (tp : TypeId) (m : Int) (HE : Env a1 a2 a3 tp m w) :
    Calls Tryd.prog 4 #[.string s] w fun e w' => e = .returned (.bool true) ∧ Below w.heap.size w w' := by
  by_cases h : s.size ≤ 1048576
  · exact walkParseSigns_in s h w a1 a2 a3 tp m (Lib.hid HE)
  · exact walkParseSigns_big s hs (by omega) w
end Go.Proofs.YtohihlhkheeemaaDoor.SgParse
