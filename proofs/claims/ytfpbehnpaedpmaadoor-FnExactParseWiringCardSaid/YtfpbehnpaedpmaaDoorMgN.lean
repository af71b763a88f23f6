/- Several texts in one: Num, Strs, Mark, Split, WiRead, Read, SplitWalk. -/
import Derived.Lib.ItoaNum
import Derived.Lib.ItoaMem
import Derived.Lib.AtoiAll
import Derived.Test.YtfpbehnpaedpmaaDoorProg
import Derived.WalkKit
import Derived.Below
import Derived.Lib.Hide
import Derived.Handy
import Derived.Deep.OwnRows
import Derived.Deep.QuietTactic
import Derived.BigQuiet
import Derived.RegionTactic
import Derived.OwnWalk
import Derived.Laws.IdiomStrings
import Derived.Deep.RegionHeld3
import Derived.Laws.AppendOwn
import Derived.Lib.Split
import Derived.Lib.SplitLaws
import Derived.Laws.OwnMore
import Derived.Test.YtfpbehnpaedpmaaDoorMgWc
import Derived.Outline
import Derived.Test.YtfpbehnpaedpmaaDoorShelf
/- The plain mathematics of reading an integer: the model's way and the program's way come to the same. -/
namespace Go.Proofs.YtfpbehnpaedpmaaDoor.Num

def val (acc : Nat) : List UInt8 → Option Nat
  | [] => some acc
  | c :: r => if 48 ≤ c.toNat ∧ c.toNat ≤ 57 then val (10 * acc + (c.toNat - 48)) r else none
def neg (l : List UInt8) : Bool := l.head? == some 45
def body (l : List UInt8) : List UInt8 := if neg l then l.tail else l
def signed (b : Bool) (u : Nat) : Int := if b then -(u : Int) else u
def readS (l : List UInt8) (most : Nat) : Option Int :=
  if (body l).length < 1 ∨ most < (body l).length then none
  else match val 0 (body l) with
    | none => none
    | some u => if Lib.itoa (signed (neg l) u) = l then some (signed (neg l) u) else none
def readI (lo hi : Int) (l : List UInt8) : Option Int :=
  match Lib.atoiAll l with
  | .ok n => if Lib.itoa n = l ∧ lo ≤ n ∧ n ≤ hi then some n else none
  | _ => none

def digit (c : UInt8) : Prop := 48 ≤ c.toNat ∧ c.toNat ≤ 57
theorem val_snoc : ∀ (l : List UInt8) (c : UInt8) (acc u : Nat), val acc l = some u → digit c → val acc (l ++ [c]) = some (10 * u + (c.toNat - 48))
  | [], c, acc, u, h, hc => by
    simp only [val, Option.some.injEq] at h
    subst h
    unfold digit at hc
    simp [val, hc]
  | d :: r, c, acc, u, h, hc => by
    simp only [val] at h
    split at h
    · rename_i hd
      simp only [List.cons_append, val]
      rw [if_pos hd]
      exact val_snoc r c _ u h hc
    · cases h
theorem val_stop : ∀ (l : List UInt8) (c : UInt8) (r : List UInt8) (acc : Nat), ¬ digit c → val acc (l ++ c :: r) = none
  | [], c, r, acc, hc => by
    unfold digit at hc
    simp only [List.nil_append, val]
    rw [if_neg hc]
  | d :: l, c, r, acc, hc => by
    simp only [List.cons_append, val]
    split
    · exact val_stop l c r _ hc
    · rfl
theorem take_snoc (s : ByteArray) (k : Nat) (h : k < s.size) : s.data.toList.take (k + 1) = s.data.toList.take k ++ [s[k]] := by
  rw [List.take_succ_eq_append_getElem (by simpa using h)]; rfl
theorem split_at (s : ByteArray) (k : Nat) (h : k < s.size) : s.data.toList = s.data.toList.take k ++ s[k] :: s.data.toList.drop (k + 1) := by
  conv => lhs; rw [← List.take_append_drop k s.data.toList]
  congr 1
  rw [List.drop_eq_getElem_cons (by simpa using h)]; rfl
theorem val_ge : ∀ (l : List UInt8) (acc u : Nat), val acc l = some u → acc ≤ u
  | [], acc, u, h => by simp only [val, Option.some.injEq] at h; omega
  | c :: r, acc, u, h => by
    simp only [val] at h
    split at h
    · have := val_ge r _ u h; omega
    · cases h
theorem val_lt : ∀ (l : List UInt8) (acc u : Nat), val acc l = some u → u < (acc + 1) * 10 ^ l.length
  | [], acc, u, h => by simp only [val, Option.some.injEq] at h; simp; omega
  | c :: r, acc, u, h => by
    simp only [val] at h
    split at h
    · have h1 := val_lt r _ u h
      have h2 : 10 * acc + (c.toNat - 48) + 1 ≤ (acc + 1) * 10 := by omega
      have h3 := Nat.mul_le_mul_right (10 ^ r.length) h2
      rw [List.length_cons, Nat.pow_succ, Nat.mul_comm (10 ^ r.length) 10, ← Nat.mul_assoc]
      omega
    · cases h
theorem parse_of_val : ∀ (l : List UInt8) (acc u : Nat), val acc l = some u → u < 9223372036854775808 → Lib.parseUint10 acc l = .ok u
  | [], acc, u, h, _ => by simp only [val, Option.some.injEq] at h; simp [Lib.parseUint10, h]
  | c :: r, acc, u, h, hu => by
    simp only [val] at h
    split at h
    · rename_i hc
      have hge := val_ge r _ u h
      simp only [Lib.parseUint10]
      rw [if_pos hc, if_neg (by omega), if_neg (by omega), Nat.mul_comm acc 10]
      exact parse_of_val r _ u h hu
    · cases h
theorem val_of_parse : ∀ (l : List UInt8) (acc u : Nat), Lib.parseUint10 acc l = .ok u → val acc l = some u
  | [], acc, u, h => by simp only [Lib.parseUint10, Lib.NumEnd.ok.injEq] at h; simp [val, h]
  | c :: r, acc, u, h => by
    simp only [Lib.parseUint10] at h
    simp only [val]
    split at h
    · rename_i hc
      rw [if_pos hc]
      split at h
      · cases h
      · split at h
        · cases h
        · rw [Nat.mul_comm acc 10] at h
          exact val_of_parse r _ u h
    · cases h
theorem nDigits_le : ∀ (k u : Nat), u < 10 ^ (k + 1) → Lib.nDigits u ≤ k + 1 := by
  intro k
  induction k with
  | zero => intro u hu; rw [Lib.nDigits_small (by simpa using hu)]; exact Nat.le_refl _
  | succ k ih =>
    intro u hu
    by_cases h10 : u < 10
    · rw [Lib.nDigits_small h10]; omega
    · rw [Lib.nDigits_big h10]
      have := ih (u / 10) (by rw [Nat.pow_succ] at hu; omega)
      omega
theorem dec_head (u : Nat) : ∃ (c : UInt8) (r : List UInt8), Lib.decDigits u = c :: r ∧ 48 ≤ c.toNat ∧ c.toNat ≤ 57 := by
  induction u using Nat.strongRecOn with
  | _ u ih =>
    by_cases h : u < 10
    · exact ⟨UInt8.ofNat (48 + u), [], Lib.decDigits_one h, by simp; omega, by simp; omega⟩
    · obtain ⟨c, r, e, h1, h2⟩ := ih (u / 10) (by omega)
      refine ⟨c, r ++ [UInt8.ofNat (48 + u % 10)], ?_, h1, h2⟩
      rw [Lib.decDigits, dif_neg h, e]; rfl
theorem neg_itoa (n : Int) : neg (Lib.itoa n) = decide (n < 0) := by
  unfold Lib.itoa neg
  by_cases h : n < 0
  · rw [if_pos h]; simp [h]
  · rw [if_neg h]
    obtain ⟨c, r, e, h1, h2⟩ := dec_head n.toNat
    rw [e]
    simp [h]
    intro e; subst e; simp at h1
theorem body_itoa (n : Int) : body (Lib.itoa n) = Lib.decDigits n.natAbs := by
  unfold body
  rw [neg_itoa]
  by_cases h : n < 0
  · simp [h, Lib.itoa]
  · simp [h, Lib.itoa, show n.toNat = n.natAbs by omega]
/-- What Atoi makes of a text that is a numeral, by the model's fold. -/
theorem atoi_itoa (l : List UInt8) (n m : Int) (hl : Lib.itoa m = l) : Lib.atoiAll l = .ok n ↔ ∃ u, Lib.parseUint10 0 (body l) = .ok u ∧ n = signed (neg l) u ∧ (if neg l then u ≤ 9223372036854775808 else u < 9223372036854775808) := by
  subst hl
  have hb := body_itoa m
  have hn := neg_itoa m
  by_cases h : m < 0
  · have e : Lib.itoa m = 45 :: Lib.decDigits m.natAbs := by simp [Lib.itoa, h]
    rw [hb, hn]
    obtain ⟨c, r, ed, _, _⟩ := dec_head m.natAbs
    rw [e]
    have ne : Lib.decDigits m.natAbs ≠ [] := by rw [ed]; simp
    simp only [Lib.atoiAll, h, decide_true, signed, if_true]
    simp only [Lib.parseMag]
    rw [if_pos (Or.inr (by decide)), if_neg ne]
    generalize Lib.parseUint10 0 (Lib.decDigits m.natAbs) = q
    cases q with
    | ok u =>
      simp only [Lib.NumEnd.ok.injEq, exists_eq_left']
      rw [if_neg (by simp)]
      by_cases hu : 9223372036854775808 < u
      · rw [if_pos ⟨by decide, hu⟩]; simp; omega
      · rw [if_neg (by omega)]; simp; omega
    | _ => simp
  · have e : Lib.itoa m = Lib.decDigits m.natAbs := by simp [Lib.itoa, h, show m.toNat = m.natAbs by omega]
    rw [hb, hn]
    obtain ⟨c, r, ed, h1, h2⟩ := dec_head m.natAbs
    rw [e, ed]
    simp only [Lib.atoiAll, h, decide_false, signed]
    have c1 : ¬ c.toNat = 43 := by omega
    have c2 : ¬ c.toNat = 45 := by omega
    simp only [Lib.parseMag, c1, c2]
    simp only [or_self, if_false, false_and]
    rw [if_neg (by simp)]
    generalize Lib.parseUint10 0 (c :: r) = q
    cases q with
    | ok u =>
      simp only [Lib.NumEnd.ok.injEq, exists_eq_left', not_false_eq_true, true_and]
      by_cases hu : 9223372036854775808 ≤ u
      · rw [if_pos hu]; simp; omega
      · rw [if_neg hu]; simp; omega
    | _ => simp

theorem read_same (k : Nat) (hk : k + 1 ≤ 18) (l : List UInt8) (n : Int) : readI (-((10 : Int) ^ (k + 1) - 1)) ((10 : Int) ^ (k + 1) - 1) l = some n ↔ readS l (k + 1) = some n := by
  have hp : (10 : Nat) ^ (k + 1) ≤ 10 ^ 18 := Nat.pow_le_pow_right (by decide) hk
  have hc : ((10 ^ (k + 1) : Nat) : Int) = (10 : Int) ^ (k + 1) := by simp
  constructor
  · intro h
    unfold readI at h
    split at h
    · rename_i m hm
      split at h
      · rename_i hh
        obtain ⟨hi, hlo, hhi⟩ := hh
        injection h with h
        subst h
        obtain ⟨u, hu, hn, _⟩ := (atoi_itoa l m m hi).1 hm
        have hv := val_of_parse _ _ _ hu
        have hb := body_itoa m
        rw [hi] at hb
        have hlen : (body l).length ≤ k + 1 := by
          rw [hb, Lib.decDigits_length]
          exact nDigits_le k _ (by omega)
        have hpos : 1 ≤ (body l).length := by
          rw [hb, Lib.decDigits_length]; exact Lib.nDigits_pos _
        unfold readS
        rw [if_neg (by omega), hv]
        simp only [← hn, hi, if_true]
      · cases h
    · cases h
  · intro h
    unfold readS at h
    split at h
    · cases h
    · rename_i hlen
      split at h
      · cases h
      · rename_i u hv
        split at h
        · rename_i hi
          injection h with h
          subst h
          have hlt := val_lt _ _ _ hv
          have h10 : 10 ^ (body l).length ≤ 10 ^ (k + 1) := Nat.pow_le_pow_right (by decide) (by omega)
          have hu : u < 10 ^ (k + 1) := by omega
          have hm := (atoi_itoa l (signed (neg l) u) _ hi).2 ⟨u, parse_of_val _ _ _ hv (by omega), rfl, by split <;> omega⟩
          unfold readI
          rw [hm]
          simp only []
          have hb1 : -(10 ^ (k + 1) - 1) ≤ signed (neg l) u ∧ signed (neg l) u ≤ 10 ^ (k + 1) - 1 := by
            unfold signed; split <;> omega
          rw [if_pos ⟨hi, hb1⟩]
        · cases h
end Go.Proofs.YtfpbehnpaedpmaaDoor.Num
/- Slices of strings: what the laws' helpers make of them. -/
namespace Go.Proofs.YtfpbehnpaedpmaaDoor.Strs
open Go.RowKit

theorem ret_bool {a b : Bool} (h : a = b) : Ending.returned (.bool a) = .returned (.bool b) := by rw [h]
/-- The cells from offset o of block b on hold the strings xs. -/
def At (w : World) (b o : Nat) (xs : List ByteArray) : Prop := ∀ (j : Nat) x, xs[j]? = some x → w.cell? ⟨b, o + j, none⟩ = some (.string x)
theorem At.get {w : World} {b o : Nat} {xs : List ByteArray} (h : At w b o xs) (k : Nat) (hk : k < xs.length) : w.cell? ⟨b, o + k, none⟩ = some (.string xs[k]) := h k _ (List.getElem?_eq_getElem hk)
theorem At.on {w w' : World} {B b o : Nat} {xs : List ByteArray} (h : At w b o xs) (hb : Below B w w') (hB : b < B) : At w' b o xs := fun j x hx => by rw [hb.cell hB]; exact h j x hx

def strAt (xs : List ByteArray) (j : Nat) : Value := .string (xs.getD j ⟨#[]⟩)
theorem strAt_lt (xs : List ByteArray) (j : Nat) (h : j < xs.length) : strAt xs j = .string xs[j] := by unfold strAt; rw [List.getD_eq_getElem?_getD, List.getElem?_eq_getElem h]; rfl
end Go.Proofs.YtfpbehnpaedpmaaDoor.Strs
/- markText, markStringS, heldStringS: a slice of strings is filled with marks, and asked for them. -/
namespace Go.Proofs.YtfpbehnpaedpmaaDoor.Strs
open Go.RowKit

def digs (u : Nat) : List UInt8 := if u = 0 then [] else Lib.decDigits u
theorem digs_step (u : Nat) (h : u ≠ 0) : digs u = digs (u / 10) ++ [UInt8.ofNat (48 + u % 10)] := by
  unfold digs
  rw [if_neg h]
  by_cases h10 : u < 10
  · rw [if_pos (by omega), Lib.decDigits_one h10, Nat.mod_eq_of_lt h10]; rfl
  · rw [if_neg (by omega)]; conv => lhs; rw [Lib.decDigits, dif_neg h10]
theorem digs_length (u : Nat) (h : u ≤ 9223372036854775808) : (digs u).length ≤ 20 := by
  have key : ∀ (k u : Nat), u < 10 ^ (k + 1) → Lib.nDigits u ≤ k + 1 := by
    intro k
    induction k with
    | zero => intro u hu; rw [Lib.nDigits_small (by simpa using hu)]; exact Nat.le_refl _
    | succ k ih =>
      intro u hu
      by_cases h10 : u < 10
      · rw [Lib.nDigits_small h10]; omega
      · rw [Lib.nDigits_big h10]
        have := ih (u / 10) (by rw [Nat.pow_succ] at hu; omega)
        omega
  unfold digs
  split
  · simp
  · rw [Lib.decDigits_length]
    have := key 18 u (by omega)
    omega
theorem conv_one (w : World) (x : Int) (b : UInt8) (hx : x = (b.toNat : Int)) :
    (convert 22 9 (.slice (some ⟨w.heap.size, 0, none⟩) 1 1)).run Tryd.prog (w.alloc (.cells #[.int .u8 x] 5)) = .ok (.string ⟨#[b]⟩) (w.alloc (.cells #[.int .u8 x] 5)) := by
  subst hx
  exact run_convert_bytes_back (P := Tryd.prog) (w.alloc (.cells #[.int .u8 (b.toNat : Int)] 5)) 22 9 5 ⟨w.heap.size, 0, none⟩ 1 [b] Tryd.underlying22 Tryd.underlying5 Tryd.underlying9 (fun j hj => by
    have hj0 : j = 0 := by simpa using hj
    subst hj0
    rw [show Addr.add ⟨w.heap.size, 0, none⟩ 0 = ⟨w.heap.size, 0, none⟩ from rfl, World.cell?_alloc_new]
    rfl)

/-- The mark of k, for k from 1 on. -/
def mark (k : Nat) : ByteArray := ⟨(109 :: digs k).toArray⟩
theorem mark_inj_self (k : Nat) : ((mark k).toList == (mark k).toList) = true := by simp

/-- Of the cells of a row: the first m bear the marks from k on. -/
def marked (k m : Nat) (f : Nat → Value) (j : Nat) : Value := if j < m then .string (mark (k + j)) else f j
theorem grown_below {w w' w'' : World} {b : Nat} (h : w.grownBy w' (some b)) (hb : Below w'.heap.size w' w'') : w.grownBy w'' (some b) :=
  ⟨hb.os.trans h.os, hb.tape.trans h.tape, hb.output.trans h.output, Nat.le_trans h.size hb.size, fun i hi hn => (hb.block i (Nat.lt_of_lt_of_le hi h.size)).trans (h.block i hi hn)⟩
theorem grown_set {w w' : World} {b : Nat} (h : w.grownBy w' (some b)) (j : Nat) (v : Value) : w.grownBy (w'.setCell ⟨b, j, none⟩ v) (some b) :=
  ⟨h.os, h.tape, h.output, by simpa [World.setCell] using h.size, fun i hi hn => (Below.heap_setCell w' ⟨b, j, none⟩ v i (fun e => hn (by rw [e]))).trans (h.block i hi hn)⟩

end Go.Proofs.YtfpbehnpaedpmaaDoor.Strs
/- spec.SplitByte and impl.SplitByte by one plain function: a text cut at a byte. -/
namespace Go.Proofs.YtfpbehnpaedpmaaDoor.Split
open Go.RowKit Strs

def Q (c : UInt8) (cur : List UInt8) : List UInt8 → List (List UInt8)
  | [] => [cur]
  | b :: r => if b = c then cur :: Q c [] r else Q c (cur ++ [b]) r
def pieces (c : UInt8) (l : List UInt8) : List ByteArray := (Q c [] l).map fun x => ⟨x.toArray⟩
def glue (cur : List UInt8) : List (List UInt8) → List (List UInt8)
  | [] => []
  | p :: ps => (cur ++ p) :: ps
theorem glue_nil (l : List (List UInt8)) : glue [] l = l := by cases l <;> simp [glue]
theorem Q_split (c : UInt8) : ∀ (l cur : List UInt8), Q c cur l = glue cur (Lib.splitK [c] 0 (l.count c) l)
  | [], cur => by simp [Q, Lib.splitK, glue]
  | b :: r, cur => by
    unfold Q
    by_cases h : b = c
    · subst h
      rw [if_pos rfl, Q_split b r [], glue_nil, List.count_cons_self]
      have hi : Lib.index (b :: r) [b] = 0 := by simp [Lib.index, List.isPrefixOf]
      rw [Lib.splitK, hi]
      simp [glue]
    · rw [if_neg h, Q_split c r (cur ++ [b]), List.count_cons_of_ne h]
      cases r.count c with
      | zero => simp [Lib.splitK, glue]
      | succ m =>
        have hp : ([c].isPrefixOf (b :: r)) = false := by simp [List.isPrefixOf]; exact fun e => h e.symm
        have hi : Lib.index (b :: r) [c] = if Lib.index r [c] == -1 then -1 else Lib.index r [c] + 1 := by
          rw [Lib.index, hp]; simp
        rw [Lib.splitK, Lib.splitK, hi]
        by_cases h1 : Lib.index r [c] = -1
        · simp [h1, glue]
        · have hge : -1 ≤ Lib.index r [c] := Lib.index_ge r [c]
          obtain ⟨i, hi2⟩ : ∃ i : Nat, Lib.index r [c] = i := ⟨(Lib.index r [c]).toNat, by omega⟩
          rw [hi2]
          have e1 : (((i : Int) == -1) = true) = False := by simp
          have e2 : ((((i : Int) + 1) == -1) = true) = False := by simp; omega
          simp only [e1, if_false, e2]
          have e3 : ((i : Int) + 1).toNat = i + 1 := by omega
          have e4 : ((i : Int)).toNat = i := by omega
          rw [e3, e4]
          simp [glue]
theorem bytes_eta (s : ByteArray) : (⟨s.data.toList.toArray⟩ : ByteArray) = s := rfl
theorem splitB_pieces (c : UInt8) (s : ByteArray) : Lib.splitB ⟨#[c]⟩ 0 (Lib.countB s ⟨#[c]⟩) s = pieces c s.data.toList := by
  unfold pieces
  rw [Q_split c s.data.toList [], glue_nil]
  have h := Lib.splitB_data ⟨#[c]⟩ 0 (Lib.countB s ⟨#[c]⟩) s
  have hc : Lib.countB s ⟨#[c]⟩ = s.data.toList.count c := Lib.count_one c s.data.toList
  rw [hc] at h ⊢
  have h2 : (⟨#[c]⟩ : ByteArray).data.toList = [c] := rfl
  rw [h2] at h
  rw [← h, List.map_map]
  conv => lhs; rw [← List.map_id (Lib.splitB ⟨#[c]⟩ 0 (s.data.toList.count c) s)]
  apply List.map_congr_left
  intro x _
  exact (bytes_eta x).symm
theorem Q_length (c : UInt8) : ∀ (l cur : List UInt8), (Q c cur l).length = l.count c + 1
  | [], cur => by simp [Q]
  | b :: r, cur => by
    unfold Q
    by_cases h : b = c
    · subst h; rw [if_pos rfl, List.length_cons, Q_length, List.count_cons_self]
    · rw [if_neg h, Q_length, List.count_cons_of_ne h]
theorem pieces_length (c : UInt8) (l : List UInt8) : (pieces c l).length = l.count c + 1 := by unfold pieces; rw [List.length_map, Q_length]
theorem pieces_pos (c : UInt8) (l : List UInt8) : 0 < (pieces c l).length := by rw [pieces_length]; omega
theorem pieces_le (c : UInt8) (l : List UInt8) : (pieces c l).length ≤ l.length + 1 := by rw [pieces_length]; have := List.count_le_length (a := c) (l := l); omega

/-- The loop's state at byte k: the piece begun at f. -/
def Inv (c : UInt8) (s : ByteArray) (f k : Nat) (done : List ByteArray) : Prop :=
  (k ≤ s.size ∧ f ≤ k ∧ pieces c s.data.toList = done ++ (Q c (s.extract f k).data.toList (s.data.toList.drop k)).map fun x => ⟨x.toArray⟩) ∨ (k = s.size + 1 ∧ f ≤ s.size + 1 ∧ pieces c s.data.toList = done)
theorem inv_start (c : UInt8) (s : ByteArray) : Inv c s 0 0 [] := Or.inl ⟨Nat.zero_le _, Nat.le_refl _, by
  simp [pieces]⟩
theorem ext_snoc (s : ByteArray) (f k : Nat) (hf : f ≤ k) (hk : k < s.size) : (s.extract f (k + 1)).data.toList = (s.extract f k).data.toList ++ [s[k]] := by
  rw [Lib.extract_data, Lib.extract_data, show k + 1 - f = (k - f) + 1 by omega, List.take_succ_eq_append_getElem (by simp; omega)]
  congr 2
  rw [List.getElem_drop]
  simp only [show f + (k - f) = k by omega]
  rfl
theorem inv_hit (c : UInt8) (s : ByteArray) (f k : Nat) (done : List ByteArray) (h : Inv c s f k done) (hk : k < s.size) (hc : s[k] = c) : Inv c s (k + 1) (k + 1) (done ++ [s.extract f k]) := by
  rcases h with ⟨_, hf, h⟩ | ⟨h0, _, _⟩
  · refine Or.inl ⟨by omega, Nat.le_refl _, ?_⟩
    have hd : s.data.toList.drop k = s[k] :: s.data.toList.drop (k + 1) := by rw [List.drop_eq_getElem_cons (by simpa using hk)]; rfl
    rw [h, hd, Q, if_pos hc, List.map_cons, bytes_eta]
    simp
  · omega
theorem inv_go (c : UInt8) (s : ByteArray) (f k : Nat) (done : List ByteArray) (h : Inv c s f k done) (hk : k < s.size) (hc : ¬ s[k] = c) : Inv c s f (k + 1) done := by
  rcases h with ⟨_, hf, h⟩ | ⟨h0, _, _⟩
  · refine Or.inl ⟨by omega, by omega, ?_⟩
    have hd : s.data.toList.drop k = s[k] :: s.data.toList.drop (k + 1) := by rw [List.drop_eq_getElem_cons (by simpa using hk)]; rfl
    rw [h, hd, Q, if_neg hc, ext_snoc s f k hf hk]
  · omega
theorem inv_end (c : UInt8) (s : ByteArray) (f : Nat) (done : List ByteArray) (h : Inv c s f s.size done) : Inv c s (s.size + 1) (s.size + 1) (done ++ [s.extract f s.size]) := by
  rcases h with ⟨_, hf, h⟩ | ⟨h0, _, _⟩
  · refine Or.inr ⟨rfl, Nat.le_refl _, ?_⟩
    rw [h, List.drop_eq_nil_of_le (by simp), Q, List.map_cons, bytes_eta, List.map_nil]
  · omega
theorem inv_le {c : UInt8} {s : ByteArray} {f k : Nat} {done : List ByteArray} (h : Inv c s f k done) : f ≤ k ∧ done.length ≤ s.size + 1 := by
  have hp := pieces_le c s.data.toList
  have hl : s.data.toList.length = s.size := by simp
  rcases h with ⟨_, hf, h⟩ | ⟨h0, h1, h⟩
  · refine ⟨hf, ?_⟩
    have := congrArg List.length h
    simp at this
    omega
  · exact ⟨by omega, by rw [← h]; omega⟩
end Go.Proofs.YtfpbehnpaedpmaaDoor.Split
/- Wirings: their text is read back as it was. Plain mathematics over spec's text. -/
namespace Go.Proofs.YtfpbehnpaedpmaaDoor.Sg
open Go.RowKit Pt NewI Wi
/-- The byte of a digit. -/
def dgU (z : Int) : UInt8 := UInt8.ofNat (48 + z.toNat)
theorem itoa_dg {z : Int} (h0 : 0 ≤ z) (h9 : z ≤ 9) : Lib.itoa z = [dgU z] := by
  rcases (by omega : z = 0 ∨ z = 1 ∨ z = 2 ∨ z = 3 ∨ z = 4 ∨ z = 5 ∨ z = 6 ∨ z = 7 ∨ z = 8 ∨ z = 9) with rfl | rfl | rfl | rfl | rfl | rfl | rfl | rfl | rfl | rfl <;> decide +kernel
theorem dgU_nat {z : Int} (h0 : 0 ≤ z) (h9 : z ≤ 9) : ((dgU z).toNat : Int) - 48 = z ∧ dgU z ≠ 58 := by
  rcases (by omega : z = 0 ∨ z = 1 ∨ z = 2 ∨ z = 3 ∨ z = 4 ∨ z = 5 ∨ z = 6 ∨ z = 7 ∨ z = 8 ∨ z = 9) with rfl | rfl | rfl | rfl | rfl | rfl | rfl | rfl | rfl | rfl <;> decide +kernel
theorem txW_bytes (n : Int) (zs : List Int) (A : ByteArray) (h : ∀ z ∈ zs, 0 ≤ z ∧ z ≤ 9) : (txW n zs A).data.toList = A.data.toList ++ zs.map dgU := by
  induction zs generalizing A with
  | nil => simp [txW]
  | cons y zs ih =>
    have hy := h y List.mem_cons_self
    simp only [txW, List.map_cons]
    rw [ih _ (fun z hz => h z (List.mem_cons_of_mem _ hz)), ByteArray.data_append, Array.toList_append]
    have e : (itB1 y).data.toList = [dgU y] := by rw [← itoa_dg hy.1 hy.2]; rfl
    rw [e]
    simp
theorem Q_free (c : UInt8) (l cur : List UInt8) (h : ∀ b ∈ l, b ≠ c) : Split.Q c cur l = [cur ++ l] := by
  induction l generalizing cur with
  | nil => simp [Split.Q]
  | cons b l ih =>
    have hb := h b List.mem_cons_self
    simp only [Split.Q]
    rw [if_neg hb, ih _ (fun x hx => h x (List.mem_cons_of_mem _ hx))]
    simp
/-- A wiring's text, cut at its colon. -/
theorem wt_pieces {n : Int} {zs : List Int} (h : wiB n zs = true) : Split.pieces 58 (wtZ n zs).data.toList = [⟨[dgU n].toArray⟩, ⟨(zs.map dgU).toArray⟩] ∧ Num.readS [dgU n] 12 = some n ∧ ∀ z ∈ zs, 0 ≤ z ∧ z ≤ 9 := by
  obtain ⟨h1, -, h2⟩ := wiB_go h
  obtain ⟨h3, h6⟩ := inB_mem h1
  have hbd : ∀ z ∈ zs, 0 ≤ z ∧ z ≤ 9 := fun z hz => by
    have := goZ_bd h2 z hz
    rw [List.length_range] at this
    omega
  have e : wtZ n zs = txW n zs (itB1 n ++ ⟨#[58]⟩) := by unfold wtZ; rw [if_pos h]
  have hd := dgU_nat (z := n) (by omega) (by omega)
  refine ⟨?_, ?_, hbd⟩
  · rw [e, txW_bytes n zs _ hbd, ByteArray.data_append, Array.toList_append]
    have e1 : (itB1 n).data.toList = [dgU n] := by rw [← itoa_dg (z := n) (by omega) (by omega)]; rfl
    rw [e1]
    show (Split.Q 58 [] (dgU n :: 58 :: zs.map dgU)).map _ = _
    simp only [Split.Q]
    rw [if_neg hd.2]
    simp only [if_true]
    rw [Q_free 58 _ _ (fun b hb => by
      obtain ⟨z, hz, rfl⟩ := List.mem_map.1 hb
      exact (dgU_nat (hbd z hz).1 (hbd z hz).2).2)]
    simp
  · rcases (by omega : n = 3 ∨ n = 4 ∨ n = 5 ∨ n = 6) with rfl | rfl | rfl | rfl <;> decide +kernel
theorem back_digits {zs : List Int} (h : ∀ z ∈ zs, 0 ≤ z ∧ z ≤ 9) : (zs.map dgU).map (fun b => ((b.toNat : Nat) : Int) - 48) = zs := by
  rw [List.map_map]
  conv => rhs; rw [← List.map_id zs]
  exact List.map_congr_left (fun z hz => (dgU_nat (h z hz).1 (h z hz).2).1)
end Go.Proofs.YtfpbehnpaedpmaaDoor.Sg
/- spec.l1Read, ParseInt, ParseNumber by the plain function readS. -/
namespace Go.Proofs.YtfpbehnpaedpmaaDoor.Read
open Go.RowKit
def pair : Option Int → Value
  | some n => .tuple #[.int .i64 n, .bool true]
  | none => .tuple #[.int .i64 0, .bool false]

theorem extract_tail (s : ByteArray) : (s.extract 1 s.size).data.toList = s.data.toList.tail := by
  rw [ByteArray.data_extract, Array.toList_extract, ← List.drop_one]
  simp only [List.extract]
  exact List.take_of_length_le (by simp)
theorem val_bound {l : List UInt8} {u : Nat} (h : Num.val 0 l = some u) (hl : l.length ≤ 12) : u < 1000000000000 := by
  have h1 := Num.val_lt _ _ _ h
  have h2 : 10 ^ l.length ≤ 10 ^ 12 := Nat.pow_le_pow_right (by decide) hl
  omega
theorem readS_none {l : List UInt8} {most : Nat} (h : Num.val 0 (Num.body l) = none) : Num.readS l most = none := by
  unfold Num.readS
  split
  · rfl
  · rw [h]
theorem readS_some {l : List UInt8} {most u : Nat} {b : Bool} (hb : Num.neg l = b) (hl : 1 ≤ (Num.body l).length ∧ (Num.body l).length ≤ most) (h : Num.val 0 (Num.body l) = some u) :
    Num.readS l most = if Lib.itoa (Num.signed b u) = l then some (Num.signed b u) else none := by
  unfold Num.readS
  rw [if_neg (by omega), h, hb]
set_option maxHeartbeats 400000 in
set_option maxRecDepth 100000 in
theorem l1Read_any (s : ByteArray) (most : Nat) (hm : most ≤ 12) (hs : s.size ≤ 1048576) (w : World) :
    Calls Tryd.prog 63 #[.string s, .int .i64 most] w fun e w' => e = .returned (pair (Num.readS s.data.toList most)) ∧ Below w.heap.size w w' := by
  by_cases h0 : 0 < s.size
  · by_cases h45 : s[0] = 45
    · have hneg : Num.neg s.data.toList = true := by
        unfold Num.neg
        rw [List.head?_eq_getElem?, List.getElem?_eq_getElem (by simpa using h0)]
        simp
        exact h45
      by_cases hlen : s.size - 1 < 1 ∨ most < s.size - 1
      · have e : Num.readS s.data.toList most = none := by
          unfold Num.readS
          rw [if_pos]
          simp [Num.body, hneg]
          omega
        have HE := Lib.hid e
        have HN := Lib.hid hneg
        clear e hneg
        by_cases h1 : s.size - 1 < 1
        · go_enter Tryd.func63, Tryd.ntmps63
          go_wp2
          all_goals
            go_ret2
            exact ⟨by rw [HE.out]; rfl, Below.refl _ _⟩
        · have h2 : most < s.size - 1 := by omega
          go_enter Tryd.func63, Tryd.ntmps63
          go_wp2
          all_goals
            go_ret2
            exact ⟨by rw [HE.out]; rfl, Below.refl _ _⟩
      · skip
        obtain ⟨t, ht⟩ : ∃ t : ByteArray, t = s.extract 1 s.size := ⟨_, rfl⟩
        have htl : t.data.toList = s.data.toList.tail := by rw [ht]; exact extract_tail s
        have hts : t.size = s.size - 1 := by rw [ht]; simp
        have hext : s.extract 1 s.size = t := ht.symm
        have h1 : 1 ≤ t.size := by omega
        have h2 : t.size ≤ most := by omega
        have h3 : t.size ≤ 12 := by omega
        have Hts := Lib.hid hts
        have HB : Hid (Num.body s.data.toList = t.data.toList) := by rw [htl]; exact Lib.hid (by simp [Num.body, hneg])
        clear ht htl hts
        have HN := Lib.hid hneg
        clear hneg hlen
        go_enter Tryd.func63, Tryd.ntmps63
        go_wp2
        go_loop [8, 9] (fun v i => ∃ (k u : Nat), k ≤ t.size ∧ i = .int .i64 k ∧ v = .int .i64 u ∧ Hid (Num.val 0 (t.data.toList.take k) = some u)) (fun _ i => t.size - (intOf i).toNat)
        case atStart => exact ⟨0, 0, Nat.zero_le _, rfl, rfl, Lib.hid rfl⟩
        case round =>
          obtain ⟨k, u, hk, rfl, rfl, hv⟩ := hrel
          have hu : u < 1000000000000 := val_bound hv.out (by simp; omega)
          by_cases hlt : k < t.size
          · by_cases hd : 48 ≤ t[k].toNat ∧ t[k].toNat ≤ 57
            · have h4 : 48 ≤ t[k].toNat := hd.1
              have h5 : t[k].toNat ≤ 57 := hd.2
              go_wp2
              exact ⟨⟨u4, u5, _, _, ⟨k + 1, by omega, rfl, 10 * u + (t[k].toNat - 48), rfl, Lib.hid (by rw [Num.take_snoc _ _ hlt]; exact Num.val_snoc _ _ _ _ hv.out hd)⟩, rfl, rfl, by congr 1; omega, by go_num⟩, by simp [intOf]; omega⟩
            · have HE : Hid (Num.readS s.data.toList most = none) := by
                refine Lib.hid (readS_none ?_)
                rw [HB.out, Num.split_at t k hlt]
                exact Num.val_stop _ _ _ _ hd
              by_cases h48 : t[k].toNat < 48
              · clear hd
                go_wp2
                go_ret2
                exact ⟨by rw [HE.out]; rfl, Below.refl _ _⟩
              · have h57 : 57 < t[k].toNat := by omega
                clear hd
                go_wp2
                go_ret2
                exact ⟨by rw [HE.out]; rfl, Below.refl _ _⟩
          · have hv' : Num.val 0 t.data.toList = some u := by
              have := hv.out
              rwa [List.take_of_length_le (by simp; omega)] at this
            have HR := Lib.hid (readS_some (l := s.data.toList) (most := most) (u := u) (b := true) HN.out (by rw [HB.out]; simp; omega) (by rw [HB.out]; exact hv'))
            clear hv hv'
            by_cases he : Lib.itoa (-(u : Int)) = s.data.toList
            · have hs1 : (Lib.itoa (-(u : Int)) == s.toList) = true := by rw [ByteArray.toList_eq, he]; simp
              have HR' : Hid (Num.readS s.data.toList most = some (-(u : Int))) := Lib.hid (by rw [HR.out]; exact if_pos he)
              clear he HR
              go_wp2_with fail
              refine (Fmt.spec_any (-(u : Int)) (by omega) (by omega) _).mono ?_
              rintro e w1 ⟨rfl, hb⟩
              go_wp2
              go_ret2
              exact ⟨by rw [HR'.out]; rfl, hb⟩
            · have hs1 : (Lib.itoa (-(u : Int)) == s.toList) = false := by rw [ByteArray.toList_eq]; simpa using he
              have HR' : Hid (Num.readS s.data.toList most = none) := Lib.hid (by rw [HR.out]; exact if_neg he)
              clear he HR
              go_wp2_with fail
              refine (Fmt.spec_any (-(u : Int)) (by omega) (by omega) _).mono ?_
              rintro e w1 ⟨rfl, hb⟩
              go_wp2
              go_ret2
              exact ⟨by rw [HR'.out]; rfl, hb⟩
    · have hneg : Num.neg s.data.toList = false := by
        unfold Num.neg
        rw [List.head?_eq_getElem?, List.getElem?_eq_getElem (by simpa using h0)]
        simp
        exact h45
      have h45' : ((s[0].toNat : Int) == 45) = false := by
        rw [beq_eq_false_iff_ne]
        intro e
        have e' : s[0].toNat = 45 := by omega
        exact h45 (UInt8.toNat_inj.1 e')
      clear h45
      by_cases hlen : s.size < 1 ∨ most < s.size
      · have e : Num.readS s.data.toList most = none := by
          unfold Num.readS
          rw [if_pos]
          simp [Num.body, hneg]
          omega
        have HE := Lib.hid e
        have HN := Lib.hid hneg
        clear e hneg
        by_cases h1 : s.size < 1
        · go_enter Tryd.func63, Tryd.ntmps63
          go_wp2
          all_goals
            go_ret2
            exact ⟨by rw [HE.out]; rfl, Below.refl _ _⟩
        · have h2 : most < s.size := by omega
          go_enter Tryd.func63, Tryd.ntmps63
          go_wp2
          all_goals
            go_ret2
            exact ⟨by rw [HE.out]; rfl, Below.refl _ _⟩
      · skip
        have h1 : 1 ≤ s.size := by omega
        have h2 : s.size ≤ most := by omega
        have h3 : s.size ≤ 12 := by omega
        have HB : Hid (Num.body s.data.toList = s.data.toList) := Lib.hid (by simp [Num.body, hneg])
        have HN := Lib.hid hneg
        clear hneg hlen
        go_enter Tryd.func63, Tryd.ntmps63
        go_wp2
        go_loop [8, 9] (fun v i => ∃ (k u : Nat), k ≤ s.size ∧ i = .int .i64 k ∧ v = .int .i64 u ∧ Hid (Num.val 0 (s.data.toList.take k) = some u)) (fun _ i => s.size - (intOf i).toNat)
        case atStart => exact ⟨0, 0, Nat.zero_le _, rfl, rfl, Lib.hid rfl⟩
        case round =>
          obtain ⟨k, u, hk, rfl, rfl, hv⟩ := hrel
          have hu : u < 1000000000000 := val_bound hv.out (by simp; omega)
          by_cases hlt : k < s.size
          · by_cases hd : 48 ≤ s[k].toNat ∧ s[k].toNat ≤ 57
            · have h4 : 48 ≤ s[k].toNat := hd.1
              have h5 : s[k].toNat ≤ 57 := hd.2
              go_wp2
              exact ⟨⟨u4, u5, _, _, ⟨k + 1, by omega, rfl, 10 * u + (s[k].toNat - 48), rfl, Lib.hid (by rw [Num.take_snoc _ _ hlt]; exact Num.val_snoc _ _ _ _ hv.out hd)⟩, rfl, rfl, by congr 1; omega, by go_num⟩, by simp [intOf]; omega⟩
            · have HE : Hid (Num.readS s.data.toList most = none) := by
                refine Lib.hid (readS_none ?_)
                rw [HB.out, Num.split_at s k hlt]
                exact Num.val_stop _ _ _ _ hd
              by_cases h48 : s[k].toNat < 48
              · clear hd
                go_wp2
                go_ret2
                exact ⟨by rw [HE.out]; rfl, Below.refl _ _⟩
              · have h57 : 57 < s[k].toNat := by omega
                clear hd
                go_wp2
                go_ret2
                exact ⟨by rw [HE.out]; rfl, Below.refl _ _⟩
          · have hv' : Num.val 0 s.data.toList = some u := by
              have := hv.out
              rwa [List.take_of_length_le (by simp; omega)] at this
            have HR := Lib.hid (readS_some (l := s.data.toList) (most := most) (u := u) (b := false) HN.out (by rw [HB.out]; simp; omega) (by rw [HB.out]; exact hv'))
            clear hv hv'
            by_cases he : Lib.itoa (u : Int) = s.data.toList
            · have hs1 : (Lib.itoa (u : Int) == s.toList) = true := by rw [ByteArray.toList_eq, he]; simp
              have HR' : Hid (Num.readS s.data.toList most = some (u : Int)) := Lib.hid (by rw [HR.out]; exact if_pos he)
              clear he HR
              go_wp2_with fail
              refine (Fmt.spec_any (u : Int) (by omega) (by omega) _).mono ?_
              rintro e w1 ⟨rfl, hb⟩
              go_wp2
              go_ret2
              exact ⟨by rw [HR'.out]; rfl, hb⟩
            · have hs1 : (Lib.itoa (u : Int) == s.toList) = false := by rw [ByteArray.toList_eq]; simpa using he
              have HR' : Hid (Num.readS s.data.toList most = none) := Lib.hid (by rw [HR.out]; exact if_neg he)
              clear he HR
              go_wp2_with fail
              refine (Fmt.spec_any (u : Int) (by omega) (by omega) _).mono ?_
              rintro e w1 ⟨rfl, hb⟩
              go_wp2
              go_ret2
              exact ⟨by rw [HR'.out]; rfl, hb⟩
  · have e : Num.readS s.data.toList most = none := by
      have : s.data.toList = [] := by
        apply List.eq_nil_of_length_eq_zero
        have : s.data.toList.length = s.size := by simp
        omega
      rw [this]; rfl
    have HE := Lib.hid e
    clear e
    go_enter Tryd.func63, Tryd.ntmps63
    go_wp2
    all_goals
      go_ret2
      exact ⟨by rw [HE.out]; rfl, Below.refl _ _⟩
end Go.Proofs.YtfpbehnpaedpmaaDoor.Read
/- The walks of spec.SplitByte and impl.SplitByte. -/
namespace Go.Proofs.YtfpbehnpaedpmaaDoor.Split
open Go.RowKit Strs

/-- A value that owns just these strings. -/
def Owns (w : World) (B : Nat) (v : Value) (xs : List ByteArray) : Prop := w.ownsRow B 9 1 v xs.length (xs.map Value.string)
theorem info9 : (Tryd.prog.info? 9).map (fun i => (i.zero, i.size, i.bytes)) = some (some (.string ⟨#[]⟩), 1, 16) := by kernel_rfl
theorem owns_row {w : World} {B : Nat} {v : Value} {xs : List ByteArray} (h : Owns w B v xs) (h0 : 0 < xs.length) : ∃ b c, v = .slice (some ⟨b, 0, none⟩) xs.length c ∧ B ≤ b ∧ b < w.heap.size ∧ At w b 0 xs := by
  have hlt := h.lt
  obtain ⟨hl, ⟨rfl, h1⟩ | ⟨g, cap, cur, hv, hB, hh, hr⟩⟩ := id h
  · omega
  · subst hv
    have hc := h.cells (g := g) rfl
    refine ⟨g, cap, rfl, hB, (hlt g rfl).2, fun j x hx => ?_⟩
    have := hc j (.string x) (by rw [List.getElem?_map, hx]; rfl)
    rwa [WideShapes.add_plain] at this

set_option maxHeartbeats 400000 in
set_option maxRecDepth 100000 in
theorem spec_any (s : ByteArray) (c : UInt8) (hs : s.size ≤ 1048576) (w : World) :
    Calls Tryd.prog 52 #[.string s, .int .u8 c.toNat] w fun e w' => ∃ v, e = .returned v ∧ Owns w' w.heap.size v (pieces c s.data.toList) ∧ Below w.heap.size w w' := by
  obtain ⟨i0, hi, hz0, hz1, hz2⟩ := info_parts info9
  have hown0 : Owns (w.alloc (.cells #[] 9)) w.heap.size (.slice (some ⟨w.heap.size, 0, none⟩) 0 0) [] := World.ownsRow_made w #[] 0 (Nat.le_refl _) (by decide) rfl
  have HO := Lib.hid hown0
  have HB0 := Lib.hid ((Below.refl w.heap.size w).alloc (Nat.le_refl _) (.cells #[] 9))
  clear hown0
  have hsl : s.data.toList.length = s.size := by simp
  have HSL := Lib.hid hsl
  clear hsl
  go_enter Tryd.func52, Tryd.ntmps52
  go_wp2
  go_loopw [5, 6, 7] (fun vv fv i wr => ∃ (k f : Nat) (v : Value) (done : List ByteArray), k ≤ s.size + 1 ∧ i = .int .i64 k ∧ fv = .int .i64 f ∧ vv = v ∧ Hid (Inv c s f k done) ∧ Owns wr w.heap.size v done ∧ Below w.heap.size w wr) (fun _ _ i _ => s.size + 1 - (intOf i).toNat)
  case atStart => exact ⟨0, 0, _, [], Nat.zero_le _, rfl, rfl, rfl, Lib.hid (inv_start c s), HO.out, HB0.out⟩
  case round =>
    obtain ⟨k, f, v, done, hk, rfl, rfl, rfl, hinv, hown, hb⟩ := hrel
    obtain ⟨hfk, hdl⟩ := inv_le hinv.out
    by_cases hlt : k < s.size
    · by_cases hc : s[k] = c
      · have HI := Lib.hid (inv_hit c s f k done hinv.out hlt hc)
        have ht : ((s[k].toNat : Int) == (c.toNat : Int)) = true := by rw [hc]; simp
        have ht2 : ((k : Int) == (s.size : Int)) = false := by rw [beq_eq_false_iff_ne]; omega
        clear hc
        go_wp2_with (at_builtin; refine wpList_append_own _ rfl (.tmp 26) (.tmp 31) 60 rfl w.heap.size 9 i0 (.string ⟨#[]⟩) 1 16 Tryd.underlying60 hi hz0 hz1 hz2 rfl (by decide) _ _ _ rfl (World.ownsRow.alloc hown _) ⟨wr.heap.size, 0, none⟩ 1 1 [.string (s.extract f k)] rfl rfl ?_ ?_ ?_ ?_ ?_ ?_)
        · intro j u hj
          have hj0 : j = 0 := by
            have := (List.getElem?_eq_some_iff.1 hj).1
            simpa using this
          subst hj0
          simp only [List.getElem?_cons_zero, Option.some.injEq] at hj
          subst hj
          rw [WideShapes.add_plain, Nat.add_zero, World.cell?_alloc_new]
          rfl
        · intro u hu
          simp only [List.mem_singleton] at hu
          subst hu
          rfl
        · unfold maxLen; omega
        · omega
        · have := hb.size; simp; omega
        intro v1 w1 hown1 hg1 _
        have hb1 := ((hb.alloc hb.size (.cells #[.string (s.extract f k)] 9)).grown hg1 (by have := hb.size; simp; omega) (fun q hq => (hown.lt q hq).1))
        have hown1' : Owns w1 w.heap.size v1 (done ++ [s.extract f k]) := by unfold Owns; rw [List.length_append, List.map_append]; exact hown1
        have HO := Lib.hid hown1'
        clear hown1 hown1' hown
        go_wp2
        exact ⟨⟨k + 1, k + 1, _, done ++ [s.extract f k], by omega, by go_num, by go_num, rfl, HI, HO.out, hb1⟩, by simp only [intOf]; omega⟩
      · have HI := Lib.hid (inv_go c s f k done hinv.out hlt hc)
        have ht : ((s[k].toNat : Int) == (c.toNat : Int)) = false := by
          rw [beq_eq_false_iff_ne]
          intro e
          exact hc (UInt8.toNat_inj.1 (by omega))
        have ht2 : ((k : Int) == (s.size : Int)) = false := by rw [beq_eq_false_iff_ne]; omega
        clear hc
        have HO := Lib.hid hown
        clear hown
        go_wp2
        exact ⟨⟨k + 1, f, _, done, by omega, by go_num, rfl, rfl, HI, HO.out, hb⟩, by simp only [intOf]; omega⟩
    · by_cases hk1 : k = s.size
      · subst hk1
        have HI := Lib.hid (inv_end c s f done hinv.out)
        have ht2 : ((s.size : Int) == (s.size : Int)) = true := by simp
        go_wp2_with (at_builtin; refine wpList_append_own _ rfl (.tmp 26) (.tmp 31) 60 rfl w.heap.size 9 i0 (.string ⟨#[]⟩) 1 16 Tryd.underlying60 hi hz0 hz1 hz2 rfl (by decide) _ _ _ rfl (World.ownsRow.alloc hown _) ⟨wr.heap.size, 0, none⟩ 1 1 [.string (s.extract f s.size)] rfl rfl ?_ ?_ ?_ ?_ ?_ ?_)
        · intro j u hj
          have hj0 : j = 0 := by
            have := (List.getElem?_eq_some_iff.1 hj).1
            simpa using this
          subst hj0
          simp only [List.getElem?_cons_zero, Option.some.injEq] at hj
          subst hj
          rw [WideShapes.add_plain, Nat.add_zero, World.cell?_alloc_new]
          rfl
        · intro u hu
          simp only [List.mem_singleton] at hu
          subst hu
          rfl
        · unfold maxLen; omega
        · omega
        · have := hb.size; simp; omega
        intro v1 w1 hown1 hg1 _
        have hb1 := ((hb.alloc hb.size (.cells #[.string (s.extract f s.size)] 9)).grown hg1 (by have := hb.size; simp; omega) (fun q hq => (hown.lt q hq).1))
        have hown1' : Owns w1 w.heap.size v1 (done ++ [s.extract f s.size]) := by unfold Owns; rw [List.length_append, List.map_append]; exact hown1
        have HO := Lib.hid hown1'
        clear hown1 hown1' hown
        go_wp2
        exact ⟨⟨s.size + 1, s.size + 1, _, done ++ [s.extract f s.size], by omega, by go_num, by go_num, rfl, HI, HO.out, hb1⟩, by simp only [intOf]; omega⟩
      · have hk2 : k = s.size + 1 := by omega
        have HI : Hid (pieces c s.data.toList = done) := by
          rcases hinv.out with ⟨h0, _, _⟩ | ⟨_, _, h⟩
          · omega
          · exact Lib.hid h
        have hk3 : s.size < k := by omega
        clear hk1 hk2
        have HO := Lib.hid hown
        clear hown
        go_wp2
        go_ret
        exact ⟨_, rfl, by rw [HI.out]; exact HO.out, hb⟩

end Go.Proofs.YtfpbehnpaedpmaaDoor.Split
