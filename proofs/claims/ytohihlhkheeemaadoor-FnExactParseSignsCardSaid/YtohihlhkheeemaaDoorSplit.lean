/- spec.SplitByte and impl.SplitByte by one plain function: a text cut at a byte. -/
import Derived.Test.YtohihlhkheeemaaDoorStrs
import Derived.Test.YtohihlhkheeemaaDoorMark
import Derived.Lib.Split
import Derived.Lib.SplitLaws
import Derived.Laws.OwnMore
namespace Go.Proofs.YtohihlhkheeemaaDoor.Split
open Go.RowKit Strs

def Q (c : UInt8) (cur : List UInt8) : List UInt8 → List (List UInt8)
  | [] => [cur]
  | b :: r => if b = c then cur :: Q c [] r else Q c (cur ++ [b]) r
def pieces (c : UInt8) (l : List UInt8) : List ByteArray := (Q c [] l).map fun x => ⟨x.toArray⟩
theorem splitK_ne (sep : List UInt8) (k : Nat) (l : List UInt8) : Lib.splitK sep 0 k l ≠ [] := by
  cases k with
  | zero => simp [Lib.splitK]
  | succ k => unfold Lib.splitK; split <;> simp
def glue (cur : List UInt8) : List (List UInt8) → List (List UInt8)
  | [] => []
  | p :: ps => (cur ++ p) :: ps
theorem glue_nil (l : List (List UInt8)) : glue [] l = l := by cases l <;> simp [glue]
theorem Q_split (c : UInt8) : ∀ (l cur : List UInt8), Q c cur l = glue cur (Lib.splitK [c] 0 (l.count c) l)
  | [], cur => by simp [Q, Lib.splitK, glue]
  | b :: r, cur => by
    unfold Q
    by_cases h : b = c
    · subst h
      rw [if_pos rfl, Q_split b r [], glue_nil, List.count_cons_self]
      have hi : Lib.index (b :: r) [b] = 0 := by simp [Lib.index, List.isPrefixOf]
      rw [Lib.splitK, hi]
      simp [glue]
    · rw [if_neg h, Q_split c r (cur ++ [b]), List.count_cons_of_ne h]
      cases r.count c with
      | zero => simp [Lib.splitK, glue]
      | succ m =>
        have hp : ([c].isPrefixOf (b :: r)) = false := by simp [List.isPrefixOf]; exact fun e => h e.symm
        have hi : Lib.index (b :: r) [c] = if Lib.index r [c] == -1 then -1 else Lib.index r [c] + 1 := by
          rw [Lib.index, hp]; simp
        rw [Lib.splitK, Lib.splitK, hi]
        by_cases h1 : Lib.index r [c] = -1
        · simp [h1, glue]
        · have hge : -1 ≤ Lib.index r [c] := Lib.index_ge r [c]
          obtain ⟨i, hi2⟩ : ∃ i : Nat, Lib.index r [c] = i := ⟨(Lib.index r [c]).toNat, by omega⟩
          rw [hi2]
          have e1 : (((i : Int) == -1) = true) = False := by simp
          have e2 : ((((i : Int) + 1) == -1) = true) = False := by simp; omega
          simp only [e1, if_false, e2]
          have e3 : ((i : Int) + 1).toNat = i + 1 := by omega
          have e4 : ((i : Int)).toNat = i := by omega
          rw [e3, e4]
          simp [glue]
theorem bytes_eta (s : ByteArray) : (⟨s.data.toList.toArray⟩ : ByteArray) = s := rfl
theorem splitB_pieces (c : UInt8) (s : ByteArray) : Lib.splitB ⟨#[c]⟩ 0 (Lib.countB s ⟨#[c]⟩) s = pieces c s.data.toList := by
  unfold pieces
  rw [Q_split c s.data.toList [], glue_nil]
  have h := Lib.splitB_data ⟨#[c]⟩ 0 (Lib.countB s ⟨#[c]⟩) s
  have hc : Lib.countB s ⟨#[c]⟩ = s.data.toList.count c := Lib.count_one c s.data.toList
  rw [hc] at h ⊢
  have h2 : (⟨#[c]⟩ : ByteArray).data.toList = [c] := rfl
  rw [h2] at h
  rw [← h, List.map_map]
  conv => lhs; rw [← List.map_id (Lib.splitB ⟨#[c]⟩ 0 (s.data.toList.count c) s)]
  apply List.map_congr_left
  intro x _
  exact (bytes_eta x).symm
theorem Q_length (c : UInt8) : ∀ (l cur : List UInt8), (Q c cur l).length = l.count c + 1
  | [], cur => by simp [Q]
  | b :: r, cur => by
    unfold Q
    by_cases h : b = c
    · subst h; rw [if_pos rfl, List.length_cons, Q_length, List.count_cons_self]
    · rw [if_neg h, Q_length, List.count_cons_of_ne h]
theorem pieces_length (c : UInt8) (l : List UInt8) : (pieces c l).length = l.count c + 1 := by unfold pieces; rw [List.length_map, Q_length]
theorem pieces_pos (c : UInt8) (l : List UInt8) : 0 < (pieces c l).length := by rw [pieces_length]; omega
theorem pieces_le (c : UInt8) (l : List UInt8) : (pieces c l).length ≤ l.length + 1 := by rw [pieces_length]; have := List.count_le_length (a := c) (l := l); omega

/-- The loop's state at byte k: the piece begun at f. -/
def Inv (c : UInt8) (s : ByteArray) (f k : Nat) (done : List ByteArray) : Prop :=
  (k ≤ s.size ∧ f ≤ k ∧ pieces c s.data.toList = done ++ (Q c (s.extract f k).data.toList (s.data.toList.drop k)).map fun x => ⟨x.toArray⟩) ∨ (k = s.size + 1 ∧ f ≤ s.size + 1 ∧ pieces c s.data.toList = done)
theorem inv_start (c : UInt8) (s : ByteArray) : Inv c s 0 0 [] := Or.inl ⟨Nat.zero_le _, Nat.le_refl _, by
  simp [pieces]⟩
theorem ext_snoc (s : ByteArray) (f k : Nat) (hf : f ≤ k) (hk : k < s.size) : (s.extract f (k + 1)).data.toList = (s.extract f k).data.toList ++ [s[k]] := by
  rw [Lib.extract_data, Lib.extract_data, show k + 1 - f = (k - f) + 1 by omega, List.take_succ_eq_append_getElem (by simp; omega)]
  congr 2
  rw [List.getElem_drop]
  simp only [show f + (k - f) = k by omega]
  rfl
theorem inv_hit (c : UInt8) (s : ByteArray) (f k : Nat) (done : List ByteArray) (h : Inv c s f k done) (hk : k < s.size) (hc : s[k] = c) : Inv c s (k + 1) (k + 1) (done ++ [s.extract f k]) := by
  rcases h with ⟨_, hf, h⟩ | ⟨h0, _, _⟩
  · refine Or.inl ⟨by omega, Nat.le_refl _, ?_⟩
    have hd : s.data.toList.drop k = s[k] :: s.data.toList.drop (k + 1) := by rw [List.drop_eq_getElem_cons (by simpa using hk)]; rfl
    rw [h, hd, Q, if_pos hc, List.map_cons, bytes_eta]
    simp
  · omega
theorem inv_go (c : UInt8) (s : ByteArray) (f k : Nat) (done : List ByteArray) (h : Inv c s f k done) (hk : k < s.size) (hc : ¬ s[k] = c) : Inv c s f (k + 1) done := by
  rcases h with ⟨_, hf, h⟩ | ⟨h0, _, _⟩
  · refine Or.inl ⟨by omega, by omega, ?_⟩
    have hd : s.data.toList.drop k = s[k] :: s.data.toList.drop (k + 1) := by rw [List.drop_eq_getElem_cons (by simpa using hk)]; rfl
    rw [h, hd, Q, if_neg hc, ext_snoc s f k hf hk]
  · omega
theorem inv_end (c : UInt8) (s : ByteArray) (f : Nat) (done : List ByteArray) (h : Inv c s f s.size done) : Inv c s (s.size + 1) (s.size + 1) (done ++ [s.extract f s.size]) := by
  rcases h with ⟨_, hf, h⟩ | ⟨h0, _, _⟩
  · refine Or.inr ⟨rfl, Nat.le_refl _, ?_⟩
    rw [h, List.drop_eq_nil_of_le (by simp), Q, List.map_cons, bytes_eta, List.map_nil]
  · omega
theorem inv_le {c : UInt8} {s : ByteArray} {f k : Nat} {done : List ByteArray} (h : Inv c s f k done) : f ≤ k ∧ done.length ≤ s.size + 1 := by
  have hp := pieces_le c s.data.toList
  have hl : s.data.toList.length = s.size := by simp
  rcases h with ⟨_, hf, h⟩ | ⟨h0, h1, h⟩
  · refine ⟨hf, ?_⟩
    have := congrArg List.length h
    simp at this
    omega
  · exact ⟨by omega, by rw [← h]; omega⟩
end Go.Proofs.YtohihlhkheeemaaDoor.Split
