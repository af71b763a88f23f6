/- Joined texts, plainly. -/
import Derived.Test.YticekiniljemeaaDoorStrs
import Derived.Lib.Join
import Derived.Lib.AppendStr
namespace Go.Proofs.YticekiniljemeaaDoor.Join
open Go.RowKit Strs
def dat (xs : List ByteArray) : List (List UInt8) := xs.map (·.data.toList)
/-- What is joined of the first k. -/
def J (xs : List ByteArray) (sep : ByteArray) (k : Nat) : List UInt8 := Lib.join (dat (xs.take k)) sep.data.toList
def cs (l : List UInt8) : List Value := l.map fun b => Value.int .u8 b.toNat
theorem cs_append (a b : List UInt8) : cs (a ++ b) = cs a ++ cs b := by simp [cs]
theorem cs_str (s : ByteArray) : Lib.strCells s = cs s.data.toList := rfl
theorem J_one (xs : List ByteArray) (sep : ByteArray) (h : 0 < xs.length) : J xs sep 1 = xs[0].data.toList := by
  cases xs with
  | nil => simp at h
  | cons x r => simp [J, dat, Lib.join_one]
theorem J_step (xs : List ByteArray) (sep : ByteArray) (k : Nat) (hk : k + 1 < xs.length) : J xs sep (k + 2) = J xs sep (k + 1) ++ sep.data.toList ++ xs[k + 1].data.toList := by
  cases xs with
  | nil => simp at hk
  | cons x r =>
    have hk' : k < r.length := by simpa using hk
    simp only [J, dat, List.take_succ_cons, List.map_cons, Lib.join_cons, List.getElem_cons_succ]
    rw [List.map_take, List.map_take, Lib.joinTail_take_succ _ _ k r[k].data.toList (by simp [hk'])]
    simp [List.append_assoc]
theorem lens_dat (xs : List ByteArray) : Lib.lens (dat xs) = tot xs := by
  induction xs with
  | nil => rfl
  | cons x r ih => simp only [dat, List.map_cons, Lib.lens, tot, List.sum_cons] at ih ⊢; simp at ih ⊢; omega
theorem tot_take (xs : List ByteArray) : ∀ k, tot (xs.take k) ≤ tot xs := by
  induction xs with
  | nil => intro k; simp
  | cons x r ih =>
    intro k
    cases k with
    | zero => simp [tot]
    | succ k => have := ih k; simp only [tot, List.take_succ_cons, List.map_cons, List.sum_cons] at this ⊢; omega
theorem J_length (xs : List ByteArray) (sep : ByteArray) (k : Nat) : (J xs sep k).length ≤ sep.size * xs.length + tot xs := by
  unfold J
  have ht := tot_take xs k
  cases h : xs.take k with
  | nil => simp [dat, Lib.join_nil]
  | cons x r =>
    rw [h] at ht
    have e : dat (x :: r) = x.data.toList :: dat r := rfl
    rw [e, Lib.join_length, ← e, lens_dat]
    have hl : r.length + 1 ≤ xs.length := by
      have := congrArg List.length h
      simp at this
      omega
    have h1 : (dat r).length ≤ xs.length := by simp [dat]; omega
    have h2 := Nat.mul_le_mul_left sep.data.toList.length h1
    have h3 : sep.data.toList.length = sep.size := by simp
    rw [h3] at h2 ⊢
    omega
end Go.Proofs.YticekiniljemeaaDoor.Join
