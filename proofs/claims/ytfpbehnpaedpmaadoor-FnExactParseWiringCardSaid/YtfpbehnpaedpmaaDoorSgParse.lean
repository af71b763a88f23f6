/- ParseSigns, as impl and spec read it; the law. -/
import Derived.Test.YtfpbehnpaedpmaaDoorMgSa
import Derived.Test.YtfpbehnpaedpmaaDoorMgN
import Derived.Test.YtfpbehnpaedpmaaDoorParseIntN
namespace Go.Proofs.YtfpbehnpaedpmaaDoor.SgParse
open Go.RowKit Pt Sg
def cutAt (c : UInt8) : List UInt8 → Option (List UInt8 × List UInt8)
  | [] => none
  | b :: r => if b = c then some ([], r) else (cutAt c r).map fun q => (b :: q.1, q.2)
theorem index_cut (c : UInt8) : ∀ l : List UInt8, (match cutAt c l with | some q => Lib.index l [c] = q.1.length ∧ l = q.1 ++ c :: q.2 | none => Lib.index l [c] = -1)
  | [] => by simp [cutAt, Lib.index]
  | b :: r => by
    have ih := index_cut c r
    unfold cutAt
    by_cases h : b = c
    · subst h
      rw [if_pos rfl]
      simp [Lib.index, List.isPrefixOf]
    · rw [if_neg h]
      have hp : ([c].isPrefixOf (b :: r)) = false := by simp [List.isPrefixOf]; exact fun e => h e.symm
      have hi : Lib.index (b :: r) [c] = if Lib.index r [c] == -1 then -1 else Lib.index r [c] + 1 := by
        rw [Lib.index, hp]; simp
      cases e : cutAt c r with
      | none =>
        rw [e] at ih
        simp only [Option.map_none]
        rw [hi, ih]; rfl
      | some q =>
        rw [e] at ih
        simp only [Option.map_some]
        refine ⟨?_, by rw [ih.2]; simp⟩
        rw [hi, ih.1, if_neg (by simp)]
        simp
theorem cut_of (c : UInt8) (l : List UInt8) : Lib.cut l [c] = (match cutAt c l with | some q => (q.1, q.2, true) | none => (l, [], false)) := by
  have h := index_cut c l
  unfold Lib.cut
  cases e : cutAt c l with
  | none => rw [e] at h; simp only [] at h; rw [h]; simp
  | some q =>
    rw [e] at h
    obtain ⟨h1, h2⟩ := h
    simp only []
    rw [h1, if_pos (by omega)]
    simp only [Int.toNat_natCast]
    generalize q.1.length = k at h1
    rw [h2]
    have hk : k = q.1.length := by
      have : Lib.index l [c] = q.1.length := by have := index_cut c l; rw [e] at this; exact this.1
      omega
    subst hk
    simp
theorem Q_cut (c : UInt8) : ∀ (l cur : List UInt8), Split.Q c cur l = (match cutAt c l with | some q => (cur ++ q.1) :: Split.Q c [] q.2 | none => [cur ++ l])
  | [], cur => by simp [Split.Q, cutAt]
  | b :: r, cur => by
    have hQ : Split.Q c cur (b :: r) = if b = c then cur :: Split.Q c [] r else Split.Q c (cur ++ [b]) r := rfl
    have hC : cutAt c (b :: r) = if b = c then some ([], r) else (cutAt c r).map fun q => (b :: q.1, q.2) := rfl
    rw [hQ, hC]
    by_cases h : b = c
    · rw [if_pos h, if_pos h]
      show cur :: Split.Q c [] r = (cur ++ []) :: Split.Q c [] r
      rw [List.append_nil]
    · rw [if_neg h, if_neg h, Q_cut c r (cur ++ [b])]
      cases cutAt c r with
      | none => show [cur ++ [b] ++ r] = [cur ++ b :: r]; simp
      | some q => show (cur ++ [b] ++ q.1) :: Split.Q c [] q.2 = (cur ++ b :: q.1) :: Split.Q c [] q.2; simp
theorem Q_one {c : UInt8} : ∀ {l : List UInt8}, c ∉ l → ∀ cur, Split.Q c cur l = [cur ++ l]
  | [], _, cur => by simp [Split.Q]
  | b :: r, h, cur => by
    have hb : b ≠ c := fun e => h (by simp [e])
    unfold Split.Q
    rw [if_neg hb, Q_one (fun e => h (List.mem_cons_of_mem _ e))]
    simp
theorem readI_mem {l : List UInt8} {n lo hi : Int} (h : Num.readI lo hi l = some n) : lo ≤ n ∧ n ≤ hi := by
  unfold Num.readI at h
  cases e : Lib.atoiAll l with
  | ok m =>
    rw [e] at h
    simp only [] at h
    split at h
    · rename_i hc
      cases h
      exact hc.2
    · cases h
  | _ => rw [e] at h; simp at h
theorem readI_wide {l : List UInt8} {n lo hi lo2 hi2 : Int} (h : Num.readI lo hi l = some n) (h1 : lo2 ≤ n) (h2 : n ≤ hi2) : Num.readI lo2 hi2 l = some n := by
  unfold Num.readI at h ⊢
  cases e : Lib.atoiAll l with
  | ok m =>
    rw [e] at h
    simp only [] at h ⊢
    split at h
    · rename_i hc
      cases h
      rw [if_pos ⟨hc.1, h1, h2⟩]
    · cases h
  | _ => rw [e] at h; simp at h
/-- The result's block: still as it was made. -/
def ResC (w0 W : World) : Prop := (W.cell? ⟨w0.heap.size, 0, none⟩ = some (.int .i64 0) ∧ W.cell? ⟨w0.heap.size, 1, none⟩ = some (.string ⟨#[]⟩)) ∧ (W.frozen? ⟨w0.heap.size, 0, none⟩ = false ∧ W.frozen? ⟨w0.heap.size, 1, none⟩ = false) ∧ Below w0.heap.size w0 W
theorem ResC.lt {w0 W : World} (h : ResC w0 W) : w0.heap.size < W.heap.size := Kit.cell_lt h.1.1
theorem ResC.on {w0 W W' : World} (h : ResC w0 W) (hb : Below W.heap.size W W') : ResC w0 W' := by
  have hl := h.lt
  obtain ⟨⟨h1, h2⟩, ⟨h3, h4⟩, h5⟩ := h
  exact ⟨⟨by rw [hb.cell hl]; exact h1, by rw [hb.cell hl]; exact h2⟩, ⟨by rw [hb.frozen hl]; exact h3, by rw [hb.frozen hl]; exact h4⟩, h5.trans (hb.mono h5.size)⟩
theorem ResC.alloc {w0 W : World} (h : ResC w0 W) (o : Obj) : ResC w0 (W.alloc o) := h.on ((Below.refl _ _).alloc (Nat.le_refl _) o)
theorem pair_eq (o : Option Int) : Read.pair o = .tuple #[.int .i64 (o.getD 0), .bool o.isSome] := by cases o <;> rfl
/-- What a text's number needs of memory. -/
structure Env (a1 a2 a3 : Addr) (tp : TypeId) (m : Int) (w : World) : Prop where
  held : Parse.Held w.heap.size w a1 a2 a3 tp
  max : w.cell? ⟨1, 0, none⟩ = some (.int .i64 m)
theorem Env.on {a1 a2 a3 : Addr} {tp : TypeId} {m : Int} {w w' : World} (h : Env a1 a2 a3 tp m w) (hb : Below w.heap.size w w') : Env a1 a2 a3 tp m w' :=
  ⟨h.held.up hb, by rw [hb.cell (Kit.cell_lt h.max)]; exact h.max⟩
theorem below_drawn (w : World) (n : Nat) : Below w.heap.size w (w.drewN n) := drewN_below (Below.refl _ _) n
end Go.Proofs.YtfpbehnpaedpmaaDoor.SgParse
