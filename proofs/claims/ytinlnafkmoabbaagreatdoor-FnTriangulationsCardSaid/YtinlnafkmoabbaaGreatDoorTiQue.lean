/- The linked list of what is still to be looked at, and the map of what has been reached, in impl's FlipDistance. -/
import Derived.Test.YtinlnafkmoabbaaGreatDoorMgTg
import Derived.Test.YtinlnafkmoabbaaGreatDoorMgTr
import Derived.Maps.OwnSet
import Derived.Maps.OwnOps
import Derived.Maps.Views
import Derived.Deep.LoopGhost
namespace Go.Proofs.YtinlnafkmoabbaaGreatDoor.Sg
open Go.RowKit Pt NewI Go.Maps
theorem plainElem_bool_inv {H : Type} {P : Program} {e : TypeId} (he : P.underlying e = some .bool) {v : Value} {z : DataW H × List MemPlace} (h : plainElem P e v = some z) : ∃ c, v = .bool c ∧ z = (.lit (.bool c), []) := by
  unfold plainElem at h
  rw [he] at h
  cases v <;> simp at h
  exact ⟨_, rfl, h.symm⟩
/-- The law of a look-up in a map of Booleans. -/
theorem wpList_lookup_own_bool {H : Type} {P : Program} (w : World) {ops : Array Oper} {rest : List Oper} {o : Oper} {a : Act} {Q : Exit → Act → World → Prop}
    (hg : o.guard = none) (m x : Operand) (t : TypeId) (hop : o.op = Op.lookup t m x false)
    (k e : TypeId) (K : Keyed P k) (ht : P.underlying t = some (.map k e)) (he : P.underlying e = some .bool) (hz : (zeroValue e).run P w = .ok (.bool false) w) (b n : Nat) (D : DataW H)
    (hm : a.eval m = .map (some b)) (hown : w.ownsMap P k (plainElem P e) b n D) (key : Value) (kl : Lit) (hx : a.eval x = key) (hkey : keyOf P k key = some kl)
    (hK : ∀ c : Bool, D.atKey kl (.lit (.bool false)) = .lit (.bool c) → wpList P ops Q rest (a.put o.dst (.bool c)) w) :
    wpList P ops Q (o :: rest) a w := by
  refine wpList_plain hg fun K' hK' => ?_
  obtain ⟨v, ps, hrun, hv⟩ := hown.lookup K ht hz (plainElem_bool he false) hkey
  obtain ⟨c, rfl, hc⟩ := plainElem_bool_inv he hv
  simp only [Prod.mk.injEq] at hc
  unfold Oper.wp
  simp [execOp, hop, hm, hx, hrun, Result.andThen]
  exact hK' _ _ (hK c hc.1)
/-- The law of an entry of a map's literal. -/
theorem wpList_insert_own {H : Type} {P : Program} (w : World) {ops : Array Oper} {rest : List Oper} {o : Oper} {a : Act} {Q : Exit → Act → World → Prop}
    (hg : o.guard = none) (m x v : Operand) (t : TypeId) (hop : o.op = Op.insert t m x v)
    (k e : TypeId) (K : Keyed P k) (ht : P.underlying t = some (.map k e)) (R : Value → Option (DataW H × List MemPlace)) (b n : Nat) (D : DataW H)
    (hm : a.eval m = .map (some b)) (hown : w.ownsMap P k R b n D) (hn : n < maxLen) (key val : Value) (kl : Lit) (hx : a.eval x = key) (hv : a.eval v = val) (hkey : keyOf P k key = some kl)
    (d : DataW H) (ps : List MemPlace) (hval : R val = some (d, ps))
    (hK : ∀ w', w'.ownsMap P k R b (n + 1) (D.put kl d) → w.grownBy w' (some b) → wpList P ops Q rest (a.put o.dst undef) w') :
    wpList P ops Q (o :: rest) a w := by
  refine wpList_plain hg fun K' hK' => ?_
  obtain ⟨w', hrun, r1, r2⟩ := hown.update K ht hn hkey hval
  unfold Oper.wp
  simp [execOp, hop, hm, hx, hv, hrun, Result.andThen]
  exact hK' _ _ (hK w' r1 r2)
theorem lawI : Keyed Tryz.prog 3 := int_keyed Tryz.underlying3
theorem zeroB (w : World) : (zeroValue 4).run Tryz.prog w = .ok (.bool false) w := by kernel_rfl
theorem wf_nat {x : Nat} (h : x < 2097152) : (Lit.int .i64 (x : Int)).wf = true := WalkArith.wf_i64 (by omega)
theorem key_nat {x : Nat} (h : x < 2097152) : keyOf Tryz.prog 3 (.int .i64 (x : Int)) = some (.int .i64 (x : Int)) := keyOf_int_mk Tryz.underlying3 (wf_nat h)
/-- Block b is a map that has true at the numbers of a list alone. -/
def MapR (w : World) (b : Nat) (L : List (Nat × Nat)) : Prop :=
  ∃ D : DataW Unit, w.ownsMap Tryz.prog 3 (plainElem Tryz.prog 4) b L.length D ∧ ∀ x : Nat, x < 2097152 → D.atKey (.int .i64 (x : Int)) (.lit (.bool false)) = .lit (.bool ((L.map Prod.fst).contains x))
theorem MapR.grown {w w' : World} {b : Nat} {L : List (Nat × Nat)} (h : MapR w b L) {row : Option Nat} (hg : w.grownBy w' row) (hne : some b ≠ row) : MapR w' b L := by
  obtain ⟨D, h1, h2⟩ := h
  exact ⟨D, h1.kept hg hne, h2⟩
theorem MapR.on {w w' : World} {b : Nat} {L : List (Nat × Nat)} (h : MapR w b L) (hb : Below w.heap.size w w') : MapR w' b L :=
  h.grown (row := none) ⟨hb.os, hb.tape, hb.output, hb.size, fun k hk _ => hb.block k hk⟩ (by simp)
theorem MapR.lt {w : World} {b : Nat} {L : List (Nat × Nat)} (h : MapR w b L) : b < w.heap.size := by
  obtain ⟨D, h1, -⟩ := h
  exact World.ownsMap.lt h1
theorem mapR_put {D : DataW Unit} {w : World} {b n : Nat} {L : List (Nat × Nat)} (hown : w.ownsMap Tryz.prog 3 (plainElem Tryz.prog 4) b n D) (h : ∀ x : Nat, x < 2097152 → D.atKey (.int .i64 (x : Int)) (.lit (.bool false)) = .lit (.bool ((L.map Prod.fst).contains x))) {u d : Nat} {w' : World}
    (hown' : w'.ownsMap Tryz.prog 3 (plainElem Tryz.prog 4) b (L.length + 1) (D.put (.int .i64 (u : Int)) (.lit (.bool true)))) : MapR w' b (L ++ [(u, d)]) := by
  refine ⟨_, by rw [List.length_append]; exact hown', fun x hx => ?_⟩
  by_cases e : x = u
  · subst e
    rw [atKey_put_same (World.ownsMap.isMap hown) (show WideAt.IsKeyLit (Lit.int .i64 (x : Int)) from trivial)]
    simp
  · rw [atKey_put_other (fun he => e (by injection he with _ h2; omega)), h x hx]
    simp [e]
/-- The list's entries lie in the nodes ad 0, ad 1, .., each with the address of the next one. -/
structure Que (W : World) (B mb : Nat) (ad : Nat → Nat) (L : List (Nat × Nat)) : Prop where
  base : ∀ i, i < L.length → B ≤ ad i ∧ ad i ≠ mb ∧ ad i < W.heap.size
  inj : ∀ i j, i < L.length → j < L.length → ad i = ad j → i = j
  c0 : ∀ (i : Nat) (q : Nat × Nat), L[i]? = some q → W.cell? ⟨ad i, 0, none⟩ = some (.int .i64 (q.1 : Nat))
  c1 : ∀ (i : Nat) (q : Nat × Nat), L[i]? = some q → W.cell? ⟨ad i, 1, none⟩ = some (.int .i64 (q.2 : Nat))
  c2 : ∀ i, i < L.length → W.cell? ⟨ad i, 2, none⟩ = some (.pointer (if i + 1 < L.length then some ⟨ad (i + 1), 0, none⟩ else none))
  fr : ∀ i, i < L.length → W.frozen? ⟨ad i, 2, none⟩ = false
theorem get_lt {L : List (Nat × Nat)} {i : Nat} {q : Nat × Nat} (h : L[i]? = some q) : i < L.length := (List.getElem?_eq_some_iff.1 h).1
theorem Que.block {W W' : World} {B mb : Nat} {ad : Nat → Nat} {L : List (Nat × Nat)} (h : Que W B mb ad L) (hs : W.heap.size ≤ W'.heap.size) (e : ∀ i, i < L.length → W'.heap[ad i]? = W.heap[ad i]?) : Que W' B mb ad L where
  base := fun i hi => by have := h.base i hi; omega
  inj := h.inj
  c0 := fun i q hq => by rw [World.cell?_of_block (a := ⟨ad i, 0, none⟩) (e i (get_lt hq))]; exact h.c0 i q hq
  c1 := fun i q hq => by rw [World.cell?_of_block (a := ⟨ad i, 1, none⟩) (e i (get_lt hq))]; exact h.c1 i q hq
  c2 := fun i hi => by rw [World.cell?_of_block (a := ⟨ad i, 2, none⟩) (e i hi)]; exact h.c2 i hi
  fr := fun i hi => by rw [World.frozen?_of_block (a := ⟨ad i, 2, none⟩) (e i hi)]; exact h.fr i hi
theorem Que.on {W W' : World} {B mb : Nat} {ad : Nat → Nat} {L : List (Nat × Nat)} (h : Que W B mb ad L) (hb : Below W.heap.size W W') : Que W' B mb ad L := h.block hb.size fun i hi => hb.block _ (h.base i hi).2.2
theorem Que.grownM {W W' : World} {B mb : Nat} {ad : Nat → Nat} {L : List (Nat × Nat)} (h : Que W B mb ad L) (hg : W.grownBy W' (some mb)) : Que W' B mb ad L :=
  h.block hg.size fun i hi => hg.block _ (h.base i hi).2.2 (fun e => (h.base i hi).2.1 (by injection e))
/-- One more node behind the last one. -/
theorem Que.push {W : World} {B mb : Nat} {ad : Nat → Nat} {L : List (Nat × Nat)} (h : Que W B mb ad L) (h0 : 0 < L.length) (hm : mb < W.heap.size) (hB : B ≤ W.heap.size) (u d : Nat) (t : TypeId) :
    Que ((W.alloc (.cells #[.int .i64 (u : Nat), .int .i64 (d : Nat), .pointer none] t)).setCell ⟨ad (L.length - 1), 2, none⟩ (.pointer (some ⟨W.heap.size, 0, none⟩))) B mb (fun i => if i < L.length then ad i else W.heap.size) (L ++ [(u, d)]) := by
  have hl : (L ++ [(u, d)]).length = L.length + 1 := by simp
  have hlast := h.base (L.length - 1) (by omega)
  have hal : ∀ x, x < W.heap.size → (W.alloc (.cells #[.int .i64 (u : Nat), .int .i64 (d : Nat), .pointer none] t)).heap[x]? = W.heap[x]? := fun x hx => ((Below.refl W.heap.size W).alloc (Nat.le_refl _) (.cells #[.int .i64 (u : Nat), .int .i64 (d : Nat), .pointer none] t)).block x hx
  have n0 : (W.alloc (.cells #[.int .i64 (u : Nat), .int .i64 (d : Nat), .pointer none] t)).cell? ⟨W.heap.size, 0, none⟩ = some (.int .i64 (u : Nat)) := by go_simp
  have n1 : (W.alloc (.cells #[.int .i64 (u : Nat), .int .i64 (d : Nat), .pointer none] t)).cell? ⟨W.heap.size, 1, none⟩ = some (.int .i64 (d : Nat)) := by go_simp
  have n2 : (W.alloc (.cells #[.int .i64 (u : Nat), .int .i64 (d : Nat), .pointer none] t)).cell? ⟨W.heap.size, 2, none⟩ = some (.pointer none) := by go_simp
  have n3 : (W.alloc (.cells #[.int .i64 (u : Nat), .int .i64 (d : Nat), .pointer none] t)).frozen? ⟨W.heap.size, 2, none⟩ = false := by
    have := heap_alloc_new W (.cells #[.int .i64 (u : Nat), .int .i64 (d : Nat), .pointer none] t)
    unfold World.frozen?
    dsimp only
    rw [this]
    rfl
  have hsz : (W.alloc (.cells #[.int .i64 (u : Nat), .int .i64 (d : Nat), .pointer none] t)).heap.size = W.heap.size + 1 := by simp
  generalize W.alloc (.cells #[.int .i64 (u : Nat), .int .i64 (d : Nat), .pointer none] t) = W1 at hal n0 n1 n2 n3 hsz ⊢
  have old : ∀ i o, i < L.length → W1.cell? ⟨ad i, o, none⟩ = W.cell? ⟨ad i, o, none⟩ := fun i o hi => World.cell?_of_block (a := ⟨ad i, o, none⟩) (hal _ (h.base i hi).2.2)
  have oldf : ∀ i o, i < L.length → W1.frozen? ⟨ad i, o, none⟩ = W.frozen? ⟨ad i, o, none⟩ := fun i o hi => World.frozen?_of_block (a := ⟨ad i, o, none⟩) (hal _ (h.base i hi).2.2)
  have oth : ∀ g o, (g ≠ ad (L.length - 1) ∨ o ≠ 2) → (W1.setCell ⟨ad (L.length - 1), 2, none⟩ (.pointer (some ⟨W.heap.size, 0, none⟩))).cell? ⟨g, o, none⟩ = W1.cell? ⟨g, o, none⟩ := fun g o hne => World.cell?_setCell_other _ _ _ _ (fun e => by
    injection e with e1 e2
    rcases hne with hne | hne
    · exact hne e1.symm
    · exact hne e2.symm)
  have hgl : ∀ (i : Nat) (q : Nat × Nat), i < L.length → (L ++ [(u, d)])[i]? = some q → L[i]? = some q := fun i q hi hq => by rw [List.getElem?_append_left hi] at hq; exact hq
  have hgn : ∀ q : Nat × Nat, (L ++ [(u, d)])[L.length]? = some q → q = (u, d) := fun q hq => by simpa using hq.symm
  refine ⟨fun i hi => ?_, fun i j hi hj e => ?_, fun i q hq => ?_, fun i q hq => ?_, fun i hi => ?_, fun i hi => ?_⟩
  · have hs2 : (W1.setCell ⟨ad (L.length - 1), 2, none⟩ (.pointer (some ⟨W.heap.size, 0, none⟩))).heap.size = W1.heap.size := by simp [World.setCell]
    rw [hs2, hsz]
    try dsimp only
    split
    · have := h.base i (by assumption); omega
    · omega
  · rw [hl] at hi hj
    try dsimp only at e
    split at e <;> split at e
    · exact h.inj i j (by assumption) (by assumption) e
    · have := h.base i (by assumption); omega
    · have := h.base j (by assumption); omega
    · omega
  · try dsimp only
    by_cases hi : i < L.length
    · rw [if_pos hi, oth _ _ (.inr (by decide)), old i 0 hi]
      exact h.c0 i q (hgl i q hi hq)
    · have hlt := get_lt hq
      rw [hl] at hlt
      obtain rfl : i = L.length := by omega
      obtain rfl := hgn q hq
      rw [if_neg hi, oth _ _ (.inr (by decide))]
      exact n0
  · try dsimp only
    by_cases hi : i < L.length
    · rw [if_pos hi, oth _ _ (.inr (by decide)), old i 1 hi]
      exact h.c1 i q (hgl i q hi hq)
    · have hlt := get_lt hq
      rw [hl] at hlt
      obtain rfl : i = L.length := by omega
      obtain rfl := hgn q hq
      rw [if_neg hi, oth _ _ (.inr (by decide))]
      exact n1
  · rw [hl] at hi ⊢
    try dsimp only
    by_cases e : i = L.length - 1
    · subst e
      rw [if_pos (show L.length - 1 < L.length by omega), if_pos (show L.length - 1 + 1 < L.length + 1 by omega), if_neg (show ¬ L.length - 1 + 1 < L.length by omega)]
      refine World.cell?_setCell_same _ _ _ (u := .pointer (if L.length - 1 + 1 < L.length then some ⟨ad (L.length - 1 + 1), 0, none⟩ else none)) ?_
      rw [old _ _ (by omega)]
      exact h.c2 _ (by omega)
    · by_cases hi2 : i < L.length
      · rw [if_pos hi2, oth _ _ (.inl (fun e2 => e (h.inj i _ hi2 (by omega) e2))), old i 2 hi2, h.c2 i hi2, if_pos (show i + 1 < L.length by omega), if_pos (show i + 1 < L.length + 1 by omega), if_pos (show i + 1 < L.length by omega)]
      · rw [if_neg hi2, oth _ _ (.inl (by omega)), n2, if_neg (by omega)]
  · rw [hl] at hi
    try dsimp only
    rw [World.frozen?_setCell]
    by_cases hi2 : i < L.length
    · rw [if_pos hi2, oldf i 2 hi2]
      exact h.fr i hi2
    · rw [if_neg hi2]
      exact n3
/-- The first node alone. -/
theorem que_one (W : World) (mb : Nat) (hm : mb ≠ W.heap.size) (a : Nat) (t : TypeId) : Que (W.alloc (.cells #[.int .i64 (a : Nat), .int .i64 0, .pointer none] t)) W.heap.size mb (fun _ => W.heap.size) [(a, 0)] := by
  refine ⟨fun i _ => ⟨Nat.le_refl _, fun e => hm e.symm, by simp⟩, fun i j hi hj _ => ?_, fun i q hq => ?_, fun i q hq => ?_, fun i hi => ?_, fun i hi => ?_⟩
  · simp at hi hj; omega
  · have hlt := get_lt hq
    obtain rfl : i = 0 := by simpa using hlt
    obtain rfl : (a, 0) = q := by simpa using hq
    go_simp
  · have hlt := get_lt hq
    obtain rfl : i = 0 := by simpa using hlt
    obtain rfl : (a, 0) = q := by simpa using hq
    show _ = some (Value.int IntKind.i64 ((0 : Nat) : Int))
    go_simp
  · obtain rfl : i = 0 := by simpa using hi
    rw [if_neg (by simp)]
    go_simp
  · have := heap_alloc_new W (.cells #[.int .i64 (a : Nat), .int .i64 0, .pointer none] t)
    unfold World.frozen?
    dsimp only
    rw [this]
    rfl
/-- A list that is read, apart from the nodes and the map. -/
def LsQ (W : World) (mb : Nat) (ad : Nat → Nat) (N : Nat) (a : Option Addr) (us : List Nat) : Prop := ∀ k : Nat, k < us.length → ∃ g, a = some ⟨g, 0, none⟩ ∧ (g < W.heap.size ∧ g ≠ mb ∧ ∀ i, i < N → ad i ≠ g) ∧ W.cell? ⟨g, k, none⟩ = some (.int .i64 (us.getD k 0 : Nat))
theorem LsQ.grownM {W W' : World} {mb N : Nat} {ad : Nat → Nat} {a : Option Addr} {us : List Nat} (h : LsQ W mb ad N a us) (hg : W.grownBy W' (some mb)) : LsQ W' mb ad N a us := fun k hk => by
  obtain ⟨g, h1, ⟨h2, h3, h4⟩, h5⟩ := h k hk
  refine ⟨g, h1, ⟨Nat.lt_of_lt_of_le h2 hg.size, h3, h4⟩, ?_⟩
  rw [World.cell?_of_block (a := ⟨g, k, none⟩) (hg.block g h2 (fun e => h3 (by injection e)))]
  exact h5
theorem LsQ.push {W : World} {mb N : Nat} {ad : Nat → Nat} {a : Option Addr} {us : List Nat} (h : LsQ W mb ad N a us) (h0 : 0 < N) (o : Obj) (v : Value) : LsQ ((W.alloc o).setCell ⟨ad (N - 1), 2, none⟩ v) mb (fun i => if i < N then ad i else W.heap.size) (N + 1) a us := fun k hk => by
  obtain ⟨g, h1, ⟨h2, h3, h4⟩, h5⟩ := h k hk
  refine ⟨g, h1, ⟨by simp [World.setCell]; omega, h3, fun i hi => ?_⟩, ?_⟩
  · dsimp only
    split
    · exact h4 i (by assumption)
    · omega
  · rw [World.cell?_of_block (w := W.alloc o) (a := ⟨g, k, none⟩) (Below.heap_setCell _ _ _ _ (show g ≠ ad (N - 1) from fun e => h4 (N - 1) (by omega) e.symm)), World.cell?_of_block (w := W) (a := ⟨g, k, none⟩) (((Below.refl W.heap.size W).alloc (Nat.le_refl _) o).block g h2)]
    exact h5
theorem lsQ_of {W : World} {B mb N : Nat} {ad : Nat → Nat} {v : Value} {us : List Nat} (h : ArgZ W B v (zl us)) (hm : mb < B) (ha : ∀ i, i < N → ad i < B) : ∃ a c, v = .slice a us.length c ∧ LsQ W mb ad N a us := by
  obtain ⟨a, c, e, hl⟩ := lsB_of h
  refine ⟨a, c, e, fun k hk => ?_⟩
  obtain ⟨g, h1, h2, h3⟩ := hl k hk
  exact ⟨g, h1, ⟨Kit.cell_lt h3, by omega, fun i hi => by have := ha i hi; omega⟩, h3⟩
end Go.Proofs.YtinlnafkmoabbaaGreatDoor.Sg
