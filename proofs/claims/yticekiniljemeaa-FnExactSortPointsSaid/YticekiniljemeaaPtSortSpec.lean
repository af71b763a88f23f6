/- spec.SortPoints. -/
import Derived.Test.YticekiniljemeaaPtSortImpl
import Derived.Test.YticekiniljemeaaPtShear
import Derived.Deep.AppendLies
import Derived.Maps.AppendAt
namespace Go.Proofs.Yticekiniljemeaa.Pt
open Go.RowKit
theorem ptCells_take : ∀ (xs : List P2) (k : Nat), (ptCells xs).take (k * 2) = ptCells (xs.take k)
  | [], k => by simp [ptCells]
  | p :: r, 0 => by simp [ptCells]
  | p :: r, k + 1 => by
    rw [show (k + 1) * 2 = k * 2 + 1 + 1 by omega]
    simp [ptCells, ptCells_take r k]
theorem ptCells_drop : ∀ (xs : List P2) (k : Nat), (ptCells xs).drop (k * 2) = ptCells (xs.drop k)
  | [], k => by simp [ptCells]
  | p :: r, 0 => by simp [ptCells]
  | p :: r, k + 1 => by
    rw [show (k + 1) * 2 = k * 2 + 1 + 1 by omega]
    simp [ptCells, ptCells_drop r k]
/-- The first m of a slice of the call's own. -/
theorem owns_take {w : World} {B g n c : Nat} {xs : List P2} (h : Owns w B (.slice (some ⟨g, 0, none⟩) n c) xs) (hn : n = xs.length) (m : Nat) (hm : m ≤ n) : Owns w B (.slice (some ⟨g, 0, none⟩) m c) (xs.take m) := by
  subst hn
  obtain ⟨hl, ⟨hv, -⟩ | ⟨g', cap, cur, hv, hB, hh, hnc, hcm, hcs, ht⟩⟩ := h
  · cases hv
  · injection hv with h1 h2 h3
    injection h1 with h1
    injection h1 with h1
    subst h1 h3
    have e : (xs.take m).length = m := by rw [List.length_take]; omega
    refine ⟨by rw [ptCells_length], .inr ⟨g, c, cur, by rw [e], hB, hh, by omega, hcm, hcs, ?_⟩⟩
    rw [e, ← ptCells_take, ← ht, List.take_take, Nat.min_eq_left (by omega)]
theorem owns_cell {w : World} {B g n c : Nat} {xs : List P2} (h : Owns w B (.slice (some ⟨g, 0, none⟩) n c) xs) (hn : n = xs.length) {j : Nat} {p : P2} (hp : xs[j]? = some p) : w.cell? ⟨g, j * 2, none⟩ = some (.int .i64 p.1) ∧ w.cell? ⟨g, j * 2 + 1, none⟩ = some (.int .i64 p.2) := by
  subst hn
  obtain ⟨hlt, rfl⟩ := List.getElem?_eq_some_iff.1 hp
  have h1 := World.ownsRow.cellAt h (j * 2) (by omega)
  have h2 := World.ownsRow.cellAt h (j * 2 + 1) (by omega)
  rw [ptCells_get xs _ (by omega)] at h1 h2
  rw [ptCell_even xs j hlt] at h1
  rw [ptCell_odd xs j hlt] at h2
  exact ⟨h1, h2⟩
/-- A call beside which four cells are read and a slice is owned. -/
theorem heldOwn (w0 : World) (B : Nat) (u : Value) (S : List P2) (a1 a2 a3 a4 : Addr) (v1 v2 v3 v4 : Value) {k : FuncId} {args : Array Value} {W : World} {v : Value} (h : Calls Try.prog k args W fun e w' => e = .returned v ∧ Below W.heap.size W w')
    (hS : W.cell? a1 = some v1 ∧ W.cell? a2 = some v2 ∧ W.cell? a3 = some v3 ∧ W.cell? a4 = some v4 ∧ Owns W B u S ∧ Below w0.heap.size w0 W) :
    Calls Try.prog k args W fun e w' => e = .returned v ∧ w'.cell? a1 = some v1 ∧ w'.cell? a2 = some v2 ∧ w'.cell? a3 = some v3 ∧ w'.cell? a4 = some v4 ∧ Owns w' B u S ∧ Below w0.heap.size w0 w' := by
  obtain ⟨c1, c2, c3, c4, c5, c6⟩ := hS
  exact h.mono fun _ _ ⟨he, hb⟩ => ⟨he, by rw [hb.cell (lt_of_cell c1)]; exact c1, by rw [hb.cell (lt_of_cell c2)]; exact c2, by rw [hb.cell (lt_of_cell c3)]; exact c3, by rw [hb.cell (lt_of_cell c4)]; exact c4, owns_on c5 hb, c6.trans (hb.mono c6.size)⟩

set_option maxHeartbeats 400000 in
set_option maxRecDepth 100000 in
theorem specSort_bad (b c : Nat) (xs : List P2) (hx : xs.length ≤ 1048576) (w : World) (hr : RowP w b xs) (h : okB xs = false) :
    Calls Try.prog 21 #[.slice (some ⟨b, 0, none⟩) xs.length c] w fun e w' => Got1 w.heap.size (sortR xs) e w' ∧ Below w.heap.size w w' := by
  have HE := Lib.hid (sortR_no h)
  have HA := Lib.hid (fun W hb => specAre b 0 c xs (by omega) W (RowP.on hr hb).at (RowP.on hr hb).lt)
  rw [h] at HA
  clear hr h
  by_cases hl : 0 < xs.length
  · go_enter Try.func21, Try.ntmps21
    go_wp2
    refine wp_loop_rounds 1 ?_
    rw [rounds_succ]
    go_wp2_with fail
    refine (HA.out _ ((Below.refl _ _).alloc (Nat.le_refl _) _)).mono ?_
    rintro e w1 ⟨rfl, B1⟩
    have B2 : Below w.heap.size w w1 := below_call B1 (by go_grown)
    go_wp2
    go_ret
    exact ⟨by rw [HE.out]; exact ⟨some ⟨w.heap.size, 0, none⟩, 0, rfl, .inl rfl⟩, B2⟩
  · have hl0 : xs.length = 0 := by omega
    rw [hl0] at *
    go_enter Try.func21, Try.ntmps21
    go_wp2
    refine wp_loop_rounds 1 ?_
    rw [rounds_succ]
    go_wp2
    go_ret
    exact ⟨by rw [HE.out]; exact ⟨some ⟨w.heap.size, 0, none⟩, 0, rfl, .inl rfl⟩, by go_grown⟩

theorem owns_drewN {w : World} {B : Nat} {v : Value} {xs : List P2} (h : Owns w B v xs) (n : Nat) : Owns (w.drewN n) B v xs := h
theorem rest_kept {w w' : World} {o : Obj} {r j : Nat} {u : Value} {row : Option Nat} (h : w.cell? (Addr.add ⟨r, 0, none⟩ j) = some u) (hr : r < w.heap.size) (hg : ((w.alloc o).drew).grownBy w' row) (hne : some r ≠ row) : w'.cell? (Addr.add ⟨r, 0, none⟩ j) = some u := by
  rw [WideShapes.add_plain] at h ⊢
  have h1 : ((w.alloc o).drew).cell? ⟨r, 0 + j, none⟩ = some u := by
    show (w.alloc o).cell? _ = _
    rw [World.cell?_alloc_lt _ _ _ hr]; exact h
  exact hg.cell h1 hne
theorem drop_news {w : World} {B g n c : Nat} {xs : List P2} (h : Owns w B (.slice (some ⟨g, 0, none⟩) n c) xs) (hn : n = xs.length) (m : Nat) (o : Obj) : ∀ (j : Nat) u, (ptCells (xs.drop m))[j]? = some u → (w.alloc o).cell? (Addr.add ⟨g, m * 2, none⟩ j) = some u := fun j u hu => by
  subst hn
  rw [← ptCells_drop, List.getElem?_drop] at hu
  have hlt : m * 2 + j < xs.length * 2 := by
    rcases Nat.lt_or_ge (m * 2 + j) (ptCells xs).length with h1 | h1
    · rwa [ptCells_length] at h1
    · rw [List.getElem?_eq_none h1] at hu; cases hu
  have hc := World.ownsRow.cellAt h (m * 2 + j) hlt
  rw [hu] at hc
  rw [WideShapes.add_plain, World.cell?_alloc_lt _ _ _ (lt_of_cell hc)]
  exact hc
theorem own_form {w : World} {B n : Nat} {v : Value} {cs : List Value} (h : w.ownsRow B 25 2 v n cs) (hv : v ≠ .slice none 0 0) : ∃ g c, v = .slice (some ⟨g, 0, none⟩) n c ∧ B ≤ g ∧ g < w.heap.size ∧ n ≤ c := by
  have hlt := World.ownsRow.lt h
  obtain ⟨-, ⟨h1, -⟩ | ⟨g, cap, cur, rfl, hB, hh, hnc, -⟩⟩ := h
  · exact absurd h1 hv
  · exact ⟨g, cap, rfl, hB, (hlt g rfl).2, hnc⟩
/-- The law for append of a slice, empty or not, at a step of a region that draws its order. -/
theorem step_append_own {P : Program} (w : World) {ops : Array Oper} {o : Oper} {a : Act} {K : Act → World → Prop} {Q : Exit → Act → World → Prop} {E : Prop} (hgd : o.guard = none) (s x : Operand) (t : TypeId)
    (ho : o.op = .call { callee := .builtin .append, args := #[s, x], argTypes := #[t, t] })
    (base : Nat) (e : TypeId) (i : TypeInfo) (z : Value) (size bytes : Nat) (ht : P.underlying t = some (.slice e)) (hi : P.info? e = some i) (hz : i.zero = some z)
    (hsize : i.size = size) (hby : i.bytes = bytes) (hzs : z.cells.size = size) (hsz : 0 < size)
    (v : Value) (n : Nat) (xs : List Value) (hs : a.eval s = v) (hown : w.ownsRow base e size v n xs)
    (ad : Addr) (m c : Nat) (news : List Value) (hx : a.eval x = .slice (some ad) m c) (hl : news.length = m * size) (hnews : ∀ j u, news[j]? = some u → w.cell? (ad.add j) = some u) (h1 : ∀ u ∈ news, u.oneCell' = true)
    (h63 : n + m ≤ maxLen) (hbytes : (n + m) * bytes ≤ 140737488355328) (hbase : base ≤ w.heap.size)
    (h : ∀ v' w', w'.ownsRow base e size v' (n + m) (xs ++ news) → w.grownBy w' v.ownBlock → (v' = .slice none 0 0 ↔ v = .slice none 0 0 ∧ m = 0) → K (a.put o.dst v') w') :
    if Region.wanted o (yielded ops a.tmps) = true then Oper.wp P o a w K Q else E := by
  have hw : Region.wanted o (yielded ops a.tmps) = true := by simp [Region.wanted, hgd]
  rw [if_pos hw]
  exact wp_append_own w s x t ho base e i z size bytes ht hi hz hsize hby hzs hsz v n xs hs hown ad m c news hx hl hnews h1 h63 hbytes hbase h
theorem pair_alloc {w : World} {b o1 o2 : Nat} {v1 v2 : Value} (h : w.cell? ⟨b, o1, none⟩ = some v1 ∧ w.cell? ⟨b, o2, none⟩ = some v2) (o : Obj) : (w.alloc o).cell? ⟨b, o1, none⟩ = some v1 ∧ (w.alloc o).cell? ⟨b, o2, none⟩ = some v2 :=
  ⟨by rw [World.cell?_alloc_lt _ _ _ (lt_of_cell h.1)]; exact h.1, by rw [World.cell?_alloc_lt _ _ _ (lt_of_cell h.2)]; exact h.2⟩
theorem pair_drew {w : World} {b o1 o2 : Nat} {v1 v2 : Value} (h : w.cell? ⟨b, o1, none⟩ = some v1 ∧ w.cell? ⟨b, o2, none⟩ = some v2) : w.drew.cell? ⟨b, o1, none⟩ = some v1 ∧ w.drew.cell? ⟨b, o2, none⟩ = some v2 := h
theorem pair_grown {w w' : World} {b o1 o2 : Nat} {v1 v2 : Value} {row : Option Nat} (h : w.cell? ⟨b, o1, none⟩ = some v1 ∧ w.cell? ⟨b, o2, none⟩ = some v2) (hg : w.grownBy w' row) (hne : some b ≠ row) : w'.cell? ⟨b, o1, none⟩ = some v1 ∧ w'.cell? ⟨b, o2, none⟩ = some v2 :=
  ⟨hg.cell h.1 hne, hg.cell h.2 hne⟩
theorem ins_cells (x : P2) (S : List P2) (m : Nat) (h : pos x S S.length = m) : (ptCells (S.take m) ++ [Value.int .i64 x.1, Value.int .i64 x.2]) ++ ptCells (S.drop m) = ptCells (insR x S) := by
  unfold insR put
  rw [h, ptCells_append, List.append_assoc]
  rfl

set_option maxHeartbeats 3200000 in
set_option maxRecDepth 100000 in
theorem specSort_good (b c : Nat) (xs : List P2) (w : World) (hr : RowP w b xs) (h : okB xs = true) :
    Calls Try.prog 21 #[.slice (some ⟨b, 0, none⟩) xs.length c] w fun e w' => Got1 w.heap.size (sortR xs) e w' ∧ Below w.heap.size w w' := by
  have HE := Lib.hid (sortR_yes h)
  obtain ⟨⟨h3, h7⟩, -, -⟩ := okB_ok h
  have HA : Hid (∀ W, Below w.heap.size w W → Calls Try.prog 15 #[.slice (some ⟨b, 0, none⟩) xs.length c] W fun e w' => e = .returned (.bool true) ∧ Below W.heap.size W w') :=
    Lib.hid (fun W hb => by rw [← h]; exact specAre b 0 c xs (by omega) W (hr.at.on hb hr.lt) (Nat.lt_of_lt_of_le hr.lt hb.size))
  have HC := Lib.hid hr.at
  have hbw := hr.lt
  obtain ⟨i0, hi, hz0, hz1, hz2⟩ := info_parts infoPt
  have HO : Hid (Owns (w.alloc (.cells #[] 25)) w.heap.size (.slice (some ⟨w.heap.size, 0, none⟩) 0 0) (sortK xs 0)) := Lib.hid (World.ownsRow_made w #[] 0 (Nat.le_refl _) (by decide) rfl)
  have HB0 := Lib.hid ((Below.refl w.heap.size w).alloc (Nat.le_refl _) (.cells #[] 25))
  clear hr h
  go_enter Try.func21, Try.ntmps21
  go_wp2
  go_loopw [3, 4] (fun vv i wr => ∃ (k g cap : Nat), k ≤ xs.length ∧ i = .int .i64 k ∧ vv = .slice (some ⟨g, 0, none⟩) k cap ∧ k ≤ cap ∧ Hid (Owns wr w.heap.size (.slice (some ⟨g, 0, none⟩) k cap) (sortK xs k)) ∧ Below w.heap.size w wr) (fun _ i _ => xs.length - (intOf i).toNat)
  case atStart => exact ⟨0, _, 0, Nat.zero_le _, rfl, rfl, Nat.le_refl _, HO, HB0.out⟩
  case round =>
    obtain ⟨k, g, cap, hk, rfl, rfl, hkc, HOW, hb⟩ := hrel
    by_cases hlt : k < xs.length
    · go_wp2_with fail
      refine (HA.out _ hb).mono ?_
      rintro e w1 ⟨rfl, hb1⟩
      have B1 := hb.trans (hb1.mono hb.size)
      have HO1 := Lib.hid (owns_on HOW.out hb1)
      clear hb hb1 HOW
      go_wp2
      go_loopw [5] (fun m wr => ∃ m' : Nat, m' ≤ k ∧ m = .int .i64 m' ∧ Hid (pos (get0 xs k) (sortK xs k) k = pos (get0 xs k) (sortK xs k) m') ∧ Hid (Owns wr w.heap.size (.slice (some ⟨g, 0, none⟩) k cap) (sortK xs k)) ∧ Below w.heap.size w wr) (fun m _ => (intOf m).toNat)
      case atStart => exact ⟨k, Nat.le_refl _, rfl, Lib.hid rfl, HO1, B1⟩
      case round =>
        obtain ⟨m, hm, rfl, HP, HO2, hb⟩ := hrel
        have hx? := List.getElem?_eq_getElem hlt
        obtain ⟨x0, y0⟩ := (HC.out.on hb hbw) k _ hx?
        have hxx := get0_of hx?
        rw [hxx] at HP
        have HXX := Lib.hid hxx
        generalize xs[k] = x at x0 y0 hx? HP HXX
        simp only [Nat.zero_add] at x0 y0
        have hSl : (sortK xs k).length = k := sortK_length xs k
        have HSL := Lib.hid hSl
        by_cases hgo : 0 < m ∧ bef x (get0 (sortK xs k) (m - 1)) = true
        · obtain ⟨hm0, hbf⟩ := hgo
          obtain ⟨q, hq⟩ : ∃ q, m = q + 1 := ⟨m - 1, by omega⟩
          have hsl : q < (sortK xs k).length := by omega
          have hs? := List.getElem?_eq_getElem hsl
          rw [show m - 1 = q by omega, get0_of hs?] at hbf
          have HPN : Hid (pos x (sortK xs k) k = pos x (sortK xs k) q) := Lib.hid (by rw [HP.out, hq, pos_go (by rw [get0_of hs?]; exact hbf)])
          obtain ⟨x1, y1⟩ := owns_cell HO2.out hSl.symm hs?
          generalize (sortK xs k)[q] = s at x1 y1 hs? hbf
          have hbf2 : befB x.1 x.2 s.1 s.2 = true := hbf
          have hw1 : IntKind.i64.wrap ((m : Int) - 1) = (q : Int) := by rw [IntWalk.i64_in _ (by omega)]; omega
          have hgt2 : decide (0 < m) = true := by simp; omega
          have hb0 : (0 : Int) ≤ (k : Int) := by omega
          have hb1 : (k : Int) < (xs.length : Int) := by omega
          have hb2 : (0 : Int) ≤ (q : Int) := by omega
          have hb3 : (q : Int) < (k : Int) := by omega
          have hqm : q < m := by omega
          clear hx? hxx hSl hs? hbf hq hsl
          go_wp2
          go_region_held3 (fun W => W.cell? ⟨b, k * 2, none⟩ = some (.int .i64 x.1) ∧ W.cell? ⟨b, k * 2 + 1, none⟩ = some (.int .i64 x.2) ∧ W.cell? ⟨g, q * 2, none⟩ = some (.int .i64 s.1) ∧ W.cell? ⟨g, q * 2 + 1, none⟩ = some (.int .i64 s.2)) (first | exact ⟨x0, y0, x1, y1⟩ | (refine ⟨?_, ?_, ?_, ?_⟩ <;> assumption))
            (first | (go_at_call 35; refine (heldOwn w w.heap.size (.slice (some ⟨g, 0, none⟩) k cap) (sortK xs k) ⟨b, k * 2, none⟩ ⟨b, k * 2 + 1, none⟩ ⟨g, q * 2, none⟩ ⟨g, q * 2 + 1, none⟩ (.int .i64 x.1) (.int .i64 x.2) (.int .i64 s.1) (.int .i64 s.2) (before_any _ _ _ _ _) ?_).mono ?_; (first | exact ⟨x0, y0, x1, y1, HO2.out, hb⟩ | exact ⟨x0, y0, x1, y1, owns_drew HO2.out, hb.drew⟩); rintro e w2 ⟨rfl, c1, c2, c3, c4, c5, c6⟩))
          go_wp2
          exact ⟨⟨q, by omega, by go_num, by rw [HXX.out]; exact HPN, Lib.hid c5, c6⟩, by simp only [intOf]; omega⟩
        · have hpos : pos x (sortK xs k) k = m := by
            rcases Nat.eq_zero_or_pos m with h0 | h0
            · rw [HP.out, h0]; rfl
            · obtain ⟨q, hq⟩ : ∃ q, m = q + 1 := ⟨m - 1, by omega⟩
              have : bef x (get0 (sortK xs k) q) = false := by
                cases hb : bef x (get0 (sortK xs k) q)
                · rfl
                · exact absurd ⟨h0, by rw [show m - 1 = q by omega]; exact hb⟩ hgo
              rw [HP.out, hq, pos_stop this]
          have HPO := Lib.hid hpos
          by_cases hm0 : m = 0
          · have hgt2 : decide (0 < m) = false := by simp; omega
            have hmc : m ≤ cap := by omega
            have hm00 : m ≤ 0 := by omega
            clear hpos hgo hx? hxx hSl hm0
            by_cases hcm : cap = m
            · subst hcm
              have hkm : k ≤ cap := by omega
              go_wp2
              go_quiet (fail)
              clear hgt2 hm00
              have hsz1 : (wr.drewN nq).heap.size ≤ wr.heap.size := Nat.le_refl _
              have hsz2 : wr.heap.size ≤ (wr.drewN nq).heap.size := Nat.le_refl _
              have HOW := Lib.hid (owns_drewN HO2.out nq)
              have BW : Below w.heap.size w (wr.drewN nq) := below_drewN hb nq
              have CW : (wr.drewN nq).cell? ⟨b, k * 2, none⟩ = some (.int .i64 x.1) ∧ (wr.drewN nq).cell? ⟨b, k * 2 + 1, none⟩ = some (.int .i64 x.2) := ⟨x0, y0⟩
              have hgl := (World.ownsRow.lt HOW.out g rfl).2
              have hgB := (World.ownsRow.lt HOW.out g rfl).1
              have hbl := lt_of_cell CW.1
              have hbB := BW.size
              have HO8 : Hid (Owns ((wr.drewN nq).alloc (.cells #[] 25)) (wr.drewN nq).heap.size (.slice (some ⟨(wr.drewN nq).heap.size, 0, none⟩) 0 0) []) := Lib.hid (World.ownsRow_made _ #[] 0 (Nat.le_refl _) (by decide) rfl)
              have HND := Lib.hid ((fun (j : Nat) (u : Value) (hu : (ptCells [])[j]? = some u) => (show ((wr.drewN nq).alloc (.cells #[] 25)).cell? (Addr.add ⟨g, 0, none⟩ j) = some u by simp [ptCells] at hu)))
              have HBW := Lib.hid BW
              have HCW := Lib.hid CW
              clear BW CW
              go_wp2_with (at_builtin; refine wpList_append_own _ rfl _ _ 31 rfl (wr.drewN nq).heap.size 25 i0 _ 2 16 Try.underlying31 hi hz0 hz1 hz2 rfl (by decide) _ _ _ rfl HO8.out ⟨g, 0, none⟩ (0) (0) (ptCells []) rfl (rfl) HND.out (ptCells_one _) (by unfold maxLen; simp only [List.length_nil]; omega) (by simp only [List.length_nil]; omega) (by simp) ?_)
              intro v8 w8 hown8 hg8 hnn8
              have hv8 : v8 ≠ .slice none 0 0 := by first | exact hnn8 | exact fun e => by have := (hnn8.1 e).1; cases this
              obtain ⟨r, rc, rfl, hr0, hr1, -⟩ := own_form hown8 hv8
              have hR8 : ∀ (j : Nat) u, (ptCells [])[j]? = some u → w8.cell? (Addr.add ⟨r, 0, none⟩ j) = some u := fun j u hu => World.ownsRow.cells hown8 (g := r) rfl j u hu
              have HR8 := Lib.hid hR8
              have B8 : Below w.heap.size w w8 := (HBW.out.alloc HBW.out.size (.cells #[] 25)).grown hg8 (by have := HBW.out.size; simp; omega) (fun q hq => by have := (World.ownsRow.lt HO8.out q hq).1; omega)
              have CC8 := pair_grown (pair_alloc HCW.out (.cells #[] 25)) hg8 (fun e => by have := (World.ownsRow.lt HO8.out b e.symm).1; (try simp at hbl); omega)
              have HO9 : Hid (Owns w8 w.heap.size (.slice (some ⟨g, 0, none⟩) k cap) (sortK xs k)) := Lib.hid (World.ownsRow.kept (owns_alloc HOW.out (.cells #[] 25)) hg8 (.inr (fun e => by have := (World.ownsRow.lt HO8.out g e.symm).1; omega)))
              have HT9 := Lib.hid (owns_take HO9.out HSL.out.symm cap hm)
              have HOT : Hid (w8.ownsRow w.heap.size 25 2 (.slice (some ⟨g, 0, none⟩) cap cap) cap (ptCells ((sortK xs k).take cap))) := Lib.hid (by have h := HT9.out; unfold Owns at h; rwa [show ((sortK xs k).take cap).length = cap by rw [List.length_take, HSL.out]; omega] at h)
              obtain ⟨cx8, cy8⟩ := CC8
              have hgr : g ≠ r := by omega
              have hbg : b ≠ g := by omega
              have hs8 := B8.size
              clear hown8 hg8 hnn8 hv8 hR8 hbl
              go_wp2
              go_region_held3 (fun W => W.cell? ⟨b, k * 2, none⟩ = some (.int .i64 x.1) ∧ W.cell? ⟨b, k * 2 + 1, none⟩ = some (.int .i64 x.2)) (first | exact ⟨cx8, cy8⟩ | exact pair_alloc ⟨cx8, cy8⟩ _ | exact hk9 | exact hk10 | (refine ⟨?_, ?_⟩ <;> assumption))
                (first
                | (refine step_append_lies _ (by rfl) _ _ _ (by rfl) w.heap.size 25 i0 _ 2 16 Try.underlying31 hi hz0 hz1 hz2 rfl (by omega) (.slice (some ⟨g, 0, none⟩) cap cap) cap (ptCells ((sortK xs k).take cap)) (by rfl) ((World.ownsRow.alloc HOT.out _).drew) ⟨w8.heap.size, 0, none⟩ 1 1 [.int .i64 x.1, .int .i64 x.2] (by rfl) (by rfl) (World.news_of_block (cs := #[.int .i64 x.1, .int .i64 x.2]) (t := 25) (fr := (0, 0)) (heap_alloc_new w8 _)) (pair_one _ _) (by omega) (by simp only [maxLen]; omega) (by omega) (by simp; omega) (w8.heap.size + 1) (by simp) ?_; intro g9 c9 w9 hown9 hg9 hat9 hlt9; have hk9 := pair_grown (pair_drew (pair_alloc ⟨cx8, cy8⟩ (.cells #[.int .i64 x.1, .int .i64 x.2] 25))) hg9 (fun e => hbg (by simpa [Value.ownBlock] using e)); have HR9 : Hid (∀ (j : Nat) u, (ptCells [])[j]? = some u → w9.cell? (Addr.add ⟨r, 0, none⟩ j) = some u) := Lib.hid (fun j u hu => rest_kept (HR8.out j u hu) hr1 hg9 (fun e => hgr (by simpa [Value.ownBlock] using e.symm))); have HO10 := Lib.hid hown9; have B9 : Below w.heap.size w w9 := ((B8.alloc B8.size (.cells #[.int .i64 x.1, .int .i64 x.2] 25)).drew).grown hg9 (by simp; omega) (fun q hq => by have : g = q := (by simpa [Value.ownBlock] using hq); omega); have HB9 := Lib.hid B9; clear hown9 B9)
                | (refine step_append_own _ (by rfl) _ _ _ (by rfl) w.heap.size 25 i0 _ 2 16 Try.underlying31 hi hz0 hz1 hz2 rfl (by omega) (.slice (some ⟨g9, 0, none⟩) (cap + 1) c9) (cap + 1) (ptCells ((sortK xs k).take cap) ++ [.int .i64 x.1, .int .i64 x.2]) (by rfl) HO10.out ⟨r, 0, none⟩ (0) rc (ptCells []) (by rfl) (rfl) HR9.out (ptCells_one _) (by simp only [maxLen]; omega) (by omega) (by have := HB9.out.size; omega) ?_; intro v10 w10 hown10 hg10 hnn10; have hk10 := pair_grown hk9 hg10 (fun e => by have h1 : b = g9 := (by simpa [Value.ownBlock] using e); have := (World.ownsRow.lt HO10.out g9 rfl).1; omega); have HOE := Lib.hid hown10; have HNN := Lib.hid hnn10; have HB10 := Lib.hid (HB9.out.grown hg10 HB9.out.size (fun q hq => (World.ownsRow.lt HO10.out q hq).1)); clear hown10 hnn10))
              have hv10 : v10 ≠ .slice none 0 0 := fun e => by have := (HNN.out.1 e).1; cases this
              obtain ⟨g2, c2', hv2, -, -, hc2⟩ := own_form HOE.out hv10
              have HFIN : Hid (Owns w10 w.heap.size (.slice (some ⟨g2, 0, none⟩) (k + 1) c2') (sortK xs (k + 1))) := Lib.hid (by
                have h := HOE.out
                rw [hv2] at h
                unfold Owns
                rw [sortK_length, show sortK xs (k + 1) = insR x (sortK xs k) by rw [sortK, HXX.out], ← ins_cells x (sortK xs k) cap (by rw [HSL.out]; exact HPO.out)]
                rw [show (sortK xs k).drop cap = [] by rw [List.drop_eq_nil_of_le (by rw [HSL.out]; omega)], show k + 1 = cap + 1 + 0 by omega]
                exact h)
              have e10 : cap + 1 + (0) = k + 1 := by omega
              have hc3 : k + 1 ≤ c2' := by omega
              rw [e10] at hv2
              subst hv2
              clear e10 hc2 hv10
              go_wp2
              exact ⟨⟨k + 1, g2, c2', by omega, by go_num, rfl, hc3, HFIN, HB10.out⟩, by simp only [intOf]; omega⟩
            · go_wp2
              go_quiet (fail)
              clear hgt2 hm00
              have hsz1 : (wr.drewN nq).heap.size ≤ wr.heap.size := Nat.le_refl _
              have hsz2 : wr.heap.size ≤ (wr.drewN nq).heap.size := Nat.le_refl _
              have HOW := Lib.hid (owns_drewN HO2.out nq)
              have BW : Below w.heap.size w (wr.drewN nq) := below_drewN hb nq
              have CW : (wr.drewN nq).cell? ⟨b, k * 2, none⟩ = some (.int .i64 x.1) ∧ (wr.drewN nq).cell? ⟨b, k * 2 + 1, none⟩ = some (.int .i64 x.2) := ⟨x0, y0⟩
              have hgl := (World.ownsRow.lt HOW.out g rfl).2
              have hgB := (World.ownsRow.lt HOW.out g rfl).1
              have hbl := lt_of_cell CW.1
              have hbB := BW.size
              have HO8 : Hid (Owns ((wr.drewN nq).alloc (.cells #[] 25)) (wr.drewN nq).heap.size (.slice (some ⟨(wr.drewN nq).heap.size, 0, none⟩) 0 0) []) := Lib.hid (World.ownsRow_made _ #[] 0 (Nat.le_refl _) (by decide) rfl)
              have HND := Lib.hid (drop_news HOW.out HSL.out.symm m (.cells #[] 25))
              have HBW := Lib.hid BW
              have HCW := Lib.hid CW
              clear BW CW
              go_wp2_with (at_builtin; refine wpList_append_own _ rfl _ _ 31 rfl (wr.drewN nq).heap.size 25 i0 _ 2 16 Try.underlying31 hi hz0 hz1 hz2 rfl (by decide) _ _ _ rfl HO8.out ⟨g, m * 2, none⟩ (k - m) (cap - m) (ptCells ((sortK xs k).drop m)) rfl (by rw [ptCells_length, List.length_drop, HSL.out]) HND.out (ptCells_one _) (by unfold maxLen; simp only [List.length_nil]; omega) (by simp only [List.length_nil]; omega) (by simp) ?_)
              intro v8 w8 hown8 hg8 hnn8
              have hv8 : v8 ≠ .slice none 0 0 := by first | exact hnn8 | exact fun e => by have := (hnn8.1 e).1; cases this
              obtain ⟨r, rc, rfl, hr0, hr1, -⟩ := own_form hown8 hv8
              have hR8 : ∀ (j : Nat) u, (ptCells ((sortK xs k).drop m))[j]? = some u → w8.cell? (Addr.add ⟨r, 0, none⟩ j) = some u := fun j u hu => World.ownsRow.cells hown8 (g := r) rfl j u hu
              have HR8 := Lib.hid hR8
              have B8 : Below w.heap.size w w8 := (HBW.out.alloc HBW.out.size (.cells #[] 25)).grown hg8 (by have := HBW.out.size; simp; omega) (fun q hq => by have := (World.ownsRow.lt HO8.out q hq).1; omega)
              have CC8 := pair_grown (pair_alloc HCW.out (.cells #[] 25)) hg8 (fun e => by have := (World.ownsRow.lt HO8.out b e.symm).1; (try simp at hbl); omega)
              have HO9 : Hid (Owns w8 w.heap.size (.slice (some ⟨g, 0, none⟩) k cap) (sortK xs k)) := Lib.hid (World.ownsRow.kept (owns_alloc HOW.out (.cells #[] 25)) hg8 (.inr (fun e => by have := (World.ownsRow.lt HO8.out g e.symm).1; omega)))
              have HT9 := Lib.hid (owns_take HO9.out HSL.out.symm m hm)
              have HOT : Hid (w8.ownsRow w.heap.size 25 2 (.slice (some ⟨g, 0, none⟩) m cap) m (ptCells ((sortK xs k).take m))) := Lib.hid (by have h := HT9.out; unfold Owns at h; rwa [show ((sortK xs k).take m).length = m by rw [List.length_take, HSL.out]; omega] at h)
              obtain ⟨cx8, cy8⟩ := CC8
              have hgr : g ≠ r := by omega
              have hbg : b ≠ g := by omega
              have hs8 := B8.size
              clear hown8 hg8 hnn8 hv8 hR8 hbl
              go_wp2
              go_region_held3 (fun W => W.cell? ⟨b, k * 2, none⟩ = some (.int .i64 x.1) ∧ W.cell? ⟨b, k * 2 + 1, none⟩ = some (.int .i64 x.2)) (first | exact ⟨cx8, cy8⟩ | exact pair_alloc ⟨cx8, cy8⟩ _ | exact hk9 | exact hk10 | (refine ⟨?_, ?_⟩ <;> assumption))
                (first
                | (refine step_append_lies _ (by rfl) _ _ _ (by rfl) w.heap.size 25 i0 _ 2 16 Try.underlying31 hi hz0 hz1 hz2 rfl (by omega) (.slice (some ⟨g, 0, none⟩) m cap) m (ptCells ((sortK xs k).take m)) (by rfl) ((World.ownsRow.alloc HOT.out _).drew) ⟨w8.heap.size, 0, none⟩ 1 1 [.int .i64 x.1, .int .i64 x.2] (by rfl) (by rfl) (World.news_of_block (cs := #[.int .i64 x.1, .int .i64 x.2]) (t := 25) (fr := (0, 0)) (heap_alloc_new w8 _)) (pair_one _ _) (by omega) (by simp only [maxLen]; omega) (by omega) (by simp; omega) (w8.heap.size + 1) (by simp) ?_; intro g9 c9 w9 hown9 hg9 hat9 hlt9; have hk9 := pair_grown (pair_drew (pair_alloc ⟨cx8, cy8⟩ (.cells #[.int .i64 x.1, .int .i64 x.2] 25))) hg9 (fun e => hbg (by simpa [Value.ownBlock] using e)); have HR9 : Hid (∀ (j : Nat) u, (ptCells ((sortK xs k).drop m))[j]? = some u → w9.cell? (Addr.add ⟨r, 0, none⟩ j) = some u) := Lib.hid (fun j u hu => rest_kept (HR8.out j u hu) hr1 hg9 (fun e => hgr (by simpa [Value.ownBlock] using e.symm))); have HO10 := Lib.hid hown9; have B9 : Below w.heap.size w w9 := ((B8.alloc B8.size (.cells #[.int .i64 x.1, .int .i64 x.2] 25)).drew).grown hg9 (by simp; omega) (fun q hq => by have : g = q := (by simpa [Value.ownBlock] using hq); omega); have HB9 := Lib.hid B9; clear hown9 B9)
                | (refine step_append_own _ (by rfl) _ _ _ (by rfl) w.heap.size 25 i0 _ 2 16 Try.underlying31 hi hz0 hz1 hz2 rfl (by omega) (.slice (some ⟨g9, 0, none⟩) (m + 1) c9) (m + 1) (ptCells ((sortK xs k).take m) ++ [.int .i64 x.1, .int .i64 x.2]) (by rfl) HO10.out ⟨r, 0, none⟩ (k - m) rc (ptCells ((sortK xs k).drop m)) (by rfl) (by rw [ptCells_length, List.length_drop, HSL.out]) HR9.out (ptCells_one _) (by simp only [maxLen]; omega) (by omega) (by have := HB9.out.size; omega) ?_; intro v10 w10 hown10 hg10 hnn10; have hk10 := pair_grown hk9 hg10 (fun e => by have h1 : b = g9 := (by simpa [Value.ownBlock] using e); have := (World.ownsRow.lt HO10.out g9 rfl).1; omega); have HOE := Lib.hid hown10; have HNN := Lib.hid hnn10; have HB10 := Lib.hid (HB9.out.grown hg10 HB9.out.size (fun q hq => (World.ownsRow.lt HO10.out q hq).1)); clear hown10 hnn10))
              have hv10 : v10 ≠ .slice none 0 0 := fun e => by have := (HNN.out.1 e).1; cases this
              obtain ⟨g2, c2', hv2, -, -, hc2⟩ := own_form HOE.out hv10
              have HFIN : Hid (Owns w10 w.heap.size (.slice (some ⟨g2, 0, none⟩) (k + 1) c2') (sortK xs (k + 1))) := Lib.hid (by
                have h := HOE.out
                rw [hv2] at h
                unfold Owns
                rw [sortK_length, show sortK xs (k + 1) = insR x (sortK xs k) by rw [sortK, HXX.out], ← ins_cells x (sortK xs k) m (by rw [HSL.out]; exact HPO.out)]
                rw [show k + 1 = m + 1 + (k - m) by omega]
                exact h)
              have e10 : m + 1 + (k - m) = k + 1 := by omega
              have hc3 : k + 1 ≤ c2' := by omega
              rw [e10] at hv2
              subst hv2
              clear e10 hc2 hv10
              go_wp2
              exact ⟨⟨k + 1, g2, c2', by omega, by go_num, rfl, hc3, HFIN, HB10.out⟩, by simp only [intOf]; omega⟩
          · obtain ⟨q, hq⟩ : ∃ q, m = q + 1 := ⟨m - 1, by omega⟩
            have hsl : q < (sortK xs k).length := by omega
            have hs? := List.getElem?_eq_getElem hsl
            have hbf : bef x (sortK xs k)[q] = false := by
              cases hb : bef x (sortK xs k)[q]
              · rfl
              · exact absurd ⟨by omega, by rw [show m - 1 = q by omega, get0_of hs?]; exact hb⟩ hgo
            obtain ⟨x1, y1⟩ := owns_cell HO2.out hSl.symm hs?
            generalize (sortK xs k)[q] = s at x1 y1 hs? hbf
            have hbf2 : befB x.1 x.2 s.1 s.2 = false := hbf
            have hw1 : IntKind.i64.wrap ((m : Int) - 1) = (q : Int) := by rw [IntWalk.i64_in _ (by omega)]; omega
            have hgt2 : decide (0 < m) = true := by simp; omega
            have hb0 : (0 : Int) ≤ (k : Int) := by omega
            have hb1 : (k : Int) < (xs.length : Int) := by omega
            have hb2 : (0 : Int) ≤ (q : Int) := by omega
            have hb3 : (q : Int) < (k : Int) := by omega
            have hqm : q < m := by omega
            have hmc : m ≤ cap := by omega
            clear hx? hxx hSl hs? hbf hq hsl hpos hgo hm0
            by_cases hcm : cap = m
            · subst hcm
              have hkm : k ≤ cap := by omega
              go_wp2
              go_region_held3 (fun W => W.cell? ⟨b, k * 2, none⟩ = some (.int .i64 x.1) ∧ W.cell? ⟨b, k * 2 + 1, none⟩ = some (.int .i64 x.2) ∧ W.cell? ⟨g, q * 2, none⟩ = some (.int .i64 s.1) ∧ W.cell? ⟨g, q * 2 + 1, none⟩ = some (.int .i64 s.2)) (first | exact ⟨x0, y0, x1, y1⟩ | (refine ⟨?_, ?_, ?_, ?_⟩ <;> assumption))
                (first | (go_at_call 35; refine (heldOwn w w.heap.size (.slice (some ⟨g, 0, none⟩) k cap) (sortK xs k) ⟨b, k * 2, none⟩ ⟨b, k * 2 + 1, none⟩ ⟨g, q * 2, none⟩ ⟨g, q * 2 + 1, none⟩ (.int .i64 x.1) (.int .i64 x.2) (.int .i64 s.1) (.int .i64 s.2) (before_any _ _ _ _ _) ?_).mono ?_; (first | exact ⟨x0, y0, x1, y1, HO2.out, hb⟩ | exact ⟨x0, y0, x1, y1, owns_drew HO2.out, hb.drew⟩); rintro e w2 ⟨rfl, c1, c2, c3, c4, c5, c6⟩))
              have HOW := Lib.hid (c5)
              have BW : Below w.heap.size w (w2) := c6
              have CW : (w2).cell? ⟨b, k * 2, none⟩ = some (.int .i64 x.1) ∧ (w2).cell? ⟨b, k * 2 + 1, none⟩ = some (.int .i64 x.2) := ⟨c1, c2⟩
              have hgl := (World.ownsRow.lt HOW.out g rfl).2
              have hgB := (World.ownsRow.lt HOW.out g rfl).1
              have hbl := lt_of_cell CW.1
              have hbB := BW.size
              have HO8 : Hid (Owns ((w2).alloc (.cells #[] 25)) (w2).heap.size (.slice (some ⟨(w2).heap.size, 0, none⟩) 0 0) []) := Lib.hid (World.ownsRow_made _ #[] 0 (Nat.le_refl _) (by decide) rfl)
              have HND := Lib.hid ((fun (j : Nat) (u : Value) (hu : (ptCells [])[j]? = some u) => (show ((w2).alloc (.cells #[] 25)).cell? (Addr.add ⟨g, 0, none⟩ j) = some u by simp [ptCells] at hu)))
              have HBW := Lib.hid BW
              have HCW := Lib.hid CW
              clear BW CW
              go_wp2_with (at_builtin; refine wpList_append_own _ rfl _ _ 31 rfl (w2).heap.size 25 i0 _ 2 16 Try.underlying31 hi hz0 hz1 hz2 rfl (by decide) _ _ _ rfl HO8.out ⟨g, 0, none⟩ (0) (0) (ptCells []) rfl (rfl) HND.out (ptCells_one _) (by unfold maxLen; simp only [List.length_nil]; omega) (by simp only [List.length_nil]; omega) (by simp) ?_)
              intro v8 w8 hown8 hg8 hnn8
              have hv8 : v8 ≠ .slice none 0 0 := by first | exact hnn8 | exact fun e => by have := (hnn8.1 e).1; cases this
              obtain ⟨r, rc, rfl, hr0, hr1, -⟩ := own_form hown8 hv8
              have hR8 : ∀ (j : Nat) u, (ptCells [])[j]? = some u → w8.cell? (Addr.add ⟨r, 0, none⟩ j) = some u := fun j u hu => World.ownsRow.cells hown8 (g := r) rfl j u hu
              have HR8 := Lib.hid hR8
              have B8 : Below w.heap.size w w8 := (HBW.out.alloc HBW.out.size (.cells #[] 25)).grown hg8 (by have := HBW.out.size; simp; omega) (fun q hq => by have := (World.ownsRow.lt HO8.out q hq).1; omega)
              have CC8 := pair_grown (pair_alloc HCW.out (.cells #[] 25)) hg8 (fun e => by have := (World.ownsRow.lt HO8.out b e.symm).1; (try simp at hbl); omega)
              have HO9 : Hid (Owns w8 w.heap.size (.slice (some ⟨g, 0, none⟩) k cap) (sortK xs k)) := Lib.hid (World.ownsRow.kept (owns_alloc HOW.out (.cells #[] 25)) hg8 (.inr (fun e => by have := (World.ownsRow.lt HO8.out g e.symm).1; omega)))
              have HT9 := Lib.hid (owns_take HO9.out HSL.out.symm cap hm)
              have HOT : Hid (w8.ownsRow w.heap.size 25 2 (.slice (some ⟨g, 0, none⟩) cap cap) cap (ptCells ((sortK xs k).take cap))) := Lib.hid (by have h := HT9.out; unfold Owns at h; rwa [show ((sortK xs k).take cap).length = cap by rw [List.length_take, HSL.out]; omega] at h)
              obtain ⟨cx8, cy8⟩ := CC8
              have hgr : g ≠ r := by omega
              have hbg : b ≠ g := by omega
              have hs8 := B8.size
              clear hown8 hg8 hnn8 hv8 hR8 hbl
              go_wp2
              go_region_held3 (fun W => W.cell? ⟨b, k * 2, none⟩ = some (.int .i64 x.1) ∧ W.cell? ⟨b, k * 2 + 1, none⟩ = some (.int .i64 x.2)) (first | exact ⟨cx8, cy8⟩ | exact pair_alloc ⟨cx8, cy8⟩ _ | exact hk9 | exact hk10 | (refine ⟨?_, ?_⟩ <;> assumption))
                (first
                | (refine step_append_lies _ (by rfl) _ _ _ (by rfl) w.heap.size 25 i0 _ 2 16 Try.underlying31 hi hz0 hz1 hz2 rfl (by omega) (.slice (some ⟨g, 0, none⟩) cap cap) cap (ptCells ((sortK xs k).take cap)) (by rfl) ((World.ownsRow.alloc HOT.out _).drew) ⟨w8.heap.size, 0, none⟩ 1 1 [.int .i64 x.1, .int .i64 x.2] (by rfl) (by rfl) (World.news_of_block (cs := #[.int .i64 x.1, .int .i64 x.2]) (t := 25) (fr := (0, 0)) (heap_alloc_new w8 _)) (pair_one _ _) (by omega) (by simp only [maxLen]; omega) (by omega) (by simp; omega) (w8.heap.size + 1) (by simp) ?_; intro g9 c9 w9 hown9 hg9 hat9 hlt9; have hk9 := pair_grown (pair_drew (pair_alloc ⟨cx8, cy8⟩ (.cells #[.int .i64 x.1, .int .i64 x.2] 25))) hg9 (fun e => hbg (by simpa [Value.ownBlock] using e)); have HR9 : Hid (∀ (j : Nat) u, (ptCells [])[j]? = some u → w9.cell? (Addr.add ⟨r, 0, none⟩ j) = some u) := Lib.hid (fun j u hu => rest_kept (HR8.out j u hu) hr1 hg9 (fun e => hgr (by simpa [Value.ownBlock] using e.symm))); have HO10 := Lib.hid hown9; have B9 : Below w.heap.size w w9 := ((B8.alloc B8.size (.cells #[.int .i64 x.1, .int .i64 x.2] 25)).drew).grown hg9 (by simp; omega) (fun q hq => by have : g = q := (by simpa [Value.ownBlock] using hq); omega); have HB9 := Lib.hid B9; clear hown9 B9)
                | (refine step_append_own _ (by rfl) _ _ _ (by rfl) w.heap.size 25 i0 _ 2 16 Try.underlying31 hi hz0 hz1 hz2 rfl (by omega) (.slice (some ⟨g9, 0, none⟩) (cap + 1) c9) (cap + 1) (ptCells ((sortK xs k).take cap) ++ [.int .i64 x.1, .int .i64 x.2]) (by rfl) HO10.out ⟨r, 0, none⟩ (0) rc (ptCells []) (by rfl) (rfl) HR9.out (ptCells_one _) (by simp only [maxLen]; omega) (by omega) (by have := HB9.out.size; omega) ?_; intro v10 w10 hown10 hg10 hnn10; have hk10 := pair_grown hk9 hg10 (fun e => by have h1 : b = g9 := (by simpa [Value.ownBlock] using e); have := (World.ownsRow.lt HO10.out g9 rfl).1; omega); have HOE := Lib.hid hown10; have HNN := Lib.hid hnn10; have HB10 := Lib.hid (HB9.out.grown hg10 HB9.out.size (fun q hq => (World.ownsRow.lt HO10.out q hq).1)); clear hown10 hnn10))
              have hv10 : v10 ≠ .slice none 0 0 := fun e => by have := (HNN.out.1 e).1; cases this
              obtain ⟨g2, c2', hv2, -, -, hc2⟩ := own_form HOE.out hv10
              have HFIN : Hid (Owns w10 w.heap.size (.slice (some ⟨g2, 0, none⟩) (k + 1) c2') (sortK xs (k + 1))) := Lib.hid (by
                have h := HOE.out
                rw [hv2] at h
                unfold Owns
                rw [sortK_length, show sortK xs (k + 1) = insR x (sortK xs k) by rw [sortK, HXX.out], ← ins_cells x (sortK xs k) cap (by rw [HSL.out]; exact HPO.out)]
                rw [show (sortK xs k).drop cap = [] by rw [List.drop_eq_nil_of_le (by rw [HSL.out]; omega)], show k + 1 = cap + 1 + 0 by omega]
                exact h)
              have e10 : cap + 1 + (0) = k + 1 := by omega
              have hc3 : k + 1 ≤ c2' := by omega
              rw [e10] at hv2
              subst hv2
              clear e10 hc2 hv10
              go_wp2
              exact ⟨⟨k + 1, g2, c2', by omega, by go_num, rfl, hc3, HFIN, HB10.out⟩, by simp only [intOf]; omega⟩
            · go_wp2
              go_region_held3 (fun W => W.cell? ⟨b, k * 2, none⟩ = some (.int .i64 x.1) ∧ W.cell? ⟨b, k * 2 + 1, none⟩ = some (.int .i64 x.2) ∧ W.cell? ⟨g, q * 2, none⟩ = some (.int .i64 s.1) ∧ W.cell? ⟨g, q * 2 + 1, none⟩ = some (.int .i64 s.2)) (first | exact ⟨x0, y0, x1, y1⟩ | (refine ⟨?_, ?_, ?_, ?_⟩ <;> assumption))
                (first | (go_at_call 35; refine (heldOwn w w.heap.size (.slice (some ⟨g, 0, none⟩) k cap) (sortK xs k) ⟨b, k * 2, none⟩ ⟨b, k * 2 + 1, none⟩ ⟨g, q * 2, none⟩ ⟨g, q * 2 + 1, none⟩ (.int .i64 x.1) (.int .i64 x.2) (.int .i64 s.1) (.int .i64 s.2) (before_any _ _ _ _ _) ?_).mono ?_; (first | exact ⟨x0, y0, x1, y1, HO2.out, hb⟩ | exact ⟨x0, y0, x1, y1, owns_drew HO2.out, hb.drew⟩); rintro e w2 ⟨rfl, c1, c2, c3, c4, c5, c6⟩))
              have HOW := Lib.hid (c5)
              have BW : Below w.heap.size w (w2) := c6
              have CW : (w2).cell? ⟨b, k * 2, none⟩ = some (.int .i64 x.1) ∧ (w2).cell? ⟨b, k * 2 + 1, none⟩ = some (.int .i64 x.2) := ⟨c1, c2⟩
              have hgl := (World.ownsRow.lt HOW.out g rfl).2
              have hgB := (World.ownsRow.lt HOW.out g rfl).1
              have hbl := lt_of_cell CW.1
              have hbB := BW.size
              have HO8 : Hid (Owns ((w2).alloc (.cells #[] 25)) (w2).heap.size (.slice (some ⟨(w2).heap.size, 0, none⟩) 0 0) []) := Lib.hid (World.ownsRow_made _ #[] 0 (Nat.le_refl _) (by decide) rfl)
              have HND := Lib.hid (drop_news HOW.out HSL.out.symm m (.cells #[] 25))
              have HBW := Lib.hid BW
              have HCW := Lib.hid CW
              clear BW CW
              go_wp2_with (at_builtin; refine wpList_append_own _ rfl _ _ 31 rfl (w2).heap.size 25 i0 _ 2 16 Try.underlying31 hi hz0 hz1 hz2 rfl (by decide) _ _ _ rfl HO8.out ⟨g, m * 2, none⟩ (k - m) (cap - m) (ptCells ((sortK xs k).drop m)) rfl (by rw [ptCells_length, List.length_drop, HSL.out]) HND.out (ptCells_one _) (by unfold maxLen; simp only [List.length_nil]; omega) (by simp only [List.length_nil]; omega) (by simp) ?_)
              intro v8 w8 hown8 hg8 hnn8
              have hv8 : v8 ≠ .slice none 0 0 := by first | exact hnn8 | exact fun e => by have := (hnn8.1 e).1; cases this
              obtain ⟨r, rc, rfl, hr0, hr1, -⟩ := own_form hown8 hv8
              have hR8 : ∀ (j : Nat) u, (ptCells ((sortK xs k).drop m))[j]? = some u → w8.cell? (Addr.add ⟨r, 0, none⟩ j) = some u := fun j u hu => World.ownsRow.cells hown8 (g := r) rfl j u hu
              have HR8 := Lib.hid hR8
              have B8 : Below w.heap.size w w8 := (HBW.out.alloc HBW.out.size (.cells #[] 25)).grown hg8 (by have := HBW.out.size; simp; omega) (fun q hq => by have := (World.ownsRow.lt HO8.out q hq).1; omega)
              have CC8 := pair_grown (pair_alloc HCW.out (.cells #[] 25)) hg8 (fun e => by have := (World.ownsRow.lt HO8.out b e.symm).1; (try simp at hbl); omega)
              have HO9 : Hid (Owns w8 w.heap.size (.slice (some ⟨g, 0, none⟩) k cap) (sortK xs k)) := Lib.hid (World.ownsRow.kept (owns_alloc HOW.out (.cells #[] 25)) hg8 (.inr (fun e => by have := (World.ownsRow.lt HO8.out g e.symm).1; omega)))
              have HT9 := Lib.hid (owns_take HO9.out HSL.out.symm m hm)
              have HOT : Hid (w8.ownsRow w.heap.size 25 2 (.slice (some ⟨g, 0, none⟩) m cap) m (ptCells ((sortK xs k).take m))) := Lib.hid (by have h := HT9.out; unfold Owns at h; rwa [show ((sortK xs k).take m).length = m by rw [List.length_take, HSL.out]; omega] at h)
              obtain ⟨cx8, cy8⟩ := CC8
              have hgr : g ≠ r := by omega
              have hbg : b ≠ g := by omega
              have hs8 := B8.size
              clear hown8 hg8 hnn8 hv8 hR8 hbl
              go_wp2
              go_region_held3 (fun W => W.cell? ⟨b, k * 2, none⟩ = some (.int .i64 x.1) ∧ W.cell? ⟨b, k * 2 + 1, none⟩ = some (.int .i64 x.2)) (first | exact ⟨cx8, cy8⟩ | exact pair_alloc ⟨cx8, cy8⟩ _ | exact hk9 | exact hk10 | (refine ⟨?_, ?_⟩ <;> assumption))
                (first
                | (refine step_append_lies _ (by rfl) _ _ _ (by rfl) w.heap.size 25 i0 _ 2 16 Try.underlying31 hi hz0 hz1 hz2 rfl (by omega) (.slice (some ⟨g, 0, none⟩) m cap) m (ptCells ((sortK xs k).take m)) (by rfl) ((World.ownsRow.alloc HOT.out _).drew) ⟨w8.heap.size, 0, none⟩ 1 1 [.int .i64 x.1, .int .i64 x.2] (by rfl) (by rfl) (World.news_of_block (cs := #[.int .i64 x.1, .int .i64 x.2]) (t := 25) (fr := (0, 0)) (heap_alloc_new w8 _)) (pair_one _ _) (by omega) (by simp only [maxLen]; omega) (by omega) (by simp; omega) (w8.heap.size + 1) (by simp) ?_; intro g9 c9 w9 hown9 hg9 hat9 hlt9; have hk9 := pair_grown (pair_drew (pair_alloc ⟨cx8, cy8⟩ (.cells #[.int .i64 x.1, .int .i64 x.2] 25))) hg9 (fun e => hbg (by simpa [Value.ownBlock] using e)); have HR9 : Hid (∀ (j : Nat) u, (ptCells ((sortK xs k).drop m))[j]? = some u → w9.cell? (Addr.add ⟨r, 0, none⟩ j) = some u) := Lib.hid (fun j u hu => rest_kept (HR8.out j u hu) hr1 hg9 (fun e => hgr (by simpa [Value.ownBlock] using e.symm))); have HO10 := Lib.hid hown9; have B9 : Below w.heap.size w w9 := ((B8.alloc B8.size (.cells #[.int .i64 x.1, .int .i64 x.2] 25)).drew).grown hg9 (by simp; omega) (fun q hq => by have : g = q := (by simpa [Value.ownBlock] using hq); omega); have HB9 := Lib.hid B9; clear hown9 B9)
                | (refine step_append_own _ (by rfl) _ _ _ (by rfl) w.heap.size 25 i0 _ 2 16 Try.underlying31 hi hz0 hz1 hz2 rfl (by omega) (.slice (some ⟨g9, 0, none⟩) (m + 1) c9) (m + 1) (ptCells ((sortK xs k).take m) ++ [.int .i64 x.1, .int .i64 x.2]) (by rfl) HO10.out ⟨r, 0, none⟩ (k - m) rc (ptCells ((sortK xs k).drop m)) (by rfl) (by rw [ptCells_length, List.length_drop, HSL.out]) HR9.out (ptCells_one _) (by simp only [maxLen]; omega) (by omega) (by have := HB9.out.size; omega) ?_; intro v10 w10 hown10 hg10 hnn10; have hk10 := pair_grown hk9 hg10 (fun e => by have h1 : b = g9 := (by simpa [Value.ownBlock] using e); have := (World.ownsRow.lt HO10.out g9 rfl).1; omega); have HOE := Lib.hid hown10; have HNN := Lib.hid hnn10; have HB10 := Lib.hid (HB9.out.grown hg10 HB9.out.size (fun q hq => (World.ownsRow.lt HO10.out q hq).1)); clear hown10 hnn10))
              have hv10 : v10 ≠ .slice none 0 0 := fun e => by have := (HNN.out.1 e).1; cases this
              obtain ⟨g2, c2', hv2, -, -, hc2⟩ := own_form HOE.out hv10
              have HFIN : Hid (Owns w10 w.heap.size (.slice (some ⟨g2, 0, none⟩) (k + 1) c2') (sortK xs (k + 1))) := Lib.hid (by
                have h := HOE.out
                rw [hv2] at h
                unfold Owns
                rw [sortK_length, show sortK xs (k + 1) = insR x (sortK xs k) by rw [sortK, HXX.out], ← ins_cells x (sortK xs k) m (by rw [HSL.out]; exact HPO.out)]
                rw [show k + 1 = m + 1 + (k - m) by omega]
                exact h)
              have e10 : m + 1 + (k - m) = k + 1 := by omega
              have hc3 : k + 1 ≤ c2' := by omega
              rw [e10] at hv2
              subst hv2
              clear e10 hc2 hv10
              go_wp2
              exact ⟨⟨k + 1, g2, c2', by omega, by go_num, rfl, hc3, HFIN, HB10.out⟩, by simp only [intOf]; omega⟩
    · have e : k = xs.length := by omega
      have HF : Hid (Owns wr w.heap.size (.slice (some ⟨g, 0, none⟩) k cap) (sortK xs xs.length)) := Lib.hid (by rw [← e]; exact HOW.out)
      have HL : Hid ((sortK xs xs.length).length = k) := Lib.hid (by rw [sortK_length, e])
      clear e
      go_wp2
      go_ret
      exact ⟨by
        obtain ⟨a, c', hv, hn⟩ := New.of_own HF.out
        rw [HE.out]
        exact ⟨a, c', by rw [← hv]; rfl, hn⟩, hb⟩
end Go.Proofs.Yticekiniljemeaa.Pt
