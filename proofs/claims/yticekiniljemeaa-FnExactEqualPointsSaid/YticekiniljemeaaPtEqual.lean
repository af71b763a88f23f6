/- EqualPoints, as impl and spec ask it. -/
import Derived.Test.YticekiniljemeaaPtList
namespace Go.Proofs.Yticekiniljemeaa.Pt
open Go.RowKit
def eqB (xs ys : List P2) : Bool := decide (xs = ys)
theorem eqB_len {xs ys : List P2} (h : xs.length ≠ ys.length) : eqB xs ys = false := by simp only [eqB, decide_eq_false_iff_not]; intro e; exact h (by rw [e])
theorem eqB_at {xs ys : List P2} {k : Nat} {a b : P2} (ha : xs[k]? = some a) (hb : ys[k]? = some b) (h : a ≠ b) : eqB xs ys = false := by
  simp only [eqB, decide_eq_false_iff_not]; intro e; subst e; rw [ha] at hb; exact h (Option.some.inj hb)
def Same (xs ys : List P2) (k : Nat) : Prop := ∀ j, j < k → xs[j]? = ys[j]?
theorem Same.zero (xs ys : List P2) : Same xs ys 0 := fun j h => by omega
theorem Same.step {xs ys : List P2} {k : Nat} (h : Same xs ys k) {a b : P2} (ha : xs[k]? = some a) (hb : ys[k]? = some b) (e : a = b) : Same xs ys (k + 1) := fun j hj => by
  by_cases ej : j = k
  · subst ej; rw [ha, hb, e]
  · exact h j (by omega)
theorem eqB_all {xs ys : List P2} (hl : xs.length = ys.length) (h : Same xs ys xs.length) : eqB xs ys = true := by
  simp only [eqB, decide_eq_true_eq]
  apply List.ext_getElem? 
  intro i
  by_cases hi : i < xs.length
  · exact h i hi
  · rw [List.getElem?_eq_none (by omega), List.getElem?_eq_none (by omega)]

set_option maxHeartbeats 800000 in
set_option maxRecDepth 100000 in
theorem specEqual_any (b o c b2 o2 c2 : Nat) (xs ys : List P2) (hl : xs.length = ys.length) (hx : xs.length ≤ 9223372036854775807) (w : World) (hc : AtP w b o xs) (hc2 : AtP w b2 o2 ys) :
    Calls Try.prog 19 #[.slice (some ⟨b, o, none⟩) xs.length c, .slice (some ⟨b2, o2, none⟩) ys.length c2] w fun e w' => e = .returned (.bool (eqB xs ys)) ∧ ∃ n, w' = w.drewN n := by
  have HL := Lib.hid hl
  have hne : ((xs.length : Int) != (xs.length : Int)) = false := by simp
  rw [← hl]
  clear hl
  go_enter Try.func19, Try.ntmps19
  go_wp2
  go_loopw [5] (fun i wr => ∃ k : Nat, k ≤ xs.length ∧ i = .int .i64 k ∧ Hid (Same xs ys k) ∧ Hid (∃ n, wr = w.drewN n)) (fun i _ => xs.length - (intOf i).toNat)
  case atStart => exact ⟨0, Nat.zero_le _, rfl, Lib.hid (Same.zero _ _), Lib.hid ⟨0, rfl⟩⟩
  case round =>
    obtain ⟨k, hk, rfl, HS, hn⟩ := hrel
    obtain ⟨n, rfl⟩ := hn.out
    by_cases hlt : k < xs.length
    · obtain ⟨x0, y0⟩ := hc.get k hlt
      obtain ⟨x1, y1⟩ := hc2.get k (by have := HL.out; omega)
      have ha? := List.getElem?_eq_getElem hlt
      have hb? := List.getElem?_eq_getElem (show k < ys.length by have := HL.out; omega)
      generalize xs[k] = p at x0 y0 ha?
      generalize ys[k] = q at x1 y1 hb?
      by_cases he : p = q
      · have HM := Lib.hid (HS.out.step ha? hb? he)
        subst he
        clear ha? hb?
        have e1 : (p.1 != p.1) = false := by simp
        have e2 : (p.2 != p.2) = false := by simp
        go_wp2
        go_quiet (fail)
        go_wp2
        exact ⟨⟨k + 1, by omega, by go_num, HM, Lib.hid ⟨_, rfl⟩⟩, by simp only [intOf]; omega⟩
      · have HE := Lib.hid (eqB_at ha? hb? he)
        obtain ⟨px, py⟩ := p
        obtain ⟨qx, qy⟩ := q
        dsimp only at x0 y0 x1 y1
        clear ha? hb?
        by_cases hex : px = qx
        · subst hex
          have hey : py ≠ qy := fun e => he (by rw [e])
          have e1 : (py == qy) = false := by simpa using hey
          have e2 : (py != qy) = true := by simpa using hey
          clear he hey
          go_wp2
          go_quiet (fail)
          go_wp2
          go_ret
          exact ⟨ret_bool HE.out.symm, _, World.drewN_drewN _ _ _⟩
        · have e1 : (px == qx) = false := by simpa using hex
          have e2 : (px != qx) = true := by simpa using hex
          clear he hex
          go_wp2
          go_quiet (fail)
          go_wp2
          go_ret
          exact ⟨ret_bool HE.out.symm, _, World.drewN_drewN _ _ _⟩
    · have HE := Lib.hid (eqB_all HL.out (by obtain rfl : k = xs.length := by omega
                                             exact HS.out))
      go_wp2
      go_ret
      exact ⟨ret_bool HE.out.symm, n, rfl⟩
set_option maxHeartbeats 800000 in
set_option maxRecDepth 100000 in
theorem implEqual_any (b o c b2 o2 c2 : Nat) (xs ys : List P2) (hl : xs.length = ys.length) (hx : xs.length ≤ 9223372036854775807) (w : World) (hc : AtP w b o xs) (hc2 : AtP w b2 o2 ys) :
    Calls Try.prog 20 #[.slice (some ⟨b, o, none⟩) xs.length c, .slice (some ⟨b2, o2, none⟩) ys.length c2] w fun e w' => e = .returned (.bool (eqB xs ys)) ∧ ∃ n, w' = w.drewN n := by
  have HL := Lib.hid hl
  have hne : ((xs.length : Int) != (xs.length : Int)) = false := by simp
  rw [← hl]
  clear hl
  go_enter Try.func20, Try.ntmps20
  go_wp2
  go_loopw [13] (fun i wr => ∃ k : Nat, k ≤ xs.length ∧ i = .int .i64 k ∧ Hid (Same xs ys k) ∧ Hid (∃ n, wr = w.drewN n)) (fun i _ => xs.length - (intOf i).toNat)
  case atStart => exact ⟨0, Nat.zero_le _, rfl, Lib.hid (Same.zero _ _), Lib.hid ⟨0, rfl⟩⟩
  case round =>
    obtain ⟨k, hk, rfl, HS, hn⟩ := hrel
    obtain ⟨n, rfl⟩ := hn.out
    by_cases hlt : k < xs.length
    · obtain ⟨x0, y0⟩ := hc.get k hlt
      obtain ⟨x1, y1⟩ := hc2.get k (by have := HL.out; omega)
      have ha? := List.getElem?_eq_getElem hlt
      have hb? := List.getElem?_eq_getElem (show k < ys.length by have := HL.out; omega)
      generalize xs[k] = p at x0 y0 ha?
      generalize ys[k] = q at x1 y1 hb?
      by_cases he : p = q
      · have HM := Lib.hid (HS.out.step ha? hb? he)
        subst he
        clear ha? hb?
        have e1 : (p.1 != p.1) = false := by simp
        have e2 : (p.2 != p.2) = false := by simp
        go_wp2
        go_quiet (fail)
        go_wp2
        exact ⟨⟨k + 1, by omega, by go_num, HM, Lib.hid ⟨_, rfl⟩⟩, by simp only [intOf]; omega⟩
      · have HE := Lib.hid (eqB_at ha? hb? he)
        obtain ⟨px, py⟩ := p
        obtain ⟨qx, qy⟩ := q
        dsimp only at x0 y0 x1 y1
        clear ha? hb?
        by_cases hex : px = qx
        · subst hex
          have hey : py ≠ qy := fun e => he (by rw [e])
          have e1 : (py == qy) = false := by simpa using hey
          have e2 : (py != qy) = true := by simpa using hey
          clear he hey
          go_wp2
          go_quiet (fail)
          go_wp2
          go_ret
          exact ⟨ret_bool HE.out.symm, _, World.drewN_drewN _ _ _⟩
        · have e1 : (px == qx) = false := by simpa using hex
          have e2 : (px != qx) = true := by simpa using hex
          clear he hex
          go_wp2
          go_quiet (fail)
          go_wp2
          go_ret
          exact ⟨ret_bool HE.out.symm, _, World.drewN_drewN _ _ _⟩
    · have HE := Lib.hid (eqB_all HL.out (by obtain rfl : k = xs.length := by omega
                                             exact HS.out))
      go_wp2
      go_ret
      exact ⟨ret_bool HE.out.symm, n, rfl⟩
set_option maxRecDepth 100000 in
theorem specEqual_len (a a2 : Option Addr) (n n2 c c2 : Nat) (h : n ≠ n2) (w : World) :
    Calls Try.prog 19 #[.slice a n c, .slice a2 n2 c2] w fun e w' => e = .returned (.bool false) ∧ ∃ n, w' = w.drewN n := by
  have h1 : ((n : Int) != (n2 : Int)) = true := by simp; omega
  go_enter Try.func19, Try.ntmps19
  go_wp2
  go_ret
  exact ⟨rfl, 0, rfl⟩
set_option maxRecDepth 100000 in
theorem specEqual_none (a a2 : Option Addr) (c c2 : Nat) (w : World) :
    Calls Try.prog 19 #[.slice a 0 c, .slice a2 0 c2] w fun e w' => e = .returned (.bool true) ∧ ∃ n, w' = w.drewN n := by
  go_enter Try.func19, Try.ntmps19
  go_wp2
  refine wp_loop_rounds 1 ?_
  rw [rounds_succ]
  go_wp2
  go_ret
  exact ⟨rfl, 0, rfl⟩
set_option maxRecDepth 100000 in
theorem implEqual_len (a a2 : Option Addr) (n n2 c c2 : Nat) (h : n ≠ n2) (w : World) :
    Calls Try.prog 20 #[.slice a n c, .slice a2 n2 c2] w fun e w' => e = .returned (.bool false) ∧ ∃ n, w' = w.drewN n := by
  have h1 : ((n : Int) != (n2 : Int)) = true := by simp; omega
  go_enter Try.func20, Try.ntmps20
  go_wp2
  go_ret
  exact ⟨rfl, 0, rfl⟩
set_option maxRecDepth 100000 in
theorem implEqual_none (a a2 : Option Addr) (c c2 : Nat) (w : World) :
    Calls Try.prog 20 #[.slice a 0 c, .slice a2 0 c2] w fun e w' => e = .returned (.bool true) ∧ ∃ n, w' = w.drewN n := by
  go_enter Try.func20, Try.ntmps20
  go_wp2
  refine wp_loop_rounds 1 ?_
  rw [rounds_succ]
  go_wp2
  go_ret
  exact ⟨rfl, 0, rfl⟩
end Go.Proofs.Yticekiniljemeaa.Pt
