/- Several texts in one: HuMath, HuSortMath. -/
import Derived.Test.YtinlnafkmoabbaaGreatDoorQuFacts
import Derived.Test.YtinlnafkmoabbaaGreatDoorMgP
/- Hulls on plain functions: acyclic signs that keep the rule leave an element outside all triangles in each set that is not empty. -/
namespace Go.Proofs.YtinlnafkmoabbaaGreatDoor.Sg
/-- The rule on six signs. -/
def brkV (x1 x2 x3 x4 x5 x6 : Int) : Bool := (x1 * x2 == x3 * x4) && (x1 * x2 == -x5 * x6)
theorem brk_v {f : Int → Int → Int → Int} {a b c d e : Nat} {x1 x2 x3 x4 x5 x6 : Int} (h1 : f a b c = x1) (h2 : f a d e = x2) (h3 : f a b e = x3) (h4 : f a c d = x4) (h5 : f a b d = x5) (h6 : f a c e = x6) : brk f a b c d e = brkV x1 x2 x3 x4 x5 x6 := by
  unfold brk brkV; rw [h1, h2, h3, h4, h5, h6]
theorem brk_bools2 : ∀ b1 b2 b3 b4 b5 b6 : Bool,
    ((brkV (-(sg1 b1)) (sg1 b2) (sg1 b6) (sg1 b5) (sg1 b4) (sg1 b3) == brkV (sg1 b1) (sg1 b2) (sg1 b3) (sg1 b4) (sg1 b5) (sg1 b6)) &&
    (brkV (sg1 b5) (sg1 b6) (sg1 b3) (-(sg1 b4)) (sg1 b1) (sg1 b2) == brkV (sg1 b1) (sg1 b2) (sg1 b3) (sg1 b4) (sg1 b5) (sg1 b6)) &&
    (brkV (sg1 b1) (-(sg1 b2)) (sg1 b5) (sg1 b6) (sg1 b3) (sg1 b4) == brkV (sg1 b1) (sg1 b2) (sg1 b3) (sg1 b4) (sg1 b5) (sg1 b6))) = true := by decide +kernel
/-- Different elements below n: five of them. -/
def Dif5 (n a b c d e : Nat) : Prop := a < n ∧ b < n ∧ c < n ∧ d < n ∧ e < n ∧ a ≠ b ∧ a ≠ c ∧ a ≠ d ∧ a ≠ e ∧ b ≠ c ∧ b ≠ d ∧ b ≠ e ∧ c ≠ d ∧ c ≠ e ∧ d ≠ e
section
variable {n : Nat} {s : List UInt8}
theorem one (h : arB n s = true) {a b c : Nat} (ha : a < n) (hb : b < n) (hc : c < n) (h1 : a ≠ b) (h2 : a ≠ c) (h3 : b ≠ c) : ∃ x, sgnF (lookS n s) a b c = sg1 x :=
  sg1_of (sgn_one h ha hb hc h1 h3 h2)
theorem rot (f : Int → Int → Int → Int) {a b c : Int} (h1 : a ≠ b) (h2 : a ≠ c) (h3 : b ≠ c) : sgnF f c a b = sgnF f a b c := by
  rw [sgnF_s1 f h2 h1 (fun e => h3 e.symm), sgnF_s2 f h1 h2 h3, Int.neg_neg]
theorem brk_perm (h : arB n s = true) {a b c d e : Nat} (hd : Dif5 n a b c d e) :
    brk (sgnF (lookS n s)) a c b d e = brk (sgnF (lookS n s)) a b c d e ∧ brk (sgnF (lookS n s)) a b d c e = brk (sgnF (lookS n s)) a b c d e ∧ brk (sgnF (lookS n s)) a b c e d = brk (sgnF (lookS n s)) a b c d e := by
  obtain ⟨ha, hb, hc, hd, he, d1, d2, d3, d4, d5, d6, d7, d8, d9, d10⟩ := hd
  obtain ⟨b1, e1⟩ := one h ha hb hc d1 d2 d5
  obtain ⟨b2, e2⟩ := one h ha hd he d3 d4 d10
  obtain ⟨b3, e3⟩ := one h ha hb he d1 d4 d7
  obtain ⟨b4, e4⟩ := one h ha hc hd d2 d3 d8
  obtain ⟨b5, e5⟩ := one h ha hb hd d1 d3 d6
  obtain ⟨b6, e6⟩ := one h ha hc he d2 d4 d9
  have key := brk_bools2 b1 b2 b3 b4 b5 b6
  simp only [Bool.and_eq_true, beq_iff_eq] at key
  obtain ⟨⟨k1, k2⟩, k3⟩ := key
  have r1 : sgnF (lookS n s) a c b = -(sg1 b1) := by rw [sgnF_s2 _ (by omega) (by omega) (by omega), e1]
  have r2 : sgnF (lookS n s) a d c = -(sg1 b4) := by rw [sgnF_s2 _ (by omega) (by omega) (by omega), e4]
  have r3 : sgnF (lookS n s) a e d = -(sg1 b2) := by rw [sgnF_s2 _ (by omega) (by omega) (by omega), e2]
  rw [brk_v e1 e2 e3 e4 e5 e6]
  exact ⟨by rw [brk_v r1 e2 e6 e5 e4 e3]; exact k1, by rw [brk_v e5 e6 e3 r2 e1 e2]; exact k2, by rw [brk_v e1 r3 e5 e6 e3 e4]; exact k3⟩
/-- No five elements break the rule, in whatever order they come. -/
theorem brk_any (h : aciB n s = true) {a b c d e : Nat} (hd : Dif5 n a b c d e) : brk (sgnF (lookS n s)) a b c d e = false := by
  have hm := aciB_mat h
  have har := matB_ar hm
  obtain ⟨-, h7, -⟩ := arB_yes har
  have hok : okB (sgnF (lookS n s)) n = true := by
    unfold matB at hm
    have := (Bool.and_eq_true_iff.1 hm).2
    rwa [Int.toNat_natCast] at this
  have S0 := (okB_iff (f := sgnF (lookS n s)) (show n ≤ 7 by omega)).1 hok
  have sw := fun {b c d e : Nat} (hd : Dif5 n a b c d e) => brk_perm har hd
  clear h hm hok
  have S1 : ∀ b c d e : Nat, Dif5 n a b c d e → b < c → c < d → d < e → brk (sgnF (lookS n s)) a b c d e = false := fun b c d e hd h1 h2 h3 => S0 a b c d e (by unfold Dif5 at hd; unfold Val; omega)
  have S2 : ∀ b c d e : Nat, Dif5 n a b c d e → b < c → c < d → c < e → brk (sgnF (lookS n s)) a b c d e = false := fun b c d e hd h1 h2 h3 => by
    rcases (by unfold Dif5 at hd; omega : d < e ∨ e < d) with h4 | h4
    · exact S1 b c d e hd h1 h2 h4
    · rw [← (sw hd).2.2]; exact S1 b c e d (by unfold Dif5 at hd ⊢; omega) h1 h3 h4
  have S3 : ∀ b c d e : Nat, Dif5 n a b c d e → b < c → b < d → b < e → brk (sgnF (lookS n s)) a b c d e = false := fun b c d e hd h1 h2 h3 => by
    rcases (by unfold Dif5 at hd; omega : (c < d ∧ c < e) ∨ (d < c ∧ d < e) ∨ (e < c ∧ e < d)) with ⟨h4, h5⟩ | ⟨h4, h5⟩ | ⟨h4, h5⟩
    · exact S2 b c d e hd h1 h4 h5
    · rw [← (sw hd).2.1]; exact S2 b d c e (by unfold Dif5 at hd ⊢; omega) h2 h4 h5
    · rw [← (sw hd).2.2, ← (sw (b := b) (c := c) (d := e) (e := d) (by unfold Dif5 at hd ⊢; omega)).2.1]; exact S2 b e c d (by unfold Dif5 at hd ⊢; omega) h3 h4 h5
  rcases (by unfold Dif5 at hd; omega : (b < c ∧ b < d ∧ b < e) ∨ (c < b ∧ c < d ∧ c < e) ∨ (d < b ∧ d < c ∧ d < e) ∨ (e < b ∧ e < c ∧ e < d)) with ⟨h1, h2, h3⟩ | ⟨h1, h2, h3⟩ | ⟨h1, h2, h3⟩ | ⟨h1, h2, h3⟩
  · exact S3 b c d e hd h1 h2 h3
  · rw [← (sw hd).1]; exact S3 c b d e (by unfold Dif5 at hd ⊢; omega) h1 h2 h3
  · rw [← (sw hd).2.1, ← (sw (b := b) (c := d) (d := c) (e := e) (by unfold Dif5 at hd ⊢; omega)).1]; exact S3 d b c e (by unfold Dif5 at hd ⊢; omega) h1 h2 h3
  · rw [← (sw hd).2.2, ← (sw (b := b) (c := c) (d := e) (e := d) (by unfold Dif5 at hd ⊢; omega)).2.1, ← (sw (b := b) (c := e) (d := c) (e := d) (by unfold Dif5 at hd ⊢; omega)).1]; exact S3 e b c d (by unfold Dif5 at hd ⊢; omega) h1 h2 h3
end
/-- Is p inside the triangle? -/
def In (n : Nat) (s : List UInt8) (p a b c : Nat) : Prop := isIn (cir (sgnF (lookS n s)) p a b c) = true
/-- Around p, a, b, c go round. -/
def Cyc (F : Int → Int → Int → Int) (p a b c : Nat) : Prop := F p a b = F p b c ∧ F p a b = -(F p a c)
/-- From p, y lies between u and v. -/
def Cone (F : Int → Int → Int → Int) (p y u v : Nat) : Prop := F p u y = F p u v ∧ F p y v = F p u v
section
variable {n : Nat} {s : List UInt8}
theorem in_dis (h : aciB n s = true) {p a b c : Nat} (hi : In n s p a b c) : Dis n p a b c := by
  unfold In at hi
  have hf : full (cir (sgnF (lookS n s)) p a b c) = true := by
    cases hf : full (cir (sgnF (lookS n s)) p a b c)
    · rw [isIn_no hf] at hi; cases hi
    · rfl
  have := difB4.1 (dif_of_full (matB_ar (aciB_mat h)) hf)
  unfold Dis; omega
theorem isIn_v : ∀ w x y z : Bool, isIn (cv4 (sg1 w) (sg1 x) (sg1 y) (sg1 z)) = ((x == w) && (y == !w) && (z == w)) := by decide +kernel
theorem pos_v : ∀ w x y z : Bool, posV (cv4 (sg1 w) (sg1 x) (sg1 y) (sg1 z)) = ((x == !w) && (y == w) && (z == !w)) := by decide +kernel
theorem sg1_inj {a b : Bool} : sg1 a = sg1 b ↔ a = b := by cases a <;> cases b <;> simp [sg1]
theorem sg1_neg (a : Bool) : -(sg1 a) = sg1 (!a) := by cases a <;> rfl
theorem in_cyc (h : aciB n s = true) {p a b c : Nat} (hd : Dis n p a b c) : In n s p a b c ↔ Cyc (sgnF (lookS n s)) p a b c := by
  have har := matB_ar (aciB_mat h)
  have hpos := pos_any h hd
  obtain ⟨hp, ha, hb, hc, d1, d2, d3, d4, d5, d6⟩ := hd
  obtain ⟨w, e0⟩ := one har ha hb hc d4 d5 d6
  obtain ⟨x, e1⟩ := one har hp hb hc d2 d3 d6
  obtain ⟨y, e2⟩ := one har hp ha hc d1 d3 d5
  obtain ⟨z, e3⟩ := one har hp ha hb d1 d2 d4
  unfold In Cyc
  rw [posC_v e0 e1 e2 e3, pos_v] at hpos
  have hv := isIn_v w x y z
  unfold cv4 at hv
  rw [cir_of e0 e1 e2 e3, hv, e1, e2, e3, sg1_neg, sg1_inj, sg1_inj]
  cases w <;> cases x <;> cases y <;> cases z <;> simp_all
theorem in_base (h : aciB n s = true) {p a b c : Nat} (hi : In n s p a b c) : sgnF (lookS n s) a b c = sgnF (lookS n s) p a b := by
  have har := matB_ar (aciB_mat h)
  obtain ⟨hp, ha, hb, hc, d1, d2, d3, d4, d5, d6⟩ := in_dis h hi
  obtain ⟨w, e0⟩ := one har ha hb hc d4 d5 d6
  obtain ⟨x, e1⟩ := one har hp hb hc d2 d3 d6
  obtain ⟨y, e2⟩ := one har hp ha hc d1 d3 d5
  obtain ⟨z, e3⟩ := one har hp ha hb d1 d2 d4
  have hv := isIn_v w x y z
  unfold cv4 at hv
  unfold In at hi
  rw [cir_of e0 e1 e2 e3, hv] at hi
  rw [e0, e3, sg1_inj]
  cases w <;> cases x <;> cases y <;> cases z <;> simp_all
theorem cyc_s1 {F : Int → Int → Int → Int} {p a b c : Nat} (h1 : F p b a = -(F p a b)) (hc : Cyc F p a b c) : Cyc F p b a c := by
  unfold Cyc at hc ⊢
  rw [h1]
  obtain ⟨k1, k2⟩ := hc
  exact ⟨by omega, by omega⟩
theorem cyc_s2 {F : Int → Int → Int → Int} {p a b c : Nat} (h1 : F p c b = -(F p b c)) (hc : Cyc F p a b c) : Cyc F p a c b := by
  unfold Cyc at hc ⊢
  rw [h1]
  obtain ⟨k1, k2⟩ := hc
  exact ⟨by omega, by omega⟩
theorem in_s1 (h : aciB n s = true) {p a b c : Nat} (hi : In n s p a b c) : In n s p b a c := by
  have hd := in_dis h hi
  unfold Dis at hd
  exact (in_cyc h (by unfold Dis; omega)).2 (cyc_s1 (sgnF_s2 _ (by omega) (by omega) (by omega)) ((in_cyc h (by unfold Dis; omega)).1 hi))
theorem in_s2 (h : aciB n s = true) {p a b c : Nat} (hi : In n s p a b c) : In n s p a c b := by
  have hd := in_dis h hi
  unfold Dis at hd
  exact (in_cyc h (by unfold Dis; omega)).2 (cyc_s2 (sgnF_s2 _ (by omega) (by omega) (by omega)) ((in_cyc h (by unfold Dis; omega)).1 hi))
set_option maxHeartbeats 3200000 in
/-- Five elements: y inside d, e, g: seen from p, y lies between two of them, or p is inside, too. -/
theorem dir_bools : ∀ pyd pye pyg pde pdg peg yde ydg yeg deg : Bool,
    brkV (sg1 pyd) (sg1 peg) (sg1 pyg) (sg1 pde) (sg1 pye) (sg1 pdg) = false →
    brkV (sg1 (!pyd)) (sg1 yeg) (sg1 (!pyg)) (sg1 yde) (sg1 (!pye)) (sg1 ydg) = false →
    brkV (sg1 pyd) (sg1 deg) (sg1 (!pdg)) (sg1 (!yde)) (sg1 (!pde)) (sg1 (!ydg)) = false →
    brkV (sg1 pye) (sg1 (!deg)) (sg1 (!peg)) (sg1 yde) (sg1 pde) (sg1 (!yeg)) = false →
    brkV (sg1 pyg) (sg1 deg) (sg1 peg) (sg1 ydg) (sg1 pdg) (sg1 yeg) = false →
    (yde = yeg ∧ yde = !ydg) → deg = yde → (pde = peg ∧ pde = !pdg) ∨ ((!pyd) = pde ∧ pye = pde) ∨ ((!pyd) = pdg ∧ pyg = pdg) ∨ ((!pye) = peg ∧ pyg = peg) := by decide +kernel
theorem direction (h : aciB n s = true) {p y d e g : Nat} (hd : Dif5 n p y d e g) (hi : In n s y d e g) :
    In n s p d e g ∨ Cone (sgnF (lookS n s)) p y d e ∨ Cone (sgnF (lookS n s)) p y d g ∨ Cone (sgnF (lookS n s)) p y e g := by
  have har := matB_ar (aciB_mat h)
  have hd0 := hd
  obtain ⟨hp, hy, hdd, he, hg, d1, d2, d3, d4, d5, d6, d7, d8, d9, d10⟩ := hd
  obtain ⟨pyd, e1⟩ := one har hp hy hdd d1 d2 d5
  obtain ⟨pye, e2⟩ := one har hp hy he d1 d3 d6
  obtain ⟨pyg, e3⟩ := one har hp hy hg d1 d4 d7
  obtain ⟨pde, e4⟩ := one har hp hdd he d2 d3 d8
  obtain ⟨pdg, e5⟩ := one har hp hdd hg d2 d4 d9
  obtain ⟨peg, e6⟩ := one har hp he hg d3 d4 d10
  obtain ⟨yde, e7⟩ := one har hy hdd he d5 d6 d8
  obtain ⟨ydg, e8⟩ := one har hy hdd hg d5 d7 d9
  obtain ⟨yeg, e9⟩ := one har hy he hg d6 d7 d10
  obtain ⟨deg, e10⟩ := one har hdd he hg d8 d9 d10
  have ng : ∀ {a b c : Nat} {x : Bool}, sgnF (lookS n s) a b c = sg1 x → a ≠ b → a ≠ c → b ≠ c → sgnF (lookS n s) b a c = sg1 (!x) := fun {a b c x} e h1 h2 h3 => by rw [sgnF_s1 _ (by omega) (by omega) (by omega), e, sg1_neg]
  have rt : ∀ {a b c : Nat} {x : Bool}, sgnF (lookS n s) a b c = sg1 x → a ≠ b → a ≠ c → b ≠ c → sgnF (lookS n s) c a b = sg1 x := fun {a b c x} e h1 h2 h3 => by rw [rot _ (by omega) (by omega) (by omega), e]
  have g1 := brk_any h (a := p) (b := y) (c := d) (d := e) (e := g) (by unfold Dif5; omega)
  have g2 := brk_any h (a := y) (b := p) (c := d) (d := e) (e := g) (by unfold Dif5; omega)
  have g3 := brk_any h (a := d) (b := p) (c := y) (d := e) (e := g) (by unfold Dif5; omega)
  have g4 := brk_any h (a := e) (b := p) (c := y) (d := d) (e := g) (by unfold Dif5; omega)
  have g5 := brk_any h (a := g) (b := p) (c := y) (d := d) (e := e) (by unfold Dif5; omega)
  rw [brk_v e1 e6 e3 e4 e2 e5] at g1
  rw [brk_v (ng e1 d1 d2 d5) e9 (ng e3 d1 d4 d7) e7 (ng e2 d1 d3 d6) e8] at g2
  rw [brk_v (rt e1 d1 d2 d5) e10 (ng e5 d2 d4 d9) (ng e7 d5 d6 d8) (ng e4 d2 d3 d8) (ng e8 d5 d7 d9)] at g3
  rw [brk_v (rt e2 d1 d3 d6) (ng e10 d8 d9 d10) (ng e6 d3 d4 d10) (rt e7 d5 d6 d8) (rt e4 d2 d3 d8) (ng e9 d6 d7 d10)] at g4
  rw [brk_v (rt e3 d1 d4 d7) (rt e10 d8 d9 d10) (rt e6 d3 d4 d10) (rt e8 d5 d7 d9) (rt e5 d2 d4 d9) (rt e9 d6 d7 d10)] at g5
  have hcy := (in_cyc h (by unfold Dis; omega)).1 hi
  unfold Cyc at hcy
  rw [e7, e9, e8, sg1_neg, sg1_inj, sg1_inj] at hcy
  have hbs := in_base h hi
  rw [e10, e7, sg1_inj] at hbs
  have key := dir_bools pyd pye pyg pde pdg peg yde ydg yeg deg g1 g2 g3 g4 g5 hcy hbs
  have n1 : sgnF (lookS n s) p d y = sg1 (!pyd) := by rw [sgnF_s2 _ (by omega) (by omega) (by omega), e1, sg1_neg]
  have n2 : sgnF (lookS n s) p e y = sg1 (!pye) := by rw [sgnF_s2 _ (by omega) (by omega) (by omega), e2, sg1_neg]
  rw [in_cyc h (by unfold Dis; omega)]
  unfold Cyc Cone
  rw [n1, n2, e2, e3, e4, e5, e6, sg1_neg]
  simp only [sg1_inj]
  exact key
set_option maxHeartbeats 3200000 in
/-- Seen from p: y between u and v, and p inside y, b, c: p is inside three of u, v, b, c. -/
theorem rank_bools : ∀ yu yv yb yc uv ub uc vb vc bc : Bool,
    brkV (sg1 yu) (sg1 vb) (sg1 yb) (sg1 uv) (sg1 yv) (sg1 ub) = false → brkV (sg1 yu) (sg1 vc) (sg1 yc) (sg1 uv) (sg1 yv) (sg1 uc) = false →
    brkV (sg1 yu) (sg1 bc) (sg1 yc) (sg1 ub) (sg1 yb) (sg1 uc) = false → brkV (sg1 yv) (sg1 bc) (sg1 yc) (sg1 vb) (sg1 yb) (sg1 vc) = false →
    brkV (sg1 uv) (sg1 bc) (sg1 uc) (sg1 vb) (sg1 ub) (sg1 vc) = false →
    ((!yu) = uv ∧ yv = uv) → (yb = bc ∧ yb = !yc) → (uv = vb ∧ uv = !ub) ∨ (uv = vc ∧ uv = !uc) ∨ (ub = bc ∧ ub = !uc) ∨ (vb = bc ∧ vb = !vc) := by decide +kernel
set_option maxHeartbeats 3200000 in
theorem rank_any (h : aciB n s = true) {p y u v b c : Nat} (hd : Dif5 n p y u v b) (hc : c < n ∧ c ≠ p ∧ c ≠ y ∧ c ≠ u ∧ c ≠ v ∧ c ≠ b) (hco : Cone (sgnF (lookS n s)) p y u v) (hi : In n s p y b c) :
    In n s p u v b ∨ In n s p u v c ∨ In n s p u b c ∨ In n s p v b c := by
  have har := matB_ar (aciB_mat h)
  obtain ⟨hp, hy, hu, hv, hb, d1, d2, d3, d4, d5, d6, d7, d8, d9, d10⟩ := hd
  obtain ⟨hcn, c1, c2, c3, c4, c5⟩ := hc
  obtain ⟨yu, e1⟩ := one har hp hy hu d1 d2 d5
  obtain ⟨yv, e2⟩ := one har hp hy hv d1 d3 d6
  obtain ⟨yb, e3⟩ := one har hp hy hb d1 d4 d7
  obtain ⟨yc, e4⟩ := one har hp hy hcn d1 (by omega) (by omega)
  obtain ⟨uv, e5⟩ := one har hp hu hv d2 d3 d8
  obtain ⟨ub, e6⟩ := one har hp hu hb d2 d4 d9
  obtain ⟨uc, e7⟩ := one har hp hu hcn d2 (by omega) (by omega)
  obtain ⟨vb, e8⟩ := one har hp hv hb d3 d4 d10
  obtain ⟨vc, e9⟩ := one har hp hv hcn d3 (by omega) (by omega)
  obtain ⟨bc, e10⟩ := one har hp hb hcn d4 (by omega) (by omega)
  have g1 := brk_any h (a := p) (b := y) (c := u) (d := v) (e := b) (by unfold Dif5; omega)
  have g2 := brk_any h (a := p) (b := y) (c := u) (d := v) (e := c) (by unfold Dif5; omega)
  have g3 := brk_any h (a := p) (b := y) (c := u) (d := b) (e := c) (by unfold Dif5; omega)
  have g4 := brk_any h (a := p) (b := y) (c := v) (d := b) (e := c) (by unfold Dif5; omega)
  have g5 := brk_any h (a := p) (b := u) (c := v) (d := b) (e := c) (by unfold Dif5; omega)
  rw [brk_v e1 e8 e3 e5 e2 e6] at g1
  rw [brk_v e1 e9 e4 e5 e2 e7] at g2
  rw [brk_v e1 e10 e4 e6 e3 e7] at g3
  rw [brk_v e2 e10 e4 e8 e3 e9] at g4
  rw [brk_v e5 e10 e7 e8 e6 e9] at g5
  have hcy := (in_cyc h (by unfold Dis; omega)).1 hi
  unfold Cyc at hcy
  rw [e3, e10, e4, sg1_neg, sg1_inj, sg1_inj] at hcy
  have n1 : sgnF (lookS n s) p u y = sg1 (!yu) := by rw [sgnF_s2 _ (by omega) (by omega) (by omega), e1, sg1_neg]
  unfold Cone at hco
  rw [n1, e2, e5, sg1_inj, sg1_inj] at hco
  have key := rank_bools yu yv yb yc uv ub uc vb vc bc g1 g2 g3 g4 g5 hco hcy
  rw [in_cyc h (by unfold Dis; omega), in_cyc h (by unfold Dis; omega), in_cyc h (by unfold Dis; omega), in_cyc h (by unfold Dis; omega)]
  unfold Cyc
  rw [e5, e6, e7, e8, e9, e10]
  simp only [sg1_neg, sg1_inj]
  exact key
/-- The like where one of both is b. -/
theorem deg_bools : ∀ yu yb yc ub uc bc : Bool, brkV (sg1 yu) (sg1 bc) (sg1 yc) (sg1 ub) (sg1 yb) (sg1 uc) = false → ((!yu) = ub ∧ yb = ub) → (yb = bc ∧ yb = !yc) → (ub = bc ∧ ub = !uc) := by decide +kernel
theorem rank_deg (h : aciB n s = true) {p y u b c : Nat} (hd : Dif5 n p y u b c) (hco : Cone (sgnF (lookS n s)) p y u b) (hi : In n s p y b c) : In n s p u b c := by
  have har := matB_ar (aciB_mat h)
  obtain ⟨hp, hy, hu, hb, hc, d1, d2, d3, d4, d5, d6, d7, d8, d9, d10⟩ := hd
  obtain ⟨yu, e1⟩ := one har hp hy hu d1 d2 d5
  obtain ⟨yb, e2⟩ := one har hp hy hb d1 d3 d6
  obtain ⟨yc, e3⟩ := one har hp hy hc d1 d4 d7
  obtain ⟨ub, e4⟩ := one har hp hu hb d2 d3 d8
  obtain ⟨uc, e5⟩ := one har hp hu hc d2 d4 d9
  obtain ⟨bc, e6⟩ := one har hp hb hc d3 d4 d10
  have g1 := brk_any h (a := p) (b := y) (c := u) (d := b) (e := c) (by unfold Dif5; omega)
  rw [brk_v e1 e6 e3 e4 e2 e5] at g1
  have hcy := (in_cyc h (by unfold Dis; omega)).1 hi
  unfold Cyc at hcy
  rw [e2, e6, e3, sg1_neg, sg1_inj, sg1_inj] at hcy
  have n1 : sgnF (lookS n s) p u y = sg1 (!yu) := by rw [sgnF_s2 _ (by omega) (by omega) (by omega), e1, sg1_neg]
  unfold Cone at hco
  rw [n1, e2, e4, sg1_inj, sg1_inj] at hco
  have key := deg_bools yu yb yc ub uc bc g1 hco hcy
  rw [in_cyc h (by unfold Dis; omega)]
  unfold Cyc
  rw [e4, e5, e6, sg1_neg, sg1_inj, sg1_inj]
  exact key
theorem cone_sym (_h : aciB n s = true) {p y u v : Nat} (hd : Dis n p y u v) (hco : Cone (sgnF (lookS n s)) p y u v) : Cone (sgnF (lookS n s)) p y v u := by
  unfold Dis at hd
  unfold Cone at hco ⊢
  have a1 := sgnF_s2 (lookS n s) (a := p) (b := y) (c := v) (by omega) (by omega) (by omega)
  have a2 := sgnF_s2 (lookS n s) (a := p) (b := u) (c := v) (by omega) (by omega) (by omega)
  have a3 := sgnF_s2 (lookS n s) (a := p) (b := u) (c := y) (by omega) (by omega) (by omega)
  omega
set_option maxHeartbeats 3200000 in
/-- y lies between u and v, seen from p, and p is inside y, b, c: then p is inside three others. -/
theorem cone_in (h : aciB n s = true) (X : Nat → Prop) {p y u v b c : Nat} (hpu : Dis n p y u v) (hu : X u) (hv : X v) (hb : X b) (hc : X c) (hco : Cone (sgnF (lookS n s)) p y u v) (hi : In n s p y b c) :
    ∃ t1 t2 t3, X t1 ∧ X t2 ∧ X t3 ∧ In n s p t1 t2 t3 := by
  have hd := in_dis h hi
  have hco2 := cone_sym h hpu hco
  have hi2 := in_s2 h hi
  by_cases c1 : u = b
  · subst c1
    by_cases c2 : v = c
    · subst c2
      exfalso
      have hcy := (in_cyc h hd).1 hi
      unfold Dis at hd
      have a1 := sgnF_s2 (lookS n s) (a := p) (b := y) (c := u) (by omega) (by omega) (by omega)
      have o1 := sgn_one (matB_ar (aciB_mat h)) (x := p) (y := y) (z := u) (by omega) (by omega) (by omega) (by omega) (by omega) (by omega)
      unfold Cyc at hcy
      unfold Cone at hco
      omega
    · exact ⟨v, u, c, hv, hu, hc, rank_deg h (by unfold Dis at hd hpu; unfold Dif5; omega) hco2 hi⟩
  · by_cases c2 : u = c
    · subst c2
      by_cases c3 : v = b
      · subst c3
        exfalso
        have hcy := (in_cyc h hd).1 hi
        unfold Dis at hd
        have a1 := sgnF_s2 (lookS n s) (a := p) (b := y) (c := v) (by omega) (by omega) (by omega)
        have a2 := sgnF_s2 (lookS n s) (a := p) (b := u) (c := v) (by omega) (by omega) (by omega)
        have a3 := sgnF_s2 (lookS n s) (a := p) (b := u) (c := y) (by omega) (by omega) (by omega)
        have o1 := sgn_one (matB_ar (aciB_mat h)) (x := p) (y := y) (z := v) (by omega) (by omega) (by omega) (by omega) (by omega) (by omega)
        unfold Cyc at hcy
        unfold Cone at hco
        omega
      · exact ⟨v, u, b, hv, hu, hb, rank_deg h (by unfold Dis at hd hpu; unfold Dif5; omega) hco2 hi2⟩
    · by_cases c3 : v = b
      · subst c3
        exact ⟨u, v, c, hu, hv, hc, rank_deg h (by unfold Dis at hd hpu; unfold Dif5; omega) hco hi⟩
      · by_cases c4 : v = c
        · subst c4
          exact ⟨u, v, b, hu, hv, hb, rank_deg h (by unfold Dis at hd hpu; unfold Dif5; omega) hco hi2⟩
        · rcases rank_any h (u := u) (v := v) (by unfold Dis at hd hpu; unfold Dif5; omega) (by unfold Dis at hd hpu; omega) hco hi with k | k | k | k
          · exact ⟨u, v, b, hu, hv, hb, k⟩
          · exact ⟨u, v, c, hu, hv, hc, k⟩
          · exact ⟨u, b, c, hu, hb, hc, k⟩
          · exact ⟨v, b, c, hv, hb, hc, k⟩
/-- From p, y is between e and g if it is inside p, e, g. -/
theorem in_cone (h : aciB n s = true) {y p e g : Nat} (hi : In n s y p e g) : Cone (sgnF (lookS n s)) p y e g := by
  have hd := in_dis h hi
  have hcy := (in_cyc h hd).1 hi
  have hbs := in_base h hi
  unfold Dis at hd
  have a1 := sgnF_s1 (lookS n s) (a := y) (b := p) (c := e) (by omega) (by omega) (by omega)
  have a2 := sgnF_s2 (lookS n s) (a := p) (b := y) (c := e) (by omega) (by omega) (by omega)
  have a3 := sgnF_s1 (lookS n s) (a := y) (b := p) (c := g) (by omega) (by omega) (by omega)
  unfold Cyc at hcy
  unfold Cone
  omega
set_option maxHeartbeats 3200000 in
/-- An element that is inside a triangle of others leaves those outside all triangles where they are. -/
theorem keep_out (h : aciB n s = true) (X : Nat → Prop) {y p b c d e g : Nat} (hb : X b) (hc : X c) (hd : X d) (he : X e) (hg : X g) (hy : In n s y d e g) (hp : In n s p y b c) :
    ∃ t1 t2 t3, X t1 ∧ X t2 ∧ X t3 ∧ In n s p t1 t2 t3 := by
  have d1 := in_dis h hy
  have d2 := in_dis h hp
  by_cases c1 : p = d
  · subst c1
    exact cone_in h X (by unfold Dis at *; omega) he hg hb hc (in_cone h hy) hp
  · by_cases c2 : p = e
    · subst c2
      exact cone_in h X (by unfold Dis at *; omega) hd hg hb hc (in_cone h (in_s1 h hy)) hp
    · by_cases c3 : p = g
      · subst c3
        exact cone_in h X (by unfold Dis at *; omega) hd he hb hc (in_cone h (in_s1 h (in_s2 h hy))) hp
      · rcases direction h (p := p) (by unfold Dis at d1 d2; unfold Dif5; omega) hy with k | k | k | k
        · exact ⟨d, e, g, hd, he, hg, k⟩
        · exact cone_in h X (by unfold Dis at *; omega) hd he hb hc k hp
        · exact cone_in h X (by unfold Dis at *; omega) hd hg hb hc k hp
        · exact cone_in h X (by unfold Dis at *; omega) he hg hb hc k hp
/-- Elements that are not none have one among them that is inside no triangle of them. -/
theorem some_out (h : aciB n s = true) : ∀ L : List Nat, L ≠ [] → ∃ p ∈ L, ∀ a b c, a ∈ L → b ∈ L → c ∈ L → ¬ In n s p a b c
  | [], h0 => absurd rfl h0
  | [y], _ => ⟨y, List.mem_cons_self, fun a b c ha hb hc hi => by
      have := in_dis h hi
      simp only [List.mem_singleton] at ha hb hc
      unfold Dis at this
      omega⟩
  | y :: z :: L, _ => by
    obtain ⟨p, hp, hout⟩ := some_out h (z :: L) (by simp)
    by_cases hy : ∃ d e g, d ∈ z :: L ∧ e ∈ z :: L ∧ g ∈ z :: L ∧ In n s y d e g
    · obtain ⟨d, e, g, hd, he, hg, hi⟩ := hy
      refine ⟨p, List.mem_cons_of_mem _ hp, fun a b c ha hb hc hin => ?_⟩
      have dd := in_dis h hin
      unfold Dis at dd
      have no : ∀ b c, b ∈ z :: L → c ∈ z :: L → ¬ In n s p y b c := fun b c hb hc hi2 => by
        obtain ⟨t1, t2, t3, m1, m2, m3, hi3⟩ := keep_out h (fun x => x ∈ z :: L) hb hc hd he hg hi hi2
        exact hout t1 t2 t3 m1 m2 m3 hi3
      have mem : ∀ x, x ∈ y :: z :: L → x ≠ y → x ∈ z :: L := fun x hx hne => by
        rcases List.mem_cons.1 hx with e | e
        · exact absurd e hne
        · exact e
      by_cases a1 : a = y
      · subst a1; exact no b c (mem b hb (by omega)) (mem c hc (by omega)) hin
      · by_cases b1 : b = y
        · subst b1; exact no a c (mem a ha (by omega)) (mem c hc (by omega)) (in_s1 h hin)
        · by_cases c1 : c = y
          · subst c1; exact no a b (mem a ha (by omega)) (mem b hb (by omega)) (in_s1 h (in_s2 h hin))
          · exact hout a b c (mem a ha a1) (mem b hb b1) (mem c hc c1) hin
    · refine ⟨y, List.mem_cons_self, fun a b c ha hb hc hin => ?_⟩
      have dd := in_dis h hin
      unfold Dis at dd
      have mem : ∀ x, x ∈ y :: z :: L → x ≠ y → x ∈ z :: L := fun x hx hne => by
        rcases List.mem_cons.1 hx with e | e
        · exact absurd e hne
        · exact e
      exact hy ⟨a, b, c, mem a ha (by omega), mem b hb (by omega), mem c hc (by omega), hin⟩
end
end Go.Proofs.YtinlnafkmoabbaaGreatDoor.Sg
/- Insertion from the right in a list of elements by any order: what a list becomes; it is sorted if the order is one. Plain mathematics. -/
namespace Go.Proofs.YtinlnafkmoabbaaGreatDoor.HuSort
def get0 (l : List Nat) (i : Nat) : Nat := l.getD i 0
theorem get0_of {l : List Nat} {i : Nat} {p : Nat} (h : l[i]? = some p) : get0 l i = p := by unfold get0; rw [List.getD_eq_getElem?_getD, h]; rfl
/-- Where x goes among the first m of l, asked from the right. -/
def pos (bef : Nat → Nat → Bool) (x : Nat) (l : List Nat) : Nat → Nat
  | 0 => 0
  | m + 1 => if bef x (get0 l m) then pos bef x l m else m + 1
theorem pos_le (bef : Nat → Nat → Bool) (x : Nat) (l : List Nat) : ∀ m, pos bef x l m ≤ m
  | 0 => Nat.le_refl _
  | m + 1 => by
    unfold pos
    split
    · exact Nat.le_succ_of_le (pos_le bef x l m)
    · exact Nat.le_refl _
theorem pos_go {bef : Nat → Nat → Bool} {x : Nat} {l : List Nat} {m : Nat} (h : bef x (get0 l m) = true) : pos bef x l (m + 1) = pos bef x l m := by
  show (if bef x (get0 l m) then pos bef x l m else m + 1) = _
  rw [if_pos h]
theorem pos_stop {bef : Nat → Nat → Bool} {x : Nat} {l : List Nat} {m : Nat} (h : bef x (get0 l m) = false) : pos bef x l (m + 1) = m + 1 := by
  show (if bef x (get0 l m) then pos bef x l m else m + 1) = _
  rw [h]; rfl
def put (x : Nat) (l : List Nat) (k : Nat) : List Nat := l.take k ++ x :: l.drop k
def insR (bef : Nat → Nat → Bool) (x : Nat) (l : List Nat) : List Nat := put x l (pos bef x l l.length)
/-- The first k of xs, each inserted. -/
def sortK (bef : Nat → Nat → Bool) (xs : List Nat) : Nat → List Nat
  | 0 => []
  | k + 1 => insR bef (get0 xs k) (sortK bef xs k)
/-- The same elements, whatever the order. -/
theorem insR_perm (bef : Nat → Nat → Bool) (x : Nat) (l : List Nat) : (insR bef x l).Perm (x :: l) := by
  unfold insR put
  refine List.perm_middle.trans (List.Perm.cons x ?_)
  rw [List.take_append_drop]
theorem take_succ_get (xs : List Nat) (k : Nat) (hk : k < xs.length) : xs.take (k + 1) = xs.take k ++ [get0 xs k] := by
  rw [List.take_add_one, List.getElem?_eq_getElem hk, get0_of (List.getElem?_eq_getElem hk)]; rfl
theorem sortK_perm (bef : Nat → Nat → Bool) (xs : List Nat) : ∀ k, k ≤ xs.length → (sortK bef xs k).Perm (xs.take k)
  | 0, _ => by rw [List.take_zero]; exact List.Perm.refl _
  | k + 1, hk => by
    rw [sortK, take_succ_get xs k hk]
    refine (insR_perm bef _ _).trans ?_
    refine (List.Perm.cons _ (sortK_perm bef xs k (by omega))).trans ?_
    exact (List.perm_append_singleton _ _).symm
/-- Where pos stops. -/
theorem pos_right (bef : Nat → Nat → Bool) (x : Nat) (l : List Nat) : ∀ m i, pos bef x l m ≤ i → i < m → bef x (get0 l i) = true
  | 0, i, _, h => absurd h (Nat.not_lt_zero _)
  | m + 1, i, h1, h2 => by
    cases hb : bef x (get0 l m)
    · rw [pos_stop hb] at h1; omega
    · rw [pos_go hb] at h1
      rcases Nat.lt_or_ge i m with h | h
      · exact pos_right bef x l m i h1 h
      · obtain rfl : i = m := by omega
        exact hb
theorem pos_left (bef : Nat → Nat → Bool) (x : Nat) (l : List Nat) : ∀ m i, i + 1 = pos bef x l m → bef x (get0 l i) = false
  | 0, i, h => by unfold pos at h; omega
  | m + 1, i, h => by
    cases hb : bef x (get0 l m)
    · rw [pos_stop hb] at h
      obtain rfl : i = m := by omega
      exact hb
    · rw [pos_go hb] at h
      exact pos_left bef x l m i h
/-- An order on a list's elements. -/
structure Ord (bef : Nat → Nat → Bool) (P : Nat → Prop) : Prop where
  tot : ∀ a b, P a → P b → a ≠ b → bef a b = true ∨ bef b a = true
  trans : ∀ a b c, P a → P b → P c → a ≠ b → b ≠ c → a ≠ c → bef a b = true → bef b c = true → bef a c = true
theorem get0_mem {l : List Nat} {i : Nat} (h : i < l.length) : get0 l i ∈ l := by
  rw [get0_of (List.getElem?_eq_getElem h)]; exact List.getElem_mem h
theorem insR_sorted {bef : Nat → Nat → Bool} {P : Nat → Prop} (ho : Ord bef P) {x : Nat} {l : List Nat} (hx : P x) (hl : ∀ y ∈ l, P y) (hn : x ∉ l) (hd : l.Nodup) (hs : l.Pairwise fun a b => bef a b = true) : (insR bef x l).Pairwise fun a b => bef a b = true := by
  have hg : ∀ i (hi : i < l.length), get0 l i = l[i] := fun i hi => get0_of (List.getElem?_eq_getElem hi)
  have ple := pos_le bef x l l.length
  have pr := pos_right bef x l l.length
  have pl := pos_left bef x l l.length
  unfold insR put
  generalize pos bef x l l.length = p at ple pr pl
  have hpw := List.pairwise_iff_getElem.1 hs
  have hnd := List.pairwise_iff_getElem.1 hd
  have below : ∀ i (hi : i < l.length), i < p → bef l[i] x = true := fun i hi hip => by
    have h1 := pl (p - 1) (by omega)
    have hlp : p - 1 < l.length := by omega
    have hm := List.getElem_mem hlp
    have e0 : bef l[p - 1] x = true := by
      rw [hg _ hlp] at h1
      rcases ho.tot l[p - 1] x (hl _ hm) hx (fun e => hn (e ▸ hm)) with h | h
      · exact h
      · rw [h1] at h; cases h
    rcases Nat.lt_or_ge i (p - 1) with h | h
    · have hmi := List.getElem_mem hi
      exact ho.trans l[i] l[p - 1] x (hl _ hmi) (hl _ hm) hx (hnd i (p - 1) hi hlp h) (fun e => hn (e ▸ hm)) (fun e => hn (e ▸ hmi)) (hpw i (p - 1) hi hlp h) e0
    · obtain rfl : i = p - 1 := by omega
      exact e0
  have above : ∀ i (hi : i < l.length), p ≤ i → bef x l[i] = true := fun i hi hip => by
    have := pr i hip hi
    rwa [hg i hi] at this
  rw [List.pairwise_append]
  refine ⟨hs.sublist (List.take_sublist _ _), ?_, ?_⟩
  · rw [List.pairwise_cons]
    refine ⟨fun y hy => ?_, hs.sublist (List.drop_sublist _ _)⟩
    obtain ⟨i, hi, rfl⟩ := List.getElem_of_mem hy
    rw [List.length_drop] at hi
    rw [List.getElem_drop]
    exact above _ (by omega) (by omega)
  · intro a ha b hb
    obtain ⟨i, hi, rfl⟩ := List.getElem_of_mem ha
    rw [List.length_take] at hi
    rw [List.getElem_take]
    rcases List.mem_cons.1 hb with rfl | hb
    · exact below i (by omega) (by omega)
    · obtain ⟨j, hj, rfl⟩ := List.getElem_of_mem hb
      rw [List.length_drop] at hj
      rw [List.getElem_drop]
      exact hpw i (p + j) (by omega) (by omega) (by omega)
theorem sortK_sorted {bef : Nat → Nat → Bool} {P : Nat → Prop} (ho : Ord bef P) {xs : List Nat} (hx : ∀ y ∈ xs, P y) (hd : xs.Nodup) : ∀ k, k ≤ xs.length → (sortK bef xs k).Pairwise fun a b => bef a b = true
  | 0, _ => List.Pairwise.nil
  | k + 1, hk => by
    have hp := sortK_perm bef xs k (by omega)
    have hsub : ∀ y, y ∈ sortK bef xs k → y ∈ xs := fun y hy => List.mem_of_mem_take (hp.mem_iff.1 hy)
    rw [sortK]
    refine insR_sorted ho (hx _ (get0_mem (by omega))) (fun y hy => hx y (hsub y hy)) (fun hm => ?_) (hp.symm.nodup (hd.sublist (List.take_sublist _ _))) (sortK_sorted ho hx hd k (by omega))
    have hd2 := hd.sublist (List.take_sublist (k + 1) xs)
    rw [take_succ_get xs k hk, List.nodup_append] at hd2
    exact hd2.2.2 _ (hp.mem_iff.1 hm) _ (by simp) rfl
end Go.Proofs.YtinlnafkmoabbaaGreatDoor.HuSort
