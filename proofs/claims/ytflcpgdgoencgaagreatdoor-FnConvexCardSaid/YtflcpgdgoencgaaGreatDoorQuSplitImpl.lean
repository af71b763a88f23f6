/- Both sets of a circuit, as impl tells them: SplitOf. -/
import Derived.Test.YtflcpgdgoencgaaGreatDoorMgO
import Derived.Test.YtflcpgdgoencgaaGreatDoorMgR
import Derived.Test.YtflcpgdgoencgaaGreatDoorShelf
namespace Go.Proofs.YtflcpgdgoencgaaGreatDoor.Sg
open Go.RowKit Pt NewI
theorem bits_or (a b : Nat) (ha : a < 1024) (hb : b < 1024) : bits BinOp.or IntKind.i64 (a : Int) (b : Int) = ((a ||| b : Nat) : Int) := by
  have hl : a ||| b < 1024 := Nat.or_lt_two_pow (n := 10) ha hb
  show IntKind.i64.wrap ((BitVec.ofInt 64 a ||| BitVec.ofInt 64 b).toNat : Int) = _
  rw [BitVec.toNat_or, BitVec.ofInt_natCast, BitVec.ofInt_natCast, BitVec.toNat_ofNat, BitVec.toNat_ofNat, Nat.mod_eq_of_lt (by omega), Nat.mod_eq_of_lt (by omega), IntKind.wrap_i64]
  omega
/-- Sets of different elements: or is the sum. -/
def orB (a b c d : Nat) : Bool :=
  (a == b || a == c || a == d || b == c || b == d || c == d) ||
  ((2 ^ a ||| 2 ^ b == 2 ^ a + 2 ^ b) && (2 ^ a ||| 2 ^ c == 2 ^ a + 2 ^ c) && (2 ^ a ||| 2 ^ d == 2 ^ a + 2 ^ d) && (2 ^ b ||| 2 ^ c == 2 ^ b + 2 ^ c) && (2 ^ b ||| 2 ^ d == 2 ^ b + 2 ^ d) && (2 ^ c ||| 2 ^ d == 2 ^ c + 2 ^ d) &&
   ((2 ^ a + 2 ^ b) ||| 2 ^ c == 2 ^ a + 2 ^ b + 2 ^ c) && ((2 ^ a + 2 ^ b) ||| 2 ^ d == 2 ^ a + 2 ^ b + 2 ^ d) && ((2 ^ a + 2 ^ c) ||| 2 ^ d == 2 ^ a + 2 ^ c + 2 ^ d) && ((2 ^ b + 2 ^ c) ||| 2 ^ d == 2 ^ b + 2 ^ c + 2 ^ d) && ((2 ^ a + 2 ^ b + 2 ^ c) ||| 2 ^ d == 2 ^ a + 2 ^ b + 2 ^ c + 2 ^ d))
theorem orB_all : ((List.range 7).all fun a => (List.range 7).all fun b => (List.range 7).all fun c => (List.range 7).all fun d => orB a b c d) = true := by decide +kernel
/-- What or makes of four different elements' sets. -/
structure Ors (A B C D : Int) : Prop where
  a0 : bits BinOp.or IntKind.i64 0 A = A
  b0 : bits BinOp.or IntKind.i64 0 B = B
  c0 : bits BinOp.or IntKind.i64 0 C = C
  d0 : bits BinOp.or IntKind.i64 0 D = D
  ab : bits BinOp.or IntKind.i64 A B = A + B
  ac : bits BinOp.or IntKind.i64 A C = A + C
  ad : bits BinOp.or IntKind.i64 A D = A + D
  bc : bits BinOp.or IntKind.i64 B C = B + C
  bd : bits BinOp.or IntKind.i64 B D = B + D
  cd : bits BinOp.or IntKind.i64 C D = C + D
  abc : bits BinOp.or IntKind.i64 (A + B) C = A + B + C
  abd : bits BinOp.or IntKind.i64 (A + B) D = A + B + D
  acd : bits BinOp.or IntKind.i64 (A + C) D = A + C + D
  bcd : bits BinOp.or IntKind.i64 (B + C) D = B + C + D
  all : bits BinOp.or IntKind.i64 (A + B + C) D = A + B + C + D
theorem pow64 {a : Nat} (h : a < 7) : 2 ^ a ≤ 64 := by
  rcases (by omega : a = 0 ∨ a = 1 ∨ a = 2 ∨ a = 3 ∨ a = 4 ∨ a = 5 ∨ a = 6) with rfl | rfl | rfl | rfl | rfl | rfl | rfl <;> decide
theorem or_of {x y z : Nat} {X Y Z : Int} (h : x ||| y = z) (hx : x < 1024) (hy : y < 1024) (eX : X = x) (eY : Y = y) (eZ : Z = z) : bits BinOp.or IntKind.i64 X Y = Z := by
  rw [eX, eY, eZ, bits_or x y hx hy, h]
theorem ors_of {a b c d : Nat} (ha : a < 7) (hb : b < 7) (hc : c < 7) (hd : d < 7) (d1 : a ≠ b) (d2 : a ≠ c) (d3 : a ≠ d) (d4 : b ≠ c) (d5 : b ≠ d) (d6 : c ≠ d) : Ors ((2 : Int) ^ a) ((2 : Int) ^ b) ((2 : Int) ^ c) ((2 : Int) ^ d) := by
  have key := orB_all
  simp only [List.all_eq_true, List.mem_range] at key
  have := key a ha b hb c hc d hd
  unfold orB at this
  simp only [Bool.or_eq_true, Bool.and_eq_true, beq_iff_eq] at this
  have pa := pow64 ha
  have pb := pow64 hb
  have pc := pow64 hc
  have pd := pow64 hd
  have ea : (2 : Int) ^ a = ((2 ^ a : Nat) : Int) := by push_cast; rfl
  have eb : (2 : Int) ^ b = ((2 ^ b : Nat) : Int) := by push_cast; rfl
  have ec : (2 : Int) ^ c = ((2 ^ c : Nat) : Int) := by push_cast; rfl
  have ed : (2 : Int) ^ d = ((2 ^ d : Nat) : Int) := by push_cast; rfl
  rcases this with h | h
  · exfalso; omega
  · rw [ea, eb, ec, ed]
    generalize 2 ^ a = x at h pa ⊢
    generalize 2 ^ b = y at h pb ⊢
    generalize 2 ^ c = z at h pc ⊢
    generalize 2 ^ d = u at h pd ⊢
    have lx : x < 1024 := by omega
    have ly : y < 1024 := by omega
    have lz : z < 1024 := by omega
    have lu : u < 1024 := by omega
    have lxy : x + y < 1024 := by omega
    have lxz : x + z < 1024 := by omega
    have lyz : y + z < 1024 := by omega
    have lxyz : x + y + z < 1024 := by omega
    have c2 : ∀ p q : Nat, (p : Int) + q = ((p + q : Nat) : Int) := fun p q => by omega
    have c3 : ∀ p q r : Nat, (p : Int) + q + r = ((p + q + r : Nat) : Int) := fun p q r => by omega
    have c4 : (x : Int) + y + z + u = ((x + y + z + u : Nat) : Int) := by omega
    obtain ⟨⟨⟨⟨⟨⟨⟨⟨⟨⟨h1, h2⟩, h3⟩, h4⟩, h5⟩, h6⟩, h7⟩, h8⟩, h9⟩, h10⟩, h11⟩ := h
    exact ⟨or_of (x := 0) (Nat.zero_or x) (by decide) lx rfl rfl rfl, or_of (x := 0) (Nat.zero_or y) (by decide) ly rfl rfl rfl, or_of (x := 0) (Nat.zero_or z) (by decide) lz rfl rfl rfl, or_of (x := 0) (Nat.zero_or u) (by decide) lu rfl rfl rfl,
      or_of h1 lx ly rfl rfl (c2 _ _), or_of h2 lx lz rfl rfl (c2 _ _), or_of h3 lx lu rfl rfl (c2 _ _), or_of h4 ly lz rfl rfl (c2 _ _), or_of h5 ly lu rfl rfl (c2 _ _), or_of h6 lz lu rfl rfl (c2 _ _),
      or_of h7 lxy lz (c2 _ _) rfl (c3 _ _ _), or_of h8 lxy lu (c2 _ _) rfl (c3 _ _ _), or_of h9 lxz lu (c2 _ _) rfl (c3 _ _ _), or_of h10 lyz lu (c2 _ _) rfl (c3 _ _ _), or_of h11 lxyz lu (c3 _ _ _) rfl c4⟩
theorem has0 (x0 x1 x2 x3 : Int) : (([x0, x1, x2, x3] : List Int).take 4).contains 0 = !full (x0, x1, x2, x3) := by
  unfold full
  simp only [List.take_succ_cons, List.take_zero, List.contains_cons, List.contains_nil]
  have e : ∀ x : Int, (0 == x) = (x == 0) := fun x => by
    by_cases h : x = 0
    · subst h; rfl
    · rw [beq_eq_false_iff_ne.2 h, beq_eq_false_iff_ne.2 (fun e => h e.symm)]
  rw [e, e, e, e]
  cases (x0 == 0) <;> cases (x1 == 0) <;> cases (x2 == 0) <;> cases (x3 == 0) <;> rfl
theorem sg1_bd (p : Bool) : -1 ≤ sg1 p ∧ sg1 p ≤ 1 := by cases p <;> decide
theorem sg1_eq (p : Bool) : (sg1 p == 1) = p := by cases p <;> rfl
set_option maxHeartbeats 6400000 in
set_option maxRecDepth 100000 in
theorem splitOf_any (n : Int) (s : List UInt8) (a b c d : Int) (ha : I64 a) (hb : I64 b) (hc : I64 c) (hd : I64 d) (Bm : Nat) (w : World) (hm : MapIs w Bm (ordF n s)) :
    Calls Tryz.prog 114 #[.map (some Bm), .int .i64 a, .int .i64 b, .int .i64 c, .int .i64 d] w fun e w' => e = .returned (.tuple #[.int .i64 (splitZ n s a b c d).1, .int .i64 (splitZ n s a b c d).2]) ∧ Below w.heap.size w w' := by
  have HCI := Lib.hid (fun B W hm => circuitOf_any B (ordF n s) a b c d ha hb hc hd W hm)
  have B1 := Lib.hid (Below.refl w.heap.size w)
  have HM := Lib.hid hm
  clear hm
  cases hf : full (cir (sgnF (ordF n s)) a b c d)
  · have HE : Hid (splitZ n s a b c d = (0, 0)) := Lib.hid (sets4_no hf _ _ _ _)
    obtain ⟨x0, x1, x2, x3, hx⟩ : ∃ x0 x1 x2 x3, cir (sgnF (ordF n s)) a b c d = (x0, x1, x2, x3) := ⟨_, _, _, _, rfl⟩
    rw [hx] at HCI hf
    have hct := has0 x0 x1 x2 x3
    rw [hf] at hct
    have HCT := Lib.hid hct
    clear ha hb hc hd hx hf hct
    go_enter Tryz.func114, Tryz.ntmps114
    go_wp2_with fail
    refine (HCI.out _ _ HM.out).mono ?_
    rintro e w2 ⟨rfl, hb2⟩
    have B2 := Lib.hid ((B1.out.trans (hb2.mono B1.out.size)).alloc (Nat.le_trans B1.out.size hb2.size) (.cells #[.int .i64 x0, .int .i64 x1, .int .i64 x2, .int .i64 x3] 101))
    clear hb2
    obtain ⟨k0, k1, k2, k3⟩ := box4_made w2 x0 x1 x2 x3 101
    have HCC := Lib.hid (fun j (hj : j < ([x0, x1, x2, x3] : List Int).length) => show (w2.alloc (.cells #[.int .i64 x0, .int .i64 x1, .int .i64 x2, .int .i64 x3] 101)).cell? ⟨w2.heap.size, 0 + j, none⟩ = some (.int .i64 (([x0, x1, x2, x3] : List Int).getD j 0)) by
      simp only [List.length_cons, List.length_nil] at hj
      have hj4 : j < 4 := by omega
      rcases (by omega : j = 0 ∨ j = 1 ∨ j = 2 ∨ j = 3) with rfl | rfl | rfl | rfl
      · exact k0
      · exact k1
      · exact k2
      · exact k3)
    go_wp2_with fail
    refine (Tryz.slices_Contains_int w2.heap.size 0 4 4 [x0, x1, x2, x3] 0 _ (by simp) (by omega) HCC.out).mono ?_
    rintro e w' ⟨rfl, rfl⟩
    rw [HCT.out]
    go_wp2
    go_ret2
    exact ⟨ret_two HE.out, B2.out⟩
  · have hacy : aciB n s = true := by
      cases h : aciB n s
      · rw [full_no h] at hf; cases hf
      · rfl
    obtain ⟨h3, h7⟩ := aciB_n hacy
    obtain ⟨m, rfl⟩ : ∃ m : Nat, n = m := ⟨n.toNat, by omega⟩
    have hf2 := hf
    rw [ordF_is hacy] at hf2
    obtain ⟨ga, gb, gc, gd, n1, n2, n3, n4, n5, n6⟩ := difB4.1 (dif_of_full (matB_ar (aciB_mat hacy)) hf2)
    obtain ⟨a, rfl⟩ : ∃ x : Nat, a = x := ⟨a.toNat, by omega⟩
    obtain ⟨b, rfl⟩ : ∃ x : Nat, b = x := ⟨b.toNat, by omega⟩
    obtain ⟨c, rfl⟩ : ∃ x : Nat, c = x := ⟨c.toNat, by omega⟩
    obtain ⟨d, rfl⟩ : ∃ x : Nat, d = x := ⟨d.toNat, by omega⟩
    obtain ⟨p, q, r, hx⟩ := full_form (sgnO_bd m s) hf
    have hx : cir (sgnF (ordF m s)) a b c d = (1, sg1 p, sg1 q, sg1 r) := hx
    have hct := has0 1 (sg1 p) (sg1 q) (sg1 r)
    rw [hx] at HCI hf
    rw [hf] at hct
    have HCT := Lib.hid hct
    unfold splitZ
    rw [hx, sets4_of, pw_nat, pw_nat, pw_nat, pw_nat]
    have hor := ors_of (a := a) (b := b) (c := c) (d := d) (by omega) (by omega) (by omega) (by omega) (by omega) (by omega) (by omega) (by omega) (by omega) (by omega)
    have ba := pow_bd (a := a) (by omega)
    have bb := pow_bd (a := b) (by omega)
    have bc := pow_bd (a := c) (by omega)
    have bd := pow_bd (a := d) (by omega)
    obtain ⟨A, hA⟩ : ∃ x, x = (2 : Int) ^ a := ⟨_, rfl⟩
    obtain ⟨B, hB⟩ : ∃ x, x = (2 : Int) ^ b := ⟨_, rfl⟩
    obtain ⟨C, hC⟩ : ∃ x, x = (2 : Int) ^ c := ⟨_, rfl⟩
    obtain ⟨D, hD⟩ : ∃ x, x = (2 : Int) ^ d := ⟨_, rfl⟩
    have wa : IntKind.i64.wrap ((2 : Int) ^ a) = A := by rw [hA]; exact IntWalk.i64_in _ (by omega)
    have wb : IntKind.i64.wrap ((2 : Int) ^ b) = B := by rw [hB]; exact IntWalk.i64_in _ (by omega)
    have wc : IntKind.i64.wrap ((2 : Int) ^ c) = C := by rw [hC]; exact IntWalk.i64_in _ (by omega)
    have wd : IntKind.i64.wrap ((2 : Int) ^ d) = D := by rw [hD]; exact IntWalk.i64_in _ (by omega)
    rw [← hA, ← hB, ← hC, ← hD] at hor
    rw [← hA] at ba; rw [← hB] at bb; rw [← hC] at bc; rw [← hD] at bd
    rw [← hA, ← hB, ← hC, ← hD]
    obtain ⟨o1, o2, o3, o4, o5, o6, o7, o8, o9, o10, o11, o12, o13, o14, o15⟩ := hor
    have e1 : (sg1 p == 1) = p := sg1_eq p
    have e2 : (sg1 q == 1) = q := sg1_eq q
    have e3 : (sg1 r == 1) = r := sg1_eq r
    clear ha hb hc hd hx hf hct hf2 hacy hA hB hC hD n1 n2 n3 n4 n5 n6
    generalize sg1 p = x1 at HCI HCT e1
    generalize sg1 q = x2 at HCI HCT e2
    generalize sg1 r = x3 at HCI HCT e3
    go_enter Tryz.func114, Tryz.ntmps114
    go_wp2_with fail
    refine (HCI.out _ _ HM.out).mono ?_
    rintro e w2 ⟨rfl, hb2⟩
    have B2 := Lib.hid ((B1.out.trans (hb2.mono B1.out.size)).alloc (Nat.le_trans B1.out.size hb2.size) (.cells #[.int .i64 1, .int .i64 x1, .int .i64 x2, .int .i64 x3] 101))
    clear hb2
    obtain ⟨k0, k1, k2, k3⟩ := box4_made w2 1 x1 x2 x3 101
    have HCC := Lib.hid (fun j (hj : j < ([1, x1, x2, x3] : List Int).length) => show (w2.alloc (.cells #[.int .i64 1, .int .i64 x1, .int .i64 x2, .int .i64 x3] 101)).cell? ⟨w2.heap.size, 0 + j, none⟩ = some (.int .i64 (([1, x1, x2, x3] : List Int).getD j 0)) by
      simp only [List.length_cons, List.length_nil] at hj
      have hj4 : j < 4 := by omega
      rcases (by omega : j = 0 ∨ j = 1 ∨ j = 2 ∨ j = 3) with rfl | rfl | rfl | rfl
      · exact k0
      · exact k1
      · exact k2
      · exact k3)
    go_wp2_with fail
    refine (Tryz.slices_Contains_int w2.heap.size 0 4 4 [1, x1, x2, x3] 0 _ (by simp) (by omega) HCC.out).mono ?_
    rintro e w' ⟨rfl, rfl⟩
    rw [HCT.out]
    generalize w2.alloc (.cells #[.int .i64 1, .int .i64 x1, .int .i64 x2, .int .i64 x3] 101) = w3 at B2 k0 k1 k2 k3 ⊢
    clear HCC HCT HCI
    obtain ⟨i0, i1, i2, i3⟩ := And.intro (fun W => (index4 (a : Int) (b : Int) (c : Int) (d : Int) W).1) (And.intro (fun W => (index4 (a : Int) (b : Int) (c : Int) (d : Int) W).2.1) (And.intro (fun W => (index4 (a : Int) (b : Int) (c : Int) (d : Int) W).2.2.1) (fun W => (index4 (a : Int) (b : Int) (c : Int) (d : Int) W).2.2.2)))
    go_wp2
    refine wp_loop_rounds 5 ?_
    rw [rounds_succ]
    go_wp2
    go_quiet (fail)
    go_wp2
    rw [rounds_succ]
    cases p
    · go_wp2
      go_quiet (fail)
      go_wp2
      rw [rounds_succ]
      cases q
      · go_wp2
        go_quiet (fail)
        go_wp2
        rw [rounds_succ]
        cases r
        · go_wp2
          go_quiet (fail)
          go_wp2
          rw [rounds_succ]
          go_wp2
          go_ret2
          exact ⟨ret_two (by simp <;> omega), drewN_below B2.out _⟩
        · go_wp2
          go_quiet (fail)
          go_wp2
          rw [rounds_succ]
          go_wp2
          go_ret2
          exact ⟨ret_two (by simp <;> omega), drewN_below B2.out _⟩
      · go_wp2
        go_quiet (fail)
        go_wp2
        rw [rounds_succ]
        cases r
        · go_wp2
          go_quiet (fail)
          go_wp2
          rw [rounds_succ]
          go_wp2
          go_ret2
          exact ⟨ret_two (by simp <;> omega), drewN_below B2.out _⟩
        · go_wp2
          go_quiet (fail)
          go_wp2
          rw [rounds_succ]
          go_wp2
          go_ret2
          exact ⟨ret_two (by simp <;> omega), drewN_below B2.out _⟩
    · go_wp2
      go_quiet (fail)
      go_wp2
      rw [rounds_succ]
      cases q
      · go_wp2
        go_quiet (fail)
        go_wp2
        rw [rounds_succ]
        cases r
        · go_wp2
          go_quiet (fail)
          go_wp2
          rw [rounds_succ]
          go_wp2
          go_ret2
          exact ⟨ret_two (by simp <;> omega), drewN_below B2.out _⟩
        · go_wp2
          go_quiet (fail)
          go_wp2
          rw [rounds_succ]
          go_wp2
          go_ret2
          exact ⟨ret_two (by simp <;> omega), drewN_below B2.out _⟩
      · go_wp2
        go_quiet (fail)
        go_wp2
        rw [rounds_succ]
        cases r
        · go_wp2
          go_quiet (fail)
          go_wp2
          rw [rounds_succ]
          go_wp2
          go_ret2
          exact ⟨ret_two (by simp <;> omega), drewN_below B2.out _⟩
        · go_wp2
          go_quiet (fail)
          go_wp2
          rw [rounds_succ]
          go_wp2
          go_ret2
          exact ⟨ret_two (by simp <;> omega), drewN_below B2.out _⟩
end Go.Proofs.YtflcpgdgoencgaaGreatDoor.Sg
