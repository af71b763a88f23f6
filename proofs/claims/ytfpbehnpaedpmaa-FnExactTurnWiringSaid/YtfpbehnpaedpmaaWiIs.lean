/- Wirings, as spec tells them: IsWiring. -/
import Derived.Test.YtfpbehnpaedpmaaWiSpec
namespace Go.Proofs.Ytfpbehnpaedpmaa.Sg
open Go.RowKit Pt NewI Wi
/-- A slice, or a part of one, in a block ahead of B, that holds these numbers. -/
def SrcZ (w : World) (B : Nat) (a : Option Addr) (zs : List Int) : Prop := ∀ j, j < zs.length → ∃ b o, a = some ⟨b, o, none⟩ ∧ b < B ∧ w.cell? ⟨b, o + j, none⟩ = some (.int .i64 (zs.getD j 0))
theorem SrcZ.on {w w' : World} {B : Nat} {a : Option Addr} {zs : List Int} (h : SrcZ w B a zs) (hb : Below B w w') : SrcZ w' B a zs := fun j hj => by
  obtain ⟨b, o, h1, h2, h3⟩ := h j hj
  exact ⟨b, o, h1, h2, by rw [hb.cell h2]; exact h3⟩
/-- A word of exchanges, any numbers: what it makes of a list, if each of them finds the lesser one first. -/
def goZ (L : List Nat) : List Int → Option (List Nat)
  | [] => some L
  | z :: zs => if swB L z = true then goZ (swp L z.toNat) zs else none
theorem goZ_snoc (L : List Nat) (zs : List Int) (z : Int) : goZ L (zs ++ [z]) = (goZ L zs).bind (fun M => if swB M z = true then some (swp M z.toNat) else none) := by
  induction zs generalizing L with
  | nil => rfl
  | cons y zs ih =>
    simp only [List.cons_append, goZ]
    split
    · exact ih _
    · rfl
theorem goZ_none (L : List Nat) (zs ys : List Int) (h : goZ L zs = none) : goZ L (zs ++ ys) = none := by
  induction zs generalizing L with
  | nil => simp [goZ] at h
  | cons y zs ih =>
    simp only [List.cons_append, goZ] at h ⊢
    split
    · rename_i h1; rw [if_pos h1] at h; exact ih _ h
    · rfl
theorem take_getD {zs : List Int} {k : Nat} (h : k < zs.length) : zs.take (k + 1) = zs.take k ++ [zs.getD k 0] := by
  rw [List.take_add_one, List.getElem?_eq_getElem h, List.getD_eq_getElem?_getD, List.getElem?_eq_getElem h]; rfl
theorem goZ_step {L M : List Nat} {zs : List Int} {k : Nat} (hk : k < zs.length) (h : goZ L (zs.take k) = some M) : (swB M (zs.getD k 0) = true → goZ L (zs.take (k + 1)) = some (swD M (zs.getD k 0))) ∧ (swB M (zs.getD k 0) = false → goZ L zs = none) := by
  have e := goZ_snoc L (zs.take k) (zs.getD k 0)
  rw [← take_getD hk, h] at e
  constructor
  · intro h1
    rw [e]
    show (if swB M (zs.getD k 0) = true then some (swp M (zs.getD k 0).toNat) else none) = _
    unfold swD
    rw [if_pos h1, if_pos h1]
  · intro h1
    have e2 : goZ L (zs.take (k + 1)) = none := by
      rw [e]
      show (if swB M (zs.getD k 0) = true then some (swp M (zs.getD k 0).toNat) else none) = _
      rw [if_neg (by rw [h1]; simp)]
    have := goZ_none L (zs.take (k + 1)) (zs.drop (k + 1)) e2
    rwa [List.take_append_drop] at this
/-- What IsWiring answers. -/
def wiB (n : Int) (zs : List Int) : Bool := inB n 3 6 && decide (zs.length = n.toNat * (n.toNat - 1) / 2) && (goZ (List.range n.toNat) zs).isSome
set_option maxHeartbeats 3200000 in
set_option maxRecDepth 100000 in
theorem isW_core (m N : Nat) (h3 : 3 ≤ m) (h6 : m ≤ 6) (hN : m * (m - 1) / 2 = N) (a : Option Addr) (c : Nat) (zs : List Int) (_hl : zs.length ≤ 1048576) (w : World) (hs : SrcZ w w.heap.size a zs) :
    Calls Try.prog 9 #[.int .i64 m, .slice a zs.length c] w fun e w' => e = .returned (.bool (wiB m zs)) ∧ Below w.heap.size w w' := by
  have hin : inB (m : Int) 3 6 = true := by simp only [inB, decide_eq_true_eq]; omega
  have HL := Lib.hid (fun W => l1In_any m 3 6 W)
  rw [hin] at HL
  have HST := Lib.hid (fun W => l12Start_any m (by omega) W)
  have HSW := Lib.hid (fun b c L p hm hL W h => l12Swap_any b m c L p hm (by omega) (by omega) hL W h)
  have HSRC := Lib.hid (fun W (hW : Below w.heap.size w W) => hs.on hW)
  have HB0 := Lib.hid (Below.refl w.heap.size w)
  obtain ⟨P, hP, hP2⟩ : ∃ P : Int, (m : Int) * ((m : Int) - 1) = P ∧ P = 2 * (N : Int) := ⟨_, rfl, by
    rcases (by omega : m = 3 ∨ m = 4 ∨ m = 5 ∨ m = 6) with rfl | rfl | rfl | rfl <;> (simp at hN; omega)⟩
  have hN9 : N ≤ 15 := by
    rcases (by omega : m = 3 ∨ m = 4 ∨ m = 5 ∨ m = 6) with rfl | rfl | rfl | rfl <;> (simp at hN; omega)
  have v0 : IntKind.i64.wrap ((m : Int) - 1) = (m : Int) - 1 := IntWalk.i64_in _ (by omega)
  have v1 : IntKind.i64.wrap ((m : Int) * ((m : Int) - 1)) = P := by rw [hP]; exact IntWalk.i64_in _ (by omega)
  have v2 : P.tdiv 2 = (N : Int) := by rw [hP2]; rw [Int.tdiv_eq_ediv_of_nonneg (by omega)]; omega
  have v3 : IntKind.i64.wrap (N : Int) = (N : Int) := IntWalk.i64_in _ (by omega)
  have hW : wiB m zs = (decide (zs.length = N) && (goZ (List.range m) zs).isSome) := by
    unfold wiB
    rw [hin, Int.toNat_natCast, hN, Bool.true_and]
  rw [hW]
  by_cases hlen : zs.length = N
  · rw [decide_eq_true hlen, Bool.true_and]
    have k0 : ((zs.length : Int) != (N : Int)) = false := by rw [hlen]; simp
    obtain ⟨rb, hrb⟩ : ∃ rb : Bool, rb = (goZ (List.range m) zs).isSome := ⟨_, rfl⟩
    rw [← hrb]
    clear hs hin hP hP2 hW
    go_enter Try.func9, Try.ntmps9
    go_wp2_with fail
    refine (HL.out _).mono ?_
    rintro e w' ⟨rfl, rfl⟩
    go_wp2_with fail
    refine (HST.out _).mono ?_
    rintro e w1 ⟨⟨v, rfl, hO⟩, hb1⟩
    have HB1 := Lib.hid hb1
    have hm1 : (wl (List.range m)).length = m := by rw [wl_length, List.length_range]
    obtain ⟨a1, c1, rfl, hnw, -⟩ := New.of_own hO
    rw [hm1] at hnw ⊢
    rcases hnw with h0 | ⟨bw, rfl, hlo, hhi, hC⟩
    · omega
    have HC1 := Lib.hid hC
    clear hO hb1 hC HL HST v0 v1 v2 v3 k0 hm1
    go_wp2_with fail
    go_loopw [6] (fun x wr => ∃ (k : Nat) (L : List Nat), k ≤ zs.length ∧ x = .int .i64 k ∧ goZ (List.range m) (zs.take k) = some L ∧ L.Nodup ∧ L.length = m ∧ Hid (Cells wr bw m (zc (wl L))) ∧ Hid (Below w.heap.size w wr)) (fun x _ => zs.length - (intOf x).toNat)
    case atStart => exact ⟨0, List.range m, Nat.zero_le _, rfl, rfl, List.nodup_range, List.length_range, HC1, HB1⟩
    case round =>
      obtain ⟨k, L, hk, rfl, hgo, hnd, hlL, HC, HB⟩ := hrel
      by_cases hlt : k < zs.length
      · obtain ⟨b, o, rfl, hbb, hcz⟩ := HSRC.out _ HB.out k hlt
        obtain ⟨g1, g2⟩ := goZ_step hlt hgo
        have HG1 := Lib.hid g1
        have HG2 := Lib.hid g2
        clear g1 g2 hgo
        generalize zs.getD k 0 = z at hcz HG1 HG2
        go_wp2_with fail
        refine (HSW.out bw c1 L z hlL hnd _ HC.out).mono ?_
        rintro e w2 ⟨rfl, hC2, hO2⟩
        have HC2 := Lib.hid hC2
        have HB2 := Lib.hid (HB.out.trans (hO2.below hlo HB.out.size))
        have hnd2 := swD_nodup hnd z
        have hlL2 : (swD L z).length = m := by rw [swD_len, hlL]
        clear hC2 hO2 HC HB
        cases hsw : swB L z
        · obtain rfl : rb = false := by rw [hrb, HG2.out hsw]; rfl
          clear HG1 HG2 hrb
          go_wp2
          go_ret
          exact ⟨rfl, HB2.out⟩
        · have HG3 := Lib.hid (HG1.out hsw)
          clear HG1 HG2
          go_wp2
          exact ⟨⟨k + 1, swD L z, by omega, by go_num, HG3.out, hnd2, hlL2, HC2, HB2⟩, by simp only [intOf]; omega⟩
      · obtain rfl : k = zs.length := by omega
        rw [List.take_length] at hgo
        obtain rfl : rb = true := by rw [hrb, hgo]; rfl
        clear hgo HC hrb
        go_wp2
        go_ret
        exact ⟨rfl, HB.out⟩
  · rw [decide_eq_false hlen, Bool.false_and]
    have k0 : ((zs.length : Int) != (N : Int)) = true := by simp; omega
    clear hs hin hP hP2 hW HST HSW HSRC
    go_enter Try.func9, Try.ntmps9
    go_wp2_with fail
    refine (HL.out _).mono ?_
    rintro e w' ⟨rfl, rfl⟩
    go_wp2
    go_ret
    exact ⟨rfl, HB0.out⟩
set_option maxHeartbeats 1600000 in
set_option maxRecDepth 100000 in
theorem specIsWiring (n : Int) (a : Option Addr) (c : Nat) (zs : List Int) (hl : zs.length ≤ 1048576) (w : World) (hs : SrcZ w w.heap.size a zs) :
    Calls Try.prog 9 #[.int .i64 n, .slice a zs.length c] w fun e w' => e = .returned (.bool (wiB n zs)) ∧ Below w.heap.size w w' := by
  cases h : inB n 3 6
  · have HL := Lib.hid (fun W => l1In_any n 3 6 W)
    rw [h] at HL
    have e : wiB n zs = false := by unfold wiB; rw [h]; rfl
    rw [e]
    have HB0 := Lib.hid (Below.refl w.heap.size w)
    clear h e hs
    go_enter Try.func9, Try.ntmps9
    go_wp2_with fail
    refine (HL.out _).mono ?_
    rintro e w' ⟨rfl, rfl⟩
    go_wp2
    go_ret
    exact ⟨rfl, HB0.out⟩
  · obtain ⟨h3, h6⟩ := inB_mem h
    obtain ⟨m, rfl⟩ : ∃ m : Nat, n = m := ⟨n.toNat, by omega⟩
    exact isW_core m _ (by omega) (by omega) rfl a c zs hl w hs
end Go.Proofs.Ytfpbehnpaedpmaa.Sg
