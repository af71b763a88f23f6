/- FnSplit: whatever the code, joining the parts restores the text, and no part holds the separator. -/
import Derived.Test.YtillgegbkfhpnaaDoorDrawNum
import Derived.Test.YtillgegbkfhpnaaDoorSplitWalk
import Derived.Test.YtillgegbkfhpnaaDoorSplitLaw
import Derived.Test.YtillgegbkfhpnaaDoorJoinImpl
import Derived.Test.YtillgegbkfhpnaaDoorNumbers
namespace Go.Proofs.YtillgegbkfhpnaaDoor.SplitAll
open Go.RowKit Strs Split

theorem join_Q (c : UInt8) : ∀ (l cur : List UInt8), Lib.join (Q c cur l) [c] = cur ++ l
  | [], cur => by simp [Q, Lib.join_one]
  | b :: r, cur => by
    unfold Q
    by_cases h : b = c
    · subst h
      rw [if_pos rfl, Lib.join_cons]
      have ih := join_Q b r []
      cases hq : Q b [] r with
      | nil => have := Q_length b r []; rw [hq] at this; simp at this
      | cons y q =>
        rw [hq, Lib.join_cons] at ih
        simp only [List.nil_append] at ih
        rw [← ih]
        simp [Lib.joinTail]
    · rw [if_neg h, join_Q c r (cur ++ [b])]
      simp
theorem Q_no (c : UInt8) : ∀ (l cur : List UInt8), cur.count c = 0 → ∀ p ∈ Q c cur l, p.count c = 0
  | [], cur, hc, p, hp => by simp [Q] at hp; subst hp; exact hc
  | b :: r, cur, hc, p, hp => by
    unfold Q at hp
    by_cases h : b = c
    · rw [if_pos h] at hp
      rcases List.mem_cons.1 hp with rfl | hp
      · exact hc
      · exact Q_no c r [] rfl p hp
    · rw [if_neg h] at hp
      exact Q_no c r (cur ++ [b]) (by rw [List.count_append, hc, List.count_cons_of_ne h]; simp) p hp
theorem dat_pieces (c : UInt8) (l : List UInt8) : Join.dat (pieces c l) = Q c [] l := by
  unfold Join.dat pieces
  rw [List.map_map]
  conv => rhs; rw [← List.map_id (Q c [] l)]
  apply List.map_congr_left
  intro x _
  simp
theorem J_pieces (c : UInt8) (l : List UInt8) : Join.J (pieces c l) ⟨#[c]⟩ (pieces c l).length = l := by
  unfold Join.J
  rw [List.take_length, dat_pieces, show (⟨#[c]⟩ : ByteArray).data.toList = [c] from rfl, join_Q]
  rfl
theorem tot_pieces (c : UInt8) (l : List UInt8) : tot (pieces c l) ≤ l.length := by
  rw [← Join.lens_dat, dat_pieces]
  have h := join_Q c l []
  cases hq : Q c [] l with
  | nil => simp [Lib.lens]
  | cons y q =>
    rw [hq] at h
    have h2 := congrArg List.length h
    rw [Lib.join_length] at h2
    simp at h2
    omega
theorem size_le_tot (p : ByteArray) : ∀ (xs : List ByteArray), p ∈ xs → p.size ≤ tot xs
  | [], h => by cases h
  | x :: r, h => by
    simp only [tot, List.map_cons, List.sum_cons]
    rcases List.mem_cons.1 h with rfl | h
    · omega
    · have := size_le_tot p r h
      simp only [tot] at this
      omega
theorem part_one (c : UInt8) (l : List UInt8) (p : ByteArray) (h : p ∈ pieces c l) : (pieces c p.data.toList).length = 1 ∧ p.size ≤ l.length := by
  refine ⟨?_, ?_⟩
  · rw [pieces_length]
    unfold pieces at h
    obtain ⟨x, hx, rfl⟩ := List.mem_map.1 h
    have := Q_no c l [] rfl x hx
    simp [this]
  · have h1 := tot_pieces c l
    have h2 := size_le_tot p (pieces c l) h
    omega

def splitTexts : List ByteArray := [⟨#[]⟩, ⟨#[97]⟩, ⟨#[97, 44, 98]⟩, ⟨#[44]⟩, ⟨#[97, 44, 44, 98, 44]⟩, ⟨#[97, 10, 98, 10]⟩]
theorem splitTexts_sz (s : ByteArray) (hs : s ∈ splitTexts) : s.size ≤ 1000 := by
  simp only [splitTexts, List.mem_cons, List.mem_nil_iff, or_false] at hs
  rcases hs with rfl | rfl | rfl | rfl | rfl | rfl <;> decide

set_option maxHeartbeats 800000 in
set_option maxRecDepth 100000 in
theorem draw_any (v : Value) (n : Nat) (hn : n ≤ 9223372036854700000) (w : World) (hv : Cur.Bytes w v n w.heap.size) :
    Calls Tryd.prog 17 #[v] w fun e w' => ∃ (s : ByteArray) (c : UInt8), s.size ≤ 1000 ∧ e = .returned (.tuple #[.string s, .int .u8 c.toNat]) ∧ Below w.heap.size w w' := by
  go_enter Tryd.func17, Tryd.ntmps17
  go_wp2_with fail
  refine (Cur.new_any v n hn _ hv).mono ?_
  rintro e w1 ⟨b, rfl, hb, hv1, hc1, hb1⟩
  have HA := Lib.hid ((Cur.Leaves.refl hv1 hc1).alloc (.cells (splitTexts.map Value.string).toArray 9))
  have HC := Lib.hid (Cur.lit_strs w1 splitTexts 9)
  have hlt := (Cur.Leaves.refl hv1 hc1).lt
  go_wp2_with fail
  refine (Cur.pick_any b w1.heap.size 6 v n splitTexts (by decide) (by decide) _ HA.out.1 HA.out.2.1 HC.out (by omega)).mono ?_
  rintro e w2 ⟨s, hs, rfl, hl2⟩
  have hsz := splitTexts_sz s hs
  have HL2 := Lib.hid (HA.out.trans hl2)
  have hlt2 := hl2.lt
  have HA2 := Lib.hid (HL2.out.alloc (.cells ([(44 : Int), 10].map (Value.int .i64)).toArray 3))
  have HC2 := Lib.hid (Cur.lit_cells w2 [(44 : Int), 10] 3)
  clear hl2 hs
  go_wp2_with fail
  refine (Cur.pickInt_any b w2.heap.size 2 v n [(44 : Int), 10] (by decide) (by decide) _ HA2.out.1 HA2.out.2.1 HC2.out (by omega)).mono ?_
  rintro e w3 ⟨x, hx, rfl, hl3⟩
  have HB := Lib.hid (hb1.trans ((HA2.out.trans hl3).below hb hb1.size))
  have hx2 : x = 44 ∨ x = 10 := by simpa using hx
  clear hl3 hx
  rcases hx2 with rfl | rfl
  · go_wp2
    go_ret2
    exact ⟨s, 44, hsz, rfl, HB.out⟩
  · go_wp2
    go_ret2
    exact ⟨s, 10, hsz, rfl, HB.out⟩

set_option maxHeartbeats 1600000 in
set_option maxRecDepth 100000 in
theorem walk (v : Value) (n : Nat) (w : World) (hv : Cur.Bytes w v n w.heap.size) (m : Int) (hm : w.cell? ⟨4, 0, none⟩ = some (.int .i64 m)) :
    Calls Tryd.prog 4 #[v] w fun e w' => e = .returned (.bool true) ∧ Below w.heap.size w w' := by
  have hG : 4 < w.heap.size := Kit.cell_lt hm
  by_cases hbig : n ≤ 1048576
  · have HBIG : Hid (∀ W : World, Calls Tryd.prog 9 #[v] W fun e w' => e = .returned (.bool false) ∧ w' = W) := by
      obtain ⟨a, c, rfl, hn, _⟩ := hv
      refine Lib.hid fun W => ?_
      go_enter Tryd.func9, Tryd.ntmps9
      go_wp2
      go_ret
      exact ⟨Strs.ret_bool (by simp; omega), rfl⟩
    go_enter Tryd.func4, Tryd.ntmps4
    go_wp2_with fail
    refine (HBIG.out _).mono ?_
    rintro e w0 ⟨rfl, rfl⟩
    go_wp2_with fail
    refine (draw_any v n (by omega) _ hv).mono ?_
    rintro e w1 ⟨s, c, hs, rfl, hb1⟩
    obtain ⟨xs, hxs⟩ : ∃ xs, xs = pieces c s.data.toList := ⟨_, rfl⟩
    have hsl : s.data.toList.length = s.size := by simp
    have hpos : 0 < xs.length := by rw [hxs]; exact pieces_pos _ _
    have hle : xs.length ≤ 1001 := by rw [hxs]; have h1 := pieces_le c s.data.toList; omega
    have htot : tot xs ≤ 1000 := by rw [hxs]; have h1 := tot_pieces c s.data.toList; omega
    have HJ : Hid (Join.J xs ⟨#[c]⟩ xs.length = s.data.toList) := Lib.hid (by rw [hxs]; exact J_pieces _ _)
    have HP : Hid (∀ p ∈ xs, (pieces c p.data.toList).length = 1 ∧ p.size ≤ 1000) := Lib.hid (fun p hp => by
      rw [hxs] at hp
      have := part_one c _ p hp
      exact ⟨this.1, by omega⟩)
    have HSp := Lib.hid (fun W => spec_any s c (by omega) W)
    have HIm := Lib.hid (fun W m h1 h2 => impl_any s c (by omega) W m h1 h2)
    rw [← hxs] at HSp HIm
    clear hxs hsl
    have hm1 : w1.cell? ⟨4, 0, none⟩ = some (.int .i64 m) := by rw [hb1.cell hG]; exact hm
    go_wp2_with fail
    refine (HIm.out w1 m hm1 (Nat.lt_of_lt_of_le hG hb1.size)).mono ?_
    rintro e w2 ⟨b, rfl, hbb, hrow, hb2⟩
    have B2 := hb1.trans (hb2.mono hb1.size)
    have hlb := hrow.lt
    have HA2 := Lib.hid (At.of_row hrow)
    clear hrow
    have hcv := conv_one w2 (c.toNat : Int) c rfl
    have hbA : Below w2.heap.size w2 (w2.alloc (.cells #[.int .u8 (c.toNat : Int)] 5)) := (Below.refl _ _).alloc (Nat.le_refl _) _
    have hmv := Nat.lt_of_lt_of_le hlb hbA.size
    have HJI := Lib.hid (Join.impl_any b 0 xs.length xs ⟨#[c]⟩ (by omega) (Nat.le_refl _) (by exact Nat.le_trans (Nat.le_refl 1) (by omega)) (by omega) (w2.alloc (.cells #[.int .u8 (c.toNat : Int)] 5)) (HA2.out.on hbA hlb) hmv)
    have BA := Lib.hid (B2.trans (hbA.mono B2.size))
    clear hbA hmv
    have hself : (s.data.toList == s.toList) = true := by rw [ByteArray.toList_eq]; simp
    go_wp2_with fail
    refine HJI.out.mono ?_
    rintro e w3 ⟨rfl, hb3⟩
    rw [HJ.out]
    have B3 := BA.out.trans (hb3.mono BA.out.size)
    have HA3 := Lib.hid ((HA2.out.on ((Below.refl w2.heap.size w2).alloc (Nat.le_refl _) (.cells #[.int .u8 (c.toNat : Int)] 5)) hlb).on hb3 (by simp; omega))
    have hl3 : b < w3.heap.size := by have := hb3.size; simp at this; omega
    go_wp2_with fail
    refine (HSp.out w3).mono ?_
    rintro e w4 ⟨v4, rfl, hown4, hb4⟩
    obtain ⟨b4, c4, rfl, _, _, _⟩ := owns_row hown4 hpos
    have B4 := B3.trans (hb4.mono B3.size)
    have HA4 := Lib.hid (HA3.out.on hb4 hl3)
    have hl4 : b < w4.heap.size := Nat.lt_of_lt_of_le hl3 hb4.size
    have hG4 : 4 < w4.heap.size := Nat.lt_of_lt_of_le hG B4.size
    have hm4 : w4.cell? ⟨4, 0, none⟩ = some (.int .i64 m) := by rw [B4.cell hG]; exact hm
    have HM4 := Lib.hid hm4
    clear hown4 hm4 hm1 hm
    go_wp2
    go_loopw [6] (fun i wr => ∃ k : Nat, k ≤ xs.length ∧ i = .int .i64 k ∧ Below w4.heap.size w4 wr) (fun i _ => xs.length - (intOf i).toNat)
    case atStart => exact ⟨0, Nat.zero_le _, rfl, Below.refl _ _⟩
    case round =>
      obtain ⟨k, hk, rfl, hb⟩ := hrel
      by_cases hlt : k < xs.length
      · have hcell := (HA4.out.on hb hl4).get k hlt
        rw [Nat.zero_add] at hcell
        obtain ⟨hp1, hp2⟩ := HP.out _ (List.getElem_mem hlt)
        have HI := Lib.hid (impl_any xs[k] c (by omega) wr m (by rw [hb.cell hG4]; exact HM4.out) (Nat.lt_of_lt_of_le hG4 hb.size))
        rw [hp1] at HI
        clear hp1 hp2
        go_wp2_with fail
        refine HI.out.mono ?_
        rintro e w5 ⟨b5, rfl, _, _, hb5⟩
        have B5 := hb.trans (hb5.mono hb.size)
        go_wp2
        exact ⟨⟨k + 1, by omega, by go_num, B5⟩, by simp only [intOf]; omega⟩
      · go_wp2
        go_ret
        exact ⟨rfl, B4.trans (hb.mono B4.size)⟩
  · have HBIG : Hid (∀ W : World, Calls Tryd.prog 9 #[v] W fun e w' => e = .returned (.bool true) ∧ w' = W) := by
      obtain ⟨a, c, rfl, hn, _⟩ := hv
      refine Lib.hid fun W => ?_
      go_enter Tryd.func9, Tryd.ntmps9
      go_wp2
      go_ret
      exact ⟨Strs.ret_bool (by simp; omega), rfl⟩
    go_enter Tryd.func4, Tryd.ntmps4
    go_wp2_with fail
    refine (HBIG.out _).mono ?_
    rintro e w0 ⟨rfl, rfl⟩
    go_wp2
    go_ret
    exact ⟨rfl, Below.refl _ _⟩
end Go.Proofs.YtillgegbkfhpnaaDoor.SplitAll
