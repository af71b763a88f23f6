/- spec.l1Read, ParseInt, ParseNumber by the plain function readS. -/
import Derived.Test.YtohihlhkheeemaaDoorProg
import Derived.Test.YtohihlhkheeemaaDoorNum
import Derived.Test.YtohihlhkheeemaaDoorFmt
import Derived.WalkKit
import Derived.Below
import Derived.Lib.Hide
import Derived.Handy
import Derived.Outline
namespace Go.Proofs.YtohihlhkheeemaaDoor.Read
open Go.RowKit
def pair : Option Int → Value
  | some n => .tuple #[.int .i64 n, .bool true]
  | none => .tuple #[.int .i64 0, .bool false]

theorem extract_tail (s : ByteArray) : (s.extract 1 s.size).data.toList = s.data.toList.tail := by
  rw [ByteArray.data_extract, Array.toList_extract, ← List.drop_one]
  simp only [List.extract]
  exact List.take_of_length_le (by simp)
theorem val_bound {l : List UInt8} {u : Nat} (h : Num.val 0 l = some u) (hl : l.length ≤ 12) : u < 1000000000000 := by
  have h1 := Num.val_lt _ _ _ h
  have h2 : 10 ^ l.length ≤ 10 ^ 12 := Nat.pow_le_pow_right (by decide) hl
  omega
theorem readS_none {l : List UInt8} {most : Nat} (h : Num.val 0 (Num.body l) = none) : Num.readS l most = none := by
  unfold Num.readS
  split
  · rfl
  · rw [h]
theorem readS_some {l : List UInt8} {most u : Nat} {b : Bool} (hb : Num.neg l = b) (hl : 1 ≤ (Num.body l).length ∧ (Num.body l).length ≤ most) (h : Num.val 0 (Num.body l) = some u) :
    Num.readS l most = if Lib.itoa (Num.signed b u) = l then some (Num.signed b u) else none := by
  unfold Num.readS
  rw [if_neg (by omega), h, hb]
set_option maxHeartbeats 400000 in
set_option maxRecDepth 100000 in
theorem l1Read_any (s : ByteArray) (most : Nat) (hm : most ≤ 12) (hs : s.size ≤ 1048576) (w : World) :
    Calls Tryd.prog 24 #[.string s, .int .i64 most] w fun e w' => e = .returned (pair (Num.readS s.data.toList most)) ∧ Below w.heap.size w w' := by
  by_cases h0 : 0 < s.size
  · by_cases h45 : s[0] = 45
    · have hneg : Num.neg s.data.toList = true := by
        unfold Num.neg
        rw [List.head?_eq_getElem?, List.getElem?_eq_getElem (by simpa using h0)]
        simp
        exact h45
      by_cases hlen : s.size - 1 < 1 ∨ most < s.size - 1
      · have e : Num.readS s.data.toList most = none := by
          unfold Num.readS
          rw [if_pos]
          simp [Num.body, hneg]
          omega
        have HE := Lib.hid e
        have HN := Lib.hid hneg
        clear e hneg
        by_cases h1 : s.size - 1 < 1
        · go_enter Tryd.func24, Tryd.ntmps24
          go_wp2
          all_goals
            go_ret2
            exact ⟨by rw [HE.out]; rfl, Below.refl _ _⟩
        · have h2 : most < s.size - 1 := by omega
          go_enter Tryd.func24, Tryd.ntmps24
          go_wp2
          all_goals
            go_ret2
            exact ⟨by rw [HE.out]; rfl, Below.refl _ _⟩
      · skip
        obtain ⟨t, ht⟩ : ∃ t : ByteArray, t = s.extract 1 s.size := ⟨_, rfl⟩
        have htl : t.data.toList = s.data.toList.tail := by rw [ht]; exact extract_tail s
        have hts : t.size = s.size - 1 := by rw [ht]; simp
        have hext : s.extract 1 s.size = t := ht.symm
        have h1 : 1 ≤ t.size := by omega
        have h2 : t.size ≤ most := by omega
        have h3 : t.size ≤ 12 := by omega
        have Hts := Lib.hid hts
        have HB : Hid (Num.body s.data.toList = t.data.toList) := by rw [htl]; exact Lib.hid (by simp [Num.body, hneg])
        clear ht htl hts
        have HN := Lib.hid hneg
        clear hneg hlen
        go_enter Tryd.func24, Tryd.ntmps24
        go_wp2
        go_loop [8, 9] (fun v i => ∃ (k u : Nat), k ≤ t.size ∧ i = .int .i64 k ∧ v = .int .i64 u ∧ Hid (Num.val 0 (t.data.toList.take k) = some u)) (fun _ i => t.size - (intOf i).toNat)
        case atStart => exact ⟨0, 0, Nat.zero_le _, rfl, rfl, Lib.hid rfl⟩
        case round =>
          obtain ⟨k, u, hk, rfl, rfl, hv⟩ := hrel
          have hu : u < 1000000000000 := val_bound hv.out (by simp; omega)
          by_cases hlt : k < t.size
          · by_cases hd : 48 ≤ t[k].toNat ∧ t[k].toNat ≤ 57
            · have h4 : 48 ≤ t[k].toNat := hd.1
              have h5 : t[k].toNat ≤ 57 := hd.2
              go_wp2
              exact ⟨⟨u4, u5, _, _, ⟨k + 1, by omega, rfl, 10 * u + (t[k].toNat - 48), rfl, Lib.hid (by rw [Num.take_snoc _ _ hlt]; exact Num.val_snoc _ _ _ _ hv.out hd)⟩, rfl, rfl, by congr 1; omega, by go_num⟩, by simp [intOf]; omega⟩
            · have HE : Hid (Num.readS s.data.toList most = none) := by
                refine Lib.hid (readS_none ?_)
                rw [HB.out, Num.split_at t k hlt]
                exact Num.val_stop _ _ _ _ hd
              by_cases h48 : t[k].toNat < 48
              · clear hd
                go_wp2
                go_ret2
                exact ⟨by rw [HE.out]; rfl, Below.refl _ _⟩
              · have h57 : 57 < t[k].toNat := by omega
                clear hd
                go_wp2
                go_ret2
                exact ⟨by rw [HE.out]; rfl, Below.refl _ _⟩
          · have hv' : Num.val 0 t.data.toList = some u := by
              have := hv.out
              rwa [List.take_of_length_le (by simp; omega)] at this
            have HR := Lib.hid (readS_some (l := s.data.toList) (most := most) (u := u) (b := true) HN.out (by rw [HB.out]; simp; omega) (by rw [HB.out]; exact hv'))
            clear hv hv'
            by_cases he : Lib.itoa (-(u : Int)) = s.data.toList
            · have hs1 : (Lib.itoa (-(u : Int)) == s.toList) = true := by rw [ByteArray.toList_eq, he]; simp
              have HR' : Hid (Num.readS s.data.toList most = some (-(u : Int))) := Lib.hid (by rw [HR.out]; exact if_pos he)
              clear he HR
              go_wp2_with fail
              refine (Fmt.spec_any (-(u : Int)) (by omega) (by omega) _).mono ?_
              rintro e w1 ⟨rfl, hb⟩
              go_wp2
              go_ret2
              exact ⟨by rw [HR'.out]; rfl, hb⟩
            · have hs1 : (Lib.itoa (-(u : Int)) == s.toList) = false := by rw [ByteArray.toList_eq]; simpa using he
              have HR' : Hid (Num.readS s.data.toList most = none) := Lib.hid (by rw [HR.out]; exact if_neg he)
              clear he HR
              go_wp2_with fail
              refine (Fmt.spec_any (-(u : Int)) (by omega) (by omega) _).mono ?_
              rintro e w1 ⟨rfl, hb⟩
              go_wp2
              go_ret2
              exact ⟨by rw [HR'.out]; rfl, hb⟩
    · have hneg : Num.neg s.data.toList = false := by
        unfold Num.neg
        rw [List.head?_eq_getElem?, List.getElem?_eq_getElem (by simpa using h0)]
        simp
        exact h45
      have h45' : ((s[0].toNat : Int) == 45) = false := by
        rw [beq_eq_false_iff_ne]
        intro e
        have e' : s[0].toNat = 45 := by omega
        exact h45 (UInt8.toNat_inj.1 e')
      clear h45
      by_cases hlen : s.size < 1 ∨ most < s.size
      · have e : Num.readS s.data.toList most = none := by
          unfold Num.readS
          rw [if_pos]
          simp [Num.body, hneg]
          omega
        have HE := Lib.hid e
        have HN := Lib.hid hneg
        clear e hneg
        by_cases h1 : s.size < 1
        · go_enter Tryd.func24, Tryd.ntmps24
          go_wp2
          all_goals
            go_ret2
            exact ⟨by rw [HE.out]; rfl, Below.refl _ _⟩
        · have h2 : most < s.size := by omega
          go_enter Tryd.func24, Tryd.ntmps24
          go_wp2
          all_goals
            go_ret2
            exact ⟨by rw [HE.out]; rfl, Below.refl _ _⟩
      · skip
        have h1 : 1 ≤ s.size := by omega
        have h2 : s.size ≤ most := by omega
        have h3 : s.size ≤ 12 := by omega
        have HB : Hid (Num.body s.data.toList = s.data.toList) := Lib.hid (by simp [Num.body, hneg])
        have HN := Lib.hid hneg
        clear hneg hlen
        go_enter Tryd.func24, Tryd.ntmps24
        go_wp2
        go_loop [8, 9] (fun v i => ∃ (k u : Nat), k ≤ s.size ∧ i = .int .i64 k ∧ v = .int .i64 u ∧ Hid (Num.val 0 (s.data.toList.take k) = some u)) (fun _ i => s.size - (intOf i).toNat)
        case atStart => exact ⟨0, 0, Nat.zero_le _, rfl, rfl, Lib.hid rfl⟩
        case round =>
          obtain ⟨k, u, hk, rfl, rfl, hv⟩ := hrel
          have hu : u < 1000000000000 := val_bound hv.out (by simp; omega)
          by_cases hlt : k < s.size
          · by_cases hd : 48 ≤ s[k].toNat ∧ s[k].toNat ≤ 57
            · have h4 : 48 ≤ s[k].toNat := hd.1
              have h5 : s[k].toNat ≤ 57 := hd.2
              go_wp2
              exact ⟨⟨u4, u5, _, _, ⟨k + 1, by omega, rfl, 10 * u + (s[k].toNat - 48), rfl, Lib.hid (by rw [Num.take_snoc _ _ hlt]; exact Num.val_snoc _ _ _ _ hv.out hd)⟩, rfl, rfl, by congr 1; omega, by go_num⟩, by simp [intOf]; omega⟩
            · have HE : Hid (Num.readS s.data.toList most = none) := by
                refine Lib.hid (readS_none ?_)
                rw [HB.out, Num.split_at s k hlt]
                exact Num.val_stop _ _ _ _ hd
              by_cases h48 : s[k].toNat < 48
              · clear hd
                go_wp2
                go_ret2
                exact ⟨by rw [HE.out]; rfl, Below.refl _ _⟩
              · have h57 : 57 < s[k].toNat := by omega
                clear hd
                go_wp2
                go_ret2
                exact ⟨by rw [HE.out]; rfl, Below.refl _ _⟩
          · have hv' : Num.val 0 s.data.toList = some u := by
              have := hv.out
              rwa [List.take_of_length_le (by simp; omega)] at this
            have HR := Lib.hid (readS_some (l := s.data.toList) (most := most) (u := u) (b := false) HN.out (by rw [HB.out]; simp; omega) (by rw [HB.out]; exact hv'))
            clear hv hv'
            by_cases he : Lib.itoa (u : Int) = s.data.toList
            · have hs1 : (Lib.itoa (u : Int) == s.toList) = true := by rw [ByteArray.toList_eq, he]; simp
              have HR' : Hid (Num.readS s.data.toList most = some (u : Int)) := Lib.hid (by rw [HR.out]; exact if_pos he)
              clear he HR
              go_wp2_with fail
              refine (Fmt.spec_any (u : Int) (by omega) (by omega) _).mono ?_
              rintro e w1 ⟨rfl, hb⟩
              go_wp2
              go_ret2
              exact ⟨by rw [HR'.out]; rfl, hb⟩
            · have hs1 : (Lib.itoa (u : Int) == s.toList) = false := by rw [ByteArray.toList_eq]; simpa using he
              have HR' : Hid (Num.readS s.data.toList most = none) := Lib.hid (by rw [HR.out]; exact if_neg he)
              clear he HR
              go_wp2_with fail
              refine (Fmt.spec_any (u : Int) (by omega) (by omega) _).mono ?_
              rintro e w1 ⟨rfl, hb⟩
              go_wp2
              go_ret2
              exact ⟨by rw [HR'.out]; rfl, hb⟩
  · have e : Num.readS s.data.toList most = none := by
      have : s.data.toList = [] := by
        apply List.eq_nil_of_length_eq_zero
        have : s.data.toList.length = s.size := by simp
        omega
      rw [this]; rfl
    have HE := Lib.hid e
    clear e
    go_enter Tryd.func24, Tryd.ntmps24
    go_wp2
    all_goals
      go_ret2
      exact ⟨by rw [HE.out]; rfl, Below.refl _ _⟩
end Go.Proofs.YtohihlhkheeemaaDoor.Read
