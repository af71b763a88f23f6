/- Several texts in one: Fmt, WiText, WiLink. -/
import Derived.Test.YtfpbehnpaedpmaaDoorProg
import Derived.WalkKit
import Derived.Below
import Derived.Lib.Hide
import Derived.Lib.ItoaNum
import Derived.Laws.IdiomStrings
import Derived.Handy
import Derived.Test.YtfpbehnpaedpmaaDoorMgWb
/- spec.FormatInt gives the decimal numeral of every int. -/
namespace Go.Proofs.YtfpbehnpaedpmaaDoor.Fmt
open Go.RowKit

def digs (u : Nat) : List UInt8 := if u = 0 then [] else Lib.decDigits u
theorem digs_step (u : Nat) (h : u ≠ 0) : digs u = digs (u / 10) ++ [UInt8.ofNat (48 + u % 10)] := by
  unfold digs
  rw [if_neg h]
  by_cases h10 : u < 10
  · rw [if_pos (by omega), Lib.decDigits_one h10, Nat.mod_eq_of_lt h10]; rfl
  · rw [if_neg (by omega)]; conv => lhs; rw [Lib.decDigits, dif_neg h10]

theorem tmod_neg (m : Int) (h : m ≤ 0) : m.tmod 10 = -((m.natAbs % 10 : Nat) : Int) := by
  obtain ⟨k, rfl⟩ : ∃ k : Nat, m = -(k : Int) := ⟨m.natAbs, by omega⟩
  rw [Int.neg_tmod, Int.natAbs_neg, Int.natAbs_natCast, Int.tmod_eq_emod_of_nonneg (by omega)]; rfl
theorem tdiv_neg (m : Int) (h : m ≤ 0) : m.tdiv 10 = -((m.natAbs / 10 : Nat) : Int) := by
  obtain ⟨k, rfl⟩ : ∃ k : Nat, m = -(k : Int) := ⟨m.natAbs, by omega⟩
  rw [Int.neg_tdiv, Int.natAbs_neg, Int.natAbs_natCast, Int.tdiv_eq_ediv_of_nonneg (by omega)]; rfl
theorem digs_length (u : Nat) (h : u ≤ 9223372036854775808) : (digs u).length ≤ 20 := by
  unfold digs
  split
  · simp
  · rw [Lib.decDigits_length]
    by_cases h1 : 10 ^ 19 ≤ u
    · omega
    · clear h
      have key : ∀ (k u : Nat), u < 10 ^ (k + 1) → Lib.nDigits u ≤ k + 1 := by
        intro k
        induction k with
        | zero => intro u hu; rw [Lib.nDigits_small (by simpa using hu)]; exact Nat.le_refl _
        | succ k ih =>
          intro u hu
          by_cases h10 : u < 10
          · rw [Lib.nDigits_small h10]; omega
          · rw [Lib.nDigits_big h10]
            have := ih (u / 10) (by rw [Nat.pow_succ] at hu; omega)
            omega
      have := key 18 u (by omega)
      omega
theorem conv_one (w : World) (x : Int) (b : UInt8) (hx : x = (b.toNat : Int)) :
    (convert 22 9 (.slice (some ⟨w.heap.size, 0, none⟩) 1 1)).run Tryd.prog (w.alloc (.cells #[.int .u8 x] 5)) = .ok (.string ⟨#[b]⟩) (w.alloc (.cells #[.int .u8 x] 5)) := by
  subst hx
  exact run_convert_bytes_back (P := Tryd.prog) (w.alloc (.cells #[.int .u8 (b.toNat : Int)] 5)) 22 9 5 ⟨w.heap.size, 0, none⟩ 1 [b] Tryd.underlying22 Tryd.underlying5 Tryd.underlying9 (fun j hj => by
    have hj0 : j = 0 := by simpa using hj
    subst hj0
    rw [show Addr.add ⟨w.heap.size, 0, none⟩ 0 = ⟨w.heap.size, 0, none⟩ from rfl, World.cell?_alloc_new]
    rfl)
set_option maxHeartbeats 400000 in
set_option maxRecDepth 100000 in
theorem spec_any (n : Int) (h0 : -9223372036854775808 ≤ n) (h1 : n ≤ 9223372036854775807) (w : World) :
    Calls Tryd.prog 55 #[.int .i64 n] w fun e w' => e = .returned (.string ⟨(Lib.itoa n).toArray⟩) ∧ Below w.heap.size w w' := by
  by_cases hz : n = 0
  · subst hz
    go_enter Tryd.func55, Tryd.ntmps55
    go_wp2
    go_ret
    exact ⟨by rw [show Lib.itoa 0 = [48] from by decide +kernel]; rfl, Below.refl _ _⟩
  · have t1 : (n == 0) = false := by simpa using hz
    by_cases hneg : n < 0
    · have t2 : decide (n < 0) = true := by simpa using hneg
      go_enter Tryd.func55, Tryd.ntmps55
      go_wp2
      go_loopw [0, 4] (fun mv o wr => ∃ (m : Int) (l : List UInt8), -9223372036854775808 ≤ m ∧ m ≤ 0 ∧ mv = .int .i64 m ∧ o = .string ⟨l.toArray⟩ ∧ Hid (digs n.natAbs = digs m.natAbs ++ l) ∧ Below w.heap.size w wr) (fun m _ _ => (intOf m).natAbs)
      case atStart => exact ⟨n, [], by omega, by omega, rfl, rfl, Lib.hid (by simp), Below.refl _ _⟩
      case round =>
        obtain ⟨m, l, hm0, hm1, rfl, rfl, hd, hb⟩ := hrel
        have hl : l.length ≤ 20 := by
          have := digs_length n.natAbs (by omega)
          rw [hd.out] at this; simp at this; omega
        by_cases hk0 : m = 0
        · subst hk0
          have t3 : ((0 : Int) != 0) = false := rfl
          go_wp2
          go_ret
          refine ⟨?_, hb⟩
          have hd := hd.out
          unfold Lib.itoa
          rw [if_pos hneg]
          unfold digs at hd
          rw [if_neg (by omega)] at hd
          rw [hd]
          rfl
        · have t3 : (m != 0) = true := by simpa using hk0
          obtain ⟨r, hr⟩ : ∃ r : Nat, r = m.natAbs % 10 := ⟨_, rfl⟩
          have hr10 : r < 10 := by omega
          have hm : m.tmod 10 = -(r : Int) := by subst hr; exact tmod_neg m (by omega)
          have hq : m.tdiv 10 = -((m.natAbs / 10 : Nat) : Int) := tdiv_neg m (by omega)
          have hd' : digs n.natAbs = digs (m.natAbs / 10) ++ (UInt8.ofNat (48 + r) :: l) := by
            rw [hd.out, digs_step m.natAbs (by omega), ← hr]; simp
          have Hd := Lib.hid hd'
          have Hq := Lib.hid hq
          clear hr hd' hd hq
          by_cases hr0 : r = 0
          · subst hr0
            have hcv := conv_one wr 48 48 rfl
            go_wp2
            have hq := Hq.out
            exact ⟨⟨m.tdiv 10, 48 :: l, by omega, by omega, rfl, rfl, Lib.hid (by rw [hq, Int.natAbs_neg, Int.natAbs_natCast]; exact Hd.out), by go_grown; exact hb.size⟩, by simp only [intOf]; omega⟩
          · have hcv := conv_one wr (48 + (r : Int)) (UInt8.ofNat (48 + r)) (by simp; omega)
            go_wp2
            have hq := Hq.out
            exact ⟨⟨m.tdiv 10, UInt8.ofNat (48 + r) :: l, by omega, by omega, rfl, by simp; rfl, Lib.hid (by rw [hq, Int.natAbs_neg, Int.natAbs_natCast]; exact Hd.out), by go_grown; exact hb.size⟩, by simp only [intOf]; omega⟩
    · have t2 : decide (n < 0) = false := by simpa using hneg
      go_enter Tryd.func55, Tryd.ntmps55
      go_wp2
      go_loopw [0, 4] (fun mv o wr => ∃ (m : Nat) (l : List UInt8), m ≤ 9223372036854775807 ∧ mv = .int .i64 m ∧ o = .string ⟨l.toArray⟩ ∧ Hid (digs n.natAbs = digs m ++ l) ∧ Below w.heap.size w wr) (fun m _ _ => (intOf m).natAbs)
      case atStart => exact ⟨n.natAbs, [], by omega, by congr 1; omega, rfl, Lib.hid (by simp), Below.refl _ _⟩
      case round =>
        obtain ⟨m, l, hm1, rfl, rfl, hd, hb⟩ := hrel
        have hl : l.length ≤ 20 := by
          have := digs_length n.natAbs (by omega)
          rw [hd.out] at this; simp at this; omega
        by_cases hk0 : m = 0
        · subst hk0
          have t3 : ((0 : Int) != 0) = false := rfl
          go_wp2
          go_ret
          refine ⟨?_, hb⟩
          have hd := hd.out
          unfold Lib.itoa
          rw [if_neg (by omega), show n.toNat = n.natAbs from by omega]
          unfold digs at hd
          rw [if_neg (by omega)] at hd
          rw [hd]
          rfl
        · have t3 : ((m : Int) != 0) = true := by simpa using hk0
          obtain ⟨r, hr⟩ : ∃ r : Nat, r = m % 10 := ⟨_, rfl⟩
          have hr10 : r < 10 := by omega
          have hm : (m : Int) % 10 = (r : Int) := by omega
          have hd' : digs n.natAbs = digs (m / 10) ++ (UInt8.ofNat (48 + r) :: l) := by
            rw [hd.out, digs_step m (by omega), ← hr]; simp
          have Hd := Lib.hid hd'
          clear hr hd' hd
          have hcv := conv_one wr (48 + (r : Int)) (UInt8.ofNat (48 + r)) (by simp; omega)
          go_wp2
          exact ⟨⟨m / 10, UInt8.ofNat (48 + r) :: l, by omega, by simp, by simp; rfl, Hd, by go_grown; exact hb.size⟩, by simp only [intOf]; omega⟩
end Go.Proofs.YtfpbehnpaedpmaaDoor.Fmt
/- Wirings, as spec tells them: WiringText. -/
namespace Go.Proofs.YtfpbehnpaedpmaaDoor.Sg
open Go.RowKit Pt NewI Wi
theorem itoa_one {z : Int} (h0 : 0 ≤ z) (h9 : z ≤ 9) : (Lib.itoa z).length = 1 := by
  rcases (by omega : z = 0 ∨ z = 1 ∨ z = 2 ∨ z = 3 ∨ z = 4 ∨ z = 5 ∨ z = 6 ∨ z = 7 ∨ z = 8 ∨ z = 9) with rfl | rfl | rfl | rfl | rfl | rfl | rfl | rfl | rfl | rfl <;> decide +kernel
/-- The text of a number. -/
def itB1 (z : Int) : ByteArray := ⟨(Lib.itoa z).toArray⟩
theorem itB1_size {z : Int} (h0 : 0 ≤ z) (h9 : z ≤ 9) : (itB1 z).size = 1 := by
  show (Lib.itoa z).toArray.size = 1
  rw [List.size_toArray, itoa_one h0 h9]
/-- The text of a word's first letters, behind its number of wires. -/
def txW (n : Int) : List Int → ByteArray → ByteArray
  | [], A => A
  | z :: zs, A => txW n zs (A ++ itB1 z)
theorem txW_snoc (n : Int) (zs : List Int) (z : Int) (A : ByteArray) : txW n (zs ++ [z]) A = txW n zs A ++ itB1 z := by
  induction zs generalizing A with
  | nil => rfl
  | cons y zs ih => simp only [List.cons_append, txW]; exact ih _
theorem txW_size (n : Int) (zs : List Int) (A : ByteArray) (h : ∀ z ∈ zs, 0 ≤ z ∧ z ≤ 9) : (txW n zs A).size = A.size + zs.length := by
  induction zs generalizing A with
  | nil => rfl
  | cons y zs ih =>
    have hy := h y List.mem_cons_self
    simp only [txW, List.length_cons]
    rw [ih _ (fun z hz => h z (List.mem_cons_of_mem _ hz)), ByteArray.size_append, itB1_size hy.1 hy.2]
    omega
/-- What WiringText answers. -/
def wtZ (n : Int) (zs : List Int) : ByteArray := if wiB n zs = true then txW n zs (itB1 n ++ ⟨#[58]⟩) else ⟨#[]⟩
set_option maxHeartbeats 3200000 in
set_option maxRecDepth 100000 in
theorem specWiringText (n : Int) (a : Option Addr) (c : Nat) (zs : List Int) (hl : zs.length ≤ 1048576) (w : World) (hs : SrcZ w w.heap.size a zs) :
    Calls Tryd.prog 28 #[.int .i64 n, .slice a zs.length c] w fun e w' => e = .returned (.string (wtZ n zs)) ∧ Below w.heap.size w w' := by
  have HIS := Lib.hid (specIsWiring n a c zs hl w hs)
  cases hw : wiB n zs
  · have e : wtZ n zs = ⟨#[]⟩ := by unfold wtZ; rw [if_neg (by rw [hw]; simp)]
    rw [e]
    rw [hw] at HIS
    clear e hw hs
    go_enter Tryd.func28, Tryd.ntmps28
    go_wp2_with fail
    refine HIS.out.mono ?_
    rintro e w1 ⟨rfl, hb1⟩
    go_wp2
    go_ret
    exact ⟨rfl, hb1⟩
  obtain ⟨h36, hle, hgo⟩ := wiB_go hw
  obtain ⟨h3, h6⟩ := inB_mem h36
  have hl15 : zs.length ≤ 15 := by
    rcases (by omega : n.toNat = 3 ∨ n.toNat = 4 ∨ n.toNat = 5 ∨ n.toNat = 6) with h | h | h | h <;> (rw [h] at hle; omega)
  have e : wtZ n zs = txW n zs (itB1 n ++ ⟨#[58]⟩) := by unfold wtZ; rw [if_pos hw]
  rw [e]
  rw [hw] at HIS
  have hbd : ∀ z ∈ zs, 0 ≤ z ∧ z ≤ 9 := fun z hz => by
    have := goZ_bd hgo _ hz
    rw [List.length_range] at this
    omega
  have HBD : Hid (∀ i, i < zs.length → 0 ≤ zs.getD i 0 ∧ zs.getD i 0 ≤ 9) := Lib.hid (fun i hi => hbd _ (getD_memW hi))
  have HSRC := Lib.hid (fun W (hW : Below w.heap.size w W) => hs.on hW)
  have hns := itB1_size (z := n) (by omega) (by omega)
  obtain ⟨A0, hA0⟩ : ∃ A0 : ByteArray, A0 = itB1 n ++ ⟨#[58]⟩ := ⟨_, rfl⟩
  have hA0s : A0.size = 2 := by rw [hA0, ByteArray.size_append, hns]; rfl
  have hr0 : ∀ W, (Op.stringOp .add (itB1 n) ⟨#[58]⟩).run Tryd.prog W = .ok (.string A0) W := fun W => by rw [hA0]; exact run_string_add_sum W _ _ (by rw [hns]; decide)
  have HFN := Lib.hid (fun W => Fmt.spec_any n (by omega) (by omega) W)
  have HF1 : Hid (∀ W, Calls Tryd.prog 55 #[.int .i64 n] W fun e w' => e = .returned (.string (itB1 n)) ∧ Below W.heap.size W w') := HFN
  have HFZ : Hid (∀ z : Int, 0 ≤ z → z ≤ 9 → ∀ W, Calls Tryd.prog 55 #[.int .i64 z] W fun e w' => e = .returned (.string (itB1 z)) ∧ Below W.heap.size W w') := Lib.hid (fun z h0 h9 W => Fmt.spec_any z (by omega) (by omega) W)
  have HTS : Hid (∀ k, k < zs.length → txW n (zs.take (k + 1)) A0 = txW n (zs.take k) A0 ++ itB1 (zs.getD k 0)) := Lib.hid (fun k hk => by rw [take_getD hk, txW_snoc])
  have HTZ : Hid (∀ k, (txW n (zs.take k) A0).size ≤ 40) := Lib.hid (fun k => by
    rw [txW_size n _ _ (fun z hz => hbd z (List.mem_of_mem_take hz)), hA0s, List.length_take]; omega)
  have HTE : Hid (txW n (zs.take zs.length) A0 = txW n zs A0) := Lib.hid (by rw [List.take_length])
  rw [← hA0]
  generalize htx : (fun k => txW n (zs.take k) A0) = tx
  have HT0 : Hid (tx 0 = A0) := Lib.hid (by rw [← htx]; rfl)
  have HTS' : Hid (∀ k, k < zs.length → tx (k + 1) = tx k ++ itB1 (zs.getD k 0)) := Lib.hid (by rw [← htx]; exact HTS.out)
  have HTZ' : Hid (∀ k, (tx k).size ≤ 40) := Lib.hid (by rw [← htx]; exact HTZ.out)
  rw [← HTE.out, show txW n (zs.take zs.length) A0 = tx zs.length from by rw [← htx]]
  generalize itB1 n = B0 at hr0 HF1
  clear e hw hs h36 hgo hle hbd hns hA0 hA0s HFN HTS HTZ HTE htx
  go_enter Tryd.func28, Tryd.ntmps28
  go_wp2_with fail
  refine HIS.out.mono ?_
  rintro e w0 ⟨rfl, hb0⟩
  have HB0 := Lib.hid hb0
  clear hb0 HIS
  go_wp2_with fail
  refine (HF1.out _).mono ?_
  rintro e w1 ⟨rfl, hb1⟩
  have HB1 := Lib.hid (HB0.out.trans (hb1.mono HB0.out.size))
  clear hb1 HB0 HF1
  go_wp2_with fail
  go_loopw [5, 6] (fun s x wr => ∃ k : Nat, k ≤ zs.length ∧ x = .int .i64 k ∧ s = .string (tx k) ∧ Hid (Below w.heap.size w wr)) (fun _ x _ => zs.length - (intOf x).toNat)
  case atStart => exact ⟨0, Nat.zero_le _, rfl, by rw [HT0.out], HB1⟩
  case round =>
    obtain ⟨k, hk, rfl, rfl, HB⟩ := hrel
    by_cases hlt : k < zs.length
    · obtain ⟨b, o, rfl, hbb, hcz⟩ := HSRC.out _ HB.out k hlt
      obtain ⟨z0, z9⟩ := HBD.out k hlt
      have HS1 := Lib.hid (HTS'.out k hlt)
      have hs1 := HTZ'.out k
      generalize zs.getD k 0 = z at hcz z0 z9 HS1
      have HF := Lib.hid (HFZ.out z z0 z9)
      have hs2 := itB1_size z0 z9
      generalize itB1 z = C at HF hs2 HS1
      generalize tx k = A at hs1 HS1
      have hr1 : ∀ W, (Op.stringOp .add A C).run Tryd.prog W = .ok (.string (A ++ C)) W := fun W => run_string_add_sum W _ _ (by omega)
      go_wp2_with fail
      refine (HF.out _).mono ?_
      rintro e w2 ⟨rfl, hb2⟩
      have HB2 := Lib.hid (HB.out.trans (hb2.mono HB.out.size))
      clear hb2 HF
      go_wp2
      exact ⟨⟨k + 1, by omega, by go_num, by rw [HS1.out], HB2⟩, by simp only [intOf]; omega⟩
    · obtain rfl : k = zs.length := by omega
      go_wp2
      go_ret
      exact ⟨rfl, HB.out⟩
end Go.Proofs.YtfpbehnpaedpmaaDoor.Sg
/- Wirings: what spec's contracts say of words, against the plain mathematics. -/
namespace Go.Proofs.YtfpbehnpaedpmaaDoor.Sg
open Go.RowKit Pt NewI Wi
theorem goZ_wl (L u : List Nat) : goZ L (wl u) = go L u := by
  induction u generalizing L with
  | nil => rfl
  | cons p u ih =>
    show (if swB L (p : Int) = true then goZ (swp L (p : Int).toNat) (wl u) else none) = (if p + 1 < L.length ∧ L.getD p 0 < L.getD (p + 1) 0 then go (swp L p) u else none)
    have e : swB L (p : Int) = decide (p + 1 < L.length ∧ L.getD p 0 < L.getD (p + 1) 0) := by
      unfold swB
      rw [Int.toNat_natCast]
      congr 1
      exact propext ⟨fun h => h.2, fun h => ⟨by omega, h⟩⟩
    rw [e, Int.toNat_natCast, ih]
    simp only [decide_eq_true_eq]
theorem goZ_nat {L : List Nat} {zs : List Int} (h : goZ L zs ≠ none) : zs = wl (zs.map Int.toNat) := by
  unfold wl
  rw [List.map_map]
  conv => lhs; rw [← List.map_id zs]
  refine List.map_congr_left (fun z hz => ?_)
  have := (goZ_bd h z hz).1
  show z = ((z.toNat : Nat) : Int)
  omega
theorem wiB_fine {n : Int} {zs : List Int} (h : wiB n zs = true) : ∃ (m : Nat) (u : List Nat), n = (m : Int) ∧ 3 ≤ m ∧ m ≤ 6 ∧ zs = wl u ∧ Fine m u := by
  obtain ⟨h1, h2, h3⟩ := wiB_go h
  obtain ⟨a, b⟩ := inB_mem h1
  refine ⟨n.toNat, zs.map Int.toNat, by omega, by omega, by omega, goZ_nat h3, by rw [List.length_map]; exact h2, ?_⟩
  rw [← goZ_wl, ← goZ_nat h3]; exact h3
theorem fine_wiB {m : Nat} {u : List Nat} (h3 : 3 ≤ m) (h6 : m ≤ 6) (h : Fine m u) : wiB (m : Int) (wl u) = true := by
  unfold wiB
  have e : inB (m : Int) 3 6 = true := by simp only [inB, decide_eq_true_eq]; omega
  rw [e, Int.toNat_natCast, wl_length, h.1, goZ_wl, fine_go h]
  simp
theorem flW_wl {m : Nat} {u : List Nat} (hu : ∀ p ∈ u, p + 1 < m) : flW (m : Int) (wl u) = wl (mir m u.reverse) := by
  unfold flW wl mir
  rw [← List.map_reverse, List.map_map, List.map_map]
  refine List.map_congr_left (fun p hp => ?_)
  have := hu p (List.mem_reverse.1 hp)
  show (m : Int) - 2 - (p : Int) = ((m - 2 - p : Nat) : Int)
  omega
/-- Seen from the other side it is one, and again it is itself. -/
theorem flip_fact {n : Int} {zs : List Int} (h : wiB n zs = true) : wiB n (flW n zs) = true ∧ flW n (flW n zs) = zs := by
  obtain ⟨m, u, rfl, h3, h6, rfl, hf⟩ := wiB_fine h
  have hu := (fine_iff.1 hf).2.1
  rw [flW_wl hu]
  have hf2 := fine_flip hf
  refine ⟨fine_wiB h3 h6 hf2, ?_⟩
  rw [flW_wl (fine_iff.1 hf2).2.1, flip_flip hu]
/-- What TurnWiring answers, where it does. -/
def tuW (n : Int) (zs : List Int) : List Int := zs.drop 1 ++ [n - 2 - zs.getD 0 0]
theorem turn_fact {n : Int} {zs : List Int} (h : wiB n zs = true) : wiB n (tuW n zs) = true := by
  obtain ⟨m, u, rfl, h3, h6, rfl, hf⟩ := wiB_fine h
  cases u with
  | nil =>
    have := hf.1
    rcases (by omega : m = 3 ∨ m = 4 ∨ m = 5 ∨ m = 6) with rfl | rfl | rfl | rfl <;> simp at this
  | cons p u =>
    have hp := (fine_iff.1 hf).2.1 p List.mem_cons_self
    have e : tuW (m : Int) (wl (p :: u)) = wl (u ++ [m - 2 - p]) := by
      rw [wl_snoc]
      show wl u ++ [(m : Int) - 2 - (p : Int)] = _
      congr 2
      omega
    rw [e]
    exact fine_wiB h3 h6 (fine_turn hf)
/-- After all exchanges the wires stand the other way round. -/
theorem last_fact {n : Int} {zs : List Int} (h : wiB n zs = true) : wiAft n zs zs.length = down n.toNat := by
  obtain ⟨m, u, rfl, h3, h6, rfl, hf⟩ := wiB_fine h
  unfold wiAft
  have e : inB ((wl u).length : Int) 0 (wl u).length = true := by simp [inB]
  rw [if_pos ⟨h, e⟩, Int.toNat_natCast, Int.toNat_natCast, List.take_length, goZ_wl, fine_go hf]
  rfl
theorem down_getD {n i : Nat} (h : i < n) : (down n).getD i 0 = n - 1 - i := by
  induction n generalizing i with
  | zero => omega
  | succ n ih =>
    cases i with
    | zero => simp [down]
    | succ i =>
      simp only [down, List.getD_cons_succ]
      rw [ih (by omega)]
      omega
end Go.Proofs.YtfpbehnpaedpmaaDoor.Sg
