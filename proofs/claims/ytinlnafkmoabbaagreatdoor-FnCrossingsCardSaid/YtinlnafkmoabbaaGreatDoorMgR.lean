/- Several texts in one: RuRev, RuRevSpec, RuElem, RuSets. -/
import Derived.Test.YtinlnafkmoabbaaGreatDoorMgS
import Derived.Maps.Ext
import Derived.Maps.RangeWalk
import Derived.BigQuiet
import Derived.Test.YtinlnafkmoabbaaGreatDoorMgQ
import Derived.StillTailTactics
import Derived.Test.YtinlnafkmoabbaaGreatDoorMgC
/- Signs with the elements of a set reversed: impl's map of them. -/
namespace Go.Proofs.YtinlnafkmoabbaaGreatDoor.Sg
open Go.RowKit Pt Go.Maps
theorem bits_and1 (a : Nat) (ha : a < 1048576) : bits BinOp.and IntKind.i64 (a : Int) 1 = ((a % 2 : Nat) : Int) := by
  show IntKind.i64.wrap ((BitVec.ofInt 64 a &&& BitVec.ofInt 64 1).toNat : Int) = _
  have h1 : (BitVec.ofInt 64 1).toNat = 1 := by decide
  rw [BitVec.toNat_and, BitVec.ofInt_natCast, BitVec.toNat_ofNat, Nat.mod_eq_of_lt (by omega), h1, Nat.and_one_is_mod, IntKind.wrap_i64]
  omega
theorem par_sum (a b c : Nat) (ha : a < 1024) (hb : b < 1024) (hc : c < 1024) : (bits BinOp.and IntKind.i64 ((a : Int) + (b : Int) + (c : Int)) 1 == 1) = ((a + b + c) % 2 == 1) := by
  have e : ((a : Int) + (b : Int) + (c : Int)) = ((a + b + c : Nat) : Int) := by omega
  rw [e, bits_and1 _ (by omega)]
  rcases Nat.mod_two_eq_zero_or_one (a + b + c) with h | h <;> rw [h] <;> rfl
theorem shr_div (set i : Nat) : ((set >>> i : Nat) : Int) = (set : Int) / 2 ^ i := by
  rw [Nat.shiftRight_eq_div_pow]
  push_cast
  rfl
theorem odd3_le (set : Nat) (hs : set < 1024) (i : Nat) : set >>> i < 1024 := by
  rw [Nat.shiftRight_eq_div_pow]
  exact Nat.lt_of_le_of_lt (Nat.div_le_self _ _) hs
end Go.Proofs.YtinlnafkmoabbaaGreatDoor.Sg
/- Signs with the elements of a set reversed: spec's. -/
namespace Go.Proofs.YtinlnafkmoabbaaGreatDoor.Sg
open Go.RowKit Pt
/-- The signs of three elements in order, after the elements of a set are reversed. -/
def rvF (n : Nat) (s : List UInt8) (set : Nat) (i j k : Nat) : Int := if odd3 set i j k then -(sgnF (lookS n s) i j k) else sgnF (lookS n s) i j k
theorem shr_bd (set i : Nat) (h : set < 1024) : 0 ≤ (set : Int) / 2 ^ i ∧ (set : Int) / 2 ^ i ≤ 1023 := by
  rw [← shr_div]
  have := odd3_le set h i
  generalize set >>> i = x at this ⊢
  omega
set_option maxHeartbeats 3200000 in
set_option maxRecDepth 100000 in
theorem l4Reverse_any (n : Nat) (s : ByteArray) (set : Nat) (h : arB n s.data.toList = true) (hset : set < 1024) (w : World) :
    Calls Tryz.prog 159 #[sg n s, .int .i64 set] w fun e w' => e = .returned (sg n ⟨(text3 n (rvF n s.data.toList set)).toArray⟩) ∧ Below w.heap.size w w' := by
  obtain ⟨_, h7, -, -⟩ := arB_yes h
  have h7 : n ≤ 7 := by omega
  have hsz : (w.alloc (.cells #[.int .i64 n, .string s] 25)).heap.size = w.heap.size + 1 := by simp
  have HM := Lib.hid (resC_made (w.alloc (.cells #[.int .i64 n, .string s] 25)) 25)
  have HX := Lib.hid ((box_made w n s 25).alloc (.cells #[.int .i64 0, .string ⟨#[]⟩] 25))
  have HB := Lib.hid ((Below.refl w.heap.size w).alloc (Nat.le_refl _) (.cells #[.int .i64 n, .string s] 25))
  obtain ⟨G, hG⟩ : ∃ G : Nat → Nat → Nat → Int, ∀ x y z : Nat, sgnF (lookS n s.data.toList) x y z = G x y z := ⟨_, fun _ _ _ => rfl⟩
  have hbd0 : ∀ x y z, -1 ≤ lookS n s.data.toList x y z ∧ lookS n s.data.toList x y z ≤ 1 := fun x y z => by rw [lookS_yes h]; exact look_bd _ _ _ _ _
  have HBD : Hid (∀ x y z, -1 ≤ G x y z ∧ G x y z ≤ 1) := Lib.hid (fun x y z => by rw [← hG]; exact sgnF_bd hbd0 x y z)
  have HL : Hid (∀ (i j k : Nat) (W : World), i < j → j < k → k < n → Calls Tryz.prog 147 #[sg n s, .int .i64 i, .int .i64 j, .int .i64 k] W fun e w' => e = .returned (.int .i64 (G i j k)) ∧ Below W.heap.size W w') := Lib.hid (fun i j k W h1 h2 h3 => by
    rw [← hG]; exact l3At_any n s i j k h (by omega) (by omega) h3 (by omega) (by omega) (by omega) W)
  have HG : Hid (∀ i j k, rvF n s.data.toList set i j k = if odd3 set i j k then -(G i j k) else G i j k) := Lib.hid (fun i j k => by unfold rvF; rw [hG])
  clear h hG hbd0
  obtain ⟨w1, hw1⟩ : ∃ w1, w1 = (w.alloc (.cells #[.int .i64 n, .string s] 25)).alloc (.cells #[.int .i64 0, .string ⟨#[]⟩] 25) := ⟨_, rfl⟩
  have hs1 : w1.heap.size = w.heap.size + 1 + 1 := by rw [hw1]; simp
  have X1 := HX
  rw [← hw1] at X1
  have R1 := HM
  rw [← hw1] at R1
  have O0 := Lib.hid (outC_made w1 n ⟨#[]⟩ 25)
  have P0 : Hid (PickSt (w.heap.size + 1 + 1) w1 n (textTo n (rvF n s.data.toList set) 0 (0 + 1) (0 + 2)) (((w.alloc (.cells #[.int .i64 n, .string s] 25)).alloc (.cells #[.int .i64 0, .string ⟨#[]⟩] 25)).alloc (.cells #[.int .i64 n, .string ⟨#[]⟩] 25))) := Lib.hid (by
    have h0 := O0.out
    rw [hs1] at h0
    rw [← hw1]
    exact ⟨by rw [textTo_zero h7]; exact h0, (Below.refl (w.heap.size + 1 + 1) w1).alloc (by omega) _⟩)
  generalize rvF n s.data.toList set = F at P0 HG
  have HW1 := Lib.hid hs1
  clear hw1 HX HM O0 hs1
  go_enter Tryz.func159, Tryz.ntmps159
  go_wp2
  go_loopw [6] (fun c wr => ∃ i : Nat, i ≤ n ∧ c = .int .i64 i ∧ Hid (PickSt (w.heap.size + 1 + 1) w1 n (textTo n F i (i + 1) (i + 2)) wr)) (fun c _ => n - (intOf c).toNat)
  case atStart => exact ⟨0, Nat.zero_le _, rfl, P0⟩
  case round =>
    obtain ⟨i, hin, rfl, HP⟩ := hrel
    obtain ⟨x0, x1, -⟩ := X1.out.on' HP.out.2 (by omega) (by rw [HW1.out]; omega)
    by_cases hlt : i < n
    · go_wp2
      go_loopw [7] (fun c wr => ∃ j : Nat, i < j ∧ j ≤ n ∧ c = .int .i64 j ∧ Hid (PickSt (w.heap.size + 1 + 1) w1 n (textTo n F i j (j + 1)) wr)) (fun c _ => n - (intOf c).toNat)
      case atStart => exact ⟨i + 1, by omega, by omega, by go_num, HP⟩
      case round =>
        obtain ⟨j, hij, hjn, rfl, HP⟩ := hrel
        obtain ⟨x0, x1, -⟩ := X1.out.on' HP.out.2 (by omega) (by rw [HW1.out]; omega)
        by_cases hltj : j < n
        · go_wp2
          go_loopw [8] (fun c wr => ∃ k : Nat, j < k ∧ k ≤ n ∧ c = .int .i64 k ∧ Hid (PickSt (w.heap.size + 1 + 1) w1 n (textTo n F i j k) wr)) (fun c _ => n - (intOf c).toNat)
          case atStart => exact ⟨j + 1, by omega, by omega, by go_num, HP⟩
          case round =>
            obtain ⟨k, hjk, hkn, rfl, HP⟩ := hrel
            obtain ⟨x0, x1, -⟩ := X1.out.on' HP.out.2 (by omega) (by rw [HW1.out]; omega)
            by_cases hltk : k < n
            · have hXl := textTo_le h7 F i j k
              have HST : Hid (textTo n F i j (k + 1) = textTo n F i j k ++ [byteOf (F i j k)]) := Lib.hid (textTo_step h7 F hij hjk hltk)
              have hpx := par_sum (set >>> i) (set >>> j) (set >>> k) (odd3_le set hset i) (odd3_le set hset j) (odd3_le set hset k)
              have ho : odd3 set i j k = (((set >>> i) + (set >>> j) + (set >>> k)) % 2 == 1) := rfl
              rw [← ho, shr_div, shr_div, shr_div] at hpx
              obtain ⟨p1, p2⟩ := shr_bd set i hset
              obtain ⟨p3, p4⟩ := shr_bd set j hset
              obtain ⟨p5, p6⟩ := shr_bd set k hset
              have hgv := HG.out i j k
              obtain ⟨v1, v2⟩ := HBD.out i j k
              have HC := Lib.hid (fun W => HL.out i j k W hij hjk hltk)
              generalize textTo n F i j k = L at hXl HP HST
              generalize G i j k = v at HC v1 v2 hgv
              have hr1 : ∀ W (x : UInt8), (Op.stringOp .add ⟨L.toArray⟩ ⟨#[x]⟩).run Tryz.prog W = .ok (.string (⟨L.toArray⟩ ++ ⟨#[x]⟩)) W := fun W x => run_string_add_sum W _ _ (by show L.toArray.size + 1 ≤ _; simp; omega)
              clear ho
              cases hod : odd3 set i j k
              all_goals
                rw [hod] at hpx hgv
                simp only [if_true, if_false, Bool.false_eq_true] at hgv
                rw [hgv] at HST
                clear hgv hod
              · go_wp2_with fail
                refine (HC.out _).mono ?_
                rintro e w3 ⟨rfl, hb3⟩
                obtain ⟨⟨o0, o1⟩, ⟨f0, f1⟩⟩ := HP.out.1.on hb3
                have HB3 := Lib.hid hb3
                clear hb3 o0 f0
                go_wp2
                refine region_tail 6 (by kernel_rfl) (by kernel_rfl) ?_
                intro W hW
                have g1 : W.cell? ⟨w.heap.size + 1 + 1, 1, none⟩ = some (.string ⟨L.toArray⟩) := by rw [hW]; exact o1
                have g2 : W.frozen? ⟨w.heap.size + 1 + 1, 1, none⟩ = false := by rw [hW]; exact f1
                have HP2 : Hid (PickSt (w.heap.size + 1 + 1) w1 n (L ++ [byteOf (v)]) (W.setCell ⟨w.heap.size + 1 + 1, 1, none⟩ (.string (⟨L.toArray⟩ ++ ⟨#[byteOf (v)]⟩)))) := Lib.hid (HP.out.store (by rw [hW]; exact HB3.out.drew) _)
                rw [← HST.out] at HP2
                clear hW o1 f1 x0 x1
                simp only [List.take_succ_cons, List.take_zero, List.drop_succ_cons, List.drop_zero]
                still_step
                still_step
                still_step
                still_call (l3Byte_any _ _)
                still_step
                still_step
                refine wpStill_nil ?_
                change wpList _ _ _ _ _ W
                go_wp2
                exact ⟨⟨k + 1, by omega, by omega, by go_num, HP2⟩, by simp only [intOf]; omega⟩
              · go_wp2_with fail
                refine (HC.out _).mono ?_
                rintro e w3 ⟨rfl, hb3⟩
                obtain ⟨⟨o0, o1⟩, ⟨f0, f1⟩⟩ := HP.out.1.on hb3
                have HB3 := Lib.hid hb3
                clear hb3 o0 f0
                go_wp2
                refine region_tail 6 (by kernel_rfl) (by kernel_rfl) ?_
                intro W hW
                have g1 : W.cell? ⟨w.heap.size + 1 + 1, 1, none⟩ = some (.string ⟨L.toArray⟩) := by rw [hW]; exact o1
                have g2 : W.frozen? ⟨w.heap.size + 1 + 1, 1, none⟩ = false := by rw [hW]; exact f1
                have HP2 : Hid (PickSt (w.heap.size + 1 + 1) w1 n (L ++ [byteOf (-v)]) (W.setCell ⟨w.heap.size + 1 + 1, 1, none⟩ (.string (⟨L.toArray⟩ ++ ⟨#[byteOf (-v)]⟩)))) := Lib.hid (HP.out.store (by rw [hW]; exact HB3.out.drew) _)
                rw [← HST.out] at HP2
                clear hW o1 f1 x0 x1
                simp only [List.take_succ_cons, List.take_zero, List.drop_succ_cons, List.drop_zero]
                still_step
                still_step
                still_step
                still_call (l3Byte_any _ _)
                still_step
                still_step
                refine wpStill_nil ?_
                change wpList _ _ _ _ _ W
                go_wp2
                exact ⟨⟨k + 1, by omega, by omega, by go_num, HP2⟩, by simp only [intOf]; omega⟩
            · have HP2 : Hid (PickSt (w.heap.size + 1 + 1) w1 n (textTo n F i (j + 1) (j + 1 + 1)) wr) := Lib.hid (by
                have := HP.out
                rw [show k = n by omega, textTo_inner h7 F hij hltj] at this
                exact this)
              go_wp2
              exact ⟨⟨j + 1, by omega, by omega, by go_num, HP2⟩, by simp only [intOf]; omega⟩
        · have HP2 : Hid (PickSt (w.heap.size + 1 + 1) w1 n (textTo n F (i + 1) (i + 1 + 1) (i + 1 + 2)) wr) := Lib.hid (by
            have := HP.out
            rw [show j = n by omega, textTo_mid h7 F hlt] at this
            exact this)
          go_wp2
          exact ⟨⟨i + 1, by omega, by go_num, HP2⟩, by simp only [intOf]; omega⟩
    · have HP2 : Hid (PickSt (w.heap.size + 1 + 1) w1 n (text3 n F) wr) := Lib.hid (by
        have := HP.out
        rw [show i = n by omega, textTo_end h7 F] at this
        exact this)
      obtain ⟨⟨⟨o0, o1⟩, -⟩, hbb⟩ := HP2.out
      obtain ⟨⟨e0, e1⟩, ⟨z0, z1⟩, B1⟩ := R1.out.on' hbb (by rw [hsz]; omega) (by rw [HW1.out]; omega)
      have B := HB.out.trans (B1.mono (by rw [hsz]; omega))
      rw [hsz] at e0 e1 z0 z1
      obtain ⟨k0, k1⟩ := ret_sg e0 e1 (.int .i64 n) (.string ⟨(text3 n F).toArray⟩)
      generalize hT : (text3 n F).toArray = T at o1 k0 k1
      have HTT := Lib.hid hT
      clear B1 hbb hT
      go_wp2
      exact bodyPost_ret (v := .agg #[.int .i64 n, .string ⟨T⟩]) (by simp [results, Tryz.results159, go_sem, k0, k1]) rfl ⟨ret_v (by rw [HTT.out]), (B.setCell (by simp) _).setCell (by simp) _⟩
end Go.Proofs.YtinlnafkmoabbaaGreatDoor.Sg
/- ReverseElement, as impl and spec answer it; the law. -/
namespace Go.Proofs.YtinlnafkmoabbaaGreatDoor.Sg
open Go.RowKit Pt
theorem sgnF_plain {f : Int → Int → Int → Int} {i j k : Nat} (h1 : i < j) (h2 : j < k) : sgnF f i j k = f i j k := by
  rw [sgnF_of (srt_asc (i := i) (j := j) (k := k) (by omega) (by omega))]
  simp
end Go.Proofs.YtinlnafkmoabbaaGreatDoor.Sg
/- AcyclicSets, as impl and spec answer it; the law. -/
namespace Go.Proofs.YtinlnafkmoabbaaGreatDoor.Sg
open Go.RowKit Pt NewI
/-- The sets among the first p. -/
def setsTo (q : Nat → Bool) (p : Nat) : List Int := ((List.range p).filter q).map fun (x : Nat) => (x : Int)
theorem setsTo_hit {q : Nat → Bool} {p : Nat} (h : q p = true) : setsTo q (p + 1) = setsTo q p ++ [(p : Int)] := by unfold setsTo; rw [List.range_succ, List.filter_append, List.map_append]; simp [h]
theorem setsTo_miss {q : Nat → Bool} {p : Nat} (h : q p = false) : setsTo q (p + 1) = setsTo q p := by unfold setsTo; rw [List.range_succ, List.filter_append, List.map_append]; simp [h]
theorem setsTo_length (q : Nat → Bool) (p : Nat) : (setsTo q p).length ≤ p := by unfold setsTo; rw [List.length_map]; exact Nat.le_trans (List.length_filter_le _ _) (by simp)
theorem ownsZ_on {w w' : World} {B : Nat} {v : Value} {zs : List Int} (h : OwnsZ w B v zs) (hb : Below w.heap.size w w') : OwnsZ w' B v zs :=
  World.ownsRow.kept h (row := none) ⟨hb.os, hb.tape, hb.output, hb.size, fun k hk _ => hb.block k hk⟩ (by cases v.ownBlock <;> simp)
end Go.Proofs.YtinlnafkmoabbaaGreatDoor.Sg
