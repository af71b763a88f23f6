/- Wirings, as impl tells them: WiringText. -/
import Derived.Test.YtfpbehnpaedpmaaDoorWjAll
import Derived.Test.YtfpbehnpaedpmaaDoorMgWc
import Derived.Test.YtfpbehnpaedpmaaDoorFmtSmall
namespace Go.Proofs.YtfpbehnpaedpmaaDoor.Sg
open Go.RowKit Pt NewI Wi
set_option maxHeartbeats 3200000 in
set_option maxRecDepth 100000 in
theorem implWiringText (n : Int) (a : Option Addr) (c : Nat) (zs : List Int) (hl : zs.length ≤ 1048576) (w : World) (hs : SrcZ w w.heap.size a zs) :
    Calls Tryd.prog 27 #[.int .i64 n, .slice a zs.length c] w fun e w' => e = .returned (.string (wtZ n zs)) ∧ Below w.heap.size w w' := by
  have HIS := Lib.hid (implIsWiring n a c zs hl w hs)
  cases hw : wiB n zs
  · have e : wtZ n zs = ⟨#[]⟩ := by unfold wtZ; rw [if_neg (by rw [hw]; simp)]
    rw [e]
    rw [hw] at HIS
    clear e hw hs
    go_enter Tryd.func27, Tryd.ntmps27
    go_wp2_with fail
    refine HIS.out.mono ?_
    rintro e w1 ⟨rfl, hb1⟩
    go_wp2
    go_ret
    exact ⟨rfl, hb1⟩
  obtain ⟨h36, hle, hgo⟩ := wiB_go hw
  obtain ⟨h3, h6⟩ := inB_mem h36
  have hl15 : zs.length ≤ 15 := by
    rcases (by omega : n.toNat = 3 ∨ n.toNat = 4 ∨ n.toNat = 5 ∨ n.toNat = 6) with h | h | h | h <;> (rw [h] at hle; omega)
  have e : wtZ n zs = txW n zs (itB1 n ++ ⟨#[58]⟩) := by unfold wtZ; rw [if_pos hw]
  rw [e]
  rw [hw] at HIS
  have hbd : ∀ z ∈ zs, 0 ≤ z ∧ z ≤ 4 := fun z hz => by
    have := goZ_bd hgo _ hz
    rw [List.length_range] at this
    omega
  have HBD : Hid (∀ i, i < zs.length → 0 ≤ zs.getD i 0 ∧ zs.getD i 0 ≤ 4) := Lib.hid (fun i hi => hbd _ (getD_memW hi))
  have HSRC := Lib.hid (fun W (hW : Below w.heap.size w W) => hs.on hW)
  have hns := itB1_size (z := n) (by omega) (by omega)
  obtain ⟨A0, hA0⟩ : ∃ A0 : ByteArray, A0 = itB1 n ++ ⟨#[58]⟩ := ⟨_, rfl⟩
  have hA0s : A0.size = 2 := by rw [hA0, ByteArray.size_append, hns]; rfl
  have hr0 : ∀ W, (Op.stringOp .add (itB1 n) ⟨#[58]⟩).run Tryd.prog W = .ok (.string A0) W := fun W => by rw [hA0]; exact run_string_add_sum W _ _ (by rw [hns]; decide)
  have HFZ : Hid (∀ z : Int, 0 ≤ z → z ≤ 7 → ∀ W, Calls Tryd.prog 54 #[.int .i64 z] W fun e w' => e = .returned (.string (itB1 z)) ∧ W = w') := Lib.hid (fun z h0 h9 W => by
    obtain ⟨k, rfl⟩ : ∃ k : Nat, z = k := ⟨z.toNat, by omega⟩
    exact TrText.fmt_small k (by omega) W)
  have HF1 := Lib.hid (HFZ.out n (by omega) (by omega))
  have HTS : Hid (∀ k, k < zs.length → txW n (zs.take (k + 1)) A0 = txW n (zs.take k) A0 ++ itB1 (zs.getD k 0)) := Lib.hid (fun k hk => by rw [take_getD hk, txW_snoc])
  have HTZ : Hid (∀ k, (txW n (zs.take k) A0).size ≤ 40) := Lib.hid (fun k => by
    rw [txW_size n _ _ (fun z hz => by have := hbd z (List.mem_of_mem_take hz); omega), hA0s, List.length_take]; omega)
  have HTE : Hid (txW n (zs.take zs.length) A0 = txW n zs A0) := Lib.hid (by rw [List.take_length])
  rw [← hA0]
  generalize htx : (fun k => txW n (zs.take k) A0) = tx
  have HT0 : Hid (tx 0 = A0) := Lib.hid (by rw [← htx]; rfl)
  have HTS' : Hid (∀ k, k < zs.length → tx (k + 1) = tx k ++ itB1 (zs.getD k 0)) := Lib.hid (by rw [← htx]; exact HTS.out)
  have HTZ' : Hid (∀ k, (tx k).size ≤ 40) := Lib.hid (by rw [← htx]; exact HTZ.out)
  rw [← HTE.out, show txW n (zs.take zs.length) A0 = tx zs.length from by rw [← htx]]
  generalize itB1 n = B0 at hr0 HF1
  clear e hw hs h36 hgo hle hbd hns hA0 hA0s HTS HTZ HTE htx
  go_enter Tryd.func27, Tryd.ntmps27
  go_wp2_with fail
  refine HIS.out.mono ?_
  rintro e w0 ⟨rfl, hb0⟩
  have HB0 := Lib.hid hb0
  clear hb0 HIS
  go_wp2_with fail
  refine (HF1.out _).mono ?_
  rintro e w' ⟨rfl, rfl⟩
  clear HF1
  go_wp2_with fail
  go_loopw [5, 17] (fun s x wr => ∃ k : Nat, k ≤ zs.length ∧ x = .int .i64 k ∧ s = .string (tx k) ∧ Hid (Below w.heap.size w wr)) (fun _ x _ => zs.length - (intOf x).toNat)
  case atStart => exact ⟨0, Nat.zero_le _, rfl, by rw [HT0.out], HB0⟩
  case round =>
    obtain ⟨k, hk, rfl, rfl, HB⟩ := hrel
    by_cases hlt : k < zs.length
    · obtain ⟨b, o, rfl, hbb, hcz⟩ := HSRC.out _ HB.out k hlt
      obtain ⟨z0, z9⟩ := HBD.out k hlt
      have HS1 := Lib.hid (HTS'.out k hlt)
      have hs1 := HTZ'.out k
      generalize zs.getD k 0 = z at hcz z0 z9 HS1
      have HF := Lib.hid (HFZ.out z z0 (by omega))
      have hs2 := itB1_size z0 (by omega)
      generalize itB1 z = C at HF hs2 HS1
      generalize tx k = A at hs1 HS1
      have hr1 : ∀ W, (Op.stringOp .add A C).run Tryd.prog W = .ok (.string (A ++ C)) W := fun W => run_string_add_sum W _ _ (by omega)
      go_wp2_with fail
      refine (HF.out _).mono ?_
      rintro e w' ⟨rfl, rfl⟩
      clear HF
      go_wp2
      exact ⟨⟨k + 1, by omega, by go_num, by rw [HS1.out], HB⟩, by simp only [intOf]; omega⟩
    · obtain rfl : k = zs.length := by omega
      go_wp2
      go_ret
      exact ⟨rfl, HB.out⟩
end Go.Proofs.YtfpbehnpaedpmaaDoor.Sg
