/- The draws of wirings' texts: l1Turned, DrawParseWiring. -/
import Derived.Test.YtfpbehnpaedpmaaDoorDrWi2
import Derived.Test.YtfpbehnpaedpmaaDoorMgWc
import Derived.Deep.QuietTactic
import Derived.BigRegion
import Derived.RegionCalls
import Derived.Deep.RegionLaw
import Derived.Deep.RegionWith
namespace Go.Proofs.YtfpbehnpaedpmaaDoor.Cur
open Go.RowKit Pt NewI Wi Sg
theorem strs_leaves {b n lb : Nat} {v : Value} {w wr : World} {xs : List ByteArray} (h : Strs.At w lb 0 xs) (hl : Leaves b v n w wr) (hne : lb ≠ b) : Strs.At wr lb 0 xs := fun j x hx => hl.2.2.cell (h j x hx) (fun e => hne (by injection e))
set_option maxHeartbeats 3200000 in
set_option maxRecDepth 100000 in
theorem turned_any (b lb cap : Nat) (v : Value) (n : Nat) (xs : List ByteArray) (h1 : 1 ≤ xs.length) (h2 : xs.length ≤ 256) (hx1 : ∀ x ∈ xs, x.size ≤ 1) (s : ByteArray) (hs : s.size ≤ 1000) (w : World) (hv : Bytes w v n b) (hc : At w b v n) (hx : Strs.At w lb 0 xs) (hne : lb ≠ b) :
    Calls Tryd.prog 49 #[.pointer (some ⟨b, 0, none⟩), .string s, .slice (some ⟨lb, 0, none⟩) xs.length cap] w fun e w' => ∃ t : ByteArray, e = .returned (.string t) ∧ t.size ≤ s.size + 1 ∧ Leaves b v n w w' := by
  have HBL := Lib.hid (fun k (hk : k ≤ 2000) W h1 h2 => below_any b v n k (by omega) W h1 h2)
  have HPK := Lib.hid (fun W h3 h4 h5 => pick_any b lb cap v n xs h1 h2 W h3 h4 h5 hne)
  have v0 : IntKind.i64.wrap ((s.size : Int) + 1) = ((s.size + 1 : Nat) : Int) := by rw [IntWalk.i64_in _ (by omega)]; omega
  have HX1 := Lib.hid hx1
  have HXS := Lib.hid (fun W (hl : Leaves b v n w W) => strs_leaves hx hl hne)
  have HB1 := Lib.hid (HBL.out (s.size + 1) (by omega) w hv hc)
  clear hv hc hx hx1
  go_enter Tryd.func49, Tryd.ntmps49
  go_wp2_with fail
  refine HB1.out.mono ?_
  rintro e w1 ⟨r, hr, rfl, hl1⟩
  have hrs : r ≤ s.size := by omega
  have L1 := Lib.hid hl1
  obtain ⟨k1, k2, -⟩ := hl1
  go_wp2_with fail
  refine (HBL.out 6 (by omega) _ k1 k2).mono ?_
  rintro e w2 ⟨q, hq, rfl, hl2⟩
  have L2 := Lib.hid (L1.out.trans hl2)
  obtain ⟨k1, k2, -⟩ := hl2
  rcases (by omega : q = 0 ∨ q = 1 ∨ (q ≠ 0 ∧ q ≠ 1)) with rfl | rfl | ⟨hq0, hq1⟩
  · have HPW := Lib.hid (fun W (hl : Leaves b v n w W) => HPK.out W hl.1 hl.2.1 (HXS.out W hl))
    have LD : Hid (Leaves b v n w w2.drew) := Lib.hid ⟨L2.out.1, L2.out.2.1, ⟨L2.out.2.2.os, L2.out.2.2.tape, L2.out.2.2.output, L2.out.2.2.size, L2.out.2.2.block⟩⟩
    have hA : (s.extract 0 r).size = r := by rw [ByteArray.size_extract]; omega
    have hC : (s.extract r s.size).size = s.size - r := by rw [ByteArray.size_extract]; omega
    clear k1 k2
    go_wp2
    go_region_with (go_at_call 59; refine (HPW.out _ LD.out).mono ?_; rintro e w3 ⟨x, hx, rfl, hl3⟩; have hxs := HX1.out x hx; have L3 := Lib.hid (LD.out.trans hl3); have hr1 : ∀ W, (Op.stringOp .add (s.extract 0 r) x).run Tryd.prog W = .ok (.string (s.extract 0 r ++ x)) W := fun W => run_string_add_sum W _ _ (by omega); have hr2 : ∀ W, (Op.stringOp .add (s.extract 0 r ++ x) (s.extract r s.size)).run Tryd.prog W = .ok (.string (s.extract 0 r ++ x ++ s.extract r s.size)) W := fun W => run_string_add_sum W _ _ (by rw [ByteArray.size_append]; omega))
    all_goals
      go_wp2
      go_ret
      exact ⟨_, rfl, by rw [ByteArray.size_append, ByteArray.size_append]; omega, L3.out⟩
  · have hA : (s.extract 0 r).size = r := by rw [ByteArray.size_extract]; omega
    clear k1 k2
    go_wp2
    go_ret
    exact ⟨s.extract 0 r, rfl, by omega, L2.out⟩
  · have hq0 : ((q : Int) == 0) = false := beq_eq_false_iff_ne.2 (by omega)
    have hq1 : ((q : Int) == 1) = false := beq_eq_false_iff_ne.2 (by omega)
    clear k1 k2
    go_wp2
    go_ret
    exact ⟨s, rfl, by omega, L2.out⟩
theorem lit_strsW (w : World) (xs : List ByteArray) (t : TypeId) : Strs.At (w.alloc (.cells (xs.map Value.string).toArray t)) w.heap.size 0 xs := fun j x hx => by
  rw [World.cell?_alloc_new]; simp [hx]
theorem wtZ_size (n : Int) (zs : List Int) : (wtZ n zs).size ≤ 40 := by
  unfold wtZ
  split
  · rename_i h
    obtain ⟨h36, hlen, hgo⟩ := wiB_go h
    obtain ⟨h3, h6⟩ := inB_mem h36
    obtain ⟨m, rfl⟩ : ∃ m : Nat, n = m := ⟨n.toNat, by omega⟩
    rw [Int.toNat_natCast] at hlen hgo
    have hN : m * (m - 1) / 2 ≤ 15 := by
      have : ∀ m, m < 7 → m * (m - 1) / 2 ≤ 15 := by decide
      exact this m (by omega)
    have hbd : ∀ z ∈ zs, 0 ≤ z ∧ z ≤ 9 := fun z hz => by
      have := goZ_bd hgo z hz
      rw [List.length_range] at this
      omega
    rw [txW_size _ _ _ hbd, ByteArray.size_append, itB1_size (by omega) (by omega)]
    have : (⟨#[58]⟩ : ByteArray).size = 1 := rfl
    omega
  · show (0 : Nat) ≤ 40
    omega
theorem src_cells {w : World} {g n : Nat} {zs : List Int} (h : Cells w g n (zc zs)) (hn : zs.length ≤ n) : SrcZ w w.heap.size (some ⟨g, 0, none⟩) zs := fun j hj => ⟨g, 0, rfl, h.lt, by rw [Nat.zero_add, h.cell j (by omega)]; rfl⟩
set_option maxHeartbeats 1600000 in
set_option maxRecDepth 100000 in
theorem drawParseW_any (v : Value) (n : Nat) (hn : n ≤ 9223372036854700000) (w : World) (hv : Bytes w v n w.heap.size) :
    Calls Tryd.prog 13 #[v] w fun e w' => ∃ t : ByteArray, e = .returned (.string t) ∧ t.size ≤ 50 ∧ Below w.heap.size w w' := by
  go_enter Tryd.func13, Tryd.ntmps13
  go_wp2_with fail
  refine (new_any v n hn _ hv).mono ?_
  rintro e w1 ⟨b, rfl, hb, hv1, hc1, hb1⟩
  have B1 := Lib.hid hb1
  have HD := Lib.hid (l12Draw_any b v n w1 hv1 hc1)
  have hbl := hc1.ltW
  clear hb1 hv1 hc1
  go_wp2_with fail
  refine HD.out.mono ?_
  rintro e w2 ⟨m, u, vv, rfl, h3, h6, hlen, hgo, hown, hl2⟩
  have hN : 3 ≤ m * (m - 1) / 2 ∧ m * (m - 1) / 2 ≤ 15 := by
    have : ∀ m, m < 7 → 3 ≤ m → 3 ≤ m * (m - 1) / 2 ∧ m * (m - 1) / 2 ≤ 15 := by decide
    exact this m (by omega) h3
  have hll : (wl u).length = u.length := wl_length u
  obtain ⟨zs, hzs⟩ : ∃ zs, zs = wl u := ⟨_, rfl⟩
  rw [← hzs] at hown hll
  have hl3 : 3 ≤ zs.length ∧ zs.length ≤ 15 := by omega
  obtain ⟨g, c, rfl, hcz, hcm, hBg, hC⟩ := ownsZ_cells hown (fun e => by rw [e] at hl3; simp at hl3)
  have L2 := Lib.hid hl2
  have HTX := Lib.hid (specWiringText (m : Int) (some ⟨g, 0, none⟩) c zs (by omega) w2 (src_cells hC (Nat.le_refl _)))
  have hts := wtZ_size (m : Int) zs
  generalize wtZ (m : Int) zs = T at HTX hts
  clear hown hl2 hC hgo HD hll hzs hlen hN
  go_wp2_with fail
  refine HTX.out.mono ?_
  rintro e w3 ⟨rfl, hb3⟩
  have hs2 := L2.out.2.2.size
  have L3 := Lib.hid (L2.out.extW (hb3.mono hs2) hbl)
  obtain ⟨w4, hw4⟩ : ∃ w4, w4 = w3.alloc (.cells #[.string ⟨#[58]⟩, .string ⟨#[48]⟩, .string ⟨#[49]⟩, .string ⟨#[51]⟩, .string ⟨#[45]⟩] 9) := ⟨_, rfl⟩
  have hs3 := L3.out.2.2.size
  have L4 : Leaves b v n w1 w4 := by rw [hw4]; exact L3.out.extW ((Below.refl w1.heap.size w3).alloc hs3 _) hbl
  have hls : Strs.At w4 w3.heap.size 0 [⟨#[58]⟩, ⟨#[48]⟩, ⟨#[49]⟩, ⟨#[51]⟩, ⟨#[45]⟩] := by rw [hw4]; exact lit_strsW w3 [⟨#[58]⟩, ⟨#[48]⟩, ⟨#[49]⟩, ⟨#[51]⟩, ⟨#[45]⟩] 9
  have HTU := Lib.hid (turned_any b w3.heap.size 5 v n [⟨#[58]⟩, ⟨#[48]⟩, ⟨#[49]⟩, ⟨#[51]⟩, ⟨#[45]⟩] (by simp) (by simp) (by
    intro x hx
    simp only [List.mem_cons, List.not_mem_nil, or_false] at hx
    rcases hx with rfl | rfl | rfl | rfl | rfl <;> exact Nat.le_refl 1) T (by omega) w4 L4.1 L4.2.1 hls (by omega))
  have HL4 := Lib.hid L4
  have HW4 := Lib.hid hw4
  clear hls L4 hw4 hb3
  go_wp2_with fail
  rw [← HW4.out]
  refine HTU.out.mono ?_
  rintro e w5 ⟨t, rfl, ht, hl5⟩
  have HF := Lib.hid (leaves_belowW (HL4.out.trans hl5) hb B1.out)
  clear hl5
  go_wp2
  go_ret
  exact ⟨t, rfl, by omega, HF.out⟩
end Go.Proofs.YtfpbehnpaedpmaaDoor.Cur
