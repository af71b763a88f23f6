/- FnWirings: the law's own walk. -/
import Derived.Test.YtfpbehnpaedpmaaDoorWiFacts
import Derived.Test.YtfpbehnpaedpmaaDoorLawRowL
import Derived.Test.YtfpbehnpaedpmaaDoorDrWi3
import Derived.Test.YtfpbehnpaedpmaaDoorWjAft
import Derived.Test.YtfpbehnpaedpmaaDoorWjSwaps
import Derived.Test.YtfpbehnpaedpmaaDoorWjFlip
import Derived.Test.YtfpbehnpaedpmaaDoorWjTurn
import Derived.Test.YtfpbehnpaedpmaaDoorWjFrom
import Derived.Test.YtfpbehnpaedpmaaDoorWjText
import Derived.Test.YtfpbehnpaedpmaaDoorWjParse
namespace Go.Proofs.YtfpbehnpaedpmaaDoor.Sg
open Go.RowKit Pt NewI NewII Cur Wi
theorem bytes_upW {w w' : World} {v : Value} {n : Nat} (hv : Bytes w v n w.heap.size) (hb : Below w.heap.size w w') : Bytes w' v n w'.heap.size := by
  obtain ⟨a, c, rfl, hn, h0 | ⟨cb, co, rfl, hcb, hby⟩⟩ := hv
  · exact ⟨a, c, rfl, hn, Or.inl h0⟩
  · refine ⟨_, c, rfl, hn, Or.inr ⟨cb, co, rfl, Nat.lt_of_lt_of_le hcb hb.size, fun j hj => ?_⟩⟩
    obtain ⟨x, hx, hc⟩ := hby j hj
    exact ⟨x, hx, by rw [hb.cell (by exact hcb)]; exact hc⟩
theorem sameW (zs : List Int) (hl : zs.length ≤ 1000) (a a' : Option Addr) (c c' : Nat) (W : World) (h1 : TmpW zs a W) (h2 : TmpW zs a' W) :
    Calls Tryd.prog 21 #[.slice a zs.length c, .slice a' zs.length c'] W fun e w' => e = .returned (.bool true) ∧ Below W.heap.size W w' := by
  obtain ⟨lo, hi, h1⟩ := h1
  obtain ⟨lo2, hi2, h2⟩ := h2
  exact sameInts_eq a a' c c' lo hi lo2 hi2 zs (by omega) W h1 h2
/-- A list that a call hands back. -/
def GotW (zs : List Int) (e : Ending) (W : World) : Prop := ∃ a c, e = .returned (.slice a zs.length c) ∧ TmpW zs a W
def GotB (zs : List Int) (q : Bool) (e : Ending) (W : World) : Prop := ∃ a c, e = .returned (.tuple #[.slice a zs.length c, .bool q]) ∧ TmpW zs a W
def GotP (p : Int) (zs : List Int) (q : Bool) (e : Ending) (W : World) : Prop := ∃ a c, e = .returned (.tuple #[.int .i64 p, .slice a zs.length c, .bool q]) ∧ TmpW zs a W
def GotR (S : List (List Int)) (e : Ending) (W : World) : Prop := ∃ a c, e = .returned (.slice a S.length c) ∧ RowL S a W
set_option maxHeartbeats 12800000 in
set_option maxRecDepth 100000 in
theorem walkFnWirings (v : Value) (n : Nat) (w : World) (hv : Bytes w v n w.heap.size) (a1 a2 a3 : Addr) (tp : TypeId) (mm : Int) (HE0 : SgParse.Env a1 a2 a3 tp mm w) :
    Calls Tryd.prog 3 #[v] w fun e w' => e = .returned (.bool true) ∧ Below w.heap.size w w' := by
  have HBIG := Lib.hid (fun W (hW : Below w.heap.size w W) => big_any v n W (bytes_upW hv hW))
  have HV := Lib.hid (fun W (hW : Below w.heap.size w W) => bytes_upW hv hW)
  have B0 := Lib.hid (Below.refl w.heap.size w)
  have HE := Lib.hid HE0
  clear hv HE0
  by_cases hbig : (n : Int) > 1048576
  · go_enter Tryd.func3, Tryd.ntmps3
    go_wp2_with fail
    refine (HBIG.out _ B0.out).mono ?_
    rintro e w1 ⟨rfl, rfl⟩
    go_wp2
    go_ret
    exact ⟨rfl, B0.out⟩
  · have hn : n ≤ 9223372036854700000 := by omega
    go_enter Tryd.func3, Tryd.ntmps3
    go_wp2_with fail
    refine (HBIG.out _ B0.out).mono ?_
    rintro e w1 ⟨rfl, rfl⟩
    go_wp2_with fail
    refine (drawIsW_any v n hn _ (HV.out _ B0.out)).mono ?_
    rintro e w2 ⟨⟨m, zs, g, c, rfl, hm2, hm7, hz3, hz15, hcz, hcm, -, -, hC⟩, hb2⟩
    have B2 := Lib.hid (B0.out.trans (hb2.mono B0.out.size))
    have Z2 : Hid (TmpW zs (some ⟨g, 0, none⟩) w2) := Lib.hid (TmpW.of_cells hC)
    clear hC hb2
    have HI1 : Hid (∀ W, TmpW zs (some ⟨g, 0, none⟩) W → Calls Tryd.prog 8 #[.int .i64 m, .slice (some ⟨g, 0, none⟩) zs.length c] W fun e w' => e = .returned (.bool (wiB m zs)) ∧ Below W.heap.size W w') := Lib.hid (fun W hz => implIsWiring (m : Int)  (some ⟨g, 0, none⟩) c zs (by omega) W hz.src)
    have HI2 : Hid (∀ W, TmpW zs (some ⟨g, 0, none⟩) W → Calls Tryd.prog 20 #[.int .i64 m, .slice (some ⟨g, 0, none⟩) zs.length c] W fun e w' => e = .returned (.bool (wiB m zs)) ∧ Below W.heap.size W w') := Lib.hid (fun W hz => specIsWiring (m : Int) (some ⟨g, 0, none⟩) c zs (by omega) W hz.src)
    have HT1 : Hid (∀ W, TmpW zs (some ⟨g, 0, none⟩) W → Calls Tryd.prog 16 #[.int .i64 m, .slice (some ⟨g, 0, none⟩) zs.length c] W fun e w' => GotB (wiTurn m zs) (wiB m zs) e w' ∧ Below W.heap.size W w') := Lib.hid (fun W hz => (implTurnWiring (m : Int)  (some ⟨g, 0, none⟩) c zs (by omega) hcz hcm W hz.src).mono fun e w' ⟨⟨a, c, he, hn'⟩, hb⟩ => ⟨⟨a, c, he, _, _, hn'⟩, hb⟩)
    have HT2 : Hid (∀ W, TmpW zs (some ⟨g, 0, none⟩) W → Calls Tryd.prog 17 #[.int .i64 m, .slice (some ⟨g, 0, none⟩) zs.length c] W fun e w' => GotB (wiTurn m zs) (wiB m zs) e w' ∧ Below W.heap.size W w') := Lib.hid (fun W hz => (specTurnWiring (m : Int) (some ⟨g, 0, none⟩) c zs (by omega) hcz hcm W hz.src).mono fun e w' ⟨⟨a, c, he, hn'⟩, hb⟩ => ⟨⟨a, c, he, _, _, hn'⟩, hb⟩)
    have HF1 : Hid (∀ W, TmpW zs (some ⟨g, 0, none⟩) W → Calls Tryd.prog 18 #[.int .i64 m, .slice (some ⟨g, 0, none⟩) zs.length c] W fun e w' => GotB (wiFlip m zs) (wiB m zs) e w' ∧ Below W.heap.size W w') := Lib.hid (fun W hz => (implFlipWiring (m : Int)  (some ⟨g, 0, none⟩) c zs (by omega) W hz.src).mono fun e w' ⟨⟨a, c, he, hn'⟩, hb⟩ => ⟨⟨a, c, he, _, _, hn'⟩, hb⟩)
    have HF2 : Hid (∀ W, TmpW zs (some ⟨g, 0, none⟩) W → Calls Tryd.prog 19 #[.int .i64 m, .slice (some ⟨g, 0, none⟩) zs.length c] W fun e w' => GotB (wiFlip m zs) (wiB m zs) e w' ∧ Below W.heap.size W w') := Lib.hid (fun W hz => (specFlipWiring (m : Int) (some ⟨g, 0, none⟩) c zs (by omega) W hz.src).mono fun e w' ⟨⟨a, c, he, hn'⟩, hb⟩ => ⟨⟨a, c, he, _, _, hn'⟩, hb⟩)
    have HW1 : Hid (∀ W, TmpW zs (some ⟨g, 0, none⟩) W → Calls Tryd.prog 25 #[.int .i64 m, .slice (some ⟨g, 0, none⟩) zs.length c] W fun e w' => GotR (swZ m zs) e w' ∧ Below W.heap.size W w') := Lib.hid (fun W hz => (implSwapsOf (m : Int)  (some ⟨g, 0, none⟩) c zs (by omega) W hz.src).mono fun e w' ⟨⟨a, c, he, hn'⟩, hb⟩ => ⟨⟨a, c, he, RowL.of_lists hn'⟩, hb⟩)
    have HW2 : Hid (∀ W, TmpW zs (some ⟨g, 0, none⟩) W → Calls Tryd.prog 26 #[.int .i64 m, .slice (some ⟨g, 0, none⟩) zs.length c] W fun e w' => GotR (swZ m zs) e w' ∧ Below W.heap.size W w') := Lib.hid (fun W hz => (specSwapsOf (m : Int) (some ⟨g, 0, none⟩) c zs (by omega) W hz.src).mono fun e w' ⟨⟨a, c, he, hn'⟩, hb⟩ => ⟨⟨a, c, he, RowL.of_lists hn'⟩, hb⟩)
    have HX1 : Hid (∀ W, TmpW zs (some ⟨g, 0, none⟩) W → Calls Tryd.prog 27 #[.int .i64 m, .slice (some ⟨g, 0, none⟩) zs.length c] W fun e w' => e = .returned (.string (wtZ m zs)) ∧ Below W.heap.size W w') := Lib.hid (fun W hz => implWiringText (m : Int)  (some ⟨g, 0, none⟩) c zs (by omega) W hz.src)
    have HX2 : Hid (∀ W, TmpW zs (some ⟨g, 0, none⟩) W → Calls Tryd.prog 28 #[.int .i64 m, .slice (some ⟨g, 0, none⟩) zs.length c] W fun e w' => e = .returned (.string (wtZ m zs)) ∧ Below W.heap.size W w') := Lib.hid (fun W hz => specWiringText (m : Int) (some ⟨g, 0, none⟩) c zs (by omega) W hz.src)
    have hsT := wtZ_size (m : Int) zs
    have HP1 : Hid (∀ W, Below w1.heap.size w1 W → Calls Tryd.prog 14 #[.string (wtZ m zs)] W fun e w' => GotP (if wiB m zs = true then ((m : Int), zs, true) else ((0 : Int), [], false)).1 (if wiB m zs = true then ((m : Int), zs, true) else ((0 : Int), [], false)).2.1 (if wiB m zs = true then ((m : Int), zs, true) else ((0 : Int), [], false)).2.2 e w' ∧ Below W.heap.size W w') := Lib.hid (fun W hB => by
      rw [← par_text]
      exact (implParseWiring (wtZ m zs) (by omega) W a1 a2 a3 tp mm (Lib.hid (HE.out.on hB))).mono fun e w' ⟨⟨a, c, he, hn'⟩, hb⟩ => ⟨⟨a, c, he, _, _, hn'⟩, hb⟩)
    have HAL := Lib.hid (fun h => wi_all (m := m) (zs := zs) h)
    have hlt := turn_len (m : Int) zs hz15
    have hlf := flip_len (m : Int) zs hz15
    obtain ⟨hls, hls2⟩ := swZ_len (m : Int) zs
    have HFF : Hid (wiB m zs = true → ∀ a' c' W, TmpW (wiFlip m zs) a' W → Calls Tryd.prog 18 #[.int .i64 m, .slice a' (wiFlip m zs).length c'] W fun e w' => GotB zs true e w' ∧ Below W.heap.size W w') := Lib.hid (fun h a' c' W hz => (implFlipWiring (m : Int)  a' c' (wiFlip m zs) (by omega) W hz.src).mono fun e w' ⟨⟨a, c, he, hn'⟩, hb⟩ => by rw [(HAL.out h).1] at he hn'; rw [(HAL.out h).2.1] at he; exact ⟨⟨a, c, he, _, _, hn'⟩, hb⟩)
    have HWF : Hid (wiB m zs = true → ∀ a' c' W, RowL (swZ m zs) a' W → Calls Tryd.prog 11 #[.int .i64 m, .slice a' (swZ m zs).length c'] W fun e w' => GotB zs true e w' ∧ Below W.heap.size W w') := Lib.hid (fun h a' c' W hz => (implWiringFrom (m : Int)  a' c' (swZ m zs) (by omega) (fun j hj => by have := hls2 j hj; omega) W hz.src).mono fun e w' ⟨⟨a, c, he, hn'⟩, hb⟩ => by rw [(HAL.out h).2.2.2.1] at he hn'; rw [(HAL.out h).2.2.2.2.1] at he; exact ⟨⟨a, c, he, _, _, hn'⟩, hb⟩)
    have HWA : Hid (wiB m zs = true → ∀ W, TmpW zs (some ⟨g, 0, none⟩) W → Calls Tryd.prog 22 #[.int .i64 m, .slice (some ⟨g, 0, none⟩) zs.length c, .int .i64 zs.length] W fun e w' => GotW (wl (down m)) e w' ∧ Below W.heap.size W w') := Lib.hid (fun h W hz => (implWiresAfter (m : Int)  (some ⟨g, 0, none⟩) c zs (by omega) (zs.length : Int)  W hz.src).mono fun e w' ⟨⟨a, c, he, hn'⟩, hb⟩ => by rw [(HAL.out h).2.2.2.2.2] at he hn'; exact ⟨⟨a, c, he, _, _, hn'⟩, hb⟩)
    have HIT : Hid (wiB m zs = true → ∀ a' c' W, TmpW (wiTurn m zs) a' W → Calls Tryd.prog 8 #[.int .i64 m, .slice a' (wiTurn m zs).length c'] W fun e w' => e = .returned (.bool true) ∧ Below W.heap.size W w') := Lib.hid (fun h a' c' W hz => (implIsWiring (m : Int)  a' c' (wiTurn m zs) (by omega) W hz.src).mono fun e w' ⟨he, hb⟩ => ⟨by rw [he, (HAL.out h).2.2.1], hb⟩)
    have HIF : Hid (wiB m zs = true → ∀ a' c' W, TmpW (wiFlip m zs) a' W → Calls Tryd.prog 8 #[.int .i64 m, .slice a' (wiFlip m zs).length c'] W fun e w' => e = .returned (.bool true) ∧ Below W.heap.size W w') := Lib.hid (fun h a' c' W hz => (implIsWiring (m : Int)  a' c' (wiFlip m zs) (by omega) W hz.src).mono fun e w' ⟨he, hb⟩ => ⟨by rw [he, (HAL.out h).2.1], hb⟩)
    have SZ := Lib.hid (fun a a' c c' W h1 h2 => sameW zs (by omega) a a' c c' W h1 h2)
    have ST := Lib.hid (fun a a' c c' W h1 h2 => sameW (wiTurn m zs) (by omega) a a' c c' W h1 h2)
    have SF := Lib.hid (fun a a' c c' W h1 h2 => sameW (wiFlip m zs) (by omega) a a' c c' W h1 h2)
    have SS := Lib.hid (fun a a' c c' W h1 h2 => sameRows_eq a a' c c' (swZ m zs) (by omega) (fun j hj => by have := hls2 j hj; omega) W h1 h2)
    clear HAL hls2
    generalize wtZ (m : Int) zs = T at HX1 HX2 HP1 hsT
    generalize swZ (m : Int) zs = sw at HW1 HW2 HWF SS hls
    generalize wiTurn (m : Int) zs = zt at HT1 HT2 HIT ST hlt
    generalize wiFlip (m : Int) zs = zf at HF1 HF2 HFF HIF SF hlf
    generalize wiB (m : Int) zs = fi at HI1 HI2 HT1 HT2 HF1 HF2 HP1 HFF HWF HWA HIT HIF
    have gfi : (fi != fi) = false := by cases fi <;> rfl
    go_wp2_with fail
    refine (HI1.out _ Z2.out).mono ?_
    rintro e w3 ⟨rfl, hb3⟩
    have B3 := Lib.hid (B2.out.trans (hb3.mono B2.out.size))
    have Z3 := Lib.hid (Z2.out.on hb3)
    clear hb3 B2 Z2
    go_wp2_with fail
    refine (drawAfterW_any v n hn _ (HV.out _ B3.out)).mono ?_
    rintro e w4 ⟨⟨m2, zs2, g2, c2, k2, rfl, hm22, hm27, hz23, hz215, hk2, -, hC⟩, hb4⟩
    have B4 := Lib.hid (B3.out.trans (hb4.mono B3.out.size))
    have Z4 := Lib.hid (Z3.out.on hb4)
    have Y4 := Lib.hid (TmpW.of_cells hC)
    clear hb4 B3 Z3 hC
    have HA1 : Hid (∀ W, TmpW zs2 (some ⟨g2, 0, none⟩) W → Calls Tryd.prog 22 #[.int .i64 m2, .slice (some ⟨g2, 0, none⟩) zs2.length c2, .int .i64 k2] W fun e w' => GotW (wl (wiAft m2 zs2 k2)) e w' ∧ Below W.heap.size W w') := Lib.hid (fun W hz => (implWiresAfter (m2 : Int)  (some ⟨g2, 0, none⟩) c2 zs2 (by omega) k2  W hz.src).mono fun e w' ⟨⟨a, c, he, hn'⟩, hb⟩ => ⟨⟨a, c, he, _, _, hn'⟩, hb⟩)
    have HA2 : Hid (∀ W, TmpW zs2 (some ⟨g2, 0, none⟩) W → Calls Tryd.prog 23 #[.int .i64 m2, .slice (some ⟨g2, 0, none⟩) zs2.length c2, .int .i64 k2] W fun e w' => GotW (wl (wiAft m2 zs2 k2)) e w' ∧ Below W.heap.size W w') := Lib.hid (fun W hz => (specWiresAfter (m2 : Int) (some ⟨g2, 0, none⟩) c2 zs2 k2 (by omega) W hz.src).mono fun e w' ⟨⟨a, c, he, hn'⟩, hb⟩ => ⟨⟨a, c, he, _, _, hn'⟩, hb⟩)
    have hla := aft_len (m2 : Int) zs2 k2 hz215
    have SA := Lib.hid (fun a a' c c' W h1 h2 => sameW (wl (wiAft m2 zs2 k2)) (by omega) a a' c c' W h1 h2)
    generalize wl (wiAft (m2 : Int) zs2 k2) = za at HA1 HA2 SA hla
    go_wp2_with fail
    refine (drawFromW_any v n hn _ (HV.out _ B4.out)).mono ?_
    rintro e w5 ⟨⟨m3, S, bo, c3, rfl, hm33, hm36, hS15, hS2, hsw⟩, hb5⟩
    have B5 := Lib.hid (B4.out.trans (hb5.mono B4.out.size))
    have Z5 := Lib.hid (Z4.out.on hb5)
    have Y5 := Lib.hid (Y4.out.on hb5)
    have R5 := Lib.hid (RowL.of_sw hsw)
    clear hb5 B4 Z4 Y4 hsw
    have hSr : ∀ j, j < S.length → (S.getD j []).length ≤ 2 := fun j hj => Nat.le_of_eq (getD_two hS2 hj)
    have HM1 : Hid (∀ W, RowL S (some ⟨bo, 0, none⟩) W → Calls Tryd.prog 11 #[.int .i64 m3, .slice (some ⟨bo, 0, none⟩) S.length c3] W fun e w' => GotB (wfA (wfZ m3 S)) (wfZ m3 S).isSome e w' ∧ Below W.heap.size W w') := Lib.hid (fun W hz => (implWiringFrom (m3 : Int)  (some ⟨bo, 0, none⟩) c3 S (by omega) (fun j hj => by have := hSr j hj; omega) W hz.src).mono fun e w' ⟨⟨a, c, he, hn'⟩, hb⟩ => ⟨⟨a, c, he, _, _, hn'⟩, hb⟩)
    have HM2 : Hid (∀ W, RowL S (some ⟨bo, 0, none⟩) W → Calls Tryd.prog 12 #[.int .i64 m3, .slice (some ⟨bo, 0, none⟩) S.length c3] W fun e w' => GotB (wfA (wfZ m3 S)) (wfZ m3 S).isSome e w' ∧ Below W.heap.size W w') := Lib.hid (fun W hz => (specWiringFrom (m3 : Int) (some ⟨bo, 0, none⟩) c3 S (by omega) (fun j hj => by have := hSr j hj; omega) W hz.src).mono fun e w' ⟨⟨a, c, he, hn'⟩, hb⟩ => ⟨⟨a, c, he, _, _, hn'⟩, hb⟩)
    have hlx := wfA_len (m3 : Int) S
    have HOK : Hid ((wfZ m3 S).isSome = true → ∀ a' c' W, TmpW (wfA (wfZ m3 S)) a' W → Calls Tryd.prog 25 #[.int .i64 m3, .slice a' (wfA (wfZ m3 S)).length c'] W fun e w' => GotR S e w' ∧ Below W.heap.size W w') := Lib.hid (fun h a' c' W hz => (implSwapsOf (m3 : Int)  a' c' (wfA (wfZ m3 S)) (by omega) W hz.src).mono fun e w' ⟨⟨a, c, he, hn'⟩, hb⟩ => by rw [from_back h] at he hn'; exact ⟨⟨a, c, he, RowL.of_lists hn'⟩, hb⟩)
    have SX := Lib.hid (fun a a' c c' W h1 h2 => sameW (wfA (wfZ m3 S)) (by omega) a a' c c' W h1 h2)
    have SR := Lib.hid (fun a a' c c' W h1 h2 => sameRows_eq a a' c c' S (by omega) (fun j hj => by have := hSr j hj; omega) W h1 h2)
    generalize wfA (wfZ (m3 : Int) S) = xs at HM1 HM2 HOK SX hlx
    generalize (wfZ (m3 : Int) S).isSome = ok at HM1 HM2 HOK
    have gok : (ok != ok) = false := by cases ok <;> rfl
    clear hSr hS2
    go_wp2_with fail
    refine (HM1.out _ R5.out).mono ?_
    rintro e w6 ⟨⟨a4, ca4, rfl, hn'⟩, hb6⟩
    have B6 := Lib.hid (B5.out.trans (hb6.mono B5.out.size))
    have Z6 := Lib.hid (Z5.out.on hb6)
    have Y6 := Lib.hid (Y5.out.on hb6)
    have R6 := Lib.hid (R5.out.on hb6)
    have X6 := Lib.hid (hn')
    clear hb6 B5 Z5 Y5 R5 hn'
    go_wp2_with fail
    refine (HM2.out _ R6.out).mono ?_
    rintro e w7 ⟨⟨a5, ca5, rfl, hn'⟩, hb7⟩
    have B7 := Lib.hid (B6.out.trans (hb7.mono B6.out.size))
    have Z7 := Lib.hid (Z6.out.on hb7)
    have Y7 := Lib.hid (Y6.out.on hb7)
    have R7 := Lib.hid (R6.out.on hb7)
    have X7 := Lib.hid (X6.out.on hb7)
    have XX7 := Lib.hid (hn')
    clear hb7 B6 Z6 Y6 R6 X6 hn'
    go_wp2_with fail
    refine (drawParseW_any v n hn _ (HV.out _ B7.out)).mono ?_
    rintro e w8 ⟨t0, rfl, ht0, hb8⟩
    have B8 := Lib.hid (B7.out.trans (hb8.mono B7.out.size))
    have Z8 := Lib.hid (Z7.out.on hb8)
    have Y8 := Lib.hid (Y7.out.on hb8)
    have R8 := Lib.hid (R7.out.on hb8)
    have X8 := Lib.hid (X7.out.on hb8)
    have XX8 := Lib.hid (XX7.out.on hb8)
    clear hb8 B7 Z7 Y7 R7 X7 XX7
    have HQ1 : Hid (∀ W, Below w1.heap.size w1 W → Calls Tryd.prog 14 #[.string t0] W fun e w' => GotP (parV (wpZ t0)).1 (parV (wpZ t0)).2.1 (parV (wpZ t0)).2.2 e w' ∧ Below W.heap.size W w') := Lib.hid (fun W hB => (implParseWiring t0 (by omega) W a1 a2 a3 tp mm (Lib.hid (HE.out.on hB))).mono fun e w' ⟨⟨a, c, he, hn'⟩, hb⟩ => ⟨⟨a, c, he, _, _, hn'⟩, hb⟩)
    have HQ2 : Hid (∀ W, Below w1.heap.size w1 W → Calls Tryd.prog 15 #[.string t0] W fun e w' => GotP (parV (wpZ t0)).1 (parV (wpZ t0)).2.1 (parV (wpZ t0)).2.2 e w' ∧ Below W.heap.size W w') := Lib.hid (fun W hB => (specParseWiring t0 (by omega) W).mono fun e w' ⟨⟨a, c, he, hn'⟩, hb⟩ => ⟨⟨a, c, he, _, _, hn'⟩, hb⟩)
    have hlp := par_len t0
    have SP := Lib.hid (fun a a' c c' W h1 h2 => sameW (parV (wpZ t0)).2.1 (by omega) a a' c c' W h1 h2)
    generalize (parV (wpZ t0)).1 = p1 at HQ1 HQ2
    generalize (parV (wpZ t0)).2.1 = p2 at HQ1 HQ2 SP hlp
    generalize (parV (wpZ t0)).2.2 = p3 at HQ1 HQ2
    have gp1 : (p1 != p1) = false := by simp
    have gp3 : (p3 != p3) = false := by cases p3 <;> rfl
    go_wp2_with fail
    refine (HQ1.out _ B8.out).mono ?_
    rintro e w9 ⟨⟨a6, ca6, rfl, hn'⟩, hb9⟩
    have B9 := Lib.hid (B8.out.trans (hb9.mono B8.out.size))
    have Z9 := Lib.hid (Z8.out.on hb9)
    have Y9 := Lib.hid (Y8.out.on hb9)
    have R9 := Lib.hid (R8.out.on hb9)
    have X9 := Lib.hid (X8.out.on hb9)
    have XX9 := Lib.hid (XX8.out.on hb9)
    have P9 := Lib.hid (hn')
    clear hb9 B8 Z8 Y8 R8 X8 XX8 hn'
    go_wp2_with fail
    refine (HQ2.out _ B9.out).mono ?_
    rintro e w10 ⟨⟨a7, ca7, rfl, hn'⟩, hb10⟩
    have B10 := Lib.hid (B9.out.trans (hb10.mono B9.out.size))
    have Z10 := Lib.hid (Z9.out.on hb10)
    have Y10 := Lib.hid (Y9.out.on hb10)
    have R10 := Lib.hid (R9.out.on hb10)
    have X10 := Lib.hid (X9.out.on hb10)
    have XX10 := Lib.hid (XX9.out.on hb10)
    have P10 := Lib.hid (P9.out.on hb10)
    have PP10 := Lib.hid (hn')
    clear hb10 B9 Z9 Y9 R9 X9 XX9 P9 hn'
    go_wp2_with fail
    refine (HT1.out _ Z10.out).mono ?_
    rintro e w11 ⟨⟨a8, ca8, rfl, hn'⟩, hb11⟩
    have B11 := Lib.hid (B10.out.trans (hb11.mono B10.out.size))
    have Z11 := Lib.hid (Z10.out.on hb11)
    have Y11 := Lib.hid (Y10.out.on hb11)
    have R11 := Lib.hid (R10.out.on hb11)
    have X11 := Lib.hid (X10.out.on hb11)
    have XX11 := Lib.hid (XX10.out.on hb11)
    have P11 := Lib.hid (P10.out.on hb11)
    have PP11 := Lib.hid (PP10.out.on hb11)
    have E11 := Lib.hid (hn')
    clear hb11 B10 Z10 Y10 R10 X10 XX10 P10 PP10 hn'
    go_wp2_with fail
    refine (HT2.out _ Z11.out).mono ?_
    rintro e w12 ⟨⟨a9, ca9, rfl, hn'⟩, hb12⟩
    have B12 := Lib.hid (B11.out.trans (hb12.mono B11.out.size))
    have Z12 := Lib.hid (Z11.out.on hb12)
    have Y12 := Lib.hid (Y11.out.on hb12)
    have R12 := Lib.hid (R11.out.on hb12)
    have X12 := Lib.hid (X11.out.on hb12)
    have XX12 := Lib.hid (XX11.out.on hb12)
    have P12 := Lib.hid (P11.out.on hb12)
    have PP12 := Lib.hid (PP11.out.on hb12)
    have E12 := Lib.hid (E11.out.on hb12)
    have EE12 := Lib.hid (hn')
    clear hb12 B11 Z11 Y11 R11 X11 XX11 P11 PP11 E11 hn'
    go_wp2_with fail
    refine (HF1.out _ Z12.out).mono ?_
    rintro e w13 ⟨⟨a10, ca10, rfl, hn'⟩, hb13⟩
    have B13 := Lib.hid (B12.out.trans (hb13.mono B12.out.size))
    have Z13 := Lib.hid (Z12.out.on hb13)
    have Y13 := Lib.hid (Y12.out.on hb13)
    have R13 := Lib.hid (R12.out.on hb13)
    have X13 := Lib.hid (X12.out.on hb13)
    have XX13 := Lib.hid (XX12.out.on hb13)
    have P13 := Lib.hid (P12.out.on hb13)
    have PP13 := Lib.hid (PP12.out.on hb13)
    have E13 := Lib.hid (E12.out.on hb13)
    have EE13 := Lib.hid (EE12.out.on hb13)
    have G13 := Lib.hid (hn')
    clear hb13 B12 Z12 Y12 R12 X12 XX12 P12 PP12 E12 EE12 hn'
    go_wp2_with fail
    refine (HF2.out _ Z13.out).mono ?_
    rintro e w14 ⟨⟨a11, ca11, rfl, hn'⟩, hb14⟩
    have B14 := Lib.hid (B13.out.trans (hb14.mono B13.out.size))
    have Z14 := Lib.hid (Z13.out.on hb14)
    have Y14 := Lib.hid (Y13.out.on hb14)
    have R14 := Lib.hid (R13.out.on hb14)
    have X14 := Lib.hid (X13.out.on hb14)
    have XX14 := Lib.hid (XX13.out.on hb14)
    have P14 := Lib.hid (P13.out.on hb14)
    have PP14 := Lib.hid (PP13.out.on hb14)
    have E14 := Lib.hid (E13.out.on hb14)
    have EE14 := Lib.hid (EE13.out.on hb14)
    have G14 := Lib.hid (G13.out.on hb14)
    have GG14 := Lib.hid (hn')
    clear hb14 B13 Z13 Y13 R13 X13 XX13 P13 PP13 E13 EE13 G13 hn'
    clear HV HBIG HM1 HM2 HQ1 HQ2 HT1 HT2 HF1 HF2 HI1
    go_wp2_with fail
    refine (HI2.out _ Z14.out).mono ?_
    rintro e w15 ⟨rfl, hb15⟩
    have B15 := Lib.hid (B14.out.trans (hb15.mono B14.out.size))
    have Z15 := Lib.hid (Z14.out.on hb15)
    have Y15 := Lib.hid (Y14.out.on hb15)
    have R15 := Lib.hid (R14.out.on hb15)
    have X15 := Lib.hid (X14.out.on hb15)
    have XX15 := Lib.hid (XX14.out.on hb15)
    have P15 := Lib.hid (P14.out.on hb15)
    have PP15 := Lib.hid (PP14.out.on hb15)
    have E15 := Lib.hid (E14.out.on hb15)
    have EE15 := Lib.hid (EE14.out.on hb15)
    have G15 := Lib.hid (G14.out.on hb15)
    have GG15 := Lib.hid (GG14.out.on hb15)
    clear hb15 B14 Z14 Y14 R14 X14 XX14 P14 PP14 E14 EE14 G14 GG14
    go_wp2_with fail
    refine (HA1.out _ Y15.out).mono ?_
    rintro e w16 ⟨⟨a12, ca12, rfl, hn'⟩, hb16⟩
    have B16 := Lib.hid (B15.out.trans (hb16.mono B15.out.size))
    have Z16 := Lib.hid (Z15.out.on hb16)
    have Y16 := Lib.hid (Y15.out.on hb16)
    have R16 := Lib.hid (R15.out.on hb16)
    have X16 := Lib.hid (X15.out.on hb16)
    have XX16 := Lib.hid (XX15.out.on hb16)
    have P16 := Lib.hid (P15.out.on hb16)
    have PP16 := Lib.hid (PP15.out.on hb16)
    have E16 := Lib.hid (E15.out.on hb16)
    have EE16 := Lib.hid (EE15.out.on hb16)
    have G16 := Lib.hid (G15.out.on hb16)
    have GG16 := Lib.hid (GG15.out.on hb16)
    have V16 := Lib.hid (hn')
    clear hb16 B15 Z15 Y15 R15 X15 XX15 P15 PP15 E15 EE15 G15 GG15 hn'
    go_wp2_with fail
    refine (HA2.out _ Y16.out).mono ?_
    rintro e w17 ⟨⟨a13, ca13, rfl, hn'⟩, hb17⟩
    have B17 := Lib.hid (B16.out.trans (hb17.mono B16.out.size))
    have Z17 := Lib.hid (Z16.out.on hb17)
    have R17 := Lib.hid (R16.out.on hb17)
    have X17 := Lib.hid (X16.out.on hb17)
    have XX17 := Lib.hid (XX16.out.on hb17)
    have P17 := Lib.hid (P16.out.on hb17)
    have PP17 := Lib.hid (PP16.out.on hb17)
    have E17 := Lib.hid (E16.out.on hb17)
    have EE17 := Lib.hid (EE16.out.on hb17)
    have G17 := Lib.hid (G16.out.on hb17)
    have GG17 := Lib.hid (GG16.out.on hb17)
    have V17 := Lib.hid (V16.out.on hb17)
    have VV17 := Lib.hid (hn')
    clear hb17 B16 Z16 Y16 R16 X16 XX16 P16 PP16 E16 EE16 G16 GG16 V16 hn'
    go_wp2_with fail
    refine (SA.out _ _ _ _ _ V17.out VV17.out).mono ?_
    rintro e w18 ⟨rfl, hb18⟩
    have B18 := Lib.hid (B17.out.trans (hb18.mono B17.out.size))
    have Z18 := Lib.hid (Z17.out.on hb18)
    have R18 := Lib.hid (R17.out.on hb18)
    have X18 := Lib.hid (X17.out.on hb18)
    have XX18 := Lib.hid (XX17.out.on hb18)
    have P18 := Lib.hid (P17.out.on hb18)
    have PP18 := Lib.hid (PP17.out.on hb18)
    have E18 := Lib.hid (E17.out.on hb18)
    have EE18 := Lib.hid (EE17.out.on hb18)
    have G18 := Lib.hid (G17.out.on hb18)
    have GG18 := Lib.hid (GG17.out.on hb18)
    clear hb18 B17 Z17 R17 X17 XX17 P17 PP17 E17 EE17 G17 GG17 V17 VV17
    go_wp2_with fail
    refine (SX.out _ _ _ _ _ X18.out XX18.out).mono ?_
    rintro e w19 ⟨rfl, hb19⟩
    have B19 := Lib.hid (B18.out.trans (hb19.mono B18.out.size))
    have Z19 := Lib.hid (Z18.out.on hb19)
    have R19 := Lib.hid (R18.out.on hb19)
    have X19 := Lib.hid (X18.out.on hb19)
    have P19 := Lib.hid (P18.out.on hb19)
    have PP19 := Lib.hid (PP18.out.on hb19)
    have E19 := Lib.hid (E18.out.on hb19)
    have EE19 := Lib.hid (EE18.out.on hb19)
    have G19 := Lib.hid (G18.out.on hb19)
    have GG19 := Lib.hid (GG18.out.on hb19)
    clear hb19 B18 Z18 R18 X18 XX18 P18 PP18 E18 EE18 G18 GG18
    go_wp2_with fail
    refine (SP.out _ _ _ _ _ P19.out PP19.out).mono ?_
    rintro e w20 ⟨rfl, hb20⟩
    have B20 := Lib.hid (B19.out.trans (hb20.mono B19.out.size))
    have Z20 := Lib.hid (Z19.out.on hb20)
    have R20 := Lib.hid (R19.out.on hb20)
    have X20 := Lib.hid (X19.out.on hb20)
    have E20 := Lib.hid (E19.out.on hb20)
    have EE20 := Lib.hid (EE19.out.on hb20)
    have G20 := Lib.hid (G19.out.on hb20)
    have GG20 := Lib.hid (GG19.out.on hb20)
    clear hb20 B19 Z19 R19 X19 P19 PP19 E19 EE19 G19 GG19
    go_wp2_with fail
    refine (ST.out _ _ _ _ _ E20.out EE20.out).mono ?_
    rintro e w21 ⟨rfl, hb21⟩
    have B21 := Lib.hid (B20.out.trans (hb21.mono B20.out.size))
    have Z21 := Lib.hid (Z20.out.on hb21)
    have R21 := Lib.hid (R20.out.on hb21)
    have X21 := Lib.hid (X20.out.on hb21)
    have E21 := Lib.hid (E20.out.on hb21)
    have G21 := Lib.hid (G20.out.on hb21)
    have GG21 := Lib.hid (GG20.out.on hb21)
    clear hb21 B20 Z20 R20 X20 E20 EE20 G20 GG20
    go_wp2_with fail
    refine (SF.out _ _ _ _ _ G21.out GG21.out).mono ?_
    rintro e w22 ⟨rfl, hb22⟩
    have B22 := Lib.hid (B21.out.trans (hb22.mono B21.out.size))
    have Z22 := Lib.hid (Z21.out.on hb22)
    have R22 := Lib.hid (R21.out.on hb22)
    have X22 := Lib.hid (X21.out.on hb22)
    have E22 := Lib.hid (E21.out.on hb22)
    have G22 := Lib.hid (G21.out.on hb22)
    clear hb22 B21 Z21 R21 X21 E21 G21 GG21
    go_wp2_with fail
    refine (HW1.out _ Z22.out).mono ?_
    rintro e w23 ⟨⟨a14, ca14, rfl, hn'⟩, hb23⟩
    have B23 := Lib.hid (B22.out.trans (hb23.mono B22.out.size))
    have Z23 := Lib.hid (Z22.out.on hb23)
    have R23 := Lib.hid (R22.out.on hb23)
    have X23 := Lib.hid (X22.out.on hb23)
    have E23 := Lib.hid (E22.out.on hb23)
    have G23 := Lib.hid (G22.out.on hb23)
    have V23 := Lib.hid (hn')
    clear hb23 B22 Z22 R22 X22 E22 G22 hn'
    go_wp2_with fail
    refine (HW2.out _ Z23.out).mono ?_
    rintro e w24 ⟨⟨a15, ca15, rfl, hn'⟩, hb24⟩
    have B24 := Lib.hid (B23.out.trans (hb24.mono B23.out.size))
    have Z24 := Lib.hid (Z23.out.on hb24)
    have R24 := Lib.hid (R23.out.on hb24)
    have X24 := Lib.hid (X23.out.on hb24)
    have E24 := Lib.hid (E23.out.on hb24)
    have G24 := Lib.hid (G23.out.on hb24)
    have V24 := Lib.hid (V23.out.on hb24)
    have VV24 := Lib.hid (hn')
    clear hb24 B23 Z23 R23 X23 E23 G23 V23 hn'
    go_wp2_with fail
    refine (SS.out _ _ _ _ _ V24.out VV24.out).mono ?_
    rintro e w25 ⟨rfl, hb25⟩
    have B25 := Lib.hid (B24.out.trans (hb25.mono B24.out.size))
    have Z25 := Lib.hid (Z24.out.on hb25)
    have R25 := Lib.hid (R24.out.on hb25)
    have X25 := Lib.hid (X24.out.on hb25)
    have E25 := Lib.hid (E24.out.on hb25)
    have G25 := Lib.hid (G24.out.on hb25)
    clear hb25 B24 Z24 R24 X24 E24 G24 V24 VV24
    clear HI2 HA1 HA2 SA SX SP ST SF HW2 SS gok gp1 gp3
    go_wp2_with fail
    refine (HX1.out _ Z25.out).mono ?_
    rintro e w26 ⟨rfl, hb26⟩
    have B26 := Lib.hid (B25.out.trans (hb26.mono B25.out.size))
    have Z26 := Lib.hid (Z25.out.on hb26)
    have R26 := Lib.hid (R25.out.on hb26)
    have X26 := Lib.hid (X25.out.on hb26)
    have E26 := Lib.hid (E25.out.on hb26)
    have G26 := Lib.hid (G25.out.on hb26)
    clear hb26 B25 Z25 R25 X25 E25 G25
    cases fi
    · as_aux_lemma =>
      go_wp2_with fail
      refine (HP1.out _ B26.out).mono ?_
      rintro e w27 ⟨⟨a16, ca16, rfl, hn'⟩, hb27⟩
      have B27 := Lib.hid (B26.out.trans (hb27.mono B26.out.size))
      have Z27 := Lib.hid (Z26.out.on hb27)
      have R27 := Lib.hid (R26.out.on hb27)
      have X27 := Lib.hid (X26.out.on hb27)
      have E27 := Lib.hid (E26.out.on hb27)
      have G27 := Lib.hid (G26.out.on hb27)
      have K27 := Lib.hid (hn')
      clear hb27 B26 Z26 R26 X26 E26 G26 hn'
      go_wp2_with fail
      refine (HX2.out _ Z27.out).mono ?_
      rintro e w28 ⟨rfl, hb28⟩
      have B28 := Lib.hid (B27.out.trans (hb28.mono B27.out.size))
      have Z28 := Lib.hid (Z27.out.on hb28)
      have R28 := Lib.hid (R27.out.on hb28)
      have X28 := Lib.hid (X27.out.on hb28)
      have E28 := Lib.hid (E27.out.on hb28)
      have G28 := Lib.hid (G27.out.on hb28)
      have K28 := Lib.hid (K27.out.on hb28)
      clear hb28 B27 Z27 R27 X27 E27 G27 K27
      cases ok
      · as_aux_lemma =>
        go_wp2
        go_ret
        exact ⟨rfl, B28.out⟩
      · as_aux_lemma =>
        go_wp2_with fail
        refine (HOK.out (by trivial) _ _ _ X28.out).mono ?_
        rintro e w29 ⟨⟨a20, ca20, rfl, hn'⟩, hb29⟩
        have B29 := Lib.hid (B28.out.trans (hb29.mono B28.out.size))
        have Z29 := Lib.hid (Z28.out.on hb29)
        have R29 := Lib.hid (R28.out.on hb29)
        have X29 := Lib.hid (X28.out.on hb29)
        have E29 := Lib.hid (E28.out.on hb29)
        have G29 := Lib.hid (G28.out.on hb29)
        have K29 := Lib.hid (K28.out.on hb29)
        have V29 := Lib.hid (hn')
        clear hb29 B28 Z28 R28 X28 E28 G28 K28 hn'
        go_wp2_with fail
        refine (SR.out _ _ _ _ _ V29.out R29.out).mono ?_
        rintro e w30 ⟨rfl, hb30⟩
        have B30 := Lib.hid (B29.out.trans (hb30.mono B29.out.size))
        have Z30 := Lib.hid (Z29.out.on hb30)
        have R30 := Lib.hid (R29.out.on hb30)
        have X30 := Lib.hid (X29.out.on hb30)
        have E30 := Lib.hid (E29.out.on hb30)
        have G30 := Lib.hid (G29.out.on hb30)
        have K30 := Lib.hid (K29.out.on hb30)
        clear hb30 B29 Z29 R29 X29 E29 G29 K29 V29
        go_wp2
        go_ret
        exact ⟨rfl, B30.out⟩
    · as_aux_lemma =>
      have gm : ((m : Int) != (m : Int)) = false := by simp
      go_wp2_with fail
      refine (HP1.out _ B26.out).mono ?_
      rintro e w27 ⟨⟨a16, ca16, rfl, hn'⟩, hb27⟩
      have B27 := Lib.hid (B26.out.trans (hb27.mono B26.out.size))
      have Z27 := Lib.hid (Z26.out.on hb27)
      have R27 := Lib.hid (R26.out.on hb27)
      have X27 := Lib.hid (X26.out.on hb27)
      have E27 := Lib.hid (E26.out.on hb27)
      have G27 := Lib.hid (G26.out.on hb27)
      have K27 := Lib.hid (hn')
      clear hb27 B26 Z26 R26 X26 E26 G26 hn'
      go_wp2_with fail
      refine (HX2.out _ Z27.out).mono ?_
      rintro e w28 ⟨rfl, hb28⟩
      have B28 := Lib.hid (B27.out.trans (hb28.mono B27.out.size))
      have Z28 := Lib.hid (Z27.out.on hb28)
      have R28 := Lib.hid (R27.out.on hb28)
      have X28 := Lib.hid (X27.out.on hb28)
      have E28 := Lib.hid (E27.out.on hb28)
      have G28 := Lib.hid (G27.out.on hb28)
      have K28 := Lib.hid (K27.out.on hb28)
      clear hb28 B27 Z27 R27 X27 E27 G27 K27
      go_wp2_with fail
      refine (SZ.out _ _ _ _ _ K28.out Z28.out).mono ?_
      rintro e w29 ⟨rfl, hb29⟩
      have B29 := Lib.hid (B28.out.trans (hb29.mono B28.out.size))
      have Z29 := Lib.hid (Z28.out.on hb29)
      have R29 := Lib.hid (R28.out.on hb29)
      have X29 := Lib.hid (X28.out.on hb29)
      have E29 := Lib.hid (E28.out.on hb29)
      have G29 := Lib.hid (G28.out.on hb29)
      clear hb29 B28 Z28 R28 X28 E28 G28 K28
      cases ok
      · as_aux_lemma =>
        go_wp2_with fail
        refine (HFF.out (by trivial) _ _ _ G29.out).mono ?_
        rintro e w30 ⟨⟨a21, ca21, rfl, hn'⟩, hb30⟩
        have B30 := Lib.hid (B29.out.trans (hb30.mono B29.out.size))
        have Z30 := Lib.hid (Z29.out.on hb30)
        have R30 := Lib.hid (R29.out.on hb30)
        have X30 := Lib.hid (X29.out.on hb30)
        have E30 := Lib.hid (E29.out.on hb30)
        have G30 := Lib.hid (G29.out.on hb30)
        have V30 := Lib.hid (hn')
        clear hb30 B29 Z29 R29 X29 E29 G29 hn'
        go_wp2_with fail
        refine (HW1.out _ Z30.out).mono ?_
        rintro e w31 ⟨⟨a22, ca22, rfl, hn'⟩, hb31⟩
        have B31 := Lib.hid (B30.out.trans (hb31.mono B30.out.size))
        have Z31 := Lib.hid (Z30.out.on hb31)
        have R31 := Lib.hid (R30.out.on hb31)
        have X31 := Lib.hid (X30.out.on hb31)
        have E31 := Lib.hid (E30.out.on hb31)
        have G31 := Lib.hid (G30.out.on hb31)
        have V31 := Lib.hid (V30.out.on hb31)
        have VV31 := Lib.hid (hn')
        clear hb31 B30 Z30 R30 X30 E30 G30 V30 hn'
        go_wp2_with fail
        refine (HWF.out (by trivial) _ _ _ VV31.out).mono ?_
        rintro e w32 ⟨⟨a23, ca23, rfl, hn'⟩, hb32⟩
        have B32 := Lib.hid (B31.out.trans (hb32.mono B31.out.size))
        have Z32 := Lib.hid (Z31.out.on hb32)
        have R32 := Lib.hid (R31.out.on hb32)
        have X32 := Lib.hid (X31.out.on hb32)
        have E32 := Lib.hid (E31.out.on hb32)
        have G32 := Lib.hid (G31.out.on hb32)
        have V32 := Lib.hid (V31.out.on hb32)
        have U32 := Lib.hid (hn')
        clear hb32 B31 Z31 R31 X31 E31 G31 V31 VV31 hn'
        go_wp2_with fail
        refine (HWA.out (by trivial) _ Z32.out).mono ?_
        rintro e w33 ⟨⟨a24, ca24, rfl, hn'⟩, hb33⟩
        have B33 := Lib.hid (B32.out.trans (hb33.mono B32.out.size))
        have Z33 := Lib.hid (Z32.out.on hb33)
        have R33 := Lib.hid (R32.out.on hb33)
        have X33 := Lib.hid (X32.out.on hb33)
        have E33 := Lib.hid (E32.out.on hb33)
        have G33 := Lib.hid (G32.out.on hb33)
        have V33 := Lib.hid (V32.out.on hb33)
        have U33 := Lib.hid (U32.out.on hb33)
        have N33 := Lib.hid (hn')
        clear hb33 B32 Z32 R32 X32 E32 G32 V32 U32 hn'
        have hld : (wl (down m)).length = m := by rw [wl_length, down_len]
        have HDN : Hid (∀ i, i < m → (wl (down m)).getD i 0 = (m : Int) - 1 - (i : Int)) := Lib.hid (fun i hi => by
          have := zc_wl (down m) i
          rw [down_getD hi] at this
          have e : Value.int .i64 ((wl (down m)).getD i 0) = Value.int .i64 ((m - 1 - i : Nat) : Int) := this
          injection e with _ e
          omega)
        generalize wl (down m) = dn at N33 hld HDN ⊢
        have HLD := Lib.hid hld
        go_wp2_with fail
        go_loopw [39] (fun x wr => ∃ i : Nat, i ≤ m ∧ x = .int .i64 i ∧ wr = w33) (fun x _ => m - (intOf x).toNat)
        case atStart => exact ⟨0, Nat.zero_le _, rfl, rfl⟩
        case round =>
          obtain ⟨i, hi, rfl, rfl⟩ := hrel
          by_cases hlt : i < m
          · obtain ⟨bz, rfl, y0⟩ := N33.out.get (i := i) (by omega)
            rw [HDN.out i hlt] at y0
            have v1 : IntKind.i64.wrap ((m : Int) - 1) = (m : Int) - 1 := IntWalk.i64_in _ (by omega)
            have v2 : IntKind.i64.wrap ((m : Int) - 1 - (i : Int)) = (m : Int) - 1 - (i : Int) := IntWalk.i64_in _ (by omega)
            have b1 : (((m : Int) - 1 - (i : Int)) != ((m : Int) - 1 - (i : Int))) = false := by simp
            go_wp2
            exact ⟨⟨i + 1, by omega, by go_num, by trivial⟩, by simp only [intOf]; omega⟩
          · obtain rfl : i = m := by omega
            go_wp2_with fail
            refine (SZ.out _ _ _ _ _ V33.out Z33.out).mono ?_
            rintro e w34 ⟨rfl, hb34⟩
            have B34 := Lib.hid (B33.out.trans (hb34.mono B33.out.size))
            have Z34 := Lib.hid (Z33.out.on hb34)
            have R34 := Lib.hid (R33.out.on hb34)
            have X34 := Lib.hid (X33.out.on hb34)
            have E34 := Lib.hid (E33.out.on hb34)
            have G34 := Lib.hid (G33.out.on hb34)
            have V34 := Lib.hid (V33.out.on hb34)
            have U34 := Lib.hid (U33.out.on hb34)
            have N34 := Lib.hid (N33.out.on hb34)
            clear hb34 B33 Z33 R33 X33 E33 G33 V33 U33 N33
            go_wp2_with fail
            refine (SZ.out _ _ _ _ _ U34.out Z34.out).mono ?_
            rintro e w35 ⟨rfl, hb35⟩
            have B35 := Lib.hid (B34.out.trans (hb35.mono B34.out.size))
            have Z35 := Lib.hid (Z34.out.on hb35)
            have R35 := Lib.hid (R34.out.on hb35)
            have X35 := Lib.hid (X34.out.on hb35)
            have E35 := Lib.hid (E34.out.on hb35)
            have G35 := Lib.hid (G34.out.on hb35)
            have V35 := Lib.hid (V34.out.on hb35)
            have U35 := Lib.hid (U34.out.on hb35)
            have N35 := Lib.hid (N34.out.on hb35)
            clear hb35 B34 Z34 R34 X34 E34 G34 V34 U34 N34
            go_wp2_with fail
            refine (HIT.out (by trivial) _ _ _ E35.out).mono ?_
            rintro e w36 ⟨rfl, hb36⟩
            have B36 := Lib.hid (B35.out.trans (hb36.mono B35.out.size))
            have Z36 := Lib.hid (Z35.out.on hb36)
            have R36 := Lib.hid (R35.out.on hb36)
            have X36 := Lib.hid (X35.out.on hb36)
            have E36 := Lib.hid (E35.out.on hb36)
            have G36 := Lib.hid (G35.out.on hb36)
            have V36 := Lib.hid (V35.out.on hb36)
            have U36 := Lib.hid (U35.out.on hb36)
            have N36 := Lib.hid (N35.out.on hb36)
            clear hb36 B35 Z35 R35 X35 E35 G35 V35 U35 N35
            go_wp2_with fail
            refine (HIF.out (by trivial) _ _ _ G36.out).mono ?_
            rintro e w37 ⟨rfl, hb37⟩
            have B37 := Lib.hid (B36.out.trans (hb37.mono B36.out.size))
            have Z37 := Lib.hid (Z36.out.on hb37)
            have R37 := Lib.hid (R36.out.on hb37)
            have X37 := Lib.hid (X36.out.on hb37)
            have E37 := Lib.hid (E36.out.on hb37)
            have G37 := Lib.hid (G36.out.on hb37)
            have V37 := Lib.hid (V36.out.on hb37)
            have U37 := Lib.hid (U36.out.on hb37)
            have N37 := Lib.hid (N36.out.on hb37)
            clear hb37 B36 Z36 R36 X36 E36 G36 V36 U36 N36
            go_wp2
            go_ret
            exact ⟨rfl, B37.out⟩
      · as_aux_lemma =>
        go_wp2_with fail
        refine (HOK.out (by trivial) _ _ _ X29.out).mono ?_
        rintro e w30 ⟨⟨a20, ca20, rfl, hn'⟩, hb30⟩
        have B30 := Lib.hid (B29.out.trans (hb30.mono B29.out.size))
        have Z30 := Lib.hid (Z29.out.on hb30)
        have R30 := Lib.hid (R29.out.on hb30)
        have X30 := Lib.hid (X29.out.on hb30)
        have E30 := Lib.hid (E29.out.on hb30)
        have G30 := Lib.hid (G29.out.on hb30)
        have V30 := Lib.hid (hn')
        clear hb30 B29 Z29 R29 X29 E29 G29 hn'
        go_wp2_with fail
        refine (SR.out _ _ _ _ _ V30.out R30.out).mono ?_
        rintro e w31 ⟨rfl, hb31⟩
        have B31 := Lib.hid (B30.out.trans (hb31.mono B30.out.size))
        have Z31 := Lib.hid (Z30.out.on hb31)
        have R31 := Lib.hid (R30.out.on hb31)
        have X31 := Lib.hid (X30.out.on hb31)
        have E31 := Lib.hid (E30.out.on hb31)
        have G31 := Lib.hid (G30.out.on hb31)
        clear hb31 B30 Z30 R30 X30 E30 G30 V30
        go_wp2_with fail
        refine (HFF.out (by trivial) _ _ _ G31.out).mono ?_
        rintro e w32 ⟨⟨a21, ca21, rfl, hn'⟩, hb32⟩
        have B32 := Lib.hid (B31.out.trans (hb32.mono B31.out.size))
        have Z32 := Lib.hid (Z31.out.on hb32)
        have R32 := Lib.hid (R31.out.on hb32)
        have X32 := Lib.hid (X31.out.on hb32)
        have E32 := Lib.hid (E31.out.on hb32)
        have G32 := Lib.hid (G31.out.on hb32)
        have V32 := Lib.hid (hn')
        clear hb32 B31 Z31 R31 X31 E31 G31 hn'
        go_wp2_with fail
        refine (HW1.out _ Z32.out).mono ?_
        rintro e w33 ⟨⟨a22, ca22, rfl, hn'⟩, hb33⟩
        have B33 := Lib.hid (B32.out.trans (hb33.mono B32.out.size))
        have Z33 := Lib.hid (Z32.out.on hb33)
        have R33 := Lib.hid (R32.out.on hb33)
        have X33 := Lib.hid (X32.out.on hb33)
        have E33 := Lib.hid (E32.out.on hb33)
        have G33 := Lib.hid (G32.out.on hb33)
        have V33 := Lib.hid (V32.out.on hb33)
        have VV33 := Lib.hid (hn')
        clear hb33 B32 Z32 R32 X32 E32 G32 V32 hn'
        go_wp2_with fail
        refine (HWF.out (by trivial) _ _ _ VV33.out).mono ?_
        rintro e w34 ⟨⟨a23, ca23, rfl, hn'⟩, hb34⟩
        have B34 := Lib.hid (B33.out.trans (hb34.mono B33.out.size))
        have Z34 := Lib.hid (Z33.out.on hb34)
        have R34 := Lib.hid (R33.out.on hb34)
        have X34 := Lib.hid (X33.out.on hb34)
        have E34 := Lib.hid (E33.out.on hb34)
        have G34 := Lib.hid (G33.out.on hb34)
        have V34 := Lib.hid (V33.out.on hb34)
        have U34 := Lib.hid (hn')
        clear hb34 B33 Z33 R33 X33 E33 G33 V33 VV33 hn'
        go_wp2_with fail
        refine (HWA.out (by trivial) _ Z34.out).mono ?_
        rintro e w35 ⟨⟨a24, ca24, rfl, hn'⟩, hb35⟩
        have B35 := Lib.hid (B34.out.trans (hb35.mono B34.out.size))
        have Z35 := Lib.hid (Z34.out.on hb35)
        have R35 := Lib.hid (R34.out.on hb35)
        have X35 := Lib.hid (X34.out.on hb35)
        have E35 := Lib.hid (E34.out.on hb35)
        have G35 := Lib.hid (G34.out.on hb35)
        have V35 := Lib.hid (V34.out.on hb35)
        have U35 := Lib.hid (U34.out.on hb35)
        have N35 := Lib.hid (hn')
        clear hb35 B34 Z34 R34 X34 E34 G34 V34 U34 hn'
        have hld : (wl (down m)).length = m := by rw [wl_length, down_len]
        have HDN : Hid (∀ i, i < m → (wl (down m)).getD i 0 = (m : Int) - 1 - (i : Int)) := Lib.hid (fun i hi => by
          have := zc_wl (down m) i
          rw [down_getD hi] at this
          have e : Value.int .i64 ((wl (down m)).getD i 0) = Value.int .i64 ((m - 1 - i : Nat) : Int) := this
          injection e with _ e
          omega)
        generalize wl (down m) = dn at N35 hld HDN ⊢
        have HLD := Lib.hid hld
        go_wp2_with fail
        go_loopw [39] (fun x wr => ∃ i : Nat, i ≤ m ∧ x = .int .i64 i ∧ wr = w35) (fun x _ => m - (intOf x).toNat)
        case atStart => exact ⟨0, Nat.zero_le _, rfl, rfl⟩
        case round =>
          obtain ⟨i, hi, rfl, rfl⟩ := hrel
          by_cases hlt : i < m
          · obtain ⟨bz, rfl, y0⟩ := N35.out.get (i := i) (by omega)
            rw [HDN.out i hlt] at y0
            have v1 : IntKind.i64.wrap ((m : Int) - 1) = (m : Int) - 1 := IntWalk.i64_in _ (by omega)
            have v2 : IntKind.i64.wrap ((m : Int) - 1 - (i : Int)) = (m : Int) - 1 - (i : Int) := IntWalk.i64_in _ (by omega)
            have b1 : (((m : Int) - 1 - (i : Int)) != ((m : Int) - 1 - (i : Int))) = false := by simp
            go_wp2
            exact ⟨⟨i + 1, by omega, by go_num, by trivial⟩, by simp only [intOf]; omega⟩
          · obtain rfl : i = m := by omega
            go_wp2_with fail
            refine (SZ.out _ _ _ _ _ V35.out Z35.out).mono ?_
            rintro e w36 ⟨rfl, hb36⟩
            have B36 := Lib.hid (B35.out.trans (hb36.mono B35.out.size))
            have Z36 := Lib.hid (Z35.out.on hb36)
            have R36 := Lib.hid (R35.out.on hb36)
            have X36 := Lib.hid (X35.out.on hb36)
            have E36 := Lib.hid (E35.out.on hb36)
            have G36 := Lib.hid (G35.out.on hb36)
            have V36 := Lib.hid (V35.out.on hb36)
            have U36 := Lib.hid (U35.out.on hb36)
            have N36 := Lib.hid (N35.out.on hb36)
            clear hb36 B35 Z35 R35 X35 E35 G35 V35 U35 N35
            go_wp2_with fail
            refine (SZ.out _ _ _ _ _ U36.out Z36.out).mono ?_
            rintro e w37 ⟨rfl, hb37⟩
            have B37 := Lib.hid (B36.out.trans (hb37.mono B36.out.size))
            have Z37 := Lib.hid (Z36.out.on hb37)
            have R37 := Lib.hid (R36.out.on hb37)
            have X37 := Lib.hid (X36.out.on hb37)
            have E37 := Lib.hid (E36.out.on hb37)
            have G37 := Lib.hid (G36.out.on hb37)
            have V37 := Lib.hid (V36.out.on hb37)
            have U37 := Lib.hid (U36.out.on hb37)
            have N37 := Lib.hid (N36.out.on hb37)
            clear hb37 B36 Z36 R36 X36 E36 G36 V36 U36 N36
            go_wp2_with fail
            refine (HIT.out (by trivial) _ _ _ E37.out).mono ?_
            rintro e w38 ⟨rfl, hb38⟩
            have B38 := Lib.hid (B37.out.trans (hb38.mono B37.out.size))
            have Z38 := Lib.hid (Z37.out.on hb38)
            have R38 := Lib.hid (R37.out.on hb38)
            have X38 := Lib.hid (X37.out.on hb38)
            have E38 := Lib.hid (E37.out.on hb38)
            have G38 := Lib.hid (G37.out.on hb38)
            have V38 := Lib.hid (V37.out.on hb38)
            have U38 := Lib.hid (U37.out.on hb38)
            have N38 := Lib.hid (N37.out.on hb38)
            clear hb38 B37 Z37 R37 X37 E37 G37 V37 U37 N37
            go_wp2_with fail
            refine (HIF.out (by trivial) _ _ _ G38.out).mono ?_
            rintro e w39 ⟨rfl, hb39⟩
            have B39 := Lib.hid (B38.out.trans (hb39.mono B38.out.size))
            have Z39 := Lib.hid (Z38.out.on hb39)
            have R39 := Lib.hid (R38.out.on hb39)
            have X39 := Lib.hid (X38.out.on hb39)
            have E39 := Lib.hid (E38.out.on hb39)
            have G39 := Lib.hid (G38.out.on hb39)
            have V39 := Lib.hid (V38.out.on hb39)
            have U39 := Lib.hid (U38.out.on hb39)
            have N39 := Lib.hid (N38.out.on hb39)
            clear hb39 B38 Z38 R38 X38 E38 G38 V38 U38 N38
            go_wp2
            go_ret
            exact ⟨rfl, B39.out⟩
end Go.Proofs.YtfpbehnpaedpmaaDoor.Sg
