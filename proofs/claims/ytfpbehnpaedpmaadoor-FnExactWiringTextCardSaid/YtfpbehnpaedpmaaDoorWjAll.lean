/- Wirings, as impl tells them: all orders of the wires, and IsWiring. -/
import Derived.Test.YtfpbehnpaedpmaaDoorWjEx
import Derived.Test.YtfpbehnpaedpmaaDoorNewII
import Derived.WalkLawsBesides
namespace Go.Proofs.YtfpbehnpaedpmaaDoor.Sg
open Go.RowKit Pt NewI NewII Wi
/-- The order of the wires after k exchanges. -/
def ordW (n : Nat) (zs : List Int) (k : Nat) : List Nat := (goZ (List.range n) (zs.take k)).getD []
/-- The orders up to there. -/
def ordS (n : Nat) (zs : List Int) (k : Nat) : List (List Int) := (List.range (k + 1)).map fun j => wl (ordW n zs j)
theorem ordS_len (n : Nat) (zs : List Int) (k : Nat) : (ordS n zs k).length = k + 1 := by unfold ordS; rw [List.length_map, List.length_range]
theorem ordS_zero (n : Nat) (zs : List Int) : ordS n zs 0 = [wl (List.range n)] := rfl
theorem ordS_step {n : Nat} {zs : List Int} {k : Nat} {M : List Nat} (h : goZ (List.range n) (zs.take (k + 1)) = some M) : ordS n zs (k + 1) = ordS n zs k ++ [wl M] := by
  unfold ordS
  rw [List.range_succ, List.map_append, List.map_singleton]
  unfold ordW
  rw [h]
  rfl
theorem ordS_get {n : Nat} {zs : List Int} {k j : Nat} (hj : j ≤ k) : (ordS n zs k).getD j [] = wl (ordW n zs j) := by
  unfold ordS
  rw [List.getD_eq_getElem?_getD, List.getElem?_map, List.getElem?_range (by omega)]
  rfl
theorem ordW_some {n : Nat} {zs : List Int} (h : goZ (List.range n) zs ≠ none) (k : Nat) : goZ (List.range n) (zs.take k) = some (ordW n zs k) := by
  obtain ⟨M, hM⟩ := goZ_take h k
  unfold ordW
  rw [hM]; rfl
theorem ordW_len {n : Nat} {zs : List Int} (h : goZ (List.range n) zs ≠ none) (k : Nat) : (ordW n zs k).length = n := by
  rw [goZ_act (ordW_some h k), act_len, List.length_range]
/-- What wireOrders hands back. -/
def Ords (B : Nat) (ok : Bool) (xss : List (List Int)) (e : Ending) (w' : World) : Prop :=
  (ok = false ∧ e = .returned (.slice none 0 0)) ∨ (ok = true ∧ ∃ b c gs, e = .returned (.slice (some ⟨b, 0, none⟩) xss.length c) ∧ NewII.Rows w' B w'.heap.size b gs xss (org xss))
theorem own_one {w : World} {B g m : Nat} {L : List Nat} (hB : B ≤ g) (hBw : B ≤ w.heap.size) (hL : L.length = m) (h : RwN w g m L) :
    OwnL (w.alloc (.cells #[.slice (some ⟨g, 0, none⟩) m m] 24)) B (w.heap.size + 1) (.slice (some ⟨w.heap.size, 0, none⟩) 1 1) [wl L] := by
  have hwl : (wl L).length = m := by rw [wl_length, hL]
  refine ⟨[(g, m)], rfl, ?_, fun j g' hj => ?_, fun i j g1 g2 hi hj hij => ?_⟩
  · show World.ownsRow _ B _ 1 _ 1 [rowV (g, m) (wl L).length]
    rw [hwl]
    exact ⟨rfl, .inr ⟨w.heap.size, 1, #[.slice (some ⟨g, 0, none⟩) m m], rfl, hBw, heap_made w _, Nat.le_refl _, by decide, rfl, rfl⟩⟩
  · rcases j with _ | j
    · simp only [List.getElem?_cons_zero, Option.some.injEq] at hj
      subst hj
      have h2 : RwN (w.alloc (.cells #[.slice (some ⟨g, 0, none⟩) m m] 24)) g m L := h.on ((Below.refl _ _).alloc (Nat.le_refl _) _)
      have hlt := h.lt
      refine ⟨hB, by show g < _; omega, h2.int, ?_⟩
      show Cells _ g (wl L).length (zc (wl L))
      rw [hwl]
      exact h2.cells
    · simp at hj
  · rcases i with _ | i
    · rcases j with _ | j
      · omega
      · simp at hj
    · simp at hi
set_option maxHeartbeats 6400000 in
set_option maxRecDepth 100000 in
theorem orders_core (m : Nat) (h2 : 3 ≤ m) (h6 : m ≤ 6) (a : Option Addr) (c : Nat) (zs : List Int) (hlen : zs.length = m * (m - 1) / 2) (W : World) (hs : SrcZ W W.heap.size a zs) :
    Calls Tryd.prog 35 #[.int .i64 m, .slice a zs.length c] W fun e w' => Ords W.heap.size (goZ (List.range m) zs).isSome (ordS m zs zs.length) e w' ∧ Below W.heap.size W w' := by
  obtain ⟨i0, hi, hz0, hz1, hz2⟩ := info_parts infoW
  have hl15 : zs.length ≤ 15 := by
    rw [hlen]
    have : ∀ m, m < 7 → m * (m - 1) / 2 ≤ 15 := by decide
    exact this m (by omega)
  have HHA : Hid (∀ W, Calls Tryd.prog 41 #[.int .i64 m, .int .i64 zs.length] W fun r w' => r = .returned (.bool true) ∧ W = w') := Lib.hid (fun W => by
    have := hasAll_any (m : Int) (zs.length : Int) W
    have e : hasB (m : Int) (zs.length : Int) = true := by
      unfold hasB
      have hin : inB (m : Int) 3 6 = true := by simp only [inB, decide_eq_true_eq]; omega
      rw [hin, Int.toNat_natCast, hlen]
      simp
    rwa [e] at this)
  have HFO := Lib.hid (fun W => firstOrder_any m (by omega) W)
  have HEX := Lib.hid (fun b c L p hL hnd W h => exchange_any b m c L p hL (by omega) hnd W h)
  have HSRC := Lib.hid (fun W2 (hW : Below W.heap.size W W2) => hs.on hW)
  have HB0 := Lib.hid (Below.refl W.heap.size W)
  obtain ⟨rb, hrb⟩ : ∃ rb : Bool, rb = (goZ (List.range m) zs).isSome := ⟨_, rfl⟩
  rw [← hrb]
  have HRB := Lib.hid hrb
  have HS0 := Lib.hid (ordS_zero m zs)
  have HSS := Lib.hid (fun k M (h : goZ (List.range m) (zs.take (k + 1)) = some M) => ordS_step h)
  have HSL := Lib.hid (ordS_len m zs)
  generalize ordS m zs = S at HS0 HSS HSL ⊢
  clear hs hrb hlen
  go_enter Tryd.func35, Tryd.ntmps35
  go_wp2_with fail
  refine (HHA.out _).mono ?_
  rintro e w' ⟨rfl, rfl⟩
  go_wp2_with fail
  refine (HFO.out _).mono ?_
  rintro e w1 ⟨rfl, hr1, hb1⟩
  have HB1 : Hid (Below W.heap.size W (w1.alloc (.cells #[.slice (some ⟨W.heap.size, 0, none⟩) m m] 24))) := Lib.hid (hb1.alloc hb1.size _)
  have HR1 : Hid (RwN (w1.alloc (.cells #[.slice (some ⟨W.heap.size, 0, none⟩) m m] 24)) W.heap.size m (List.range m)) := Lib.hid (hr1.on ((Below.refl _ _).alloc (Nat.le_refl _) _))
  have HO1 : Hid (OwnL (w1.alloc (.cells #[.slice (some ⟨W.heap.size, 0, none⟩) m m] 24)) W.heap.size (w1.heap.size + 1) (.slice (some ⟨w1.heap.size, 0, none⟩) 1 1) (S 0)) := Lib.hid (by rw [HS0.out]; exact own_one (Nat.le_refl _) hb1.size List.length_range hr1)
  have hw1 := hr1.lt
  clear hr1 hb1 HHA HFO
  go_wp2
  go_loopw [5, 6, 22] (fun ov vv x wr => ∃ (k : Nat) (L : List Nat) (g : Nat), k ≤ zs.length ∧ x = .int .i64 k ∧ ov = .slice (some ⟨g, 0, none⟩) m m ∧ goZ (List.range m) (zs.take k) = some L ∧ L.Nodup ∧ L.length = m ∧ Hid (RwN wr g m L) ∧ Hid (OwnL wr W.heap.size wr.heap.size vv (S k)) ∧ Hid (Below W.heap.size W wr)) (fun _ _ x _ => zs.length - (intOf x).toNat)
  case atStart => exact ⟨0, List.range m, _, Nat.zero_le _, rfl, rfl, rfl, List.nodup_range, List.length_range, HR1, Lib.hid HO1.out.top, HB1⟩
  case round =>
    obtain ⟨k, L, g, hk, rfl, rfl, hgo, hnd, hlL, HR, HO, HB⟩ := hrel
    by_cases hlt : k < zs.length
    · obtain ⟨b, o, rfl, hbb, hcz⟩ := HSRC.out _ HB.out k hlt
      obtain ⟨g1, g2⟩ := goZ_step hlt hgo
      have HG1 := Lib.hid g1
      have HG2 := Lib.hid g2
      clear g1 g2 hgo
      generalize zs.getD k 0 = z at hcz HG1 HG2
      go_wp2_with fail
      refine (HEX.out g m L z hlL hnd _ HR.out).mono ?_
      rintro e w2 ⟨⟨hsw, g2, rfl, hge, hr2⟩ | ⟨hsw, rfl⟩, hb2⟩
      · have HG3 := Lib.hid (HG1.out hsw)
        have hnd2 := swD_nodup hnd z
        have hlL2 : (swD L z).length = m := by rw [swD_len, hlL]
        have HSK := Lib.hid (HSS.out k _ HG3.out)
        have hwl2 : (wl (swD L z)).length = m := by rw [wl_length, hlL2]
        have hSk := HSL.out k
        have HO2 := Lib.hid (HO.out.on hb2)
        have HB2 := Lib.hid (HB.out.trans (hb2.mono HB.out.size))
        obtain ⟨Lv, hLv⟩ := HO2.out.row
        have HLV := Lib.hid hLv
        have hs2 := hb2.size
        have hwz := HB.out.size
        have HR2 := Lib.hid hr2
        generalize swD L z = M at HG3 hnd2 hlL2 HSK hwl2 HR2
        clear hr2 hb2 HG1 HG2 HR HO HB hLv hcz
        have HOP := Lib.hid (HO2.out.on ((Below.refl _ _).alloc (Nat.le_refl _) (.cells #[.slice (some ⟨g2, 0, none⟩) m m] 24)))
        have HRP := Lib.hid (HR2.out.on ((Below.refl _ _).alloc (Nat.le_refl _) (.cells #[.slice (some ⟨g2, 0, none⟩) m m] 24)))
        have hg2 := HR2.out.lt
        go_wp2_with (at_builtin; refine wpList_append_own _ rfl (.tmp 34) (.tmp 36) 30 rfl W.heap.size 24 i0 _ 1 24 Tryd.underlying30 hi hz0 hz1 hz2 rfl (by decide) _ _ _ rfl (World.ownsRow.alloc HLV.out _) ⟨_, 0, none⟩ 1 1 [.slice (some ⟨g2, 0, none⟩) m m] rfl rfl (newsW _ _ _) (oneW _ _ _) (by simp only [maxLen]; omega) (by omega) (by simp; omega) ?_)
        intro v6 w6 hown6 hg6 _
        have HB6 := Lib.hid ((HB2.out.alloc HB2.out.size (.cells #[.slice (some ⟨g2, 0, none⟩) m m] 24)).grown hg6 (by simp; omega) (fun q hq => (World.ownsRow.lt HLV.out q hq).1))
        have HO6 : Hid (OwnL w6 W.heap.size w6.heap.size v6 (S (k + 1))) := Lib.hid (by
          rw [HSK.out]
          refine (OwnL.snoc (g := (g2, m)) (zs := wl M) HOP.out (by show W.heap.size ≤ g2; omega) (by show wr.heap.size ≤ g2; omega) HRP.out.int (by rw [hwl2]; exact HRP.out.cells) hg6 (World.ownsRow.alloc HLV.out _) (by rw [hwl2, hSk]; exact hown6)).top)
        have HR6 : Hid (RwN w6 g2 m M) := Lib.hid (World.rowIs.of_block HRP.out (hg6.block g2 (by simp; omega) (fun e => by
          obtain ⟨cs, hcs⟩ := HRP.out.int
          exact Sg.own_box (World.ownsRow.alloc HLV.out _) hcs (by decide) e)))
        clear hown6 hg6
        go_wp2
        exact ⟨⟨k + 1, M, g2, by omega, by go_num, rfl, HG3.out, hnd2, hlL2, HR6, HO6, HB6⟩, by simp only [intOf]; omega⟩
      · obtain rfl : rb = false := by rw [HRB.out, HG2.out hsw]; rfl
        have HB2 := Lib.hid (HB.out.trans (hb2.mono HB.out.size))
        clear HG1 HG2 hb2
        go_wp2
        go_ret
        exact ⟨.inl ⟨rfl, rfl⟩, HB2.out⟩
    · obtain rfl : k = zs.length := by omega
      rw [List.take_length] at hgo
      obtain rfl : rb = true := by rw [HRB.out, hgo]; rfl
      obtain ⟨ra, rc, rfl, hli⟩ := Lists.of_own HO.out
      have hne : S zs.length ≠ [] := fun e => by have := HSL.out zs.length; rw [e] at this; simp at this
      obtain ⟨rb2, gs, rfl, hrow⟩ := hli.resolve_left hne
      have HRW := Lib.hid hrow
      clear hli hrow hgo HO
      go_wp2
      go_ret
      exact ⟨.inr ⟨rfl, rb2, rc, gs, rfl, HRW.out⟩, HB.out⟩
theorem wiB_parts (n : Int) (zs : List Int) : wiB n zs = (hasB n (zs.length : Int) && (goZ (List.range n.toNat) zs).isSome) := by
  unfold wiB hasB
  congr 2
  rw [decide_eq_decide]
  omega
set_option maxHeartbeats 800000 in
set_option maxRecDepth 100000 in
theorem orders_not (n : Int) (a : Option Addr) (c : Nat) (zs : List Int) (_hl : zs.length ≤ 1048576) (hh : hasB n (zs.length : Int) = false) (W : World) :
    Calls Tryd.prog 35 #[.int .i64 n, .slice a zs.length c] W fun e w' => e = .returned (.slice none 0 0) ∧ W = w' := by
  have HHA := Lib.hid (fun W => hasAll_any n (zs.length : Int) W)
  rw [hh] at HHA
  clear hh
  go_enter Tryd.func35, Tryd.ntmps35
  go_wp2_with fail
  refine (HHA.out _).mono ?_
  rintro e w' ⟨rfl, rfl⟩
  go_wp2
  go_ret
  exact ⟨rfl, rfl⟩
theorem orders_any (n : Int) (a : Option Addr) (c : Nat) (zs : List Int) (hl : zs.length ≤ 1048576) (W : World) (hs : SrcZ W W.heap.size a zs) :
    Calls Tryd.prog 35 #[.int .i64 n, .slice a zs.length c] W fun e w' => Ords W.heap.size (wiB n zs) (ordS n.toNat zs zs.length) e w' ∧ Below W.heap.size W w' := by
  rw [wiB_parts]
  cases hh : hasB n (zs.length : Int)
  · exact (orders_not n a c zs hl hh W).mono fun e w' ⟨he, hw⟩ => ⟨.inl ⟨rfl, he⟩, by subst hw; exact Below.refl _ _⟩
  · rw [Bool.true_and]
    unfold hasB at hh
    rw [Bool.and_eq_true, decide_eq_true_eq] at hh
    obtain ⟨h3, h6⟩ := inB_mem hh.1
    obtain ⟨m, rfl⟩ : ∃ m : Nat, n = m := ⟨n.toNat, by omega⟩
    rw [Int.toNat_natCast] at hh ⊢
    exact orders_core m (by omega) (by omega) a c zs (by omega) W hs
set_option maxHeartbeats 800000 in
set_option maxRecDepth 100000 in
theorem implIsWiring (n : Int) (a : Option Addr) (c : Nat) (zs : List Int) (hl : zs.length ≤ 1048576) (W : World) (hs : SrcZ W W.heap.size a zs) :
    Calls Tryd.prog 8 #[.int .i64 n, .slice a zs.length c] W fun e w' => e = .returned (.bool (wiB n zs)) ∧ Below W.heap.size W w' := by
  have HO := Lib.hid (orders_any n a c zs hl W hs)
  generalize wiB n zs = q at HO ⊢
  generalize ordS n.toNat zs zs.length = S at HO
  clear hs
  go_enter Tryd.func8, Tryd.ntmps8
  go_wp2_with fail
  refine HO.out.mono ?_
  rintro e w1 ⟨⟨rfl, rfl⟩ | ⟨rfl, rb, rc, gs, rfl, -⟩, hb1⟩
  · go_wp2
    go_ret
    exact ⟨rfl, hb1⟩
  · go_wp2
    go_ret
    exact ⟨rfl, hb1⟩
end Go.Proofs.YtfpbehnpaedpmaaDoor.Sg
