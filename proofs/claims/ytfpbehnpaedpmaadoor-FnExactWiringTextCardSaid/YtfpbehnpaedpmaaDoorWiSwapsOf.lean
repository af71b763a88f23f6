/- Spec's l12Swaps and SwapsOf. -/
import Derived.Test.YtfpbehnpaedpmaaDoorMgWd
import Derived.Test.YtfpbehnpaedpmaaDoorMgWb
import Derived.Test.YtfpbehnpaedpmaaDoorWiRows
import Derived.Deep.RegionLaw
import Derived.BigRegion
namespace Go.Proofs.YtfpbehnpaedpmaaDoor.Sg
open Go.RowKit Pt NewI NewII Wi
/-- Append to a slice, empty or not, at a step of a region that draws its order. -/
theorem step_appW {P : Program} (w : World) {ops : Array Oper} {o : Oper} {a : Act} {K : Act → World → Prop} {Q : Exit → Act → World → Prop} {E : Prop} (hgd : o.guard = none) (s x : Operand) (t : TypeId)
    (ho : o.op = .call { callee := .builtin .append, args := #[s, x], argTypes := #[t, t] })
    (base : Nat) (e : TypeId) (i : TypeInfo) (z : Value) (size bytes : Nat) (ht : P.underlying t = some (.slice e)) (hi : P.info? e = some i) (hz : i.zero = some z)
    (hsize : i.size = size) (hby : i.bytes = bytes) (hzs : z.cells.size = size) (hsz : 0 < size)
    (v : Value) (n : Nat) (xs : List Value) (hs : a.eval s = v) (hown : w.ownsRow base e size v n xs)
    (ad : Addr) (m c : Nat) (news : List Value) (hx : a.eval x = .slice (some ad) m c) (hl : news.length = m * size) (hnews : ∀ j u, news[j]? = some u → w.cell? (ad.add j) = some u) (h1 : ∀ u ∈ news, u.oneCell' = true)
    (h63 : n + m ≤ maxLen) (hbytes : (n + m) * bytes ≤ 140737488355328) (hbase : base ≤ w.heap.size)
    (h : ∀ v' w', w'.ownsRow base e size v' (n + m) (xs ++ news) → w.grownBy w' v.ownBlock → (v' = .slice none 0 0 ↔ v = .slice none 0 0 ∧ m = 0) → K (a.put o.dst v') w') :
    if Region.wanted o (yielded ops a.tmps) = true then Oper.wp P o a w K Q else E := by
  have hw : Region.wanted o (yielded ops a.tmps) = true := by simp [Region.wanted, hgd]
  rw [if_pos hw]
  exact wp_append_own w s x t ho base e i z size bytes ht hi hz hsize hby hzs hsz v n xs hs hown ad m c news hx hl hnews h1 h63 hbytes hbase h
theorem infoW : (Tryd.prog.info? 24).map (fun i => (i.zero, i.size, i.bytes)) = some (some (.slice none 0 0), 1, 24) := by kernel_rfl
theorem newsW (w : World) (v : Value) (t : TypeId) : ∀ (j : Nat) u, [v][j]? = some u → (w.alloc (.cells #[v] t)).cell? (Addr.add ⟨w.heap.size, 0, none⟩ j) = some u
  | 0, u, h => by
    rw [WideShapes.add_plain, Nat.add_zero, World.cell?_alloc_new]
    simpa using h
  | j + 1, u, h => by simp at h
theorem oneW (a : Option Addr) (n c : Nat) : ∀ u ∈ [Value.slice a n c], u.oneCell' = true := fun u hu => by
  simp only [List.mem_cons, List.not_mem_nil, or_false] at hu
  subst hu; rfl
theorem cells2_made (w : World) (a b : Int) (t : TypeId) : Cells (w.alloc (.cells #[.int .i64 a, .int .i64 b] t)) w.heap.size 2 (zc [a, b]) := by
  refine ⟨fun j hj => ?_, fun j => by go_simp, by simp⟩
  rcases (by omega : j = 0 ∨ j = 1) with rfl | rfl
  · go_simp; rfl
  · go_simp; rfl
theorem swL_snoc (L u : List Nat) (p : Nat) : swL L (u ++ [p]) = swL L u ++ [[((act L u).getD p 0 : Int), ((act L u).getD (p + 1) 0 : Int)]] := by
  induction u generalizing L with
  | nil => rfl
  | cons q u ih =>
    show _ :: swL (swp L q) (u ++ [p]) = _
    rw [ih]
    rfl
theorem goZ_act {L M : List Nat} {zs : List Int} (h : goZ L zs = some M) : M = act L (zs.map Int.toNat) := by
  induction zs generalizing L with
  | nil =>
    simp only [goZ, Option.some.injEq] at h
    exact h.symm
  | cons z zs ih =>
    simp only [goZ] at h
    split at h
    · exact ih h
    · simp at h
theorem ownsZ_int {w : World} {B g n c : Nat} {zs : List Int} (h : OwnsZ w B (.slice (some ⟨g, 0, none⟩) n c) zs) : IntW w g := by
  rcases h.2 with ⟨e1, -⟩ | ⟨g', cap, cur, e1, -, hh, -⟩
  · injection e1 with e1; cases e1
  · injection e1 with e1
    injection e1 with e1
    injection e1 with e1
    subst e1
    exact ⟨_, hh⟩
theorem SrcZ.up {w : World} {B B' : Nat} {a : Option Addr} {zs : List Int} (h : SrcZ w B a zs) (hB : B ≤ B') : SrcZ w B' a zs := fun j hj => by
  obtain ⟨b, o, h1, h2, h3⟩ := h j hj
  exact ⟨b, o, h1, by omega, h3⟩
/-- The pairs of the first k exchanges. -/
def swK (n : Nat) (zs : List Int) (k : Nat) : List (List Int) := swL (List.range n) ((zs.take k).map Int.toNat)
theorem swK_step {n : Nat} {zs : List Int} {k : Nat} {L : List Nat} (hk : k < zs.length) (h : goZ (List.range n) (zs.take k) = some L) : swK n zs (k + 1) = swK n zs k ++ [[(L.getD (zs.getD k 0).toNat 0 : Int), (L.getD ((zs.getD k 0).toNat + 1) 0 : Int)]] := by
  unfold swK
  rw [take_getD hk, List.map_append, List.map_singleton, swL_snoc, ← goZ_act h]
theorem swK_len (n : Nat) (zs : List Int) (k : Nat) : (swK n zs k).length ≤ k := by
  unfold swK
  rw [swL_len, List.length_map, List.length_take]
  omega
theorem swK_all (n : Nat) (zs : List Int) : swK n zs zs.length = swL (List.range n) (zs.map Int.toNat) := by
  unfold swK
  rw [List.take_length]
set_option maxHeartbeats 3200000 in
set_option maxRecDepth 100000 in
theorem l12Swaps_own (m : Nat) (h2 : 2 ≤ m) (h6 : m ≤ 100) (a : Option Addr) (c : Nat) (zs : List Int) (hl : zs.length ≤ 1000) (hgo : goZ (List.range m) zs ≠ none) (w : World) (hs : SrcZ w w.heap.size a zs) :
    Calls Tryd.prog 40 #[.int .i64 m, .slice a zs.length c] w fun e w' => (∃ v' R, e = .returned v' ∧ w.heap.size ≤ R ∧ OwnW w' w.heap.size R w'.heap.size v' (swL (List.range m) (zs.map Int.toNat))) ∧ Below w.heap.size w w' := by
  obtain ⟨i0, hi, hz0, hz1, hz2⟩ := info_parts infoW
  have HST := Lib.hid (fun W => l12Start_any m (by omega) W)
  have HSW := Lib.hid (fun b c L p hm hL W h => l12Swap_int b m c L p hm h2 h6 hL W h)
  have HSRC := Lib.hid (fun W (hW : Below w.heap.size w W) => hs.on hW)
  have HGO := Lib.hid hgo
  have HSP := Lib.hid (fun k L (hk : k < zs.length) h => swK_step (n := m) (zs := zs) (k := k) (L := L) hk h)
  have HSL := Lib.hid (swK_len m zs)
  have HS0 : Hid (swK m zs 0 = []) := Lib.hid rfl
  have HSA := Lib.hid (swK_all m zs)
  rw [← HSA.out]
  generalize swK m zs = S at HSP HSL HS0 ⊢
  obtain ⟨w0, hw0⟩ : ∃ w0, w0 = w.alloc (.cells #[] 24) := ⟨_, rfl⟩
  have B0 : Below w.heap.size w w0 := by rw [hw0]; exact (Below.refl _ _).alloc (Nat.le_refl _) _
  have HO0 : Hid (OwnW w0 w.heap.size w0.heap.size w0.heap.size (.slice (some ⟨w.heap.size, 0, none⟩) 0 0) []) := Lib.hid (by rw [hw0]; exact OwnW.made w w.heap.size _ _ (Nat.le_refl _))
  have hw1 : w.heap.size < w0.heap.size := by rw [hw0]; simp
  have HB0 := Lib.hid B0
  have HW0 := Lib.hid hw0
  clear hs hgo hw0 B0 HSA
  go_enter Tryd.func40, Tryd.ntmps40
  go_wp2_with fail
  rw [← HW0.out]
  refine (HST.out _).mono ?_
  rintro e w1 ⟨⟨v, rfl, hO⟩, hb1⟩
  have hm1 : (wl (List.range m)).length = m := by rw [wl_length, List.length_range]
  have HO1 := Lib.hid (HO0.out.on hb1)
  have HB1 := Lib.hid (HB0.out.trans (hb1.mono HB0.out.size))
  obtain ⟨a1, cw, rfl, hnw, -⟩ := New.of_own hO
  rw [hm1] at hnw ⊢
  rcases hnw with h0 | ⟨bw, rfl, hlo, hhi, hC⟩
  · omega
  have HIW := Lib.hid (ownsZ_int hO)
  have HC1 := Lib.hid hC
  have HO2 : Hid (OwnW w1 w.heap.size (bw + 1) w1.heap.size (.slice (some ⟨w.heap.size, 0, none⟩) 0 0) (S 0)) := Lib.hid (by rw [HS0.out]; exact HO1.out.low.top)
  have hbw : w.heap.size < bw := by omega
  clear hO hb1 hC HST hm1 HO0 HO1 hlo
  go_wp2
  go_loopw [5, 7] (fun vv x wr => ∃ (k : Nat) (L : List Nat), k ≤ zs.length ∧ x = .int .i64 k ∧ goZ (List.range m) (zs.take k) = some L ∧ L.Nodup ∧ L.length = m ∧ Hid (Cells wr bw m (zc (wl L))) ∧ Hid (IntW wr bw) ∧ Hid (OwnW wr w.heap.size (bw + 1) wr.heap.size vv (S k)) ∧ Hid (Below w.heap.size w wr)) (fun _ x _ => zs.length - (intOf x).toNat)
  case atStart => exact ⟨0, List.range m, Nat.zero_le _, rfl, rfl, List.nodup_range, List.length_range, HC1, HIW, HO2, HB1⟩
  case round =>
    obtain ⟨k, L, hk, rfl, hgo, hnd, hlL, HC, HI, HO, HB⟩ := hrel
    by_cases hlt : k < zs.length
    · obtain ⟨b, o, rfl, hbb, hcz⟩ := HSRC.out _ HB.out k hlt
      obtain ⟨hsb, hgo2⟩ := wiB_step HGO.out hlt hgo
      have HG1 : Hid (goZ (List.range m) (zs.take (k + 1)) = some (swD L (zs.getD k 0))) := Lib.hid ((goZ_step hlt hgo).1 hsb)
      have HSk := Lib.hid (HSP.out k L hlt hgo)
      unfold swB at hsb
      have hsb := of_decide_eq_true hsb
      generalize zs.getD k 0 = z at hcz HG1 HSk hsb
      obtain ⟨q, rfl⟩ : ∃ q : Nat, z = q := ⟨z.toNat, by omega⟩
      rw [Int.toNat_natCast] at HSk hsb
      have hq1 : q + 1 < m := by omega
      have hq0 : q < m := by omega
      have c0 := HC.out.cell q (by omega)
      rw [zc_wl] at c0
      have c1 := HC.out.cell (q + 1) hq1
      rw [zc_wl] at c1
      clear hgo hgo2
      go_wp2
      obtain ⟨Lv, hLv⟩ := HO.out.row
      have hSl := HSL.out k
      obtain ⟨x, hx⟩ : ∃ x, x = L.getD q 0 := ⟨_, rfl⟩
      obtain ⟨y, hy⟩ : ∃ y, y = L.getD (q + 1) 0 := ⟨_, rfl⟩
      rw [← hx] at c0 HSk
      rw [← hy] at c1 HSk
      obtain ⟨Q, hQ⟩ : ∃ Q, Q = q + 1 := ⟨_, rfl⟩
      have vq : IntKind.i64.wrap ((q : Int) + 1) = ((Q : Nat) : Int) := by rw [IntWalk.i64_in _ (by omega)]; omega
      have hQm : Q < m := by omega
      rw [← hQ] at c1
      obtain ⟨Wp, hWp⟩ : ∃ Wp, Wp = (wr.alloc (.cells #[.int .i64 (x : Int), .int .i64 (y : Int)] 3)).alloc (.cells #[.slice (some ⟨wr.heap.size, 0, none⟩) 2 2] 24) := ⟨_, rfl⟩
      have hbp : Below wr.heap.size wr Wp := by rw [hWp]; exact ((Below.refl _ _).alloc (Nat.le_refl _) _).alloc (by simp) _
      have hwp : Wp.heap.size = wr.heap.size + 2 := by rw [hWp]; simp
      have hnw : ∀ (j : Nat) u, [Value.slice (some ⟨wr.heap.size, 0, none⟩) 2 2][j]? = some u → Wp.cell? (Addr.add ⟨wr.heap.size + 1, 0, none⟩ j) = some u := by
        rw [hWp]
        have := newsW (wr.alloc (.cells #[.int .i64 (x : Int), .int .i64 (y : Int)] 3)) (.slice (some ⟨wr.heap.size, 0, none⟩) 2 2) 24
        rw [World.size_alloc] at this
        exact this
      have HLP : Hid (Wp.ownsRow w.heap.size 24 1 _ (S k).length Lv) := Lib.hid (by rw [hWp]; exact World.ownsRow.alloc (World.ownsRow.alloc hLv _) _)
      have HNW := Lib.hid hnw
      have HWP := Lib.hid hWp
      have HOP := Lib.hid (HO.out.on hbp)
      have HCP : Hid (Cells Wp wr.heap.size 2 (zc [(x : Int), (y : Int)])) := Lib.hid (by rw [hWp]; exact (cells2_made wr x y 3).on ((Below.refl _ _).alloc (Nat.le_refl _) _))
      have HIP : Hid (∃ cs, Wp.heap[wr.heap.size]? = some (Obj.cells cs 3)) := Lib.hid (by
        rw [hWp]
        refine ⟨#[.int .i64 (x : Int), .int .i64 (y : Int)], ?_⟩
        rw [((Below.refl (wr.alloc (.cells #[.int .i64 (x : Int), .int .i64 (y : Int)] 3)).heap.size _).alloc (Nat.le_refl _) _).block wr.heap.size (by simp)]
        exact heap_made wr _)
      have HCW := Lib.hid (HC.out.on hbp)
      have HIW := Lib.hid (HI.out.on hbp)
      have HBP := Lib.hid (HB.out.trans (hbp.mono HB.out.size))
      have hbl := HC.out.lt
      clear hLv hbp hnw hWp hx hy hQ hq1 hsb
      go_region_law (refine step_appW _ (by rfl) _ _ _ (by rfl) w.heap.size 24 i0 _ 1 24 Tryd.underlying30 hi hz0 hz1 hz2 rfl (by omega) _ _ _ (by rfl) (by rw [HWP.out] at HLP; exact HLP.out.drew) ⟨wr.heap.size + 1, 0, none⟩ 1 1 [.slice (some ⟨wr.heap.size, 0, none⟩) 2 2] (by rfl) (by rfl) (by rw [HWP.out] at HNW; exact HNW.out) (oneW _ _ _) (by simp only [maxLen]; omega) (by omega) (by simp; omega) ?_; intro v6 w6 hown6 hg6 _)
      all_goals
        have hg7 := (show Wp.grownBy w6 _ by rw [HWP.out]; exact ⟨hg6.os, hg6.tape, hg6.output, hg6.size, hg6.block⟩)
        obtain ⟨cs, hcs⟩ := HIW.out
        have hb6 := hg7.block bw (by omega) (own_box HLP.out hcs (by decide))
        have HC6 := Lib.hid (HCW.out.block hb6 hg7.size)
        have HI6 : Hid (IntW w6 bw) := Lib.hid ⟨cs, hb6.trans hcs⟩
        have HB6 := Lib.hid (HBP.out.grown hg7 HBP.out.size (fun q hq => (World.ownsRow.lt HLP.out q hq).1))
        have HO6 : Hid (OwnW w6 w.heap.size (bw + 1) w6.heap.size v6 (S (k + 1))) := Lib.hid (by rw [HSk.out]; exact (OwnW.snoc (g := (wr.heap.size, 2)) (zs := [(x : Int), (y : Int)]) HOP.out (by show bw + 1 ≤ wr.heap.size; omega) (Nat.le_refl _) HIP.out HCP.out hg7 HLP.out hown6).top)
        have hz6 : w6.cell? ⟨b, o + k, none⟩ = some (.int .i64 (q : Int)) := by rw [HB6.out.cell hbb, ← HB.out.cell hbb]; exact hcz
        clear hg6 hg7 hown6 hcs hb6 c0 c1 hcz
        go_wp2_with fail
        refine (HSW.out bw cw L q hlL hnd _ HC6.out).mono ?_
        rintro e w7 ⟨rfl, hC7, hO7, hI7⟩
        have HC7 := Lib.hid hC7
        have HI7 := Lib.hid (hI7 HI6.out)
        have HO7 := Lib.hid ((HO6.out.out hO7 (by omega) HI6.out).top)
        have HB7 := Lib.hid (HB6.out.trans (hO7.below (by omega) HB6.out.size))
        have hnd2 := swD_nodup hnd (q : Int)
        have hlL2 : (swD L (q : Int)).length = m := by rw [swD_len, hlL]
        clear hC7 hO7 hI7 hz6
        go_wp2
        exact ⟨⟨k + 1, swD L q, by omega, by go_num, HG1.out, hnd2, hlL2, HC7, HI7, HO7, HB7⟩, by simp only [intOf]; omega⟩
    · obtain rfl : k = zs.length := by omega
      have hR : w.heap.size ≤ bw + 1 := by omega
      go_wp2
      go_ret
      exact ⟨⟨_, bw + 1, rfl, hR, HO.out⟩, HB.out⟩
theorem l12Swaps_any (m : Nat) (h2 : 2 ≤ m) (h6 : m ≤ 100) (a : Option Addr) (c : Nat) (zs : List Int) (hl : zs.length ≤ 1000) (hgo : goZ (List.range m) zs ≠ none) (w : World) (hs : SrcZ w w.heap.size a zs) :
    Calls Tryd.prog 40 #[.int .i64 m, .slice a zs.length c] w fun e w' => Got2 w.heap.size (swL (List.range m) (zs.map Int.toNat)) e w' ∧ Below w.heap.size w w' :=
  (l12Swaps_own m h2 h6 a c zs hl hgo w hs).mono fun e w' ⟨⟨v', R, he, hR, ho⟩, hb⟩ => by
    obtain ⟨a', c', rfl, hls⟩ := Lists.of_own (ho.toL hR)
    exact ⟨⟨a', c', he, hls⟩, hb⟩
set_option maxHeartbeats 1600000 in
set_option maxRecDepth 100000 in
theorem specSwapsOf (n : Int) (a : Option Addr) (c : Nat) (zs : List Int) (hl : zs.length ≤ 1048576) (w : World) (hs : SrcZ w w.heap.size a zs) :
    Calls Tryd.prog 26 #[.int .i64 n, .slice a zs.length c] w fun e w' => Got2 w.heap.size (swZ n zs) e w' ∧ Below w.heap.size w w' := by
  have HIS := Lib.hid (specIsWiring n a c zs hl w hs)
  cases hw : wiB n zs
  · have HE : Hid (swZ n zs = []) := Lib.hid (by unfold swZ; rw [if_neg (by rw [hw]; simp)])
    have HBE := Lib.hid (fun W (hW : Below w.heap.size w W) => hW.alloc hW.size (.cells #[] 24))
    rw [HE.out]
    rw [hw] at HIS
    clear hw hs HE
    go_enter Tryd.func26, Tryd.ntmps26
    go_wp2_with fail
    refine HIS.out.mono ?_
    rintro e w1 ⟨rfl, hb1⟩
    go_wp2
    go_ret
    exact ⟨⟨_, _, rfl, .inl rfl⟩, HBE.out _ hb1⟩
  · obtain ⟨h36, hlen, hgo⟩ := wiB_go hw
    obtain ⟨h3, h6⟩ := inB_mem h36
    obtain ⟨m, rfl⟩ : ∃ m : Nat, n = m := ⟨n.toNat, by omega⟩
    rw [Int.toNat_natCast] at hgo hlen
    have hl2 : zs.length ≤ 1000 := by
      rw [hlen]
      have : ∀ m, m < 7 → m * (m - 1) / 2 ≤ 1000 := by decide
      exact this m (by omega)
    have HE : Hid (swZ m zs = swL (List.range m) (zs.map Int.toNat)) := Lib.hid (by unfold swZ; rw [if_pos hw, Int.toNat_natCast])
    have HSW := Lib.hid (fun W (hW : Below w.heap.size w W) => l12Swaps_any m (by omega) (by omega) a c zs hl2 hgo W ((hs.on hW).up hW.size))
    rw [HE.out]
    rw [hw] at HIS
    clear hw hs HE h36 hlen hgo
    go_enter Tryd.func26, Tryd.ntmps26
    go_wp2_with fail
    refine HIS.out.mono ?_
    rintro e w1 ⟨rfl, hb1⟩
    have HB1 := Lib.hid hb1
    clear hb1
    go_wp2_with fail
    refine (HSW.out _ HB1.out).mono ?_
    rintro e w2 ⟨⟨a2, c2, rfl, hli⟩, hb2⟩
    have B2 := HB1.out.trans (hb2.mono HB1.out.size)
    have HLI := Lib.hid (hli.low HB1.out.size)
    clear hli hb2
    go_wp2
    go_ret
    exact ⟨⟨a2, c2, rfl, HLI.out⟩, B2⟩
end Go.Proofs.YtfpbehnpaedpmaaDoor.Sg
