/- Wirings, as impl tells them: SwapsOf. -/
import Derived.Test.YtfpbehnpaedpmaaDoorWjAll
import Derived.Test.YtfpbehnpaedpmaaDoorFillL
import Derived.Test.YtfpbehnpaedpmaaDoorMgWd
import Derived.Lib.LazyBuf
namespace Go.Proofs.YtfpbehnpaedpmaaDoor.Sg
open Go.RowKit Pt NewI NewII Wi
set_option maxRecDepth 100000 in
theorem infoZZ : (Tryd.prog.info? 24).map (fun i => (i.zero, i.size, i.bytes)) = some (some (.slice none 0 0), 1, 24) := by kernel_rfl
theorem ordW_step {n : Nat} {zs : List Int} (h : goZ (List.range n) zs ≠ none) {k : Nat} (hk : k < zs.length) : swB (ordW n zs k) (zs.getD k 0) = true ∧ swK n zs (k + 1) = swK n zs k ++ [[((ordW n zs k).getD (zs.getD k 0).toNat 0 : Int), ((ordW n zs k).getD ((zs.getD k 0).toNat + 1) 0 : Int)]] := by
  have hM := ordW_some h k
  exact ⟨(wiB_step h hk hM).1, swK_step hk hM⟩
set_option maxHeartbeats 6400000 in
set_option maxRecDepth 100000 in
theorem implSwapsOf (n : Int) (a : Option Addr) (c : Nat) (zs : List Int) (hl : zs.length ≤ 1048576) (W : World) (hs : SrcZ W W.heap.size a zs) :
    Calls Tryd.prog 25 #[.int .i64 n, .slice a zs.length c] W fun e w' => Got2 W.heap.size (swZ n zs) e w' ∧ Below W.heap.size W w' := by
  have HO := Lib.hid (orders_any n a c zs hl W hs)
  have hnil := fun (w : World) (a : Option Addr) (l c : Nat) => Lib.run_eql_slice_nil (P := Tryd.prog) w 30 24 a l c 0 0 Tryd.underlying30
  cases hw : wiB n zs
  · have HE : Hid (swZ n zs = []) := Lib.hid (by unfold swZ; rw [if_neg (by rw [hw]; simp)])
    rw [HE.out]
    rw [hw] at HO
    generalize ordS n.toNat zs zs.length = S at HO
    clear hs hw HE
    go_enter Tryd.func25, Tryd.ntmps25
    go_wp2_with fail
    refine HO.out.mono ?_
    rintro e w1 ⟨⟨-, rfl⟩ | ⟨h, -⟩, hb1⟩
    · go_wp2
      go_ret
      exact ⟨⟨_, _, rfl, .inl rfl⟩, hb1⟩
    · cases h
  · obtain ⟨h36, hlen, hgo⟩ := wiB_go hw
    obtain ⟨h3, h6⟩ := inB_mem h36
    obtain ⟨-, -, -, hl15⟩ := wiB_len hw
    obtain ⟨m, rfl⟩ : ∃ m : Nat, n = m := ⟨n.toNat, by omega⟩
    rw [Int.toNat_natCast] at hgo hlen HO
    have HE : Hid (swZ m zs = swK m zs zs.length) := Lib.hid (by unfold swZ; rw [if_pos hw, Int.toNat_natCast, swK_all])
    rw [HE.out]
    rw [hw] at HO
    have HSRC := Lib.hid (fun W2 (hW : Below W.heap.size W W2) => hs.on hW)
    have HST := Lib.hid (fun k (hk : k < zs.length) => ordW_step hgo hk)
    have HWL := Lib.hid (ordW_len hgo)
    have HGT := Lib.hid (fun k (hk : k ≤ zs.length) => ordS_get (n := m) (zs := zs) hk)
    have HSL := Lib.hid (ordS_len m zs zs.length)
    have HK0 : Hid (swK m zs 0 = []) := Lib.hid rfl
    have HKL : Hid (∀ k, k ≤ zs.length → (swK m zs k).length = k) := Lib.hid (fun k hk => by
      unfold swK
      rw [swL_len, List.length_map, List.length_take]
      omega)
    have hmk := run_make_row' (P := Tryd.prog) 30 24 (.slice none 0 0) 24 Tryd.underlying30 infoZZ rfl .i64 .i64 zs.length (by omega) (by omega)
    generalize swK m zs = K at HST HK0 HKL ⊢
    generalize ordS m zs zs.length = S at HO HGT HSL
    clear hs hw HE h36 hlen hgo
    go_enter Tryd.func25, Tryd.ntmps25
    go_wp2_with fail
    refine HO.out.mono ?_
    rintro e w1 ⟨⟨h, -⟩ | ⟨-, rb, rc, gs, rfl, hrow⟩, hb1⟩
    · cases h
    have HF1 := Lib.hid (FillL.made w1 W.heap.size zs.length hb1.size)
    have hb2 : Below w1.heap.size w1 (w1.alloc (.cells (madeCells #[.slice none 0 0] zs.length) 24)) := (Below.refl _ _).alloc (Nat.le_refl _) _
    have HR1 := Lib.hid (Rows.on hrow hb2)
    have HB1 := Lib.hid (hb1.trans (hb2.mono hb1.size))
    have hrbl : rb < w1.heap.size := hrow.lt
    clear hb1 hb2 hrow HO
    go_wp2
    go_loopw [19] (fun x wr => ∃ (k : Nat) (fs : List (Nat × Nat)), k ≤ zs.length ∧ x = .int .i64 k ∧ Hid (FillL wr W.heap.size w1.heap.size zs.length fs (K k)) ∧ Hid (NewII.Rows wr W.heap.size w1.heap.size rb gs S (org S)) ∧ Hid (Below W.heap.size W wr)) (fun x _ => zs.length - (intOf x).toNat)
    case atStart => exact ⟨0, [], Nat.zero_le _, rfl, by rw [HK0.out]; exact HF1, HR1, HB1⟩
    case round =>
      obtain ⟨k, fs, hk, rfl, HF, HR, HB⟩ := hrel
      by_cases hlt : k < zs.length
      · obtain ⟨b, o, rfl, hbb, hcz⟩ := HSRC.out _ HB.out k hlt
        obtain ⟨hsw, hks⟩ := HST.out k hlt
        have HKS := Lib.hid hks
        unfold swB at hsw
        have hsw := of_decide_eq_true hsw
        have hoL := HWL.out k
        have hSk := HGT.out k hk
        have hSl := HSL.out
        have hKl := HKL.out k hk
        obtain ⟨g, hg⟩ : ∃ g, gs[k]? = some g := ⟨_, List.getElem?_eq_getElem (by rw [HR.out.len]; omega)⟩
        have hc0 := HR.out.outer k g hg
        obtain ⟨-, -, -, r4⟩ := HR.out.row k g hg
        have hln : ln S k = m := by unfold ln; rw [hSk, wl_length, hoL]
        have horg : org S k = zc (wl (ordW m zs k)) := by unfold org; rw [hSk]
        rw [hln, horg] at r4
        rw [hln] at hc0
        generalize ordW m zs k = M at hsw HKS hoL r4
        generalize zs.getD k 0 = z at hcz hsw HKS
        obtain ⟨q, rfl⟩ : ∃ q : Nat, z = q := ⟨z.toNat, by omega⟩
        rw [Int.toNat_natCast] at hsw HKS
        have c0 := r4.cell q (by omega)
        have c1 := r4.cell (q + 1) (by omega)
        rw [zc_wl] at c0 c1
        obtain ⟨x, hx⟩ : ∃ x, x = M.getD q 0 := ⟨_, rfl⟩
        obtain ⟨y, hy⟩ : ∃ y, y = M.getD (q + 1) 0 := ⟨_, rfl⟩
        rw [← hx] at c0 HKS
        rw [← hy] at c1 HKS
        obtain ⟨Q, hQ⟩ : ∃ Q, Q = q + 1 := ⟨_, rfl⟩
        have vq : IntKind.i64.wrap ((q : Int) + 1) = ((Q : Nat) : Int) := by rw [IntWalk.i64_in _ (by omega)]; omega
        have hQm : Q < m := by omega
        have hqm : q < m := by omega
        rw [← hQ] at c1
        have hdst := HF.out.dst (by omega)
        rw [hKl] at hdst
        have hfz := HF.out.out.frozen k
        have hbl := HF.out.out.lt
        have hkS : k < S.length := by omega
        obtain ⟨Wa, hWa⟩ : ∃ Wa, Wa = wr.alloc (.cells #[.int .i64 (x : Int), .int .i64 (y : Int)] 3) := ⟨_, rfl⟩
        have hba : Below wr.heap.size wr Wa := by rw [hWa]; exact (Below.refl _ _).alloc (Nat.le_refl _) _
        have hca : Cells Wa wr.heap.size 2 (zc [(x : Int), (y : Int)]) := by rw [hWa]; exact cells2_made wr x y 3
        have hFa := HF.out.step (zs := [(x : Int), (y : Int)]) (G := wr.heap.size) (c := 2) hba (by omega) (Nat.le_refl _) HB.out.size hca
        rw [hKl, ← HKS.out] at hFa
        have hoa : Out w1.heap.size (w1.heap.size + 1) Wa (Wa.setCell ⟨w1.heap.size, k, none⟩ (.slice (some ⟨wr.heap.size, 0, none⟩) 2 2)) := ⟨rfl, rfl, rfl, by simp [World.setCell], fun i hi hne => heap_setCell_other _ _ _ _ (by show i ≠ w1.heap.size; omega)⟩
        have hRa := (HR.out.on hba).far hoa (.inl (Nat.le_refl _))
        have hBa := (HB.out.trans (hba.mono HB.out.size)).trans (hoa.below HF.out.b1 (Nat.le_trans HB.out.size hba.size))
        have e : Wa.setCell ⟨w1.heap.size, k, none⟩ (.slice (some ⟨wr.heap.size, 0, none⟩) 2 2) = (wr.setCell ⟨w1.heap.size, k, none⟩ (.slice (some ⟨wr.heap.size, 0, none⟩) 2 2)).alloc (.cells #[.int .i64 (x : Int), .int .i64 (y : Int)] 3) := by rw [hWa]; go_simp
        have hbd : ∀ w : World, Below w.heap.size w w.drew := fun w => Below.drew (Below.refl _ _)
        have HST2 := Lib.hid (hFa.on (hbd _))
        have HR2 := Lib.hid (hRa.on (hbd _))
        have HB2 := Lib.hid (hBa.drew)
        rw [show rowV (wr.heap.size, 2) ([(x : Int), (y : Int)] : List Int).length = Value.slice (some ⟨wr.heap.size, 0, none⟩) 2 2 from rfl] at HST2
        rw [e] at HST2 HR2 HB2
        clear hba hca hFa hoa hRa hBa e hbd hWa
        clear hx hy hQ hks hsw HKS r4 horg hln hg hSk HF HR
        go_wp2
        go_region
        all_goals
          go_wp2
          exact ⟨⟨k + 1, fs ++ [(wr.heap.size, 2)], by omega, by go_num, HST2, HR2, HB2⟩, by simp only [intOf]; omega⟩
      · obtain rfl : k = zs.length := by omega
        have HL := Lib.hid (HF.out.rows (HKL.out _ (Nat.le_refl _)))
        have HKE := HKL.out _ (Nat.le_refl zs.length)
        have HGOT : Hid (∀ w', w' = wr → Got2 W.heap.size (K zs.length) (.returned (.slice (some ⟨w1.heap.size, 0, none⟩) zs.length zs.length)) w') := Lib.hid (fun w' hw' => by
          subst hw'
          exact ⟨some ⟨w1.heap.size, 0, none⟩, zs.length, by rw [HKE], .inr ⟨w1.heap.size, fs, rfl, HL.out⟩⟩)
        clear HL HKE HF HR
        go_wp2
        go_ret
        exact ⟨HGOT.out _ rfl, HB.out⟩
end Go.Proofs.YtfpbehnpaedpmaaDoor.Sg
