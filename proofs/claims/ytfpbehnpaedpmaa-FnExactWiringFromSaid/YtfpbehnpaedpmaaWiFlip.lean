/- Wirings, as spec tells them: FlipWiring. -/
import Derived.Test.YtfpbehnpaedpmaaWiAfter
namespace Go.Proofs.Ytfpbehnpaedpmaa.Sg
open Go.RowKit Pt NewI Wi
theorem goZ_bd {L : List Nat} {zs : List Int} (h : goZ L zs ≠ none) : ∀ z ∈ zs, 0 ≤ z ∧ z.toNat + 1 < L.length := by
  induction zs generalizing L with
  | nil => intro z hz; simp at hz
  | cons y zs ih =>
    simp only [goZ] at h
    split at h
    · rename_i hs
      have hs' : 0 ≤ y ∧ y.toNat + 1 < L.length ∧ L.getD y.toNat 0 < L.getD (y.toNat + 1) 0 := by simpa [swB] using hs
      intro z hz
      rcases List.mem_cons.1 hz with rfl | hz
      · exact ⟨hs'.1, hs'.2.1⟩
      · have := ih h z hz
        rw [swp_len] at this; exact this
    · exact absurd rfl h
theorem getD_memW {zs : List Int} {i : Nat} (h : i < zs.length) : zs.getD i 0 ∈ zs := by
  rw [List.getD_eq_getElem?_getD, List.getElem?_eq_getElem h]
  exact List.getElem_mem h
/-- What FlipWiring answers, where it does. -/
def flW (n : Int) (zs : List Int) : List Int := zs.reverse.map fun z => n - 2 - z
theorem flW_len (n : Int) (zs : List Int) : (flW n zs).length = zs.length := by unfold flW; simp
theorem flW_take (n : Int) {zs : List Int} {p i : Nat} (h : i + p + 1 = zs.length) : (flW n zs).take (p + 1) = (flW n zs).take p ++ [n - 2 - zs.getD i 0] := by
  have hp : p < (flW n zs).length := by rw [flW_len]; omega
  rw [List.take_add_one, List.getElem?_eq_getElem hp]
  congr 1
  show [(flW n zs)[p]] = _
  congr 1
  have hi : i < zs.length := by omega
  have e : zs.getD i 0 = zs[i] := by rw [List.getD_eq_getElem?_getD, List.getElem?_eq_getElem hi]; rfl
  rw [e]
  simp only [flW, List.getElem_map, List.getElem_reverse]
  have : zs.length - 1 - p = i := by omega
  simp only [this]
/-- What a function hands back that makes a slice of numbers and says whether. -/
def Got2Z (B : Nat) (zs : List Int) (ok : Bool) (e : Ending) (w' : World) : Prop := ∃ a c, e = .returned (.tuple #[.slice a zs.length c, .bool ok]) ∧ New w' B w'.heap.size a zs.length (zc zs)
def wiFlip (n : Int) (zs : List Int) : List Int := if wiB n zs = true then flW n zs else []
set_option maxHeartbeats 3200000 in
set_option maxRecDepth 100000 in
theorem specFlipWiring (n : Int) (a : Option Addr) (c : Nat) (zs : List Int) (hl : zs.length ≤ 1048576) (w : World) (hs : SrcZ w w.heap.size a zs) :
    Calls Try.prog 28 #[.int .i64 n, .slice a zs.length c] w fun e w' => Got2Z w.heap.size (wiFlip n zs) (wiB n zs) e w' ∧ Below w.heap.size w w' := by
  have HIS := Lib.hid (specIsWiring n a c zs hl w hs)
  have HBE := Lib.hid (fun W (hW : Below w.heap.size w W) => hW.alloc hW.size (.cells #[] 3))
  cases hw : wiB n zs
  · have e : wiFlip n zs = [] := by unfold wiFlip; rw [if_neg (by rw [hw]; simp)]
    rw [e]
    rw [hw] at HIS
    clear e hw hs
    go_enter Try.func28, Try.ntmps28
    go_wp2_with fail
    refine HIS.out.mono ?_
    rintro e w1 ⟨rfl, hb1⟩
    go_wp2
    go_ret2
    exact ⟨⟨_, _, rfl, .inl rfl⟩, HBE.out _ hb1⟩
  obtain ⟨h36, -, hgo⟩ := wiB_go hw
  obtain ⟨h3, h6⟩ := inB_mem h36
  have e : wiFlip n zs = flW n zs := by unfold wiFlip; rw [if_pos hw]
  rw [e]
  rw [hw] at HIS
  have HBD : Hid (∀ i, i < zs.length → 0 ≤ zs.getD i 0 ∧ zs.getD i 0 + 1 < n) := Lib.hid (fun i hi => by
    have := goZ_bd hgo _ (getD_memW hi)
    rw [List.length_range] at this
    omega)
  obtain ⟨i0, hi, hz0, hz1, hz2⟩ := info_parts infoI
  have HSRC := Lib.hid (fun W (hW : Below w.heap.size w W) => hs.on hW)
  have HTK := Lib.hid (fun (p i : Nat) (h : i + p + 1 = zs.length) => flW_take n h)
  have HLN := Lib.hid (flW_len n zs)
  generalize flW n zs = Z at HTK HLN ⊢
  have v2 : IntKind.i64.wrap (n - 2) = n - 2 := IntWalk.i64_in _ (by omega)
  clear e hw hs h36 hgo HBE
  go_enter Try.func28, Try.ntmps28
  go_wp2_with fail
  refine HIS.out.mono ?_
  rintro e w0 ⟨rfl, hb0⟩
  have HB0 : Hid (Below w.heap.size w (w0.alloc (.cells #[] 3))) := Lib.hid (hb0.alloc hb0.size _)
  have HO0 : Hid (OwnsZ (w0.alloc (.cells #[] 3)) w.heap.size (.slice (some ⟨w0.heap.size, 0, none⟩) 0 0) (Z.take 0)) := Lib.hid (World.ownsRow_made (base := w.heap.size) (e := 3) (size := 1) w0 #[] 0 hb0.size (by decide) rfl)
  clear hb0 HIS
  go_wp2
  go_loopw [6, 7] (fun vv x wr => ∃ p : Nat, p ≤ zs.length ∧ x = .int .i64 ((zs.length : Int) - 1 - (p : Int)) ∧ Hid (OwnsZ wr w.heap.size vv (Z.take p)) ∧ Hid (Below w.heap.size w wr)) (fun _ x _ => (intOf x + 1).toNat)
  case atStart => exact ⟨0, Nat.zero_le _, by go_num, HO0, HB0⟩
  case round =>
    obtain ⟨p, hp, hx, HO, HB⟩ := hrel
    have hwr := HB.out.size
    by_cases hlt : p < zs.length
    · obtain ⟨i, hip⟩ : ∃ i, i + p + 1 = zs.length := ⟨zs.length - 1 - p, by omega⟩
      obtain rfl : u7 = .int .i64 (i : Int) := by rw [hx]; congr 1; omega
      obtain ⟨b, o, rfl, hbb, hcz⟩ := HSRC.out _ HB.out i (by omega)
      obtain ⟨z0, z1⟩ := HBD.out i (by omega)
      have HTE := Lib.hid (HTK.out p i hip)
      have hpl : (Z.take p).length = p := by rw [List.length_take, HLN.out]; omega
      clear hx
      generalize zs.getD i 0 = z at hcz z0 z1 HTE
      have v3 : IntKind.i64.wrap (n - 2 - z) = n - 2 - z := IntWalk.i64_in _ (by omega)
      generalize hy : n - 2 - z = y at v3 HTE
      go_wp2_with (at_builtin; refine wpList_append_own _ rfl (.tmp 21) (.tmp 29) 22 rfl w.heap.size 3 i0 _ 1 8 Try.underlying22 hi hz0 hz1 hz2 rfl (by decide) _ _ _ rfl (World.ownsRow.alloc HO.out _) ⟨_, 0, none⟩ 1 1 [.int .i64 y] rfl rfl (news1 _ _ _) (one1 _) (by simp only [maxLen]; omega) (by omega) (by simp; omega) ?_)
      intro v6 w6 hown6 hg6 _
      have HB6 := Lib.hid ((HB.out.alloc hwr (.cells #[.int .i64 y] 3)).grown hg6 (by simp; omega) (fun k hk => (World.ownsRow.lt HO.out k hk).1))
      have HO6 : Hid (OwnsZ w6 w.heap.size v6 (Z.take p ++ [y])) := Lib.hid (ownsZ_snoc (zs := Z.take p) (ys := [y]) (by rw [hpl, List.map_take]; exact hown6))
      rw [← HTE.out] at HO6
      clear hown6 hg6
      go_wp2
      exact ⟨⟨p + 1, by omega, by go_num, HO6, HB6⟩, by simp only [intOf]; omega⟩
    · obtain rfl : p = zs.length := by omega
      obtain rfl : u7 = .int .i64 (-1) := by rw [hx]; congr 1; omega
      clear hx
      have HO' : Hid (OwnsZ wr w.heap.size u6 Z) := Lib.hid (by have := HO.out; rwa [← HLN.out, List.take_length] at this)
      obtain ⟨ra, rc, rfl, hnew, -⟩ := New.of_own HO'.out
      have HNW := Lib.hid hnew
      clear hnew HO HO'
      go_wp2
      go_ret2
      exact ⟨⟨_, _, rfl, HNW.out⟩, HB.out⟩
end Go.Proofs.Ytfpbehnpaedpmaa.Sg
