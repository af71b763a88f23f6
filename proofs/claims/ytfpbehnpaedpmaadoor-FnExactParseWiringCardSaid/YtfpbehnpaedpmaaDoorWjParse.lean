/- Wirings, as impl tells them: ParseWiring. -/
import Derived.Test.YtfpbehnpaedpmaaDoorWjAll
import Derived.Test.YtfpbehnpaedpmaaDoorWiFacts
import Derived.Test.YtfpbehnpaedpmaaDoorSgParse
namespace Go.Proofs.YtfpbehnpaedpmaaDoor.Sg
open Go.RowKit Pt NewI Wi
/-- A colon among the letters: no wiring. -/
theorem wi_colon {n : Int} {d : List UInt8} (h : (58 : UInt8) ∈ d) : wiB n (dgs ⟨d.toArray⟩) = false := by
  cases hw : wiB n (dgs ⟨d.toArray⟩) with
  | false => rfl
  | true =>
    obtain ⟨h36, -, hgo⟩ := wiB_go hw
    obtain ⟨h3, h6⟩ := inB_mem h36
    have hm : (((58 : UInt8).toNat : Nat) : Int) - 48 ∈ dgs ⟨d.toArray⟩ := by
      unfold dgs
      exact List.mem_map.2 ⟨58, by simpa using h, rfl⟩
    have := goZ_bd hgo _ hm
    rw [List.length_range] at this
    have e : (((58 : UInt8).toNat : Nat) : Int) - 48 = 10 := by decide
    rw [e] at this
    omega
theorem pieces_map (l : List UInt8) : Split.pieces 58 l = (Split.Q 58 [] l).map fun x => ⟨x.toArray⟩ := rfl
/-- What ParseWiring answers, by the text's first colon. -/
theorem wp_cut (l : List UInt8) : parV (wpZ ⟨l.toArray⟩) = (match SgParse.cutAt 58 l with
    | none => (0, [], false)
    | some q => if (Num.readI 0 999999 q.1).isSome = true ∧ wiB ((Num.readI 0 999999 q.1).getD 0) (dgs ⟨q.2.toArray⟩) = true then ((Num.readI 0 999999 q.1).getD 0, dgs ⟨q.2.toArray⟩, true) else (0, [], false)) := by
  have hl : (⟨l.toArray⟩ : ByteArray).data.toList = l := by simp
  unfold wpZ
  rw [hl, pieces_map, SgParse.Q_cut]
  cases hc : SgParse.cutAt 58 l with
  | none => simp [parV]
  | some q =>
    obtain ⟨a, d⟩ := q
    simp only [List.nil_append]
    by_cases hm : (58 : UInt8) ∈ d
    · rw [wi_colon hm]
      have hlen : ¬ ((a :: Split.Q 58 [] d).map fun x => (⟨x.toArray⟩ : ByteArray)).length = 2 := by
        rw [SgParse.Q_cut]
        cases hc2 : SgParse.cutAt 58 d with
        | none =>
          exfalso
          have h1 : ∀ r : List UInt8, (58 : UInt8) ∈ r → SgParse.cutAt 58 r ≠ none := by
            intro r
            induction r with
            | nil => intro h; simp at h
            | cons b r ih =>
              intro h
              unfold SgParse.cutAt
              by_cases e : b = 58
              · rw [if_pos e]; simp
              · rw [if_neg e]
                rcases List.mem_cons.1 h with h | h
                · exact absurd h.symm e
                · have := ih h
                  cases hq : SgParse.cutAt 58 r with
                  | none => exact absurd hq this
                  | some q => simp
          exact h1 d hm hc2
        | some q2 =>
          have hpos : 0 < (Split.Q 58 [] q2.2).length := by
            have := Split.pieces_pos 58 q2.2
            rwa [pieces_map, List.length_map] at this
          simp only [List.length_map, List.length_cons]
          omega
      rw [if_neg hlen]
      simp [parV]
    · rw [SgParse.Q_one hm]
      simp only [List.map_cons, List.map_nil, List.length_cons, List.length_nil, List.nil_append, if_true]
      show parV (match Num.readS a 12 with
        | some n => if wiB n (dgs ⟨d.toArray⟩) = true then some (n, dgs ⟨d.toArray⟩) else none
        | none => none) = _
      rw [← ParseInt.int_same]
      cases e : Num.readI (-999999999999) 999999999999 a with
      | none =>
        cases e2 : Num.readI 0 999999 a with
        | none => simp [parV]
        | some n =>
          have := SgParse.readI_wide (lo2 := -999999999999) (hi2 := 999999999999) e2 (by have := SgParse.readI_mem e2; omega) (by have := SgParse.readI_mem e2; omega)
          rw [this] at e; cases e
      | some n =>
        simp only []
        cases hA : wiB n (dgs ⟨d.toArray⟩)
        · cases e2 : Num.readI 0 999999 a with
          | none => simp [parV]
          | some m =>
            have := SgParse.readI_wide (lo2 := -999999999999) (hi2 := 999999999999) e2 (by have := SgParse.readI_mem e2; omega) (by have := SgParse.readI_mem e2; omega)
            rw [this] at e; cases e
            simp [parV, hA]
        · obtain ⟨h36, -, -⟩ := wiB_go hA
          obtain ⟨h3, h6⟩ := inB_mem h36
          rw [SgParse.readI_wide (lo2 := 0) (hi2 := 999999) e (by omega) (by omega)]
          simp [parV, hA]
set_option maxHeartbeats 3200000 in
set_option maxRecDepth 100000 in
theorem implParseW_by (s a d : ByteArray) (f p : Bool) (x : Int) (hd : d.size ≤ 1048576) (w : World)
    (HC : Hid (∀ W, Below w.heap.size w W → Calls Tryd.prog 50 #[.string s, .string ⟨#[58]⟩] W fun e w' => e = .returned (.tuple #[.string a, .string d, .bool f]) ∧ Below W.heap.size W w'))
    (HN : Hid (∀ W, Below w.heap.size w W → Calls Tryd.prog 51 #[.string a] W fun e w' => e = .returned (.tuple #[.int .i64 x, .bool p]) ∧ Below W.heap.size W w')) :
    Calls Tryd.prog 14 #[.string s] w fun e w' => Got3 w.heap.size (if f = true ∧ p = true ∧ wiB x (dgs d) = true then (x, dgs d, true) else (0, [], false)) e w' ∧ Below w.heap.size w w' := by
  have HB0 := Lib.hid (Below.refl w.heap.size w)
  have hmk := run_make_row' (P := Tryd.prog) 24 3 (.int .i64 0) 8 Tryd.underlying24 infoZ rfl .i64 .i64 d.size (by omega) (by omega)
  have HTK := Lib.hid (fun (k : Nat) (hk : k < d.size) => dgs_take hk)
  have HLN := Lib.hid (dgs_len d)
  have HIW := Lib.hid (fun a W (hW : SrcZ W W.heap.size a (dgs d)) => implIsWiring x a d.size (dgs d) (by rw [dgs_len]; exact hd) W hW)
  obtain ⟨R, hR⟩ : ∃ R : Int × List Int × Bool, R = (if f = true ∧ p = true ∧ wiB x (dgs d) = true then (x, dgs d, true) else (0, [], false)) := ⟨_, rfl⟩
  rw [← hR]
  generalize dgs d = Z at HTK HLN HIW hR
  generalize wiB x Z = q at HIW hR
  have HR := Lib.hid hR
  clear hR
  go_enter Tryd.func14, Tryd.ntmps14
  go_wp2_with fail
  refine (HC.out _ HB0.out).mono ?_
  rintro e w1 ⟨rfl, hb1⟩
  have HB1 := Lib.hid (HB0.out.trans (hb1.mono HB0.out.size))
  clear hb1
  go_wp2_with fail
  refine (HN.out _ HB1.out).mono ?_
  rintro e w2 ⟨rfl, hb2⟩
  have HB2 := Lib.hid (HB1.out.trans (hb2.mono HB1.out.size))
  have H0 : Hid ((w2.alloc (.cells (madeCells #[.int .i64 0] d.size) 3)).rowIs w2.heap.size 3 d.size (zc (Z.take 0))) := Lib.hid ((World.rowIs_made w2 (.int .i64 0) d.size 3).congr (fun i _ => rfl))
  have HB3 := Lib.hid (HB2.out.alloc HB2.out.size (.cells (madeCells #[.int .i64 0] d.size) 3))
  have hw2 := HB2.out.size
  clear hb2 HB1
  go_wp2
  go_loopw [28] (fun i wr => ∃ k : Nat, k ≤ d.size ∧ i = .int .i64 k ∧ Hid (wr.rowIs w2.heap.size 3 d.size (zc (Z.take k))) ∧ Hid (Below w.heap.size w wr)) (fun i _ => d.size - (intOf i).toNat)
  case atStart => exact ⟨0, Nat.zero_le _, rfl, H0, HB3⟩
  case round =>
    obtain ⟨k, hk, rfl, HRW, HB⟩ := hrel
    by_cases hlt : k < d.size
    · have hte := HTK.out k hlt
      have hpl : (Z.take k).length = k := by rw [List.length_take, HLN.out]; omega
      have hu : d[k].toNat < 256 := UInt8.toNat_lt _
      have hdst := World.rowIs.cell HRW.out hlt
      have hfz := World.rowIs.frozen HRW.out k
      have HR2 : Hid ((wr.setCell ⟨w2.heap.size, k, none⟩ (.int .i64 (((d[k].toNat : Nat) : Int) - 48))).rowIs w2.heap.size 3 d.size (zc (Z.take (k + 1)))) := Lib.hid ((World.rowIs.set HRW.out k _).congr (fun j _ => by
        rw [hte]
        unfold zc
        rcases Nat.lt_trichotomy j k with h | rfl | h
        · rw [if_neg (by omega), List.getD_eq_getElem?_getD, List.getD_eq_getElem?_getD, List.getElem?_append_left (by omega)]
        · rw [if_pos rfl, List.getD_eq_getElem?_getD, List.getElem?_append_right (by omega), show j - (Z.take j).length = 0 by omega]; rfl
        · rw [if_neg (by omega), List.getD_eq_getElem?_getD, List.getD_eq_getElem?_getD, List.getElem?_eq_none (by omega), List.getElem?_eq_none (by rw [List.length_append]; simp only [List.length_singleton]; omega)]))
      have HB4 := Lib.hid (HB.out.setCell (p := ⟨w2.heap.size, k, none⟩) (by exact hw2) (.int .i64 (((d[k].toNat : Nat) : Int) - 48)))
      have v3 : IntKind.i64.wrap (((d[k].toNat : Nat) : Int) - 48) = ((d[k].toNat : Nat) : Int) - 48 := IntWalk.i64_in _ (by omega)
      clear hte HRW HB
      go_wp2
      exact ⟨⟨k + 1, by omega, by go_num, HR2, HB4⟩, by simp only [intOf]; omega⟩
    · obtain rfl : k = d.size := by omega
      have hrow := HRW.out
      rw [← HLN.out, List.take_length] at hrow
      have hcl : Cells wr w2.heap.size Z.length (zc Z) := ⟨fun j hj => World.rowIs.cell hrow hj, World.rowIs.frozen hrow, World.rowIs.lt hrow⟩
      have HCL := Lib.hid hcl
      have hsz : d.size = Z.length := HLN.out.symm
      have HIS := Lib.hid (HIW.out (some ⟨w2.heap.size, 0, none⟩) wr (fun j hj => ⟨w2.heap.size, 0, rfl, hcl.lt, by rw [Nat.zero_add]; exact hcl.cell j hj⟩))
      rw [hsz]
      rw [hsz] at HIS
      clear hrow hcl hsz HRW
      cases f
      · obtain rfl : R = (0, [], false) := by rw [HR.out, if_neg (by simp)]
        go_wp2
        go_ret3
        exact ⟨⟨_, _, rfl, .inl rfl⟩, HB.out⟩
      · cases p
        · obtain rfl : R = (0, [], false) := by rw [HR.out, if_neg (by simp)]
          go_wp2
          go_ret3
          exact ⟨⟨_, _, rfl, .inl rfl⟩, HB.out⟩
        · cases q
          · obtain rfl : R = (0, [], false) := by rw [HR.out, if_neg (by simp)]
            go_wp2_with fail
            refine HIS.out.mono ?_
            rintro e w5 ⟨rfl, hb5⟩
            have HB5 := HB.out.trans (hb5.mono HB.out.size)
            go_wp2
            go_ret3
            exact ⟨⟨_, _, rfl, .inl rfl⟩, HB5⟩
          · obtain rfl : R = (x, Z, true) := by rw [HR.out, if_pos ⟨rfl, rfl, rfl⟩]
            go_wp2_with fail
            refine HIS.out.mono ?_
            rintro e w5 ⟨rfl, hb5⟩
            have HB5 := HB.out.trans (hb5.mono HB.out.size)
            have HC5 := Lib.hid (HCL.out.on hb5)
            clear hb5
            go_wp2
            go_ret3
            exact ⟨⟨some ⟨w2.heap.size, 0, none⟩, Z.length, rfl, .inr ⟨w2.heap.size, rfl, hw2, HC5.out.lt, HC5.out⟩⟩, HB5⟩
theorem implParseWiring (s : ByteArray) (hs : s.size ≤ 1048576) (w : World) (a1 a2 a3 : Addr) (tp : TypeId) (m : Int) (HE : Hid (SgParse.Env a1 a2 a3 tp m w)) :
    Calls Tryd.prog 14 #[.string s] w fun e w' => Got3 w.heap.size (parV (wpZ s)) e w' ∧ Below w.heap.size w w' := by
  have hsl : s.data.toList.length = s.size := by simp
  have hss : (⟨s.data.toList.toArray⟩ : ByteArray) = s := by simp
  have hwp := wp_cut s.data.toList
  rw [hss] at hwp
  obtain ⟨a, d, f, hcut, hin, hres⟩ : ∃ (a d : List UInt8) (f : Bool), Lib.cut s.data.toList [58] = (a, d, f) ∧ (a.length ≤ s.size ∧ d.length ≤ s.size) ∧ parV (wpZ s) = (if f = true ∧ (Num.readI 0 999999 a).isSome = true ∧ wiB ((Num.readI 0 999999 a).getD 0) (dgs ⟨d.toArray⟩) = true then ((Num.readI 0 999999 a).getD 0, dgs ⟨d.toArray⟩, true) else (0, [], false)) := by
    have h1 := SgParse.cut_of 58 s.data.toList
    have h2 := SgParse.index_cut 58 s.data.toList
    cases e : SgParse.cutAt 58 s.data.toList with
    | none =>
      rw [e] at h1 hwp
      exact ⟨_, _, _, h1, ⟨by omega, by simp⟩, by rw [hwp, if_neg (by simp)]⟩
    | some q =>
      rw [e] at h1 h2 hwp
      refine ⟨_, _, _, h1, ?_, ?_⟩
      · have := congrArg List.length h2.2
        simp at this
        have hq : s.data.size = s.size := rfl
        omega
      · rw [hwp]
        simp
  rw [hres]
  refine implParseW_by s ⟨a.toArray⟩ ⟨d.toArray⟩ f _ _ (by show d.toArray.size ≤ _; simp; omega) w (Lib.hid fun W hW => ?_) (Lib.hid fun W hW => ?_)
  · refine (Tryd.strings_Cut s ⟨#[58]⟩ m W (by omega) (HE.out.on hW).max).mono fun e w' ⟨he, n, hn⟩ => ⟨?_, by rw [hn]; exact SgParse.below_drawn W n⟩
    rw [he]
    have h58 : (⟨#[58]⟩ : ByteArray).data.toList = [58] := rfl
    rw [h58, hcut]
  · rw [← SgParse.pair_eq]
    exact Parse.parseNumber_any ⟨a.toArray⟩ (by show a.toArray.size ≤ _; simp; omega) W a1 a2 a3 tp (HE.out.on hW).held
end Go.Proofs.YtfpbehnpaedpmaaDoor.Sg
