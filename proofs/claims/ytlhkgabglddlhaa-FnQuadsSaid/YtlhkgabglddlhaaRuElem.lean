/- ReverseElement, as impl and spec answer it; the law. -/
import Derived.Test.YtlhkgabglddlhaaRuRevSpec
import Derived.Test.YtlhkgabglddlhaaRuBy
import Derived.Test.YtlhkgabglddlhaaSgOthers
namespace Go.Proofs.Ytlhkgabglddlhaa.Sg
open Go.RowKit Pt
def zeroV : Value := .tuple #[sg 0 ⟨#[]⟩, .bool false]
/-- What ReverseElement answers for signs and an element. -/
def revV (n : Nat) (s : ByteArray) (i : Nat) : Value := .tuple #[sg n ⟨(text3 n (rvF n s.data.toList (2 ^ i))).toArray⟩, .bool true]
set_option maxHeartbeats 1600000 in
set_option maxRecDepth 100000 in
theorem specRev_bad (n : Int) (s : ByteArray) (i : Int) (hs : s.size ≤ 9223372036854775807) (hb : ¬ (arB n s.data.toList = true ∧ 0 ≤ i ∧ i < n)) (w : World) :
    Calls Try.prog 17 #[sg n s, .int .i64 i] w fun e w' => e = .returned zeroV ∧ Below w.heap.size w w' := by
  have HA := Lib.hid (fun W => specAre_sg n s hs W)
  have HM := Lib.hid (wAt_made w n s 25)
  cases h : arB n s.data.toList
  · rw [h] at HA
    clear h hb
    go_enter Try.func17, Try.ntmps17
    go_wp2_with fail
    refine (HA.out _).mono ?_
    rintro e w1 ⟨rfl, hb1⟩
    obtain ⟨x0, x1, e0, e1, z0, z1, B⟩ := HM.out.on hb1
    obtain ⟨g0, g1⟩ := ret_sg e0 e1 (.int .i64 0) (.string ⟨#[]⟩)
    clear hb1
    go_wp2
    exact bodyPost_ret (v := .tuple #[.agg #[.int .i64 0, .string ⟨#[]⟩], .bool false]) (by simp [results, Try.results17, go_sem, g0, g1]) rfl ⟨rfl, (B.setCell (by simp) _).setCell (by simp) _⟩
  · rw [h] at HA
    obtain ⟨h3, h7, -⟩ := arB_yes h
    have hin : inB i 0 (n - 1) = false := by
      cases hc : inB i 0 (n - 1)
      · rfl
      · exact absurd ⟨h, inB_range hc⟩ hb
    clear h hb
    go_enter Try.func17, Try.ntmps17
    go_wp2_with fail
    refine (HA.out _).mono ?_
    rintro e w1 ⟨rfl, hb1⟩
    obtain ⟨x0, x1, e0, e1, z0, z1, B⟩ := HM.out.on hb1
    obtain ⟨g0, g1⟩ := ret_sg e0 e1 (.int .i64 0) (.string ⟨#[]⟩)
    clear hb1
    go_wp2_with (go_at_call 69; refine (l1In_any _ _ _ _).mono ?_; rintro e w' ⟨rfl, rfl⟩)
    exact bodyPost_ret (v := .tuple #[.agg #[.int .i64 0, .string ⟨#[]⟩], .bool false]) (by simp [results, Try.results17, go_sem, g0, g1]) rfl ⟨rfl, (B.setCell (by simp) _).setCell (by simp) _⟩
set_option maxHeartbeats 1600000 in
set_option maxRecDepth 100000 in
theorem specRev_good (n : Nat) (s : ByteArray) (i : Nat) (h : arB n s.data.toList = true) (hi : i < n) (w : World) :
    Calls Try.prog 17 #[sg n s, .int .i64 i] w fun e w' => e = .returned (revV n s i) ∧ Below w.heap.size w w' := by
  obtain ⟨h3, h7, hl, -⟩ := arB_yes h
  have hs35 : s.size ≤ 35 := by have := cnt_le (n := n) (by omega); have : s.size = cnt n := by simpa using hl
                                omega
  have HA := Lib.hid (fun W => specAre_sg n s (by omega) W)
  rw [h] at HA
  have HM := Lib.hid (wAt_made w n s 25)
  have hp : 2 ^ i < 1024 := by
    rcases (by omega : i = 0 ∨ i = 1 ∨ i = 2 ∨ i = 3 ∨ i = 4 ∨ i = 5 ∨ i = 6) with rfl | rfl | rfl | rfl | rfl | rfl | rfl <;> decide
  have HR := Lib.hid (fun W => l4Reverse_any n s (2 ^ i) h hp W)
  have hpc : ((2 ^ i : Nat) : Int) = 2 ^ i := by push_cast; rfl
  have hpb : 0 ≤ ((2 ^ i : Nat) : Int) ∧ ((2 ^ i : Nat) : Int) < 1024 := by
    generalize 2 ^ i = q at hp ⊢
    omega
  rw [hpc] at HR hpb
  have e1 : inB i 0 ((n : Int) - 1) = true := inB_yes (by omega) (by omega)
  have HV : Hid (revV n s i = .tuple #[sg n ⟨(text3 n (rvF n s.data.toList (2 ^ i))).toArray⟩, .bool true]) := Lib.hid rfl
  generalize (text3 n (rvF n s.data.toList (2 ^ i))).toArray = T at HR HV
  clear h hl hpc
  go_enter Try.func17, Try.ntmps17
  go_wp2_with fail
  refine (HA.out _).mono ?_
  rintro e w1 ⟨rfl, hb1⟩
  have W1 := Lib.hid (HM.out.on hb1)
  obtain ⟨x0, x1, -, -, -, -, -⟩ := W1.out
  clear hb1
  go_wp2_with (go_at_call 69; refine (l1In_any _ _ _ _).mono ?_; rintro e w' ⟨rfl, rfl⟩)
  refine (HR.out _).mono ?_
  rintro e w2 ⟨rfl, hb2⟩
  obtain ⟨y0, y1, e0, e1, z0, z1, B⟩ := W1.out.on hb2
  obtain ⟨g0, g1⟩ := ret_sg e0 e1 (.int .i64 n) (.string ⟨T⟩)
  clear x0 x1 hb2
  go_wp2
  exact bodyPost_ret (v := .tuple #[.agg #[.int .i64 n, .string ⟨T⟩], .bool true]) (by simp [results, Try.results17, go_sem, g0, g1]) rfl ⟨ret_v (by rw [HV.out]), (B.setCell (by simp) _).setCell (by simp) _⟩
set_option maxHeartbeats 1600000 in
set_option maxRecDepth 100000 in
theorem implRev_bad (n : Int) (s : ByteArray) (i : Int) (hs : s.size ≤ 9223372036854775807) (hb : ¬ (arB n s.data.toList = true ∧ 0 ≤ i ∧ i < n)) (w : World) :
    Calls Try.prog 16 #[sg n s, .int .i64 i] w fun e w' => e = .returned zeroV ∧ Below w.heap.size w w' := by
  have HA := Lib.hid (fun W => implAre_sg n s hs W)
  have HM := Lib.hid (wAt_made w n s 25)
  cases h : arB n s.data.toList
  · rw [h] at HA
    clear h hb
    go_enter Try.func16, Try.ntmps16
    go_wp2_with fail
    refine (HA.out _).mono ?_
    rintro e w1 ⟨rfl, hb1⟩
    obtain ⟨x0, x1, e0, e1, z0, z1, B⟩ := HM.out.on hb1
    obtain ⟨g0, g1⟩ := ret_sg e0 e1 (.int .i64 0) (.string ⟨#[]⟩)
    clear hb1
    go_wp2
    exact bodyPost_ret (v := .tuple #[.agg #[.int .i64 0, .string ⟨#[]⟩], .bool false]) (by simp [results, Try.results16, go_sem, g0, g1]) rfl ⟨rfl, (B.setCell (by simp) _).setCell (by simp) _⟩
  · rw [h] at HA
    rcases (show i < 0 ∨ (0 ≤ i ∧ n ≤ i) by
      by_cases h1 : i < 0
      · exact .inl h1
      · exact .inr ⟨by omega, Int.not_lt.1 (fun h2 => hb ⟨h, by omega, h2⟩)⟩) with h1 | ⟨h1, h2⟩
    · have hd : decide (i < 0) = true := by simpa using h1
      clear h hb h1
      go_enter Try.func16, Try.ntmps16
      go_wp2_with fail
      refine (HA.out _).mono ?_
      rintro e w1 ⟨rfl, hb1⟩
      obtain ⟨x0, x1, e0, e1, z0, z1, B⟩ := HM.out.on hb1
      obtain ⟨g0, g1⟩ := ret_sg e0 e1 (.int .i64 0) (.string ⟨#[]⟩)
      clear hb1
      go_wp2
      exact bodyPost_ret (v := .tuple #[.agg #[.int .i64 0, .string ⟨#[]⟩], .bool false]) (by simp [results, Try.results16, go_sem, g0, g1]) rfl ⟨rfl, (B.setCell (by simp) _).setCell (by simp) _⟩
    · have hd : decide (i < 0) = false := by simpa using h1
      have hd2 : decide (n ≤ i) = true := by simpa using h2
      clear h hb h1 h2
      go_enter Try.func16, Try.ntmps16
      go_wp2_with fail
      refine (HA.out _).mono ?_
      rintro e w1 ⟨rfl, hb1⟩
      obtain ⟨x0, x1, e0, e1, z0, z1, B⟩ := HM.out.on hb1
      obtain ⟨g0, g1⟩ := ret_sg e0 e1 (.int .i64 0) (.string ⟨#[]⟩)
      clear hb1
      go_wp2
      exact bodyPost_ret (v := .tuple #[.agg #[.int .i64 0, .string ⟨#[]⟩], .bool false]) (by simp [results, Try.results16, go_sem, g0, g1]) rfl ⟨rfl, (B.setCell (by simp) _).setCell (by simp) _⟩
theorem mapK_at (w : World) (n : Nat) (s : ByteArray) (hs : s.size ≤ 9223372036854775807) (W : World) (hW : WAt w n s W) :
    Calls Try.prog 61 #[sg n s] W fun e w' => ∃ b, e = .returned (.map (some b)) ∧ (w'.cell? ⟨w.heap.size, 0, none⟩ = some (.int .i64 n) ∧ w'.cell? ⟨w.heap.size, 1, none⟩ = some (.string s)) ∧ Hid (WAt w n s w' ∧ MapK w' b (lookS n s.data.toList)) :=
  (mapOf_k n s hs W).mono fun _e _w' ⟨b, he, _, hm, hb⟩ => ⟨b, he, ⟨(hW.on hb).b0, (hW.on hb).b1⟩, Lib.hid ⟨hW.on hb, hm⟩⟩
theorem rev_at (w : World) (n : Nat) (s : ByteArray) (i b : Nat) (f : Int → Int → Int → Int) (hp : 2 ^ i < 1024) (W : World) (hW : Hid (WAt w n s W ∧ MapK W b f)) :
    Calls Try.prog 67 #[.map (some b), .int .i64 (2 ^ i)] W fun e w' => ∃ b', e = .returned (.map (some b')) ∧ (w'.cell? ⟨w.heap.size, 0, none⟩ = some (.int .i64 n) ∧ w'.cell? ⟨w.heap.size, 1, none⟩ = some (.string s)) ∧ Hid (WAt w n s w' ∧ MapIs w' b' (revF (2 ^ i) f)) := by
  have := reversed_any b (2 ^ i) f hp W hW.out.2
  have hpc : ((2 ^ i : Nat) : Int) = 2 ^ i := by push_cast; rfl
  rw [hpc] at this
  exact this.mono fun e w' ⟨b', he, _, hm, hb⟩ => ⟨b', he, ⟨(hW.out.1.on hb).b0, (hW.out.1.on hb).b1⟩, Lib.hid ⟨hW.out.1.on hb, hm⟩⟩
theorem sgnF_rev {f : Int → Int → Int → Int} {set i j k : Nat} (h1 : i < j) (h2 : j < k) : sgnF (revF set f) i j k = if odd3 set i j k then -(f i j k) else f i j k := by
  rw [sgnF_of (srt_asc (i := i) (j := j) (k := k) (by omega) (by omega))]
  unfold revF
  simp
theorem sgnF_plain {f : Int → Int → Int → Int} {i j k : Nat} (h1 : i < j) (h2 : j < k) : sgnF f i j k = f i j k := by
  rw [sgnF_of (srt_asc (i := i) (j := j) (k := k) (by omega) (by omega))]
  simp
theorem text_rev {n : Nat} (h7 : n ≤ 7) (s : List UInt8) (set : Nat) : text3 n (fun i j k => sgnF (revF set (lookS n s)) i j k) = text3 n (rvF n s set) :=
  text3_congr h7 fun i j k h1 h2 _ => by rw [sgnF_rev h1 h2]; unfold rvF; rw [sgnF_plain h1 h2]
theorem by_at (w : World) (n : Nat) (s : ByteArray) (b : Nat) (f : Int → Int → Int → Int) (h3 : 3 ≤ n) (h7 : n ≤ 7) (W : World) (hW : Hid (WAt w n s W ∧ MapIs W b f)) :
    Calls Try.prog 66 #[.int .i64 n, .func (.func 68) #[.map (some b)] #[]] W fun e w' => e = .returned (sg n ⟨(text3 n (fun i j k => sgnF f i j k)).toArray⟩) ∧ (w'.cell? ⟨w.heap.size, 0, none⟩ = some (.int .i64 n) ∧ w'.cell? ⟨w.heap.size, 1, none⟩ = some (.string s)) ∧ (w'.cell? ⟨w.heap.size + 1, 0, none⟩ = some (.int .i64 0) ∧ w'.cell? ⟨w.heap.size + 1, 1, none⟩ = some (.string ⟨#[]⟩)) ∧ (w'.frozen? ⟨w.heap.size + 1, 0, none⟩ = false ∧ w'.frozen? ⟨w.heap.size + 1, 1, none⟩ = false) ∧ Below w.heap.size w w' := by
  refine (signsByM_any n h3 h7 68 b (fun i j k => sgnF f i j k) (enters _ _ _ Try.func68 (by kernel_rfl) rfl) W (Lib.hid fun W' i j k hB h1 h2 h4 => ?_)).mono fun e w' ⟨he, hb⟩ => ?_
  · exact (at_any b f i j k (by omega) (by omega) (by omega) W' (hW.out.2.on hB)).mono fun _ _ ⟨a, e⟩ => ⟨a, by subst e; exact Below.refl _ _⟩
  · obtain ⟨x0, x1, r0, r1, z0, z1, B⟩ := hW.out.1.on hb
    exact ⟨he, ⟨x0, x1⟩, ⟨r0, r1⟩, ⟨z0, z1⟩, B⟩
end Go.Proofs.Ytlhkgabglddlhaa.Sg
