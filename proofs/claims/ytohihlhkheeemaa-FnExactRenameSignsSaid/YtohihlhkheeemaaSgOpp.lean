/- OppositeSigns, as impl answers it. -/
import Derived.Test.YtohihlhkheeemaaSgBy
import Derived.Test.YtohihlhkheeemaaSgAt
import Derived.Shelf.Abstract
namespace Go.Proofs.Ytohihlhkheeemaa.Sg
open Go.RowKit Pt
theorem srt_asc {i j k : Int} (h1 : i < j) (h2 : j < k) : srt i j k = (i, j, k, 1) := by
  unfold srt
  have a : ¬ j < i := by omega
  have b : ¬ k < j := by omega
  simp [a, b]
theorem sgnF_asc {n p : Nat} {s : List UInt8} (h : arB n s = true) {t : T3} (ht : (threes n)[p]? = some t) : sgnF (lookS n s) t.1 t.2.1 t.2.2 = sgn1 (s.getD p 0) := by
  obtain ⟨_, h7, -, -⟩ := arB_yes h
  have h7 : n ≤ 7 := by omega
  obtain ⟨h1, h2, h3⟩ := threes_mem h7 (List.mem_of_getElem? ht)
  rw [sgnF_of (srt_asc (i := t.1) (j := t.2.1) (k := t.2.2) (by omega) (by omega)), lookS_yes h]
  unfold look
  simp only [Int.toNat_natCast]
  rw [if_pos (by omega), get_idx h7 ht]
  simp
/-- The other sign. -/
def flip1 (b : UInt8) : UInt8 := byteOf (if b = 45 then 1 else 0)
theorem text_opp {n : Nat} {s : List UInt8} (h : arB n s = true) : text3 n (fun i j k => -(sgnF (lookS n s) i j k)) = s.map flip1 := by
  obtain ⟨_, h7, hl, hall⟩ := arB_yes h
  have h7 : n ≤ 7 := by omega
  have hl : s.length = cnt n := by simpa using hl
  refine List.ext_getElem? fun p => ?_
  unfold text3
  rw [List.getElem?_map, List.getElem?_map]
  by_cases hp : p < cnt n
  · obtain ⟨t, ht⟩ : ∃ t, (threes n)[p]? = some t := ⟨_, List.getElem?_eq_getElem (by rw [threes_length h7]; exact hp)⟩
    have hs : s[p]? = some (s[p]'(by omega)) := List.getElem?_eq_getElem (by omega)
    rw [ht, hs]
    simp only [Option.map_some]
    rw [sgnF_asc h ht, List.getD_eq_getElem?_getD, hs]
    simp only [Option.getD_some]
    rcases hall _ (List.getElem_mem (show p < s.length by omega)) with e | e <;> rw [e] <;> rfl
  · rw [List.getElem?_eq_none (by rw [threes_length h7]; omega), List.getElem?_eq_none (by omega)]; rfl
/-- What OppositeSigns answers. -/
def oppV (n : Int) (s : ByteArray) : Value := if arB n s.data.toList = true then .tuple #[sg n ⟨(s.data.toList.map flip1).toArray⟩, .bool true] else .tuple #[sg 0 ⟨#[]⟩, .bool false]
theorem oppV_no {n : Int} {s : ByteArray} (h : arB n s.data.toList = false) : oppV n s = .tuple #[sg 0 ⟨#[]⟩, .bool false] := by unfold oppV; rw [h]; rfl
theorem oppV_yes {n : Int} {s : ByteArray} (h : arB n s.data.toList = true) : oppV n s = .tuple #[sg n ⟨(s.data.toList.map flip1).toArray⟩, .bool true] := by unfold oppV; rw [if_pos h]
theorem ret_v {a b : Value} (h : a = b) : Ending.returned a = .returned b := by rw [h]
theorem enters (g : Nat) (fn : Func) (c : Code) (hf : Try.prog.funcs[g]? = some fn) (hname : (fn.name == "runtime.NumGoroutine") = false) (hb : fn.body = some c) : ∀ args w, (callFunc g args).run Try.prog w = .ok (.enter g args) w := enters_of hf hname hb
set_option maxHeartbeats 400000 in
set_option maxRecDepth 100000 in
theorem opp1_any (B b : Nat) (f : Int → Int → Int → Int) (i j k : Nat) (hi : i < 8) (hj : j < 8) (hk : k < 8) (w : World) (hc : w.cell? ⟨B, 0, none⟩ = some (.map (some b))) (hm : MapIs w b f) :
    Calls Try.prog 45 #[.int .i64 i, .int .i64 j, .int .i64 k, .pointer (some ⟨B, 0, none⟩)] w fun e w' => e = .returned (.int .i64 (-(sgnF f i j k))) ∧ Below w.heap.size w w' := by
  have HA := Lib.hid (at_any b f i j k (by omega) (by omega) (by omega) w hm)
  have hbd := sgnF_bd hm.2 i j k
  clear hm
  generalize sgnF f i j k = x at HA hbd
  go_enter Try.func45, Try.ntmps45
  go_wp2_with fail
  refine HA.out.mono ?_
  rintro e w' ⟨rfl, rfl⟩
  go_wp2
  go_ret
  exact ⟨rfl, Below.refl _ _⟩
set_option maxHeartbeats 800000 in
set_option maxRecDepth 100000 in
theorem implOpp_no (n : Int) (s : ByteArray) (hs : s.size ≤ 9223372036854775807) (h : arB n s.data.toList = false) (w : World) :
    Calls Try.prog 22 #[sg n s] w fun e w' => e = .returned (oppV n s) ∧ Below w.heap.size w w' := by
  have HA := Lib.hid (fun W => implAre_sg n s hs W)
  rw [h] at HA
  have HR := Lib.hid (oppV_no h)
  have HM := Lib.hid (resC_made (w.alloc (.cells #[.int .i64 n, .string s] 26)) 26)
  have hsz : (w.alloc (.cells #[.int .i64 n, .string s] 26)).heap.size = w.heap.size + 1 := by simp
  have HB := Lib.hid ((Below.refl w.heap.size w).alloc (Nat.le_refl _) (.cells #[.int .i64 n, .string s] 26))
  clear h
  go_enter Try.func22, Try.ntmps22
  go_wp2_with fail
  refine (HA.out _).mono ?_
  rintro e w1 ⟨rfl, hb1⟩
  obtain ⟨⟨e0, e1⟩, ⟨z0, z1⟩, B1⟩ := HM.out.on hb1
  have B := HB.out.trans (B1.mono (by rw [hsz]; omega))
  rw [hsz] at e0 e1 z0 z1
  obtain ⟨g0, g1⟩ := ret_sg e0 e1 (.int .i64 0) (.string ⟨#[]⟩)
  clear B1 hb1
  go_wp2
  exact bodyPost_ret (v := .tuple #[.agg #[.int .i64 0, .string ⟨#[]⟩], .bool false]) (by simp [results, Try.results22, go_sem, g0, g1]) rfl ⟨ret_v HR.out.symm, (B.setCell (by simp) _).setCell (by simp) _⟩
set_option maxHeartbeats 1600000 in
set_option maxRecDepth 100000 in
theorem implOpp_yes (n : Nat) (s : ByteArray) (hs : s.size ≤ 9223372036854775807) (h : arB n s.data.toList = true) (w : World) :
    Calls Try.prog 22 #[sg n s] w fun e w' => e = .returned (oppV n s) ∧ Below w.heap.size w w' := by
  have hmf : ∀ (fn : Fn) (first cap : Array Value) (w : World), (Instr.makeFunc fn first cap).run Try.prog w = .ok (.func fn first cap) w := fun _ _ _ _ => rfl
  have HA := Lib.hid (fun W => implAre_sg n s hs W)
  rw [h] at HA
  have HR : Hid (oppV n s = .tuple #[sg n ⟨(text3 n (fun i j k => -(sgnF (lookS n s.data.toList) i j k))).toArray⟩, .bool true]) := Lib.hid (by rw [text_opp h]; exact oppV_yes h)
  obtain ⟨h3, h7, -⟩ := arB_yes h
  have h3 : 3 ≤ n := by omega
  have h7 : n ≤ 7 := by omega
  have HMO := Lib.hid (fun W => mapOf_sg n s hs W)
  have HM := Lib.hid (resC_made (w.alloc (.cells #[.int .i64 n, .string s] 26)) 26)
  have HX := Lib.hid ((box_made w n s 26).alloc (.cells #[.int .i64 0, .string ⟨#[]⟩] 26))
  have hsz : (w.alloc (.cells #[.int .i64 n, .string s] 26)).heap.size = w.heap.size + 1 := by simp
  have HB := Lib.hid ((Below.refl w.heap.size w).alloc (Nat.le_refl _) (.cells #[.int .i64 n, .string s] 26))
  clear h
  generalize lookS n s.data.toList = f at HMO HR
  go_enter Try.func22, Try.ntmps22
  go_wp2_with fail
  refine (HA.out _).mono ?_
  rintro e w1 ⟨rfl, hb1⟩
  have R1 := Lib.hid (HM.out.on hb1)
  obtain ⟨x0, x1, B1⟩ := HX.out.on hb1
  clear hb1
  go_wp2_with fail
  refine (HMO.out _).mono ?_
  rintro e w2 ⟨b, rfl, -, hm, hb2⟩
  have R2 := Lib.hid ((R1.out.on hb2).alloc (.cells #[.map (some b)] 53))
  have X2 := Box.on ⟨x0, x1, B1⟩ hb2
  clear x0 x1
  obtain ⟨x0, x1, B2⟩ := X2.alloc (.cells #[.map (some b)] 53)
  have HMM := Lib.hid (hm.on ((Below.refl w2.heap.size w2).alloc (Nat.le_refl _) (.cells #[.map (some b)] 53)))
  have HCC : Hid ((w2.alloc (.cells #[.map (some b)] 53)).cell? ⟨w2.heap.size, 0, none⟩ = some (.map (some b))) := Lib.hid (by go_simp)
  clear hm hb2 X2
  go_wp2_with fail
  refine (signsBy_any n h3 h7 45 #[.pointer (some ⟨w2.heap.size, 0, none⟩)] (fun i j k => -(sgnF f i j k)) (enters _ _ _ Try.func45 (by kernel_rfl) rfl) _ (Lib.hid fun W i j k hW h1 h2 h4 => opp1_any w2.heap.size b f i j k (by omega) (by omega) (by omega) W (by rw [hW.cell (by simp)]; exact HCC.out) (HMM.out.on hW))).mono ?_
  rintro e w3 ⟨rfl, hb3⟩
  obtain ⟨⟨e0, e1⟩, ⟨z0, z1⟩, B3⟩ := R2.out.on hb3
  have B := HB.out.trans (B3.mono (by rw [hsz]; omega))
  rw [hsz] at e0 e1 z0 z1
  obtain ⟨k0, k1⟩ := ret_sg e0 e1 (.int .i64 n) (.string ⟨(text3 n (fun i j k => -(sgnF f i j k))).toArray⟩)
  clear B3 hb3 x0 x1 hmf
  generalize (text3 n (fun i j k => -(sgnF f i j k))).toArray = L at k0 k1 HR
  go_wp2
  exact bodyPost_ret (v := .tuple #[.agg #[.int .i64 n, .string ⟨L⟩], .bool true]) (by simp [results, Try.results22, go_sem, k0, k1]) rfl ⟨ret_v HR.out.symm, (B.setCell (by simp) _).setCell (by simp) _⟩
theorem implOpp (n : Int) (s : ByteArray) (hs : s.size ≤ 9223372036854775807) (w : World) :
    Calls Try.prog 22 #[sg n s] w fun e w' => e = .returned (oppV n s) ∧ Below w.heap.size w w' := by
  cases h : arB n s.data.toList
  · exact implOpp_no n s hs h w
  · obtain ⟨h3, -⟩ := arB_yes h
    obtain ⟨m, rfl⟩ : ∃ m : Nat, n = m := ⟨n.toNat, by omega⟩
    exact implOpp_yes m s hs h w
end Go.Proofs.Ytohihlhkheeemaa.Sg
