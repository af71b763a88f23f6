/- The signs of some elements: impl.signsOfElements. -/
import Derived.Test.YtohihlhkheeemaaSgPick
namespace Go.Proofs.Ytohihlhkheeemaa.Sg
open Go.RowKit Pt
set_option maxHeartbeats 800000 in
set_option maxRecDepth 100000 in
theorem elem1_any (Bm Be b g c m : Nat) (f : Int → Int → Int → Int) (i j k x y z : Nat) (hi : i < m) (hj : j < m) (hk : k < m) (hm : m ≤ 7) (hx : x < 8) (hy : y < 8) (hz : z < 8) (w : World) (h0 : w.cell? ⟨Bm, 0, none⟩ = some (.map (some b))) (h1 : w.cell? ⟨Be, 0, none⟩ = some (.slice (some ⟨g, 0, none⟩) m c))
    (hc0 : w.cell? ⟨g, i, none⟩ = some (.int .i64 x)) (hc1 : w.cell? ⟨g, j, none⟩ = some (.int .i64 y)) (hc2 : w.cell? ⟨g, k, none⟩ = some (.int .i64 z)) (hmap : MapIs w b f) :
    Calls Try.prog 64 #[.int .i64 i, .int .i64 j, .int .i64 k, .pointer (some ⟨Bm, 0, none⟩), .pointer (some ⟨Be, 0, none⟩)] w fun e w' => e = .returned (.int .i64 (sgnF f x y z)) ∧ Below w.heap.size w w' := by
  have HA : Hid (∀ q, Calls Try.prog 34 #[.map (some b), .int .i64 x, .int .i64 y, .int .i64 z] (w.drewN q) fun e w' => e = .returned (.int .i64 (sgnF f x y z)) ∧ w' = w.drewN q) := Lib.hid (fun q => (at_any b f x y z (by omega) (by omega) (by omega) (w.drewN q) (hmap.drewN q)).mono fun _ _ ⟨p, r⟩ => ⟨p, r.symm⟩)
  clear hmap
  generalize sgnF f x y z = v at HA
  go_enter Try.func64, Try.ntmps64
  go_wp2
  go_quiet ((go_at_call 34; exact Calls.quiet_of_same (HA.out _)))
  go_wp2
  go_ret
  exact ⟨rfl, drewN_below (Below.refl _ _) _⟩
set_option maxHeartbeats 1600000 in
set_option maxRecDepth 100000 in
theorem signsOfEl_any (n : Nat) (s : ByteArray) (hs : s.size ≤ 9223372036854775807) (es : List Nat) (b c : Nat) (hm3 : 3 ≤ es.length) (hm7 : es.length ≤ 7) (hlt : ∀ x ∈ es, x < 8) (w : World) (hat : IntsAt w b es) (hbw : b < w.heap.size) :
    Calls Try.prog 50 #[sg n s, .slice (some ⟨b, 0, none⟩) es.length c] w fun e w' => e = .returned (sg es.length ⟨(text3 es.length (pickF n s.data.toList es)).toArray⟩) ∧ Below w.heap.size w w' := by
  have hmf : ∀ (fn : Fn) (first cap : Array Value) (w : World), (Instr.makeFunc fn first cap).run Try.prog w = .ok (.func fn first cap) w := fun _ _ _ _ => rfl
  have HMO := Lib.hid (fun W => mapOf_sg n s hs W)
  have HE := Lib.hid hat
  have HLT := Lib.hid hlt
  obtain ⟨w0, hw0⟩ : ∃ w0, w0 = (w.alloc (.cells #[.int .i64 n, .string s] 26)).alloc (.cells #[.slice (some ⟨b, 0, none⟩) es.length c] 41) := ⟨_, rfl⟩
  have hsz : w0.heap.size = w.heap.size + 1 + 1 := by rw [hw0]; simp
  have HM := Lib.hid (resC_made w0 26)
  have HB := Lib.hid (((Below.refl w.heap.size w).alloc (Nat.le_refl _) (.cells #[.int .i64 n, .string s] 26)).alloc (by simp) (.cells #[.slice (some ⟨b, 0, none⟩) es.length c] 41))
  have HC0 : Hid (w0.cell? ⟨w.heap.size + 1, 0, none⟩ = some (.slice (some ⟨b, 0, none⟩) es.length c)) := Lib.hid (by rw [hw0]; go_simp)
  rw [← hw0] at HB
  have HW0 := Lib.hid hw0
  rw [hw0] at HM
  clear hat hlt hw0
  go_enter Try.func50, Try.ntmps50
  go_wp2_with fail
  refine (HMO.out _).mono ?_
  rintro e w2 ⟨bm, rfl, -, hm, hb2⟩
  rw [← HW0.out] at HM hb2
  have R2 := Lib.hid ((HM.out.on hb2).alloc (.cells #[.map (some bm)] 53))
  have B02 := Lib.hid (HM.out.on hb2).2.2
  have c1 : w2.cell? ⟨w.heap.size + 1, 0, none⟩ = some (.slice (some ⟨b, 0, none⟩) es.length c) := by rw [B02.out.cell (by rw [hsz]; simp)]; exact HC0.out
  have hs2 : w.heap.size + 1 + 1 ≤ w2.heap.size := by have := B02.out.size; omega
  have c1' : (w2.alloc (.cells #[.map (some bm)] 53)).cell? ⟨w.heap.size + 1, 0, none⟩ = some (.slice (some ⟨b, 0, none⟩) es.length c) := by rw [World.cell?_alloc_lt _ _ _ (by simp; omega)]; exact c1
  have HE2 := Lib.hid ((((HE.out.on HB.out hbw).on B02.out (by omega)).on ((Below.refl w2.heap.size w2).alloc (Nat.le_refl _) (.cells #[.map (some bm)] 53)) (by omega)))
  have HMM := Lib.hid (hm.on ((Below.refl w2.heap.size w2).alloc (Nat.le_refl _) (.cells #[.map (some bm)] 53)))
  have HCC : Hid ((w2.alloc (.cells #[.map (some bm)] 53)).cell? ⟨w2.heap.size, 0, none⟩ = some (.map (some bm))) := Lib.hid (by go_simp)
  have HC1 := Lib.hid c1'
  clear hm hb2 c1
  go_wp2_with fail
  refine (signsBy_any es.length hm3 hm7 64 #[.pointer (some ⟨w2.heap.size, 0, none⟩), .pointer (some ⟨w.heap.size + 1, 0, none⟩)] (pickF n s.data.toList es) (enters _ _ _ Try.func64 (by kernel_rfl) rfl) _ (Lib.hid fun W i j k hW h1 h2 h4 => by
    have hi : i < es.length := by omega
    have hj : j < es.length := by omega
    have e : pickF n s.data.toList es i j k = sgnF (lookS n s.data.toList) (es[i] : Nat) (es[j] : Nat) (es[k] : Nat) := by
      unfold pickF
      rw [List.getD_eq_getElem?_getD, List.getD_eq_getElem?_getD, List.getD_eq_getElem?_getD, List.getElem?_eq_getElem hi, List.getElem?_eq_getElem hj, List.getElem?_eq_getElem h4]
      rfl
    have hEW := HE2.out.on hW (by simp; omega)
    rw [e]
    exact elem1_any w2.heap.size (w.heap.size + 1) bm b c es.length _ i j k _ _ _ hi hj h4 hm7 (HLT.out _ (List.getElem_mem hi)) (HLT.out _ (List.getElem_mem hj)) (HLT.out _ (List.getElem_mem h4)) W (by rw [hW.cell (by simp)]; exact HCC.out) (by rw [hW.cell (by simp; omega)]; exact HC1.out) (hEW.get hi) (hEW.get hj) (hEW.get h4) (HMM.out.on hW))).mono ?_
  rintro e w3 ⟨rfl, hb3⟩
  obtain ⟨⟨e0, e1⟩, ⟨z0, z1⟩, B3⟩ := R2.out.on hb3
  have B := HB.out.trans (B3.mono (by rw [hsz]; omega))
  rw [hsz] at e0 e1 z0 z1
  generalize hT : (text3 es.length (pickF n s.data.toList es)).toArray = T
  obtain ⟨k0, k1⟩ := ret_sg e0 e1 (.int .i64 es.length) (.string ⟨T⟩)
  have HT := Lib.hid hT
  clear B3 hb3 hmf c1' hT
  go_wp2
  exact bodyPost_ret (v := .agg #[.int .i64 es.length, .string ⟨T⟩]) (by simp [results, Try.results50, go_sem, k0, k1]) rfl ⟨ret_v (by rw [HT.out]), (B.setCell (by simp; omega) _).setCell (by simp; omega) _⟩
end Go.Proofs.Ytohihlhkheeemaa.Sg
