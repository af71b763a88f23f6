/- impl.signMapOf: a map that has the sign of each three in order. -/
import Derived.Test.YtfjimdmoindepaaSgMap
import Derived.StillTailTactics
import Derived.Maps.OwnSet
namespace Go.Proofs.Ytfjimdmoindepaa.Sg
open Go.RowKit Pt Go.Maps
/-- The signs at the threes before number p. -/
def lookTo (n : Nat) (s : List UInt8) (p : Nat) (a b c : Int) : Int := if (0 ≤ a ∧ a < b ∧ b < c ∧ c < n) ∧ idx n a.toNat b.toNat c.toNat < p then sgn1 (s.getD (idx n a.toNat b.toNat c.toNat) 0) else 0
theorem lookTo_zero (n : Nat) (s : List UInt8) (a b c : Int) : lookTo n s 0 a b c = 0 := by unfold lookTo; rw [if_neg (by omega)]
theorem lookTo_all {n : Nat} (hn : n ≤ 7) (s : List UInt8) (a b c : Int) : lookTo n s (cnt n) a b c = look n s a b c := by
  unfold lookTo look
  by_cases h : 0 ≤ a ∧ a < b ∧ b < c ∧ c < n
  · rw [if_pos h, if_pos ⟨h, idx_lt hn (by omega) (by omega) (by omega)⟩]
  · rw [if_neg h, if_neg (fun e => h e.1)]
theorem lookTo_hit {n p : Nat} (hn : n ≤ 7) (s : List UInt8) {t : T3} (ht : (threes n)[p]? = some t) : lookTo n s (p + 1) t.1 t.2.1 t.2.2 = sgn1 (s.getD p 0) := by
  obtain ⟨h1, h2, h3⟩ := threes_mem hn (List.mem_of_getElem? ht)
  have hx := get_idx hn ht
  unfold lookTo
  simp only [Int.toNat_natCast, hx]
  rw [if_pos (by omega)]
theorem lookTo_miss {n p : Nat} (hn : n ≤ 7) (s : List UInt8) {t : T3} (ht : (threes n)[p]? = some t) {a b c : Int} (hne : ¬ (a = t.1 ∧ b = t.2.1 ∧ c = t.2.2)) : lookTo n s (p + 1) a b c = lookTo n s p a b c := by
  unfold lookTo
  by_cases h : 0 ≤ a ∧ a < b ∧ b < c ∧ c < n
  · have hp : idx n a.toNat b.toNat c.toNat ≠ p := fun e => by
      have hg := idx_get hn (i := a.toNat) (j := b.toNat) (k := c.toNat) (by omega) (by omega) (by omega)
      rw [e, ht] at hg
      obtain rfl := Option.some.inj hg
      exact hne ⟨by simp; omega, by simp; omega, by simp; omega⟩
    by_cases hlt : idx n a.toNat b.toNat c.toNat < p
    · rw [if_pos ⟨h, by omega⟩, if_pos ⟨h, hlt⟩]
    · rw [if_neg (by omega), if_neg (by omega)]
  · rw [if_neg (fun e => h e.1), if_neg (fun e => h e.1)]
theorem sgn1_bd (b : UInt8) : -1 ≤ sgn1 b ∧ sgn1 b ≤ 1 := by unfold sgn1; split <;> omega
theorem look_bd (n : Nat) (s : List UInt8) (a b c : Int) : -1 ≤ look n s a b c ∧ look n s a b c ≤ 1 := by
  unfold look
  split
  · exact sgn1_bd _
  · omega
/-- The signs by three numbers in order: none if they are no signs. -/
def lookS (n : Int) (s : List UInt8) (a b c : Int) : Int := if arB n s = true then look n.toNat s a b c else 0
theorem lookS_yes {n : Int} {s : List UInt8} (h : arB n s = true) : lookS n s = look n.toNat s := by funext a b c; unfold lookS; rw [if_pos h]
theorem lookS_no {n : Int} {s : List UInt8} (h : arB n s = false) (a b c : Int) : lookS n s a b c = 0 := by unfold lookS; rw [h]; rfl
/-- A map's keys are small elements alone. -/
def KeysIn (D : DataW Unit) : Prop := ∀ x y z : Int, -9223372036854775808 ≤ x ∧ x ≤ 9223372036854775807 → -9223372036854775808 ≤ y ∧ y ≤ 9223372036854775807 → -9223372036854775808 ≤ z ∧ z ≤ 9223372036854775807 → ¬ ((0 ≤ x ∧ x < 8) ∧ (0 ≤ y ∧ y < 8) ∧ 0 ≤ z ∧ z < 8) → ∀ zd, D.atKey (kl x y z) zd = zd
/-- Block b is a map with small keys that has f a b c at the key a, b, c. -/
def MapK (w : World) (b : Nat) (f : Int → Int → Int → Int) : Prop :=
  (∃ (m : Nat) (D : DataW Unit), m ≤ 35 ∧ w.ownsMap Try.prog 66 (plainElem Try.prog 3) b m D ∧ (∀ x y z : Int, -9223372036854775808 ≤ x ∧ x ≤ 9223372036854775807 → -9223372036854775808 ≤ y ∧ y ≤ 9223372036854775807 → -9223372036854775808 ≤ z ∧ z ≤ 9223372036854775807 → D.atKey (kl x y z) (.lit (.int .i64 0)) = .lit (.int .i64 (f x y z))) ∧ KeysIn D) ∧ ∀ x y z, -1 ≤ f x y z ∧ f x y z ≤ 1
theorem MapK.is {w : World} {b : Nat} {f : Int → Int → Int → Int} (h : MapK w b f) : MapIs w b f := by
  obtain ⟨⟨m, D, -, ho, hr, -⟩, hf⟩ := h
  exact ⟨⟨m, D, ho, hr⟩, hf⟩
theorem MapK.lt {w : World} {b : Nat} {f : Int → Int → Int → Int} (h : MapK w b f) : b < w.heap.size := h.is.lt
theorem MapK.on {w w' : World} {b : Nat} {f : Int → Int → Int → Int} (h : MapK w b f) (hb : Below w.heap.size w w') : MapK w' b f := by
  obtain ⟨⟨m, D, hm, h, ha, hk⟩, hf⟩ := h
  exact ⟨⟨m, D, hm, World.ownsMap.kept h (row := none) ⟨hb.os, hb.tape, hb.output, hb.size, fun k hk _ => hb.block k hk⟩ (by simp), ha, hk⟩, hf⟩
/-- The map's state at three number p. -/
def MapTo (n : Nat) (s : List UInt8) (p : Nat) (D : DataW Unit) : Prop :=
  (∀ x y z : Int, -9223372036854775808 ≤ x ∧ x ≤ 9223372036854775807 → -9223372036854775808 ≤ y ∧ y ≤ 9223372036854775807 → -9223372036854775808 ≤ z ∧ z ≤ 9223372036854775807 → D.atKey (kl x y z) (.lit (.int .i64 0)) = .lit (.int .i64 (lookTo n s p x y z))) ∧ KeysIn D
theorem mapTo_zero (n : Nat) (s : List UInt8) : MapTo n s 0 (.map []) := ⟨fun x y z _ _ _ => by rw [lookTo_zero]; rfl, fun x y z _ _ _ _ zd => rfl⟩
theorem isKey_kl (a b c : Int) : WideAt.IsKeyLit (kl a b c) := by unfold kl; trivial
theorem mapTo_step {n p : Nat} (hn : n ≤ 7) {s : List UInt8} {D : DataW Unit} {w : World} {b m : Nat} (hown : w.ownsMap Try.prog 66 (plainElem Try.prog 3) b m D) (h : MapTo n s p D) {t : T3} (ht : (threes n)[p]? = some t) :
    MapTo n s (p + 1) (D.put (kl t.1 t.2.1 t.2.2) (.lit (.int .i64 (sgn1 (s.getD p 0))))) := by
  obtain ⟨h1, h2, h3⟩ := threes_mem hn (List.mem_of_getElem? ht)
  refine ⟨fun x y z hx hy hz => ?_, fun x y z hx hy hz hno zd => ?_⟩
  · by_cases e : x = t.1 ∧ y = t.2.1 ∧ z = t.2.2
    · obtain ⟨rfl, rfl, rfl⟩ := e
      rw [lookTo_hit hn s ht, atKey_put_same (World.ownsMap.isMap hown) (isKey_kl _ _ _)]
    · rw [lookTo_miss hn s ht e, atKey_put_other (fun he => e (kl_inj hx hy hz (by omega) (by omega) (by omega) he))]
      exact h.1 x y z hx hy hz
  · rw [atKey_put_other (fun he => hno (by obtain ⟨rfl, rfl, rfl⟩ := kl_inj hx hy hz (by omega) (by omega) (by omega) he; omega))]
    exact h.2 x y z hx hy hz hno zd
set_option maxRecDepth 100000 in
theorem signOfByte_any (b : UInt8) (w : World) : Calls Try.prog 69 #[.int .u8 b.toNat] w fun e w' => e = .returned (.int .i64 (sgn1 b)) ∧ w' = w := by
  by_cases h : b = 43
  · subst h
    go_enter Try.func69, Try.ntmps69
    go_wp2
    go_ret
    exact ⟨rfl, rfl⟩
  · have HE : Hid (sgn1 b = -1) := Lib.hid (by unfold sgn1; simp [h])
    have ht : ((b.toNat : Int) == 43) = false := by
      have : (b.toNat : Int) ≠ ((43 : UInt8).toNat : Int) := fun e => h (UInt8.toNat_inj.1 (by omega))
      simpa using this
    go_enter Try.func69, Try.ntmps69
    go_wp2
    go_ret
    exact ⟨ret_int HE.out.symm, rfl⟩
theorem ownsMap_made (w : World) : (w.alloc (.map #[] 0)).ownsMap Try.prog 66 (plainElem (H := Unit) Try.prog 3) w.heap.size 0 (.map []) := World.ownsMap_made _ _ _ _
set_option maxHeartbeats 800000 in
set_option maxRecDepth 100000 in
theorem mapOfK_no (n : Int) (s : ByteArray) (hs : s.size ≤ 9223372036854775807) (h : arB n s.data.toList = false) (w : World) :
    Calls Try.prog 53 #[sg n s] w fun e w' => ∃ b, e = .returned (.map (some b)) ∧ w.heap.size ≤ b ∧ MapK w' b (lookS n s.data.toList) ∧ Below w.heap.size w w' := by
  have HA := Lib.hid (fun W => implAre_sg n s hs W)
  rw [h] at HA
  have hmm := @run_makeMap Try.prog
  have HF := Lib.hid (lookS_no h)
  go_enter Try.func53, Try.ntmps53
  go_wp2_with fail
  refine (HA.out _).mono ?_
  rintro e w1 ⟨rfl, hb1⟩
  have HO := Lib.hid (ownsMap_made (w.alloc (.cells #[.int .i64 n, .string s] 25)))
  have hbb := hb1.size
  have HM : Hid (MapK w1 (w.heap.size + 1) (lookS n s.data.toList)) := Lib.hid (by
    have h0 := HO.out
    have e : (w.alloc (.cells #[.int .i64 n, .string s] 25)).heap.size = w.heap.size + 1 := by simp
    rw [e] at h0
    refine MapK.on ⟨⟨0, _, by omega, h0, fun x y z _ _ _ => by rw [HF.out]; rfl, fun x y z _ _ _ _ zd => rfl⟩, fun x y z => by rw [HF.out]; omega⟩ hb1)
  have HB : Hid (Below w.heap.size w w1) := Lib.hid ((((Below.refl _ _).alloc (Nat.le_refl _) (.cells #[.int .i64 n, .string s] 25)).alloc (by simp) (.map #[] 0)).trans (hb1.mono (by simp; omega)))
  go_wp2
  go_ret
  exact ⟨_, rfl, by simp, HM.out, HB.out⟩
/-- A region whose head only reads, then one forced tail: the drawn world by a name. -/
theorem region_tail {P : Program} {id : Nat} {Q : Exit → Act → World → Prop} {a : Act} {w : World} {l : List Oper} (n : Nat) (hm : P.follows .mixedOrders = true) (hB : Region.lexTailB .any l.toArray n = true)
    (h : ∀ W, W = w.drew → wpStill P l.toArray W (fun a' => wpList P l.toArray Q (l.drop n) a' W) (l.take n) a) : (Code.region id l.toArray true).wp P Q a w := wp_region_still_tail n hm hB (h _ rfl)
theorem box3_made (w : World) (x y z : Int) (t : TypeId) : (w.alloc (.cells #[.int .i64 x, .int .i64 y, .int .i64 z] t)).cell? ⟨w.heap.size, 0, none⟩ = some (.int .i64 x) ∧ (w.alloc (.cells #[.int .i64 x, .int .i64 y, .int .i64 z] t)).cell? ⟨w.heap.size, 1, none⟩ = some (.int .i64 y) ∧ (w.alloc (.cells #[.int .i64 x, .int .i64 y, .int .i64 z] t)).cell? ⟨w.heap.size, 2, none⟩ = some (.int .i64 z) := by
  refine ⟨?_, ?_, ?_⟩ <;> go_simp
/-- The cells of a row of threes. -/
def At3 (w : World) (g : Nat) (xs : List T3) : Prop := ∀ (j : Nat) t, xs[j]? = some t → w.cell? ⟨g, j * 3, none⟩ = some (.int .i64 t.1) ∧ w.cell? ⟨g, j * 3 + 1, none⟩ = some (.int .i64 t.2.1) ∧ w.cell? ⟨g, j * 3 + 2, none⟩ = some (.int .i64 t.2.2)
theorem owns3_row {w : World} {B : Nat} {v : Value} {xs : List T3} (h : Owns3 w B v xs) (h0 : 0 < xs.length) : ∃ g c, v = .slice (some ⟨g, 0, none⟩) xs.length c ∧ B ≤ g ∧ g < w.heap.size ∧ At3 w g xs := by
  have hlt := World.ownsRow.lt h
  obtain ⟨-, ⟨rfl, h1⟩ | ⟨g, cap, cur, hv, hB, hh, hr⟩⟩ := id h
  · omega
  · subst hv
    have hc := World.ownsRow.cells h (g := g) rfl
    refine ⟨g, cap, rfl, hB, (hlt g rfl).2, fun j t hj => ?_⟩
    obtain ⟨e0, e1, e2⟩ := c3_get xs j t hj
    have r0 := hc _ _ e0
    have r1 := hc _ _ e1
    have r2 := hc _ _ e2
    rw [WideShapes.add_plain, Nat.zero_add] at r0 r1 r2
    exact ⟨r0, r1, r2⟩
theorem At3.block {w w' : World} {g : Nat} {xs : List T3} (h : At3 w g xs) (e : w'.heap[g]? = w.heap[g]?) : At3 w' g xs := fun j t hj => by
  have c := fun o => World.cell?_of_block (a := ⟨g, o, none⟩) e
  rw [c, c, c]
  exact h j t hj
theorem At3.on {w w' : World} {B g : Nat} {xs : List T3} (h : At3 w g xs) (hb : Below B w w') (hB : g < B) : At3 w' g xs := h.block (hb.block g hB)
theorem Box.block {w0 : World} {n : Int} {s : ByteArray} {w w' : World} (h : Box w0 n s w) (e : w'.heap[w0.heap.size]? = w.heap[w0.heap.size]?) (hb : Below w0.heap.size w0 w') : Box w0 n s w' :=
  ⟨by rw [World.cell?_of_block (a := ⟨w0.heap.size, 0, none⟩) e]; exact h.1, by rw [World.cell?_of_block (a := ⟨w0.heap.size, 1, none⟩) e]; exact h.2.1, hb⟩
/-- All that the loop needs of the memory. -/
structure MapSt (w0 : World) (n : Nat) (s : ByteArray) (g p : Nat) (wr : World) : Prop where
  own : ∃ D, wr.ownsMap Try.prog 66 (plainElem (H := Unit) Try.prog 3) (w0.heap.size + 1) p D ∧ MapTo n s.data.toList p D
  box : Box w0 n s wr
  at3 : At3 wr g (threes n)
  lt : g < wr.heap.size
theorem MapSt.step {w0 : World} {n : Nat} {s : ByteArray} {g p : Nat} {wr w3 : World} (h : MapSt w0 n s g p wr) {o : Obj} {D : DataW Unit} (hgw : w0.heap.size + 1 < g) (hg : (wr.alloc o).drew.grownBy w3 (some (w0.heap.size + 1)))
    (ho : w3.ownsMap Try.prog 66 (plainElem (H := Unit) Try.prog 3) (w0.heap.size + 1) (p + 1) D) (hD : MapTo n s.data.toList (p + 1) D) : MapSt w0 n s g (p + 1) w3 := by
  have hlt := h.lt
  have hbx := h.box.alloc o
  have hsz : w0.heap.size < wr.heap.size := by omega
  have e1 : w3.heap[w0.heap.size]? = (wr.alloc o).heap[w0.heap.size]? := hg.block _ (by simp [World.drew]; omega) (by simp)
  have e2 : w3.heap[g]? = (wr.alloc o).heap[g]? := hg.block _ (by simp [World.drew]; omega) (by simp; omega)
  have hs3 : wr.heap.size + 1 ≤ w3.heap.size := by have := hg.size; simpa [World.drew] using this
  have hal := (Below.refl wr.heap.size wr).alloc (Nat.le_refl _) o
  exact ⟨⟨D, ho, hD⟩, hbx.block e1 (hbx.2.2.drew.grown hg hbx.2.2.size (by intro q hq; cases hq; omega)), (h.at3.on hal hlt).block e2, by omega⟩
set_option maxHeartbeats 1600000 in
set_option maxRecDepth 100000 in
theorem mapOfK_yes (n : Nat) (s : ByteArray) (h : arB n s.data.toList = true) (w : World) :
    Calls Try.prog 53 #[sg n s] w fun e w' => ∃ b, e = .returned (.map (some b)) ∧ w.heap.size ≤ b ∧ MapK w' b (lookS n s.data.toList) ∧ Below w.heap.size w w' := by
  obtain ⟨h3, h7, hl, hall⟩ := arB_yes h
  have h3 : 3 ≤ n := by omega
  have h7 : n ≤ 7 := by omega
  have hlen : s.data.toList.length = s.size := by simp
  have hsz : s.size = cnt n := by simpa using hl
  have hc35 := cnt_le h7
  have HA := Lib.hid (fun W => implAre_sg n s (by omega) W)
  rw [h] at HA
  have HL : Hid (lookS n s.data.toList = look n s.data.toList) := Lib.hid (lookS_yes h)
  have hmm := @run_makeMap Try.prog
  have HT := Lib.hid (threes_length h7)
  clear hall hl hlen h
  go_enter Try.func53, Try.ntmps53
  go_wp2_with fail
  refine (HA.out _).mono ?_
  rintro e w1 ⟨rfl, hb1⟩
  have HO := Lib.hid (ownsMap_made (w.alloc (.cells #[.int .i64 n, .string s] 25)))
  have hbb := hb1.size
  have HM : Hid (w1.ownsMap Try.prog 66 (plainElem (H := Unit) Try.prog 3) (w.heap.size + 1) 0 (.map [])) := Lib.hid (by
    have h0 := HO.out
    have e : (w.alloc (.cells #[.int .i64 n, .string s] 25)).heap.size = w.heap.size + 1 := by simp
    rw [e] at h0
    exact World.ownsMap.kept h0 (row := none) ⟨hb1.os, hb1.tape, hb1.output, hb1.size, fun k hk _ => hb1.block k hk⟩ (by simp))
  have HX : Hid (Box w n s w1) := Lib.hid (((box_made w n s 25).alloc (.map #[] 0)).on hb1)
  clear HO
  obtain ⟨c0, c1, B1⟩ := HX.out
  go_wp2_with fail
  refine (threesOf_any n h3 h7 _).mono ?_
  rintro e w2 ⟨v, rfl, hv, hb2⟩
  have hcp : 0 < cnt n := by rcases (by omega : n = 3 ∨ n = 4 ∨ n = 5 ∨ n = 6 ∨ n = 7) with rfl | rfl | rfl | rfl | rfl <;> decide
  obtain ⟨g, c, rfl, hg1, hg2, h3a⟩ := owns3_row hv (by rw [HT.out]; exact hcp)
  rw [HT.out]
  have HS : Hid (MapSt w n s g 0 w2) := Lib.hid ⟨⟨_, World.ownsMap.kept HM.out (row := none) ⟨hb2.os, hb2.tape, hb2.output, hb2.size, fun k hk _ => hb2.block k hk⟩ (by simp), mapTo_zero n _⟩, HX.out.on hb2, h3a, hg2⟩
  have hgw : w.heap.size + 1 < g := by simp at hbb; omega
  clear hv h3a c0 c1 B1 HM HX hg1 hg2 hbb hb1 hb2 hmm
  go_wp2
  go_loopw [15] (fun i wr => ∃ p : Nat, p ≤ cnt n ∧ i = .int .i64 p ∧ Hid (MapSt w n s g p wr)) (fun i _ => cnt n - (intOf i).toNat)
  case atStart => exact ⟨0, Nat.zero_le _, rfl, HS⟩
  case round =>
    obtain ⟨p, hp, rfl, HS⟩ := hrel
    by_cases hlt : p < cnt n
    · obtain ⟨t, ht⟩ : ∃ t, (threes n)[p]? = some t := ⟨_, List.getElem?_eq_getElem (by rw [HT.out]; exact hlt)⟩
      obtain ⟨x0, x1, x2⟩ := HS.out.at3 p t ht
      go_wp2
      obtain ⟨D, hown, hD⟩ := HS.out.own
      have hps : p < s.size := by omega
      have y1 := (HS.out.box.alloc (.cells #[.int .i64 t.1, .int .i64 t.2.1, .int .i64 t.2.2] 66)).2.1
      obtain ⟨t1, t2, t3⟩ := threes_mem h7 (List.mem_of_getElem? ht)
      have hsp : s.data.toList.getD p 0 = s[p] := by rw [List.getD_eq_getElem?_getD, List.getElem?_eq_getElem (by simpa using hps)]; rfl
      have HD := Lib.hid (mapTo_step h7 hown hD ht)
      rw [hsp] at HD
      obtain ⟨v1, v2⟩ := sgn1_bd s[p]
      have HW := Lib.hid hown
      clear hown hD ht hsp x0 x1 x2
      obtain ⟨z0, z1, z2⟩ := box3_made wr t.1 t.2.1 t.2.2 66
      refine region_tail 7 (by kernel_rfl) (by kernel_rfl) ?_
      intro W hW
      have g1 : W.cell? ⟨w.heap.size, 1, none⟩ = some (.string s) := by rw [hW]; exact y1
      have g2 : W.cell? ⟨wr.heap.size, 0, none⟩ = some (.int .i64 t.1) := by rw [hW]; exact z0
      have g3 : W.cell? ⟨wr.heap.size, 1, none⟩ = some (.int .i64 t.2.1) := by rw [hW]; exact z1
      have g4 : W.cell? ⟨wr.heap.size, 2, none⟩ = some (.int .i64 t.2.2) := by rw [hW]; exact z2
      have HOW : Hid (W.ownsMap Try.prog 66 (plainElem (H := Unit) Try.prog 3) (w.heap.size + 1) p D) := Lib.hid (by rw [hW]; exact (HW.out.alloc _).drew)
      have HWW := Lib.hid hW
      clear hW y1 z0 z1 z2
      simp only [List.take_succ_cons, List.take_zero, List.drop_succ_cons, List.drop_zero]
      still_step
      still_step
      still_step
      still_step
      still_step
      still_step
      still_call (signOfByte_any _ _)
      refine wpStill_nil ?_
      change wpList _ _ _ _ _ W
      have hnp : p < maxLen := by simp only [maxLen]; omega
      have hwf : (Lit.int .i64 (sgn1 s[p])).wf = true := WalkArith.wf_i64 (by omega)
      go_wp2_with (at_mapUpdate; refine wpList_mapUpdate_own _ rfl _ _ _ 48 rfl 66 3 law Try.underlying48 _ _ p D rfl HOW.out hnp _ _ _ rfl rfl (key_three (by omega) (by omega) (by omega)) _ [] (plainElem_int Try.underlying3 hwf) ?_)
      intro w3 hown3 hg3
      have HN : Hid (MapSt w n s g (p + 1) w3) := Lib.hid (HS.out.step hgw (by rw [← HWW.out]; exact hg3) hown3 HD.out)
      clear hown3 hg3
      go_wp2
      exact ⟨⟨p + 1, by omega, by go_num, HN⟩, by simp only [intOf]; omega⟩
    · obtain rfl : p = cnt n := by omega
      have HR : Hid (MapK wr (w.heap.size + 1) (lookS n s.data.toList) ∧ Below w.heap.size w wr) := by
        obtain ⟨D, ho, hD⟩ := HS.out.own
        refine Lib.hid ⟨⟨⟨_, D, hc35, ho, fun x y z hx hy hz => ?_, hD.2⟩, fun x y z => ?_⟩, HS.out.box.2.2⟩
        · rw [hD.1 x y z hx hy hz, lookTo_all h7, HL.out]
        · rw [HL.out]; exact look_bd _ _ _ _ _
      go_wp2
      go_ret
      exact ⟨_, rfl, by omega, HR.out.1, HR.out.2⟩
theorem mapOf_k (n : Int) (s : ByteArray) (hs : s.size ≤ 9223372036854775807) (w : World) :
    Calls Try.prog 53 #[sg n s] w fun e w' => ∃ b, e = .returned (.map (some b)) ∧ w.heap.size ≤ b ∧ MapK w' b (lookS n s.data.toList) ∧ Below w.heap.size w w' := by
  cases h : arB n s.data.toList
  · exact mapOfK_no n s hs h w
  · obtain ⟨h3, -⟩ := arB_yes h
    obtain ⟨m, rfl⟩ : ∃ m : Nat, n = m := ⟨n.toNat, by omega⟩
    exact mapOfK_yes m s h w
theorem mapOf_sg (n : Int) (s : ByteArray) (hs : s.size ≤ 9223372036854775807) (w : World) :
    Calls Try.prog 53 #[sg n s] w fun e w' => ∃ b, e = .returned (.map (some b)) ∧ w.heap.size ≤ b ∧ MapIs w' b (lookS n s.data.toList) ∧ Below w.heap.size w w' :=
  (mapOf_k n s hs w).mono fun _ _ ⟨b, he, h1, h2, h3⟩ => ⟨b, he, h1, h2.is, h3⟩
end Go.Proofs.Ytfjimdmoindepaa.Sg
