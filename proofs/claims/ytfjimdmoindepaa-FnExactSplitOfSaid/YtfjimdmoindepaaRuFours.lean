/- impl.foursOf: the fours of n elements, in memory of the call's own. -/
import Derived.Test.YtfjimdmoindepaaSgMapOf
import Derived.Test.YtfjimdmoindepaaRuBrk
namespace Go.Proofs.Ytfjimdmoindepaa.Sg
open Go.RowKit Pt
/-- The cells of a list of fours. -/
def c4 : List T4 → List Value
  | [] => []
  | t :: r => .int .i64 t.1 :: .int .i64 t.2.1 :: .int .i64 t.2.2.1 :: .int .i64 t.2.2.2 :: c4 r
theorem c4_length : ∀ xs : List T4, (c4 xs).length = xs.length * 4
  | [] => rfl
  | t :: r => by simp [c4, c4_length r]; omega
theorem c4_append : ∀ xs ys : List T4, c4 (xs ++ ys) = c4 xs ++ c4 ys
  | [], ys => rfl
  | t :: r, ys => by simp [c4, c4_append r ys]
theorem c4_get : ∀ (xs : List T4) (j : Nat) (t : T4), xs[j]? = some t → (c4 xs)[j * 4]? = some (.int .i64 t.1) ∧ (c4 xs)[j * 4 + 1]? = some (.int .i64 t.2.1) ∧ (c4 xs)[j * 4 + 2]? = some (.int .i64 t.2.2.1) ∧ (c4 xs)[j * 4 + 3]? = some (.int .i64 t.2.2.2)
  | [], j, t, h => by simp at h
  | x :: r, 0, t, h => by
    simp only [List.getElem?_cons_zero, Option.some.injEq] at h
    subst h
    exact ⟨rfl, rfl, rfl, rfl⟩
  | x :: r, j + 1, t, h => by
    have := c4_get r j t (by simpa using h)
    rw [show (j + 1) * 4 = j * 4 + 4 by omega]
    simpa [c4] using this
def Owns4 (w : World) (B : Nat) (v : Value) (xs : List T4) : Prop := w.ownsRow B 85 4 v xs.length (c4 xs)
theorem owns4_snoc {w : World} {B : Nat} {v : Value} {xs : List T4} {i j k l : Nat} (h : w.ownsRow B 85 4 v (xs.length + 1) (c4 xs ++ [.int .i64 i, .int .i64 j, .int .i64 k, .int .i64 l])) : Owns4 w B v (xs ++ [(i, j, k, l)]) := by
  unfold Owns4
  rw [c4_append, List.length_append]
  exact h
set_option maxRecDepth 100000 in
theorem info4 : (Try.prog.info? 85).map (fun i => (i.zero, i.size, i.bytes)) = some (some (.agg #[.int .i64 0, .int .i64 0, .int .i64 0, .int .i64 0]), 4, 32) := by kernel_rfl
theorem news4 (w : World) (x y z u : Int) (t : TypeId) : ∀ (j : Nat) v, [Value.int .i64 x, Value.int .i64 y, Value.int .i64 z, Value.int .i64 u][j]? = some v → (w.alloc (.cells #[.int .i64 x, .int .i64 y, .int .i64 z, .int .i64 u] t)).cell? (Addr.add ⟨w.heap.size, 0, none⟩ j) = some v
  | 0, v, h => by rw [WideShapes.add_plain, Nat.add_zero, World.cell?_alloc_new]; simpa using h
  | 1, v, h => by rw [WideShapes.add_plain, World.cell?_alloc_new]; simpa using h
  | 2, v, h => by rw [WideShapes.add_plain, World.cell?_alloc_new]; simpa using h
  | 3, v, h => by rw [WideShapes.add_plain, World.cell?_alloc_new]; simpa using h
  | j + 4, v, h => by simp at h
theorem one4 (x y z u : Int) : ∀ v ∈ [Value.int .i64 x, Value.int .i64 y, Value.int .i64 z, Value.int .i64 u], v.oneCell' = true := fun v hv => by
  simp only [List.mem_cons, List.not_mem_nil, or_false] at hv
  rcases hv with rfl | rfl | rfl | rfl <;> rfl
/-- The cells of a row of fours. -/
def At4 (w : World) (g : Nat) (xs : List T4) : Prop := ∀ (j : Nat) t, xs[j]? = some t → w.cell? ⟨g, j * 4, none⟩ = some (.int .i64 t.1) ∧ w.cell? ⟨g, j * 4 + 1, none⟩ = some (.int .i64 t.2.1) ∧ w.cell? ⟨g, j * 4 + 2, none⟩ = some (.int .i64 t.2.2.1) ∧ w.cell? ⟨g, j * 4 + 3, none⟩ = some (.int .i64 t.2.2.2)
theorem At4.block {w w' : World} {g : Nat} {xs : List T4} (h : At4 w g xs) (e : w'.heap[g]? = w.heap[g]?) : At4 w' g xs := fun j t hj => by
  have c := fun o => World.cell?_of_block (a := ⟨g, o, none⟩) e
  rw [c, c, c, c]
  exact h j t hj
theorem At4.on {w w' : World} {B g : Nat} {xs : List T4} (h : At4 w g xs) (hb : Below B w w') (hB : g < B) : At4 w' g xs := h.block (hb.block g hB)
theorem owns4_row {w : World} {B : Nat} {v : Value} {xs : List T4} (h : Owns4 w B v xs) : ∃ a c, v = .slice a xs.length c ∧ (xs ≠ [] → ∃ g, a = some ⟨g, 0, none⟩ ∧ B ≤ g ∧ g < w.heap.size ∧ At4 w g xs) := by
  have hlt := World.ownsRow.lt h
  obtain ⟨hl, ⟨rfl, h1⟩ | ⟨g, cap, cur, hv, hB, hh, hr⟩⟩ := id h
  · exact ⟨none, 0, by rw [h1], fun hne => absurd (List.eq_nil_of_length_eq_zero h1) hne⟩
  · subst hv
    have hc := World.ownsRow.cells h (g := g) rfl
    refine ⟨_, cap, rfl, fun _ => ⟨g, rfl, hB, (hlt g rfl).2, fun j t hj => ?_⟩⟩
    obtain ⟨e0, e1, e2, e3⟩ := c4_get xs j t hj
    have r0 := hc _ _ e0
    have r1 := hc _ _ e1
    have r2 := hc _ _ e2
    have r3 := hc _ _ e3
    rw [WideShapes.add_plain, Nat.zero_add] at r0 r1 r2 r3
    exact ⟨r0, r1, r2, r3⟩
/-- A row's block is none whose cells are of another type. -/
theorem own_box {w : World} {B b n size : Nat} {e e' : TypeId} {v : Value} {xs : List Value} {cs : Array Value} (h : w.ownsRow B e size v n xs) (hb : w.heap[b]? = some (.cells cs e')) (hne : e ≠ e') : some b ≠ v.ownBlock := by
  rcases h.2 with ⟨rfl, -⟩ | ⟨g, cap, cur, rfl, -, hh, -⟩
  · simp [Value.ownBlock]
  · intro e2
    have e2 : b = g := by simpa [Value.ownBlock] using e2
    subst e2
    rw [hh] at hb
    injection hb with hb
    injection hb with _ ht
    exact hne ht
theorem heap_made (w : World) (o : Obj) : (w.alloc o).heap[w.heap.size]? = some o := (MapKept.heap_alloc w o).1
set_option maxHeartbeats 1600000 in
set_option maxRecDepth 100000 in
theorem foursOf_any (n : Nat) (h3 : 3 ≤ n) (h7 : n ≤ 7) (w : World) :
    Calls Try.prog 61 #[.int .i64 n] w fun e w' => ∃ v, e = .returned v ∧ Owns4 w' w.heap.size v (fours n) ∧ Below w.heap.size w w' := by
  have hc35 := cnt_le h7
  have HT := Lib.hid (threes_length h7)
  have hcp : 0 < cnt n := by rcases (by omega : n = 3 ∨ n = 4 ∨ n = 5 ∨ n = 6 ∨ n = 7) with rfl | rfl | rfl | rfl | rfl <;> decide
  obtain ⟨i0, hi, hz0, hz1, hz2⟩ := info_parts info4
  have HL : Hid (∀ p, p ≤ cnt n → (foursB n p).length ≤ 35) := Lib.hid (fun p hp => foursB_len h7 hp)
  have HALL := Lib.hid (foursB_all h7)
  go_enter Try.func61, Try.ntmps61
  go_wp2_with fail
  refine (threesOf_any n h3 h7 _).mono ?_
  rintro e w1 ⟨v, rfl, hv, hb1⟩
  obtain ⟨g3, c, rfl, hg1, hg2, h3a⟩ := owns3_row hv (by rw [HT.out]; exact hcp)
  rw [HT.out]
  have HA3 := Lib.hid h3a
  have HB1 := Lib.hid hb1
  have HO : Hid (Owns4 w1 w1.heap.size (.slice none 0 0) (foursB n 0)) := Lib.hid (by rw [foursB_zero]; exact World.ownsRow_nil _ _ _ _)
  clear hv h3a hb1
  go_wp2
  go_loopw [3, 10] (fun vv c wr => ∃ p : Nat, p ≤ cnt n ∧ c = .int .i64 p ∧ Hid (Owns4 wr w1.heap.size vv (foursB n p)) ∧ Below w1.heap.size w1 wr) (fun _ c _ => cnt n - (intOf c).toNat)
  case atStart => exact ⟨0, Nat.zero_le _, rfl, HO, Below.refl _ _⟩
  case round =>
    obtain ⟨p, hp, rfl, HV, hb⟩ := hrel
    by_cases hlt : p < cnt n
    · obtain ⟨t, ht⟩ : ∃ t, (threes n)[p]? = some t := ⟨_, List.getElem?_eq_getElem (by rw [HT.out]; exact hlt)⟩
      obtain ⟨x0, x1, x2⟩ := (HA3.out.on hb hg2) p t ht
      obtain ⟨t1, t2, t3⟩ := threes_mem h7 (List.mem_of_getElem? ht)
      have HS := Lib.hid (foursB_succ ht)
      have hfl := HL.out p hp
      have HR1 := Lib.hid (row4_succ t)
      have HRL := Lib.hid (row4_length t)
      obtain ⟨F, hF⟩ : ∃ F, F = foursB n p := ⟨_, rfl⟩
      rw [← hF] at HV HS hfl
      clear hF ht
      go_wp2
      obtain ⟨wo, hwo⟩ : ∃ wo, wo = wr := ⟨_, rfl⟩
      subst hwo
      obtain ⟨z0, z1, z2⟩ := box3_made wo t.1 t.2.1 t.2.2 66
      have HZ := Lib.hid (⟨z0, z1, z2⟩ : _ ∧ _ ∧ _)
      have hbt := hb.alloc hb.size (.cells #[.int .i64 t.1, .int .i64 t.2.1, .int .i64 t.2.2] 66)
      have HM := Lib.hid (heap_made wo (.cells #[.int .i64 t.1, .int .i64 t.2.1, .int .i64 t.2.2] 66))
      have HVt := Lib.hid (World.ownsRow.alloc HV.out (.cells #[.int .i64 t.1, .int .i64 t.2.1, .int .i64 t.2.2] 66))
      have e0 : F = F ++ row4 t 0 := by unfold row4; simp
      have hrl := hb.size
      have hws : (wo.alloc (.cells #[.int .i64 t.1, .int .i64 t.2.1, .int .i64 t.2.2] 66)).heap.size = wo.heap.size + 1 := by simp
      obtain ⟨wt, hwt⟩ : ∃ wt, wt = wo.alloc (.cells #[.int .i64 t.1, .int .i64 t.2.1, .int .i64 t.2.2] 66) := ⟨_, rfl⟩
      rw [← hwt] at HVt hbt HZ HM z0 z1 z2 hws ⊢
      clear hwt
      go_loopw [3, 6] (fun vv c wq => ∃ m : Nat, m ≤ n - (t.2.2 + 1) ∧ c = .int .i64 (t.2.2 + 1 + m : Nat) ∧ Hid (Owns4 wq w1.heap.size vv (F ++ row4 t m)) ∧ Hid (wq.heap[wo.heap.size]? = wt.heap[wo.heap.size]? ∧ wt.heap.size ≤ wq.heap.size ∧ Below w1.heap.size w1 wq)) (fun _ c _ => n - (intOf c).toNat)
      case atStart => exact ⟨0, Nat.zero_le _, by go_num, by rw [← e0]; exact HVt, Lib.hid ⟨rfl, Nat.le_refl _, hbt⟩⟩
      case round =>
        obtain ⟨m, hm, rfl, HV, HC⟩ := hrel
        by_cases hltm : t.2.2 + 1 + m < n
        · obtain ⟨he, hsz, hb⟩ := HC.out
          have z0 := (World.cell?_of_block (a := ⟨wo.heap.size, 0, none⟩) he).trans HZ.out.1
          have z1 := (World.cell?_of_block (a := ⟨wo.heap.size, 1, none⟩) he).trans HZ.out.2.1
          have z2 := (World.cell?_of_block (a := ⟨wo.heap.size, 2, none⟩) he).trans HZ.out.2.2
          have hll : (F ++ row4 t m).length ≤ 42 := by rw [List.length_append, HRL.out]; omega
          clear e0 he
          go_wp2_with (at_builtin; refine wpList_append_own _ rfl (.tmp 22) (.tmp 31) 83 rfl w1.heap.size 85 i0 _ 4 32 Try.underlying83 hi hz0 hz1 hz2 rfl (by decide) _ _ _ rfl (World.ownsRow.alloc HV.out _) ⟨_, 0, none⟩ 1 1 [.int .i64 t.1, .int .i64 t.2.1, .int .i64 t.2.2, .int .i64 (t.2.2 + 1 + m : Nat)] rfl rfl ?_ ?_ ?_ ?_ ?_ ?_)
          · exact news4 _ _ _ _ _ _
          · exact one4 _ _ _ _
          · simp only [maxLen]; omega
          · omega
          · have := hb.size; simp; omega
          intro v1 w2 hown1 hg1 _
          have HB2 : Hid (w2.heap[wo.heap.size]? = wt.heap[wo.heap.size]? ∧ wt.heap.size ≤ w2.heap.size ∧ Below w1.heap.size w1 w2) := Lib.hid (by
            obtain ⟨he, hsz, hb⟩ := HC.out
            have hs2 := hg1.size
            refine ⟨?_, ?_, ?_⟩
            · rw [hg1.block _ (by simp; omega) (own_box HV.out (he.trans HM.out) (by decide)), (MapKept.heap_alloc wr _).2 _ (by omega)]
              exact he
            · simp at hs2; omega
            · exact (hb.alloc hb.size _).grown hg1 (by have := hb.size; simp; omega) (fun q hq => (World.ownsRow.lt HV.out q hq).1))
          have HV1 : Hid (Owns4 w2 w1.heap.size v1 (F ++ row4 t m ++ [(t.1, t.2.1, t.2.2, t.2.2 + 1 + m)])) := Lib.hid (owns4_snoc (by rw [List.length_append, show ((t.2.2 + 1 + m : Nat) : Int) = (t.2.2 : Int) + 1 + m by omega]; exact hown1))
          have HN : Hid (F ++ row4 t m ++ [(t.1, t.2.1, t.2.2, t.2.2 + 1 + m)] = F ++ row4 t (m + 1)) := Lib.hid (by rw [HR1.out, List.append_assoc])
          rw [HN.out] at HV1
          clear hown1 hg1 z0 z1 z2
          go_wp2
          exact ⟨⟨m + 1, by omega, by go_num, HV1, HB2⟩, by simp only [intOf]; omega⟩
        · clear e0
          obtain rfl : m = n - (t.2.2 + 1) := by omega
          have HV2 := HV
          rw [← HS.out] at HV2
          have hb2 := HC.out.2.2
          clear HV HC
          go_wp2
          exact ⟨⟨p + 1, by omega, by go_num, HV2, hb2⟩, by simp only [intOf]; omega⟩
    · have HV2 := HV
      rw [show p = cnt n by omega, HALL.out] at HV2
      clear HV
      go_wp2
      go_ret
      exact ⟨_, rfl, ⟨HV2.out.1, HV2.out.2.imp id (fun ⟨g, cap, cur, a, b, c⟩ => ⟨g, cap, cur, a, by have := HB1.out.size; omega, c⟩)⟩, HB1.out.trans (hb.mono HB1.out.size)⟩
end Go.Proofs.Ytfjimdmoindepaa.Sg
