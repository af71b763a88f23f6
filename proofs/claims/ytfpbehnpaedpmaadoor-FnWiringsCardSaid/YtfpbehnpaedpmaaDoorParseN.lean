/- impl.ParseNumber alone by the plain function readI. -/
import Derived.Test.YtfpbehnpaedpmaaDoorProg
import Derived.Test.YtfpbehnpaedpmaaDoorMgN
import Derived.Test.YtfpbehnpaedpmaaDoorFmtImpl
import Derived.Test.YtfpbehnpaedpmaaDoorShelf
import Derived.WalkKit
import Derived.Below
import Derived.Lib.Hide
import Derived.Handy
import Derived.Outline
import Derived.Defers
import Derived.Recover
import Derived.Laws.Pointers
import Derived.Deep.QuietTactic
import Derived.BigQuiet
import Derived.WalkLawsBesides
namespace Go.Proofs.YtfpbehnpaedpmaaDoor.Parse
open Go.RowKit

/-- What the listed variables hold, as long as no block below B is written. -/
structure Held (B : Nat) (w : World) (a1 a2 a3 : Addr) (tp : TypeId) : Prop where
  tab : Lib.TabBelow Tryd.prog B w "internal/strconv.uint64pow10" .u64 Lib.pow10Tab
  syn : w.var? Tryd.prog "strconv.ErrSyntax" = some #[.iface tp (.pointer (some a1))]
  ran : w.var? Tryd.prog "strconv.ErrRange" = some #[.iface tp (.pointer (some a2))]
  bad : w.cell? ⟨0, 0, none⟩ = some (.iface tp (.pointer (some a3)))
  big : (0 < B ∧ 2 < B ∧ 3 < B) ∧ B ≤ w.heap.size

theorem var_on {B : Nat} {w w' : World} (hb : Below B w w') {n : String} {g : Nat} (hg : Tryd.prog.globalNamed n = some g) (hB : g < B) : w'.var? Tryd.prog n = w.var? Tryd.prog n := by
  unfold World.var?
  rw [hg]
  simp only [Option.bind_some]
  rw [hb.block g hB]
theorem Held.on {B : Nat} {w w' : World} {a1 a2 a3 : Addr} {tp : TypeId} (H : Held B w a1 a2 a3 tp) (hb : Below B w w') : Held B w' a1 a2 a3 tp := by
  have hB := H.big
  exact ⟨H.tab.on hb, by rw [var_on hb (g := 2) (by kernel_rfl) (by omega)]; exact H.syn, by rw [var_on hb (g := 3) (by kernel_rfl) (by omega)]; exact H.ran, by rw [hb.cell (by simp; omega)]; exact H.bad, hB.1, Nat.le_trans hB.2 hb.size⟩
theorem atoi_bd (l : List UInt8) (n : Int) (h : Lib.atoiAll l = .ok n) : -9223372036854775808 ≤ n ∧ n ≤ 9223372036854775807 := by
  cases l with
  | nil => simp [Lib.atoiAll] at h
  | cons c r =>
    simp only [Lib.atoiAll] at h
    generalize Lib.parseMag (if c.toNat = 43 ∨ c.toNat = 45 then r else c :: r) = q at h
    cases q with
    | ok u =>
      simp only [] at h
      split at h
      · cases h
      · split at h
        · cases h
        · injection h with h
          split at h <;> omega
    | _ => simp at h
theorem below_bytes (B : Nat) (w w1 : World) (hB : B ≤ w.heap.size) (h : w1 = w ∨ ∃ t, w1 = Lib.bytesWorld w 5 t) : Below B w w1 := by
  rcases h with rfl | ⟨t, rfl⟩
  · exact Below.refl _ _
  · exact (Lib.bytesWorld_below w 5 t).mono hB
def Out (lo hi : Int) (l : List UInt8) (v : Value) (e : Ending) : Prop :=
  match Num.readI lo hi l with
  | some n => e = .returned (.int .i64 n)
  | none => e = .panicked [{ v := v, recovered := false }]
theorem out_some {lo hi n : Int} {l : List UInt8} {v : Value} (h1 : Hid (Lib.atoiAll l = .ok n)) (h2 : Hid (Lib.itoa n = l)) (h3 : lo ≤ n) (h4 : n ≤ hi) : Out lo hi l v (.returned (.int .i64 n)) := by
  unfold Out Num.readI
  rw [h1.out]
  simp only []
  rw [if_pos ⟨h2.out, h3, h4⟩]
theorem out_none {lo hi n : Int} {l : List UInt8} {v : Value} (h1 : Hid (Lib.atoiAll l = .ok n)) (h2 : Hid (¬ (Lib.itoa n = l ∧ lo ≤ n ∧ n ≤ hi))) : Out lo hi l v (.panicked [{ v := v, recovered := false }]) := by
  unfold Out Num.readI
  rw [h1.out]
  simp only []
  rw [if_neg h2.out]
  trivial

theorem out_other {lo hi : Int} {l : List UInt8} {v : Value} {q : Lib.NumEnd Int} (h1 : Lib.atoiAll l = q) (h2 : ∀ n, q ≠ .ok n) : Out lo hi l v (.panicked [{ v := v, recovered := false }]) := by
  unfold Out Num.readI
  rw [h1]
  cases q with
  | ok n => exact absurd rfl (h2 n)
  | _ => trivial
set_option maxHeartbeats 400000 in
set_option maxRecDepth 100000 in
theorem between_any (s : ByteArray) (lo hi : Int) (hs : s.size ≤ 1048576) (w : World) (B : Nat) (a1 a2 a3 : Addr) (tp : TypeId) (H : Held B w a1 a2 a3 tp) :
    Calls Tryd.prog 62 #[.string s, .int .i64 lo, .int .i64 hi] w fun e w' => Out lo hi s.data.toList (.iface tp (.pointer (some a3))) e ∧ Below B w w' := by
  cases ha : Lib.atoiAll s.data.toList with
  | ok n => 
    obtain ⟨n0, n1⟩ := atoi_bd _ _ ha
    have hbig := H.big
    go_enter Tryd.func62, Tryd.ntmps62
    go_wp2_with fail
    refine (Tryd.strconv_Atoi_ok s (by omega) n ha _).mono ?_
    rintro e w1 ⟨rfl, hw1⟩
    have hb1 := below_bytes B w w1 hbig.2 hw1
    have H1 := H.on hb1
    have Ha := Lib.hid ha
    clear ha hw1
    go_wp2_with fail
    refine (FmtImpl.impl_any n n0 n1 _ H1.tab.here).mono ?_
    rintro e w2 ⟨rfl, hb2'⟩
    have hb2 := hb1.trans (hb2'.mono H1.big.2)
    have H2 := H.on hb2
    have hbad := H2.bad
    by_cases he : Lib.itoa n = s.data.toList
    · have hs1 : (Lib.itoa n == s.toList) = true := by rw [ByteArray.toList_eq, he]; simp
      have He := Lib.hid he
      clear he
      by_cases hlo : lo ≤ n
      · by_cases hhi : n ≤ hi
        · go_wp2
          go_ret
          exact ⟨out_some Ha He hlo hhi, hb2⟩
        · have h3 : hi < n := by omega
          have HN : Hid (¬ (Lib.itoa n = s.data.toList ∧ lo ≤ n ∧ n ≤ hi)) := Lib.hid (fun h => hhi h.2.2)
          go_wp2
          exact ⟨rfl, out_none Ha HN, hb2⟩
      · have h3 : n < lo := by omega
        have HN : Hid (¬ (Lib.itoa n = s.data.toList ∧ lo ≤ n ∧ n ≤ hi)) := Lib.hid (fun h => hlo h.2.1)
        go_wp2
        exact ⟨rfl, out_none Ha HN, hb2⟩
    · have hs1 : (Lib.itoa n == s.toList) = false := by rw [ByteArray.toList_eq]; simpa using he
      have HN : Hid (¬ (Lib.itoa n = s.data.toList ∧ lo ≤ n ∧ n ≤ hi)) := Lib.hid (fun h => he h.1)
      clear he
      go_wp2
      exact ⟨rfl, out_none Ha HN, hb2⟩
  | range =>
    have hbig := H.big
    go_enter Tryd.func62, Tryd.ntmps62
    go_wp2_with fail
    refine (Tryd.strconv_Atoi_range_var s (by omega) ha tp (.pointer (some a2)) _ H.ran).mono ?_
    rintro e w1 ⟨N, rfl, _, _, hb1'⟩
    have hb1 : Below B w w1 := hb1'.mono hbig.2
    have hbad := (H.on hb1).bad
    have Ha := Lib.hid ha
    clear ha
    go_wp2
    exact ⟨rfl, out_other Ha.out (fun n h => by cases h), hb1⟩
  | _ =>
    have hbig := H.big
    go_enter Tryd.func62, Tryd.ntmps62
    go_wp2_with fail
    refine (Tryd.strconv_Atoi_syntax_var s (by omega) ha tp (.pointer (some a1)) _ H.syn).mono ?_
    rintro e w1 ⟨N, rfl, _, _, hb1'⟩
    have hb1 : Below B w w1 := hb1'.mono hbig.2
    have hbad := (H.on hb1).bad
    have Ha := Lib.hid ha
    clear ha
    go_wp2
    exact ⟨rfl, out_other Ha.out (fun n h => by cases h), hb1⟩

/-- The deferred function of ParseInt: 28; of ParseNumber: 32: the same text. -/
theorem catch_panicking (f : Nat) (hf : f = 61 ∨ False) (p q : Addr) (x : Int) (y : Bool) (u : TypeId) (pv : Value) (w : World) (hne : p ≠ q)
    (hc : w.cell? p = some (.int .i64 x)) (hz : w.frozen? p = false) (hc2 : w.cell? q = some (.bool y)) (hz2 : w.frozen? q = false) :
    CallsD Tryd.prog f #[.pointer (some p), .pointer (some q)] (.panicking [{ v := .iface u pv, recovered := false }]) w fun e u' w' =>
      e = .returned (.tuple #[]) ∧ u' = .panicking [{ v := .iface u pv, recovered := true }] ∧ w' = (w.setCell p (.int .i64 0)).setCell q (.bool false) := by
  have hc3 : (w.setCell p (.int .i64 0)).cell? q = some (.bool y) := by rw [World.cell?_setCell_other _ _ _ _ hne]; exact hc2
  have hz3 : (w.setCell p (.int .i64 0)).frozen? q = false := by simpa using hz2
  rcases hf with rfl | hf
  · refine callsD_of_wpS Tryd.func61 rfl fun c₀ cs hu => ?_
    apply wpS_seq
    apply wpS_region
    simp [wpOpsS, go_sem, recoverD, hu, Tryd.ntmps61, Exit.thenS]
    refine wpS_cond (t := true) (by simp [Act.eval, Array.replicate]) ?_
    simp only [if_true]
    apply wpS_region
    simp [wpOpsS, go_sem, hc, hz, hc3, hz3, bodyPostS, results, Tryd.results61]
  · exact hf.elim
theorem catch_idle (f : Nat) (hf : f = 61 ∨ False) (p q : Addr) (w : World) :
    CallsD Tryd.prog f #[.pointer (some p), .pointer (some q)] .returning w fun e u' w' => e = .returned (.tuple #[]) ∧ u' = .returning ∧ w' = w := by
  rcases hf with rfl | hf
  · refine callsD_of_wpS Tryd.func61 rfl fun c₀ cs hu => ?_
    apply wpS_seq
    apply wpS_region
    simp [wpOpsS, go_sem, recoverD, hu, Tryd.ntmps61, Exit.thenS]
    refine wpS_cond (t := false) (by simp [Act.eval, Array.replicate]) ?_
    simp only [Bool.false_eq_true, if_false]
    refine wpS_of_wp (wp_skip ?_)
    cases c₀
    simp_all [bodyPostS, results, Tryd.results61]
  · exact hf.elim

theorem Held.up {B : Nat} {w w' : World} {a1 a2 a3 : Addr} {tp : TypeId} (H : Held B w a1 a2 a3 tp) (hb : Below B w w') : Held w'.heap.size w' a1 a2 a3 tp := by
  have H1 := H.on hb
  have hB := H1.big
  exact ⟨fun w2 h2 => H1.tab w2 (h2.mono hB.2), H1.syn, H1.ran, H1.bad, by omega, Nat.le_refl _⟩
/-- The two named results, which the deferred function captures. -/
def two (w : World) : World := (w.alloc (.cells #[.int .i64 0] 3)).alloc (.cells #[.bool false] 4)
theorem below_two (w : World) : Below w.heap.size w (two w) := ((Below.refl _ _).alloc (Nat.le_refl _) _).alloc (by simp) _

theorem two_cells {w w1 : World} (hb : Below (two w).heap.size (two w) w1) : w1.cell? ⟨w.heap.size, 0, none⟩ = some (.int .i64 0) ∧ w1.frozen? ⟨w.heap.size, 0, none⟩ = false ∧ w1.cell? ⟨w.heap.size + 1, 0, none⟩ = some (.bool false) ∧ w1.frozen? ⟨w.heap.size + 1, 0, none⟩ = false := by
  have hsz : (two w).heap.size = w.heap.size + 2 := by simp [two]
  rw [hb.cell (by rw [hsz]; simp), hb.cell (by rw [hsz]; simp), hb.frozen (by rw [hsz]; simp), hb.frozen (by rw [hsz]; simp)]
  unfold two
  simp [go_sem]
set_option maxHeartbeats 400000 in
set_option maxRecDepth 100000 in
theorem parseNumber_any (s : ByteArray) (hs : s.size ≤ 1048576) (w : World) (a1 a2 a3 : Addr) (tp : TypeId) (H : Held w.heap.size w a1 a2 a3 tp) :
    Calls Tryd.prog 51 #[.string s] w fun e w' => e = .returned (Read.pair (Num.readI 0 999999 s.data.toList)) ∧ Below w.heap.size w w' := by
  have hmf : ∀ (fn : Fn) (first cap : Array Value) (w : World), (Instr.makeFunc fn first cap).run Tryd.prog w = .ok (.func fn first cap) w := fun _ _ _ _ => rfl
  have Hc := between_any s 0 999999 hs (two w) (two w).heap.size a1 a2 a3 tp (H.up (below_two w))
  have hsz : (two w).heap.size = w.heap.size + 2 := by simp [two]
  have HC := Lib.hid Hc
  have HS := Lib.hid hsz
  clear Hc hsz
  cases hr : Num.readI 0 999999 s.data.toList with
  | some n =>
    have Hr := Lib.hid hr
    clear hr
    go_enter_defers Tryd.func51, Tryd.ntmps51
    go_wp2_with fail
    refine HC.out.mono ?_
    rintro e w1 ⟨ho, hb⟩
    unfold Out at ho
    rw [Hr.out] at ho
    simp only [] at ho
    subst ho
    obtain ⟨c1, z1, c2, z2⟩ := two_cells hb
    have c3 : (w1.setCell ⟨w.heap.size, 0, none⟩ (.int .i64 n)).cell? ⟨w.heap.size + 1, 0, none⟩ = some (.bool false) := by rw [World.cell?_setCell_other _ _ _ _ (by simp)]; exact c2
    have HB := Lib.hid ((below_two w).trans (hb.mono (by rw [HS.out]; omega)))
    go_wp2
    refine leaves_cons (f := 61) (args := #[.pointer (some ⟨w.heap.size, 0, none⟩), .pointer (some ⟨w.heap.size + 1, 0, none⟩)]) (by simp) (by simp [go_sem]) ?_
    refine (catch_idle 61 (Or.inl rfl) _ _ _).mono ?_
    rintro e u' w'' ⟨rfl, rfl, rfl⟩
    have g1 : ((w1.setCell ⟨w.heap.size, 0, none⟩ (.int .i64 n)).setCell ⟨w.heap.size + 1, 0, none⟩ (.bool true)).cell? ⟨w.heap.size, 0, none⟩ = some (.int .i64 n) := by
      rw [World.cell?_setCell_other _ _ _ _ (by simp)]; exact World.cell?_setCell_same _ _ _ c1
    have g2 : ((w1.setCell ⟨w.heap.size, 0, none⟩ (.int .i64 n)).setCell ⟨w.heap.size + 1, 0, none⟩ (.bool true)).cell? ⟨w.heap.size + 1, 0, none⟩ = some (.bool true) :=
      World.cell?_setCell_same _ _ _ c3
    have hfin : Below w.heap.size w ((w1.setCell ⟨w.heap.size, 0, none⟩ (.int .i64 n)).setCell ⟨w.heap.size + 1, 0, none⟩ (.bool true)) := (HB.out.setCell (by simp) _).setCell (by simp) _
    have HF := Lib.hid hfin
    clear hfin
    simp [Leaves, settle, results, Tryd.results51, go_sem, g1, g2]
    exact ⟨rfl, HF.out⟩
  | none =>
    have Hr := Lib.hid hr
    clear hr
    go_enter_defers Tryd.func51, Tryd.ntmps51
    go_wp2_with fail
    refine HC.out.mono ?_
    rintro e w1 ⟨ho, hb⟩
    unfold Out at ho
    rw [Hr.out] at ho
    simp only [] at ho
    subst ho
    obtain ⟨c1, z1, c2, z2⟩ := two_cells hb
    have HB := Lib.hid ((below_two w).trans (hb.mono (by rw [HS.out]; omega)))
    go_wp2
    refine leaves_cons (f := 61) (args := #[.pointer (some ⟨w.heap.size, 0, none⟩), .pointer (some ⟨w.heap.size + 1, 0, none⟩)]) (by simp) (by simp [go_sem]) ?_
    refine (catch_panicking 61 (Or.inl rfl) _ _ 0 false tp (.pointer (some a3)) _ (by simp) c1 z1 c2 z2).mono ?_
    rintro e u' w'' ⟨rfl, rfl, rfl⟩
    have g1 : ((w1.setCell ⟨w.heap.size, 0, none⟩ (.int .i64 0)).setCell ⟨w.heap.size + 1, 0, none⟩ (.bool false)).cell? ⟨w.heap.size, 0, none⟩ = some (.int .i64 0) := by
      rw [World.cell?_setCell_other _ _ _ _ (by simp)]; exact World.cell?_setCell_same _ _ _ c1
    have g2 : ((w1.setCell ⟨w.heap.size, 0, none⟩ (.int .i64 0)).setCell ⟨w.heap.size + 1, 0, none⟩ (.bool false)).cell? ⟨w.heap.size + 1, 0, none⟩ = some (.bool false) :=
      World.cell?_setCell_same _ _ _ (by rw [World.cell?_setCell_other _ _ _ _ (by simp)]; exact c2)
    have hfin : Below w.heap.size w ((w1.setCell ⟨w.heap.size, 0, none⟩ (.int .i64 0)).setCell ⟨w.heap.size + 1, 0, none⟩ (.bool false)) := (HB.out.setCell (by simp) _).setCell (by simp) _
    have HF := Lib.hid hfin
    clear hfin
    simp [Leaves, settle, results, Tryd.results51, go_sem, g1, g2]
    exact ⟨rfl, HF.out⟩
end Go.Proofs.YtfpbehnpaedpmaaDoor.Parse
