/- What the laws use of lists of numbers: big, sameInts of equal ones, hasInt. -/
import Derived.Test.YtfpbehnpaedpmaaDoorNewI
import Derived.Test.YtfpbehnpaedpmaaDoorCur
import Derived.BigQuiet
namespace Go.Proofs.YtfpbehnpaedpmaaDoor.NewI
open Go.RowKit
theorem New.get {w : World} {lo hi : Nat} {a : Option Addr} {zs : List Int} (h : New w lo hi a zs.length (zc zs)) (k : Nat) (hk : k < zs.length) : ∃ b, a = some ⟨b, 0, none⟩ ∧ b < w.heap.size ∧ w.cell? ⟨b, k, none⟩ = some (.int .i64 zs[k]) := by
  rcases h with h | ⟨b, rfl, -, -, hc⟩
  · omega
  · exact ⟨b, rfl, hc.lt, by rw [hc.cell k hk, zc_lt hk]⟩
set_option maxRecDepth 100000 in
theorem big_any (v : Value) (n : Nat) (w : World) (hv : Cur.Bytes w v n w.heap.size) :
    Calls Tryd.prog 6 #[v] w fun e w' => e = .returned (.bool (decide ((n : Int) > 1048576))) ∧ w' = w := by
  obtain ⟨a, c, rfl, hn, _⟩ := hv
  go_enter Tryd.func6, Tryd.ntmps6
  go_wp2
  go_ret
  exact ⟨rfl, rfl⟩
set_option maxHeartbeats 800000 in
set_option maxRecDepth 100000 in
theorem sameInts_eq (a1 a2 : Option Addr) (c1 c2 lo1 hi1 lo2 hi2 : Nat) (zs : List Int) (hl : zs.length ≤ 1048576) (w : World) (h1 : New w lo1 hi1 a1 zs.length (zc zs)) (h2 : New w lo2 hi2 a2 zs.length (zc zs)) :
    Calls Tryd.prog 21 #[.slice a1 zs.length c1, .slice a2 zs.length c2] w fun e w' => e = .returned (.bool true) ∧ Below w.heap.size w w' := by
  have H1 := Lib.hid h1
  have H2 := Lib.hid h2
  have B0 := Lib.hid (Below.refl w.heap.size w)
  clear h1 h2
  go_enter Tryd.func21, Tryd.ntmps21
  go_wp2
  go_loopw [5] (fun c wr => ∃ k : Nat, k ≤ zs.length ∧ c = .int .i64 k ∧ Hid (Below w.heap.size w wr)) (fun c _ => zs.length - (intOf c).toNat)
  case atStart => exact ⟨0, Nat.zero_le _, rfl, B0⟩
  case round =>
    obtain ⟨k, hk, rfl, HB⟩ := hrel
    by_cases hlt : k < zs.length
    · obtain ⟨b1, rfl, hb1, x1⟩ := H1.out.get k hlt
      obtain ⟨b2, rfl, hb2, x2⟩ := H2.out.get k hlt
      have y1 : wr.cell? ⟨b1, k, none⟩ = some (.int .i64 zs[k]) := by rw [HB.out.cell hb1]; exact x1
      have y2 : wr.cell? ⟨b2, k, none⟩ = some (.int .i64 zs[k]) := by rw [HB.out.cell hb2]; exact x2
      clear x1 x2
      generalize zs[k] = z at y1 y2
      go_wp2
      go_quiet (fail)
      go_wp2
      exact ⟨⟨k + 1, by omega, by go_num, Lib.hid (by first | exact HB.out | exact HB.out.drew | exact Sg.drewN_below HB.out _)⟩, by simp only [intOf]; omega⟩
    · go_wp2
      go_ret
      exact ⟨rfl, HB.out⟩
end Go.Proofs.YtfpbehnpaedpmaaDoor.NewI
