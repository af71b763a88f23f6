/- The law of EdgesText. -/
import Derived.Test.YtinlnafkmoabbaaDoorMgTt
import Derived.Test.YtinlnafkmoabbaaDoorMgTw
namespace Go.Proofs.YtinlnafkmoabbaaDoor.Sg
open Go.RowKit Pt NewI TrText
set_option maxHeartbeats 1600000 in
set_option maxRecDepth 100000 in
theorem walkEdgesText (n : Int) (hn : (Lit.int .i64 n).wf = true) (edges : Int) (hedges : (Lit.int .i64 edges).wf = true) (w : World) (ht : Lib.TabIs Tryd.prog w "math/bits.deBruijn64tab" .u8 tab64) :
    Calls Tryd.prog 11 #[.int .i64 n, .int .i64 edges] w fun e w' => e = .returned (.bool true) ∧ Below w.heap.size w w' := by
  have HT := Lib.hid (Tab.of ht)
  clear ht
  have HA := Lib.hid (fun W => specEdgesText n edges W)
  have HI := Lib.hid (fun W hW => implEdgesText n edges (bounds_i64 hn) (bounds_i64 hedges) W hW)
  generalize etZ n edges = v at HA HI
  go_enter Tryd.func11, Tryd.ntmps11
  go_wp2_with fail
  refine (HA.out _).mono ?_
  rintro e w1 ⟨rfl, hb1⟩
  have B1 := hb1
  go_wp2_with fail
  refine (HI.out _ (HT.out.on B1)).mono ?_
  rintro e w2 ⟨rfl, hb2⟩
  have B2 := B1.trans (hb2.mono B1.size)
  go_wp2
  go_ret
  exact ⟨rfl, B2⟩
end Go.Proofs.YtinlnafkmoabbaaDoor.Sg
