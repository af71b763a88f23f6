/- ReverseElement, as impl and spec answer it; the law. -/
import Derived.Test.YtfjimdmoindepaaRuRevSpec
import Derived.Test.YtfjimdmoindepaaRuBy
import Derived.Test.YtfjimdmoindepaaSgOthers
namespace Go.Proofs.Ytfjimdmoindepaa.Sg
open Go.RowKit Pt
def zeroV : Value := .tuple #[sg 0 ⟨#[]⟩, .bool false]
/-- What ReverseElement answers for signs and an element. -/
def revV (n : Nat) (s : ByteArray) (i : Nat) : Value := .tuple #[sg n ⟨(text3 n (rvF n s.data.toList (2 ^ i))).toArray⟩, .bool true]
theorem mapK_at (w : World) (n : Nat) (s : ByteArray) (hs : s.size ≤ 9223372036854775807) (W : World) (hW : WAt w n s W) :
    Calls Try.prog 53 #[sg n s] W fun e w' => ∃ b, e = .returned (.map (some b)) ∧ (w'.cell? ⟨w.heap.size, 0, none⟩ = some (.int .i64 n) ∧ w'.cell? ⟨w.heap.size, 1, none⟩ = some (.string s)) ∧ Hid (WAt w n s w' ∧ MapK w' b (lookS n s.data.toList)) :=
  (mapOf_k n s hs W).mono fun _e _w' ⟨b, he, _, hm, hb⟩ => ⟨b, he, ⟨(hW.on hb).b0, (hW.on hb).b1⟩, Lib.hid ⟨hW.on hb, hm⟩⟩
theorem sgnF_rev {f : Int → Int → Int → Int} {set i j k : Nat} (h1 : i < j) (h2 : j < k) : sgnF (revF set f) i j k = if odd3 set i j k then -(f i j k) else f i j k := by
  rw [sgnF_of (srt_asc (i := i) (j := j) (k := k) (by omega) (by omega))]
  unfold revF
  simp
theorem sgnF_plain {f : Int → Int → Int → Int} {i j k : Nat} (h1 : i < j) (h2 : j < k) : sgnF f i j k = f i j k := by
  rw [sgnF_of (srt_asc (i := i) (j := j) (k := k) (by omega) (by omega))]
  simp
theorem text_rev {n : Nat} (h7 : n ≤ 7) (s : List UInt8) (set : Nat) : text3 n (fun i j k => sgnF (revF set (lookS n s)) i j k) = text3 n (rvF n s set) :=
  text3_congr h7 fun i j k h1 h2 _ => by rw [sgnF_rev h1 h2]; unfold rvF; rw [sgnF_plain h1 h2]
end Go.Proofs.Ytfjimdmoindepaa.Sg
