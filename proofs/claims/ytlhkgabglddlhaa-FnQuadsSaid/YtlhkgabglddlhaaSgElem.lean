/- The signs of some elements: impl.signsOfElements. -/
import Derived.Test.YtlhkgabglddlhaaSgPick
namespace Go.Proofs.Ytlhkgabglddlhaa.Sg
open Go.RowKit Pt
end Go.Proofs.Ytlhkgabglddlhaa.Sg
