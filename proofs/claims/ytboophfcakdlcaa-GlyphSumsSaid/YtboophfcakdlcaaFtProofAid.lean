/- Closed facts that the rows of layers 7 and 8 share. -/
import Derived.Test.YtboophfcakdlcaaRows
import Derived.ProofKit
namespace Go.Proofs.Ytboophfcakdlcaa
open Go.ChangeShapes Go.WideShapes Go.ChangeAt Go.RowKit
theorem own_knob : ownKnob Try.prog.godebug = none := by kernel_rfl
theorem laid_out : laidOutB Try.prog = true := by kernel_rfl
end Go.Proofs.Ytboophfcakdlcaa
