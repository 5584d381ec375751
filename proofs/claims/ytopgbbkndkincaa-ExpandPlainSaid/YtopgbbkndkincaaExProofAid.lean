/- Closed facts that the rows of layer 4 share. -/
import Derived.Test.YtopgbbkndkincaaRows
import Derived.ProofKit
namespace Go.Proofs.Ytopgbbkndkincaa
theorem own_knob : ownKnob Try.prog.godebug = none := by kernel_rfl
theorem laid_out : laidOutB Try.prog = true := by kernel_rfl
end Go.Proofs.Ytopgbbkndkincaa
