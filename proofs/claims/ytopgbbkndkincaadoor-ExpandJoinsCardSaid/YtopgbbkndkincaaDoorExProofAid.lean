/- Closed facts that the rows of layer 4 share. -/
import Derived.Test.YtopgbbkndkincaaDoorRows
import Derived.ProofKit
namespace Go.Proofs.YtopgbbkndkincaaDoor
theorem own_knob : ownKnob Tryd.prog.godebug = none := by kernel_rfl
theorem laid_out : laidOutB Tryd.prog = true := by kernel_rfl
end Go.Proofs.YtopgbbkndkincaaDoor
