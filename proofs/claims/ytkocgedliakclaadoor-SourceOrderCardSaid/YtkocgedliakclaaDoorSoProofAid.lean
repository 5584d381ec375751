/- Closed facts that the rows of layer 5 share. -/
import Derived.Test.YtkocgedliakclaaDoorRows
import Derived.ProofKit
namespace Go.Proofs.YtkocgedliakclaaDoor
theorem own_knob : ownKnob Tryd.prog.godebug = none := by kernel_rfl
theorem laid_out : laidOutB Tryd.prog = true := by kernel_rfl
end Go.Proofs.YtkocgedliakclaaDoor
