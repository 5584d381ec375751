/- Closed facts that the rows of layer 3 share. -/
import Derived.Test.YtkocgedliakclaaRows
import Derived.ProofKit
namespace Go.Proofs.Ytkocgedliakclaa
theorem own_knob : ownKnob Try.prog.godebug = none := by kernel_rfl
theorem laid_out : laidOutB Try.prog = true := by kernel_rfl
end Go.Proofs.Ytkocgedliakclaa
