/- What the rows of layer 2's numbers list, and closed facts that they share. -/
import Derived.Test.YtkkcoajgpdpfkaaDoorRows
import Derived.ProofKit
namespace Go.Proofs.YtkkcoajgpdpfkaaDoor
theorem own_knob : ownKnob Tryd.prog.godebug = none := by kernel_rfl
theorem laid_out : laidOutB Tryd.prog = true := by kernel_rfl
abbrev rgLaid2 : List (String × DataW Unit) := Rows.registerLettersRow.laid
end Go.Proofs.YtkkcoajgpdpfkaaDoor
