/- What the rows of layer 2 list, and closed facts that they share. -/
import Derived.Test.YtkkcoajgpdpfkaaGreatDoorRows
import Derived.ProofKit
namespace Go.Proofs.YtkkcoajgpdpfkaaGreatDoor
theorem own_knob : ownKnob Tryz.prog.godebug = none := by kernel_rfl
theorem laid_out : laidOutB Tryz.prog = true := by kernel_rfl
abbrev rgLaid : List (String × DataW Unit) := Rows.registerFullRow.laid
abbrev nilLaid : List (String × DataW Unit) := Rows.registerNilRow.laid
end Go.Proofs.YtkkcoajgpdpfkaaGreatDoor
