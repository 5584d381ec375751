/- Closed facts that the rows of layer 1 share. -/
import Derived.Test.YtikgbnkpefdnjaaDoorRows
import Derived.ProofKit
namespace Go.Proofs.YtikgbnkpefdnjaaDoor
theorem own_knob : ownKnob Tryd.prog.godebug = none := by kernel_rfl
theorem laid_out : laidOutB Tryd.prog = true := by kernel_rfl
abbrev opsLaid : List (String × DataW Unit) := [("frisket/measure.operators", Rows.laid_frisket_measure_operators)]

theorem int_cells : Tryd.prog.cellsOf 3 = 1 := by kernel_rfl
end Go.Proofs.YtikgbnkpefdnjaaDoor
