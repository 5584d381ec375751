/- Closed facts that the rows of layer 1 share. -/
import Derived.Test.YtkkcoajgpdpfkabDoorRows
import Derived.ProofKit
import Derived.Deep.Fields
namespace Go.Proofs.YtkkcoajgpdpfkabDoor
theorem own_knob : ownKnob Tryd.prog.godebug = none := by kernel_rfl
theorem laid_out : laidOutB Tryd.prog = true := by kernel_rfl
abbrev opsLaid : List (String × DataW Unit) := [("frisket/measure.operators", Rows.laid_frisket_measure_operators)]

theorem int_cells : Tryd.prog.cellsOf 3 = 1 := by kernel_rfl
theorem ctx_fields : ∃ fs : Array Field, Tryd.prog.underlying 23 = some (.struct fs) ∧ fs.size = 3 ∧ Go.Deep.oneCellFields Tryd.prog fs = true ∧ (fs.toList.all fun f => f.type == 3) = true := by
  exact ⟨_, Tryd.underlying23, by kernel_rfl, by kernel_rfl, by kernel_rfl⟩
theorem ctx_cells : Tryd.prog.cellsOf 23 = 3 := by kernel_rfl
theorem three_of {zs : List Int} (h : zs.length = 3) : ∃ a b c, zs = [a, b, c] := by
  match zs, h with
  | [a, b, c], _ => exact ⟨a, b, c, rfl⟩

end Go.Proofs.YtkkcoajgpdpfkabDoor
