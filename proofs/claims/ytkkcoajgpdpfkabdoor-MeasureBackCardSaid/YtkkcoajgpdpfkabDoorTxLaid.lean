/- What the rows that write texts list: the table of operators and the library's powers of ten, in memory. -/
import Derived.Test.YtkkcoajgpdpfkabDoorMsLaid
import Derived.Test.YtkkcoajgpdpfkabDoorTxPure
import Derived.Lib.LaidTab
namespace Go.Proofs.YtkkcoajgpdpfkabDoor
open Go.ChangeShapes Go.WideShapes Go.RowKit

abbrev txLaid : List (String × DataW Unit) := Rows.measureTextsRow.laid
theorem pow_type : (Tryd.prog.globals[2]?).map (·.type) = some 109 := by kernel_rfl
theorem pow_cells : Tryd.prog.cellsOf 102 = 1 := by kernel_rfl
theorem pow_cells20 : Tryd.prog.cellsOf 109 = 20 := by kernel_rfl
theorem pow_data : (Rows.laid_internal_strconv_uint64pow10 : DataW Unit) = Lib.tabData .u64 Lib.pow10Tab := by rfl
theorem heap_of_var {W : World} {name : String} {g : Nat} {cs : Array Value} (hg : Tryd.prog.globalNamed name = some g) (h : W.var? Tryd.prog name = some cs) : g < W.heap.size := by
  simp only [World.var?, hg, Option.bind_some] at h
  split at h
  · rename_i c t fr hw
    exact lt_of_block hw
  · cases h
theorem i64_le {n : Int} (h : (Lit.int .i64 n).wf = true) : n ≤ 9223372036854775807 := by
  simp only [Lit.wf, Bool.and_eq_true, decide_eq_true_eq] at h
  exact h.2
/-- What the row gives the walks. -/
theorem tx_of_laid {W : World} (h : laidMetH Tryd.prog txLaid W) : OpsAt W ∧ PowAt W := by
  rw [MakeChecks.laidMetH_plain _ _ _ (by kernel_rfl)] at h
  obtain ⟨ps, ⟨_, _, _, _, _, _, _, _, _, _, ⟨_, _, _, _, _, _, _, _, _, _, ⟨g2, t2, cs2, f2, p2, q2, hg2, ht2, hv2, hd2, ⟨_, _, _, _, _, _, _, _, _, _, ⟨g0, t0, cs0, f0, p0, q0, hg0, ht0, hv0, hd0, _, _⟩, _⟩, _⟩, _⟩, _⟩, _⟩ := h
  obtain rfl := Option.some.inj (ops_named.symm.trans hg0)
  obtain rfl := Option.some.inj (ops_type.symm.trans ht0)
  obtain rfl := Option.some.inj (pow_named.symm.trans hg2)
  obtain rfl := Option.some.inj (pow_type.symm.trans ht2)
  have h0 := ops_cells_of hd0
  rw [pow_data] at hd2
  have h2 := Lib.cells_of_tab Tryd.underlying109 Tryd.underlying102 pow_cells pow_cells20 hd2
  refine ⟨ops_of_var hv0 (by rw [← Array.toList_inj, h0]), ?_, heap_of_var pow_named hv2⟩
  show W.var? Tryd.prog "internal/strconv.uint64pow10" = _
  rw [hv2, ← h2]
end Go.Proofs.YtkkcoajgpdpfkabDoor
