/- The table of operators, as a row lists it, in memory. -/
import Derived.Test.YtkkcoajgpdpfkabDoorMsPre
import Derived.Test.YtkkcoajgpdpfkabDoorRows
import Derived.LaidLaws
import Derived.ProofKit
import Derived.LaidMore
import Derived.OpenShut
import Derived.MakeChecks
namespace Go.Proofs.YtkkcoajgpdpfkabDoor
open Go.ChangeShapes Go.WideShapes Go.RowKit

theorem ops_named : Tryd.prog.globalNamed "frisket/measure.operators" = some 0 := by kernel_rfl
theorem ops_type : (Tryd.prog.globals[0]?).map (·.type) = some 96 := by kernel_rfl
theorem ops_cells : Tryd.prog.cellsOf 9 = 1 := by kernel_rfl
theorem ops_cells13 : Tryd.prog.cellsOf 96 = 13 := by kernel_rfl

theorem ops_of_var {W : World} {cs : Array Value} (h : W.var? Tryd.prog "frisket/measure.operators" = some cs) (hcs : cs = opsArr) : OpsAt W := by
  subst hcs
  simp only [World.var?, ops_named, Option.bind_some] at h
  split at h
  · rename_i c t fr hw
    cases h
    exact ⟨_, _, hw⟩
  · cases h

theorem str_of {bs : List UInt8} {c : Value} {H : Type} {enc : TypeId × Value → H} {W : World} {base : Nat} {spare : Nat → Bool} {held : Bool} {fuel : Nat} {y : DataW H × List MemPlace}
    (h : DataW.trod enc Tryd.prog W base spare held fuel 9 [c] = some y) (hy : y.1 = .lit (.string bs)) : c = .string ⟨bs.toArray⟩ := by
  obtain ⟨s, hs, hx, _⟩ := DataW.trod_string Tryd.underlying9 h
  obtain rfl := (List.cons.inj hs).1
  rw [hx] at hy
  simp at hy
  rw [← hy]

set_option maxRecDepth 100000 in
set_option maxHeartbeats 1000000 in
theorem ops_cells_of {H : Type} {enc : TypeId × Value → H} {W : World} {base : Nat} {spare : Nat → Bool} {held : Bool} {fuel : Nat} {cs : List Value} {p : List MemPlace}
    (h : DataW.trod enc Tryd.prog W base spare held fuel 96 cs = some (Rows.laid_frisket_measure_operators, p)) : cs = opsArr.toList := by
  have hl : cs.length = 13 := by
    obtain ⟨xs, m1, rfl, hx1, hlen, hn3, hel⟩ := DataW.trod_array Tryd.underlying96 h
    simpa [ops_cells13] using hlen
  obtain ⟨xs, m1, rfl, hx1, hlen, hn3, hel⟩ := DataW.trod_array Tryd.underlying96 h
  match cs, hl, xs, hn3 with
  | [c0, c1, c2, c3, c4, c5, c6, c7, c8, c9, c10, c11, c12], _, [x0, x1, x2, x3, x4, x5, x6, x7, x8, x9, x10, x11, x12], _ =>
    have e := fun i hi => hel i hi
    rw [ops_cells] at e
    simp only [Prod.mk.injEq, Rows.laid_frisket_measure_operators, DataW.agg.injEq, List.map_cons, List.map_nil, List.cons.injEq] at hx1
    obtain ⟨⟨y0, y1, y2, y3, y4, y5, y6, y7, y8, y9, y10, y11, y12, _⟩, _⟩ := hx1
    have z0 := str_of (show DataW.trod enc Tryd.prog W base spare held m1 9 [c0] = some x0 from e 0 (by omega)) y0.symm
    have z1 := str_of (show DataW.trod enc Tryd.prog W base spare held m1 9 [c1] = some x1 from e 1 (by omega)) y1.symm
    have z2 := str_of (show DataW.trod enc Tryd.prog W base spare held m1 9 [c2] = some x2 from e 2 (by omega)) y2.symm
    have z3 := str_of (show DataW.trod enc Tryd.prog W base spare held m1 9 [c3] = some x3 from e 3 (by omega)) y3.symm
    have z4 := str_of (show DataW.trod enc Tryd.prog W base spare held m1 9 [c4] = some x4 from e 4 (by omega)) y4.symm
    have z5 := str_of (show DataW.trod enc Tryd.prog W base spare held m1 9 [c5] = some x5 from e 5 (by omega)) y5.symm
    have z6 := str_of (show DataW.trod enc Tryd.prog W base spare held m1 9 [c6] = some x6 from e 6 (by omega)) y6.symm
    have z7 := str_of (show DataW.trod enc Tryd.prog W base spare held m1 9 [c7] = some x7 from e 7 (by omega)) y7.symm
    have z8 := str_of (show DataW.trod enc Tryd.prog W base spare held m1 9 [c8] = some x8 from e 8 (by omega)) y8.symm
    have z9 := str_of (show DataW.trod enc Tryd.prog W base spare held m1 9 [c9] = some x9 from e 9 (by omega)) y9.symm
    have z10 := str_of (show DataW.trod enc Tryd.prog W base spare held m1 9 [c10] = some x10 from e 10 (by omega)) y10.symm
    have z11 := str_of (show DataW.trod enc Tryd.prog W base spare held m1 9 [c11] = some x11 from e 11 (by omega)) y11.symm
    have z12 := str_of (show DataW.trod enc Tryd.prog W base spare held m1 9 [c12] = some x12 from e 12 (by omega)) y12.symm
    subst z0 z1 z2 z3 z4 z5 z6 z7 z8 z9 z10 z11 z12
    rfl

/-- What a row that lists the table gives the walks. -/
theorem ops_of_laid {W : World} (h : laidMetH Tryd.prog [("frisket/measure.operators", Rows.laid_frisket_measure_operators)] W) : OpsAt W := by
  rw [MakeChecks.laidMetH_plain _ _ _ (by kernel_rfl)] at h
  obtain ⟨ps, ⟨g0, t0, cs0, f0, p0, q0, hg0, ht0, hv0, hd0, _, _⟩, _⟩ := h
  obtain rfl := Option.some.inj (ops_named.symm.trans hg0)
  obtain rfl := Option.some.inj (ops_type.symm.trans ht0)
  have := ops_cells_of hd0
  exact ops_of_var hv0 (by rw [← Array.toList_inj, this])
theorem OpsAt.lt {W : World} (h : OpsAt W) : 0 < W.heap.size := by
  obtain ⟨t, fr, h⟩ := h
  exact lt_of_block h
end Go.Proofs.YtkkcoajgpdpfkabDoor
