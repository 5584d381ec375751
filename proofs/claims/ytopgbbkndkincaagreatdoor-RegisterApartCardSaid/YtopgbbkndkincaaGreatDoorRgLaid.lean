/- The table of numerals, as a row lists it, in memory. -/
import Derived.Test.YtopgbbkndkincaaGreatDoorRgRoman
import Derived.Test.YtopgbbkndkincaaGreatDoorRows
import Derived.LaidLaws
import Derived.ProofKit
import Derived.LaidMore
import Derived.OpenShut
import Derived.ChangeSame
import Derived.MakeChecks
namespace Go.Proofs.YtopgbbkndkincaaGreatDoor
open Go.ChangeShapes Go.WideShapes Go.RowKit

theorem nums_named : Tryz.prog.globalNamed "frisket/register.numerals" = some 0 := by kernel_rfl
theorem nums_type : (Tryz.prog.globals[0]?).map (·.type) = some 93 := by kernel_rfl
theorem nums_cells : Tryz.prog.cellsOf 92 = 2 := by kernel_rfl
theorem nums_cells13 : Tryz.prog.cellsOf 93 = 26 := by kernel_rfl
theorem nums_cellsI : Tryz.prog.cellsOf 3 = 1 := by kernel_rfl
theorem nums_cellsS : Tryz.prog.cellsOf 9 = 1 := by kernel_rfl

theorem nums_of_var {W : World} {cs : Array Value} (h : W.var? Tryz.prog "frisket/register.numerals" = some cs) (hcs : cs = numArr) : NumsAt W := by
  subst hcs
  simp only [World.var?, nums_named, Option.bind_some] at h
  split at h
  · rename_i c t fr hw
    cases h
    exact ⟨_, _, hw⟩
  · cases h

theorem num_of_trod {a b : Value} {v : Int} {bs : List UInt8} {H : Type} {enc : TypeId × Value → H} {W : World} {base : Nat} {spare : Nat → Bool} {held : Bool} {fuel : Nat} {y : DataW H × List MemPlace}
    (h : DataW.trod enc Tryz.prog W base spare held fuel 92 [a, b] = some y) (hy : y.1 = .agg [.lit (.int .i64 v), .lit (.string bs)]) : a = .int .i64 v ∧ b = .string ⟨bs.toArray⟩ := by
  obtain ⟨y0, y1, n, rfl, _, h0, h1⟩ := Go.ChangeShapes.trod_struct2 Tryz.underlying92 h
  obtain ⟨z, hz, hx, _⟩ := DataW.trod_int Tryz.underlying3 (show DataW.trod enc Tryz.prog W base spare held n 3 [a] = some y0 by simpa [nums_cellsI] using h0)
  obtain ⟨s, hs, hx1, _⟩ := DataW.trod_string Tryz.underlying9 (show DataW.trod enc Tryz.prog W base spare held n 9 [b] = some y1 by simpa [nums_cellsS] using h1)
  obtain rfl := (List.cons.inj hz).1
  obtain rfl := (List.cons.inj hs).1
  subst hx hx1
  simp only [DataW.agg.injEq, List.cons.injEq, DataW.lit.injEq, Lit.int.injEq, Lit.string.injEq, and_true, true_and] at hy
  exact ⟨by rw [hy.1], by rw [← hy.2]⟩

set_option maxRecDepth 100000 in
set_option maxHeartbeats 1000000 in
theorem nums_cells_of {H : Type} {enc : TypeId × Value → H} {W : World} {base : Nat} {spare : Nat → Bool} {held : Bool} {fuel : Nat} {cs : List Value} {p : List MemPlace}
    (h : DataW.trod enc Tryz.prog W base spare held fuel 93 cs = some (Rows.laid_frisket_register_numerals, p)) : cs = numArr.toList := by
  obtain ⟨xs, m1, rfl, hx1, hlen, hn3, hel⟩ := DataW.trod_array Tryz.underlying93 h
  rw [nums_cells13] at hlen
  match cs, hlen, xs, hn3 with
  | [c0, c1, c2, c3, c4, c5, c6, c7, c8, c9, c10, c11, c12, c13, c14, c15, c16, c17, c18, c19, c20, c21, c22, c23, c24, c25], _, [x0, x1, x2, x3, x4, x5, x6, x7, x8, x9, x10, x11, x12], _ =>
    have e := fun i hi => hel i hi
    rw [nums_cells] at e
    simp only [Prod.mk.injEq, Rows.laid_frisket_register_numerals, DataW.agg.injEq, List.map_cons, List.map_nil, List.cons.injEq] at hx1
    obtain ⟨⟨y0, y1, y2, y3, y4, y5, y6, y7, y8, y9, y10, y11, y12, _⟩, _⟩ := hx1
    have z0 := num_of_trod (show DataW.trod enc Tryz.prog W base spare held m1 92 [c0, c1] = some x0 from e 0 (by omega)) y0.symm
    obtain ⟨rfl, rfl⟩ := z0
    have z1 := num_of_trod (show DataW.trod enc Tryz.prog W base spare held m1 92 [c2, c3] = some x1 from e 1 (by omega)) y1.symm
    obtain ⟨rfl, rfl⟩ := z1
    have z2 := num_of_trod (show DataW.trod enc Tryz.prog W base spare held m1 92 [c4, c5] = some x2 from e 2 (by omega)) y2.symm
    obtain ⟨rfl, rfl⟩ := z2
    have z3 := num_of_trod (show DataW.trod enc Tryz.prog W base spare held m1 92 [c6, c7] = some x3 from e 3 (by omega)) y3.symm
    obtain ⟨rfl, rfl⟩ := z3
    have z4 := num_of_trod (show DataW.trod enc Tryz.prog W base spare held m1 92 [c8, c9] = some x4 from e 4 (by omega)) y4.symm
    obtain ⟨rfl, rfl⟩ := z4
    have z5 := num_of_trod (show DataW.trod enc Tryz.prog W base spare held m1 92 [c10, c11] = some x5 from e 5 (by omega)) y5.symm
    obtain ⟨rfl, rfl⟩ := z5
    have z6 := num_of_trod (show DataW.trod enc Tryz.prog W base spare held m1 92 [c12, c13] = some x6 from e 6 (by omega)) y6.symm
    obtain ⟨rfl, rfl⟩ := z6
    have z7 := num_of_trod (show DataW.trod enc Tryz.prog W base spare held m1 92 [c14, c15] = some x7 from e 7 (by omega)) y7.symm
    obtain ⟨rfl, rfl⟩ := z7
    have z8 := num_of_trod (show DataW.trod enc Tryz.prog W base spare held m1 92 [c16, c17] = some x8 from e 8 (by omega)) y8.symm
    obtain ⟨rfl, rfl⟩ := z8
    have z9 := num_of_trod (show DataW.trod enc Tryz.prog W base spare held m1 92 [c18, c19] = some x9 from e 9 (by omega)) y9.symm
    obtain ⟨rfl, rfl⟩ := z9
    have z10 := num_of_trod (show DataW.trod enc Tryz.prog W base spare held m1 92 [c20, c21] = some x10 from e 10 (by omega)) y10.symm
    obtain ⟨rfl, rfl⟩ := z10
    have z11 := num_of_trod (show DataW.trod enc Tryz.prog W base spare held m1 92 [c22, c23] = some x11 from e 11 (by omega)) y11.symm
    obtain ⟨rfl, rfl⟩ := z11
    have z12 := num_of_trod (show DataW.trod enc Tryz.prog W base spare held m1 92 [c24, c25] = some x12 from e 12 (by omega)) y12.symm
    obtain ⟨rfl, rfl⟩ := z12
    rfl

theorem NumsAt.lt {W : World} (h : NumsAt W) : 0 < W.heap.size := by
  obtain ⟨t, fr, h⟩ := h
  exact lt_of_block h
end Go.Proofs.YtopgbbkndkincaaGreatDoor
