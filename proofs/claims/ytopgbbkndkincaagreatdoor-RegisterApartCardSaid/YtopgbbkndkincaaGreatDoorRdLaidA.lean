/- The numerals and the powers of ten, in memory; the deeds as they came in. -/
import Derived.Test.YtopgbbkndkincaaGreatDoorRgLaid
import Derived.Test.YtopgbbkndkincaaGreatDoorRdInv
import Derived.Test.YtopgbbkndkincaaGreatDoorReadAid
import Derived.Lib.LaidTab
import Derived.Lib.LaidU8
import Derived.LaidMore
import Derived.MakeChecks
namespace Go.Proofs.YtopgbbkndkincaaGreatDoor
open Go.ChangeShapes Go.WideShapes Go.ChangeAt Go.RowKit Go.Deep Go.Lib

theorem own_knob : ownKnob Tryz.prog.godebug = none := by kernel_rfl
theorem laid_out : laidOutB Tryz.prog = true := by kernel_rfl
theorem pow_type : (Tryz.prog.globals[5]?).map (·.type) = some 165 := by kernel_rfl
theorem pow_cells : Tryz.prog.cellsOf 130 = 1 := by kernel_rfl
theorem pow_cells20 : Tryz.prog.cellsOf 165 = 20 := by kernel_rfl
theorem pow_data : (Rows.laid_internal_strconv_uint64pow10 : DataW Unit) = Lib.tabData .u64 Lib.pow10Tab := by rfl
theorem heap_of_var {W : World} {name : String} {g : Nat} {cs : Array Value} (hg : Tryz.prog.globalNamed name = some g) (h : W.var? Tryz.prog name = some cs) : g < W.heap.size := by
  simp only [World.var?, hg, Option.bind_some] at h
  split at h
  · rename_i c t fr hw
    exact lt_of_block hw
  · cases h
theorem nums_of_reads {W : World} (h : VarReads Tryz.prog W "frisket/register.numerals" Rows.laid_frisket_register_numerals) : NumsAt W := by
  obtain ⟨g0, t0, cs0, f0, p0, hg0, ht0, hv0, hd0⟩ := h
  obtain rfl := Option.some.inj (nums_named.symm.trans hg0)
  obtain rfl := Option.some.inj (nums_type.symm.trans ht0)
  have := nums_cells_of hd0
  exact nums_of_var hv0 (by rw [← Array.toList_inj, this])
theorem pow_of_reads {W : World} (h : VarReads Tryz.prog W "internal/strconv.uint64pow10" Rows.laid_internal_strconv_uint64pow10) : PowAt W := by
  obtain ⟨g2, t2, cs2, f2, p2, hg2, ht2, hv2, hd2⟩ := h
  obtain rfl := Option.some.inj (pow_named.symm.trans hg2)
  obtain rfl := Option.some.inj (pow_type.symm.trans ht2)
  rw [pow_data] at hd2
  have h2 := Lib.cells_of_tab Tryz.underlying165 Tryz.underlying130 pow_cells pow_cells20 hd2
  refine ⟨?_, heap_of_var pow_named hv2⟩
  show W.var? Tryz.prog "internal/strconv.uint64pow10" = _
  rw [hv2, ← h2]
section
variable {H : Type} {enc : TypeId × Value → H} {W : World} {base : Nat} {spare : Nat → Bool} {held : Bool}
set_option maxRecDepth 100000 in
theorem deeds_of_rows {fs : Array Field} (hfs : Tryz.prog.underlying 32 = some (.struct fs)) {ao : Option Addr} {len : Nat} (h : RowsOf (Reads enc Tryz.prog W base spare held) fs ao len W) : ∃ X, DeedsAt ao len X W := by
  have e := hfs.symm.trans Tryz.underlying32
  injection e with e
  injection e with e
  subst e
  obtain ⟨b, off, h1, h2⟩ := h
  have each : ∀ i, ∃ d : DeedV, i < len → DeedOk d ∧ DeedAt b (off + i * 4) d W := by
    intro i
    by_cases hi : i < len
    · obtain ⟨v0, c0, r0⟩ := h2 i hi 0 _ rfl
      obtain ⟨v1, c1, r1⟩ := h2 i hi 1 _ rfl
      obtain ⟨v2, c2, r2⟩ := h2 i hi 2 _ rfl
      obtain ⟨v3, c3, r3⟩ := h2 i hi 3 _ rfl
      obtain ⟨z0, rfl, _⟩ := Reads.int Tryz.underlying3 r0
      obtain ⟨s1, rfl, hs1⟩ := Reads.string Tryz.underlying9 r1
      obtain ⟨s2, rfl, hs2⟩ := Reads.string Tryz.underlying9 r2
      obtain ⟨z3, rfl, _⟩ := Reads.int Tryz.underlying3 r3
      exact ⟨⟨z0, s1, s2, z3⟩, fun _ => ⟨⟨hs1, hs2⟩, ⟨c0, c1, c2, c3⟩⟩⟩
    · exact ⟨⟨0, ⟨#[]⟩, ⟨#[]⟩, 0⟩, fun h => absurd h hi⟩
  obtain ⟨X, hX⟩ := Classical.axiomOfChoice each
  exact ⟨X, b, off, h1, fun i hi => hX i hi⟩
set_option maxRecDepth 100000 in
theorem deeds_open {r : Reach} {b0 : Nat} {v : Value} {x : DataW H} {p : List MemPlace} (hv : Value.okWide Tryz.prog W r b0 22 v) (h : DataW.Trod enc Tryz.prog W base spare held 22 v x p) :
    ∃ ao len cap X, v = .slice ao len cap ∧ len ≤ maxLen ∧ DeedsAt ao len X W := by
  obtain ⟨ao0, len0, cap0, rfl⟩ := okWide_slice Tryz.underlying22 hv
  obtain ⟨n, hn⟩ := h
  obtain ⟨ao, len, cap, e0, hl1, hl2, hr⟩ := Reads.rows Tryz.underlying22 Tryz.underlying32 (by kernel_rfl) (by kernel_rfl) (by decide) ⟨n, _, hn⟩
  obtain ⟨X, hX⟩ := deeds_of_rows Tryz.underlying32 hr
  exact ⟨ao, len, cap, X, e0, Nat.le_trans hl1 hl2, hX⟩
end
end Go.Proofs.YtopgbbkndkincaaGreatDoor
