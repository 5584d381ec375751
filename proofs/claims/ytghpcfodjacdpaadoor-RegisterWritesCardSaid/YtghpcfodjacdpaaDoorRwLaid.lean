/- What RegisterWrites's row lists, in memory: the numerals, the powers of ten, the library's tables of letters. -/
import Derived.Test.YtghpcfodjacdpaaDoorRgLaid
import Derived.Test.YtghpcfodjacdpaaDoorRwLaw
import Derived.Lib.LaidTab
import Derived.Lib.LaidU8
import Derived.Lib.LaidCase
import Derived.PinnedBridge
namespace Go.Proofs.YtghpcfodjacdpaaDoor
open Go.ChangeShapes Go.WideShapes Go.RowKit Go.Lib

theorem own_knob : ownKnob Tryd.prog.godebug = none := by kernel_rfl
theorem laid_out : laidOutB Tryd.prog = true := by kernel_rfl
abbrev rwLaid : List (String × DataW Unit) := Rows.registerWritesRow.laid
theorem pow_type : (Tryd.prog.globals[5]?).map (·.type) = some 109 := by kernel_rfl
theorem pow_cells : Tryd.prog.cellsOf 88 = 1 := by kernel_rfl
theorem pow_cells20 : Tryd.prog.cellsOf 109 = 20 := by kernel_rfl
theorem pow_data : (Rows.laid_internal_strconv_uint64pow10 : DataW Unit) = Lib.tabData .u64 Lib.pow10Tab := by rfl
theorem acc_data : (Rows.laid_unicode_utf8_acceptRanges : DataW Unit) = acceptData := by rfl
theorem heap_of_var {W : World} {name : String} {g : Nat} {cs : Array Value} (hg : Tryd.prog.globalNamed name = some g) (h : W.var? Tryd.prog name = some cs) : g < W.heap.size := by
  simp only [World.var?, hg, Option.bind_some] at h
  split at h
  · rename_i c t fr hw
    exact lt_of_block hw
  · cases h
theorem nums_of_reads {W : World} (h : VarReads Tryd.prog W "frisket/register.numerals" Rows.laid_frisket_register_numerals) : NumsAt W := by
  obtain ⟨g0, t0, cs0, f0, p0, hg0, ht0, hv0, hd0⟩ := h
  obtain rfl := Option.some.inj (nums_named.symm.trans hg0)
  obtain rfl := Option.some.inj (nums_type.symm.trans ht0)
  have := nums_cells_of hd0
  exact nums_of_var hv0 (by rw [← Array.toList_inj, this])
theorem pow_of_reads {W : World} (h : VarReads Tryd.prog W "internal/strconv.uint64pow10" Rows.laid_internal_strconv_uint64pow10) : PowAt W := by
  obtain ⟨g2, t2, cs2, f2, p2, hg2, ht2, hv2, hd2⟩ := h
  obtain rfl := Option.some.inj (pow_named.symm.trans hg2)
  obtain rfl := Option.some.inj (pow_type.symm.trans ht2)
  rw [pow_data] at hd2
  have h2 := Lib.cells_of_tab Tryd.underlying109 Tryd.underlying88 pow_cells pow_cells20 hd2
  refine ⟨?_, heap_of_var pow_named hv2⟩
  show W.var? Tryd.prog "internal/strconv.uint64pow10" = _
  rw [hv2, ← h2]
/-- What the row gives the walks. -/
theorem rw_of_laid {W : World} (h : laidMetH Tryd.prog rwLaid W) : AllTabs W := by
  rw [MakeChecks.laidMetH_plain _ _ _ (by kernel_rfl)] at h
  have r1 := laidMet.reads h (n := "internal/strconv.uint64pow10") (.tail _ (.tail _ (.head _)))
  have r2 := laidMet.reads h (n := "unicode/utf8.acceptRanges") (.tail _ (.tail _ (.tail _ (.head _))))
  have r3 := laidMet.reads h (n := "frisket/register.numerals") (.tail _ (.tail _ (.tail _ (.tail _ (.head _)))))
  have r4 := laidMet.reads h (n := "unicode.CaseRanges") (.tail _ (.tail _ (.tail _ (.tail _ (.tail _ (.head _))))))
  have r5 := laidMet.reads h (n := "unicode/utf8.first") (.tail _ (.tail _ (.tail _ (.tail _ (.tail _ (.tail _ (.head _)))))))
  have hn := nums_of_reads r3
  rw [show Rows.laid_unicode_CaseRanges = caseData from Pinned.caseRanges_eq] at r4
  rw [show Rows.laid_unicode_utf8_first = firstData from Pinned.utf8First_eq] at r5
  rw [acc_data] at r2
  exact ⟨⟨⟨hn, hn.lt⟩, pow_of_reads r1⟩,
    caseVar_of_reads { Tryd.lowerL with } Tryd.lowerL.t206 ⟨by kernel_rfl, by kernel_rfl, by kernel_rfl, by kernel_rfl, by kernel_rfl, by kernel_rfl⟩ r4,
    utf8Tabs_of_reads { Tryd.lowerL with } ⟨by kernel_rfl, by kernel_rfl, by kernel_rfl, by kernel_rfl, by kernel_rfl, by kernel_rfl, by kernel_rfl⟩ r5 r2⟩
end Go.Proofs.YtghpcfodjacdpaaDoor
