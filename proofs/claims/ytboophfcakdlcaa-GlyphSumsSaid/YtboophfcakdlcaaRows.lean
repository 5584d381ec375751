/-
  No cell of these rows narrows 'for every input' (looked for: loops, veiled, ifaces, maps, wideKeys, modest, calm, conditions, laid).
  DERIVED. THE GIVEN ROWS OF THIS SEAT. 6 by the template 'for every input the law returns true; each argument reads behind the call as it read before'; 0 by the template 'total and deterministic' (their statements: YtboophfcakdlcaaTotals.lean).
  GIVEN WITH THE SEED: the statements are not yours to turn. If you find one false, say at which input.
  Laid BY PROGRAM, IN A SANDBOX (cutbox-rows.mjs): the forced cells as the released guide's own fill.sh prints them over the translation bf13b878df007173… (all of the seat's roots in one cut). By AI agents, Wed Nov 11 2026. No macro, syntax, notation, axiom, sorry.
-/
import Derived.Test.YtboophfcakdlcaaChecked
import GoSem.Claim
import GoSem.ClaimJoined
import GoSem.ClaimMapViews
import Derived.JoinedTies
import Derived.KernelRfl
namespace Go.Proofs.Ytboophfcakdlcaa
/- THE CELL 'sum', in the pinned program and in every row, IS THE sha256 OF THE DUMP (.gsa) THAT YtboophfcakdlcaaProg.lean LOADS. Nothing in Lean hashes anything: it is a label: what it is worth is what the hold of that sum in a sandbox is worth. -/
noncomputable def Try.pinned : Pinned := { name := "ytboophfcakdlcaa", sum := "bf13b878df0071731a2b0a9f0ba51a6fea29e7ecaa0372fbaa9ca439b8625227", checked := Try.checked }
namespace Rows
def none {H : Type} : Left H := { results := [], args := [] }

/-- 'frisketlaw07.FontStandard': WHATEVER THE INPUT: true; the input reads as it did. -/
def fontStandardSpec : ChangeSpec := { name := "fontStandard", fn := fun _ => fun
  | [] => { results := [.lit (.bool true)], args := [] }
  | _ => none }
def fontStandardRow : OpenClaim := { program := "ytboophfcakdlcaa", sum := "bf13b878df0071731a2b0a9f0ba51a6fea29e7ecaa0372fbaa9ca439b8625227", func := "frisket/frisketlaw07.FontStandard", spec := "fontStandard", inPlace := ["internal/bytealg.IndexByteString"], unfollowed := true, recurses := true, apart := false }
def FontStandardSaid : Prop := fontStandardRow.holds Try.pinned (OpenSpec.ofChange fontStandardSpec)

/-- ITS FALSE NEIGHBOUR: 'it returns false'. Refute it at one input. -/
def fontStandardWrong : ChangeSpec := { name := "fontStandard", fn := fun _ => fun
  | [] => { results := [.lit (.bool false)], args := [] }
  | _ => none }
def FontStandardWrongFalsely : Prop := fontStandardRow.holds Try.pinned (OpenSpec.ofChange fontStandardWrong)

/-- 'frisketlaw07.FontGrows': WHATEVER THE INPUT: true; the input reads as it did. -/
def fontGrowsSpec : ChangeSpec := { name := "fontGrows", fn := fun _ => fun
  | [d1, d2, d3] => { results := [.lit (.bool true)], args := [d1, d2, d3] }
  | _ => none }
def fontGrowsRow : OpenClaim := { program := "ytboophfcakdlcaa", sum := "bf13b878df0071731a2b0a9f0ba51a6fea29e7ecaa0372fbaa9ca439b8625227", func := "frisket/frisketlaw07.FontGrows", spec := "fontGrows", inPlace := ["internal/bytealg.IndexByteString"], unfollowed := true, recurses := true, apart := false }
def FontGrowsSaid : Prop := fontGrowsRow.holds Try.pinned (OpenSpec.ofChange fontGrowsSpec)

/-- ITS FALSE NEIGHBOUR: 'it returns false'. Refute it at one input. -/
def fontGrowsWrong : ChangeSpec := { name := "fontGrows", fn := fun _ => fun
  | [d1, d2, d3] => { results := [.lit (.bool false)], args := [d1, d2, d3] }
  | _ => none }
def FontGrowsWrongFalsely : Prop := fontGrowsRow.holds Try.pinned (OpenSpec.ofChange fontGrowsWrong)

/-- 'frisketlaw07.FontSame': WHATEVER THE INPUT: true; the input reads as it did. -/
def fontSameSpec : ChangeSpec := { name := "fontSame", fn := fun _ => fun
  | [d1, d2] => { results := [.lit (.bool true)], args := [d1, d2] }
  | _ => none }
def fontSameRow : OpenClaim := { program := "ytboophfcakdlcaa", sum := "bf13b878df0071731a2b0a9f0ba51a6fea29e7ecaa0372fbaa9ca439b8625227", func := "frisket/frisketlaw07.FontSame", spec := "fontSame", inPlace := ["internal/bytealg.IndexByteString"], unfollowed := true, recurses := true, apart := false }
def FontSameSaid : Prop := fontSameRow.holds Try.pinned (OpenSpec.ofChange fontSameSpec)

/-- ITS FALSE NEIGHBOUR: 'it returns false'. Refute it at one input. -/
def fontSameWrong : ChangeSpec := { name := "fontSame", fn := fun _ => fun
  | [d1, d2] => { results := [.lit (.bool false)], args := [d1, d2] }
  | _ => none }
def FontSameWrongFalsely : Prop := fontSameRow.holds Try.pinned (OpenSpec.ofChange fontSameWrong)

/-- 'frisketlaw08.GlyphMoves': WHATEVER THE INPUT: true; the input reads as it did. -/
def glyphMovesSpec : ChangeSpec := { name := "glyphMoves", fn := fun _ => fun
  | [d] => { results := [.lit (.bool true)], args := [d] }
  | _ => none }
def glyphMovesRow : OpenClaim := { program := "ytboophfcakdlcaa", sum := "bf13b878df0071731a2b0a9f0ba51a6fea29e7ecaa0372fbaa9ca439b8625227", func := "frisket/frisketlaw08.GlyphMoves", spec := "glyphMoves", inPlace := ["internal/bytealg.IndexByteString"], unfollowed := true, recurses := true, apart := false }
def GlyphMovesSaid : Prop := glyphMovesRow.holds Try.pinned (OpenSpec.ofChange glyphMovesSpec)

/-- ITS FALSE NEIGHBOUR: 'it returns false'. Refute it at one input. -/
def glyphMovesWrong : ChangeSpec := { name := "glyphMoves", fn := fun _ => fun
  | [d] => { results := [.lit (.bool false)], args := [d] }
  | _ => none }
def GlyphMovesWrongFalsely : Prop := glyphMovesRow.holds Try.pinned (OpenSpec.ofChange glyphMovesWrong)

/-- 'frisketlaw08.GlyphRows': WHATEVER THE INPUT: true; the input reads as it did. -/
def glyphRowsSpec : ChangeSpec := { name := "glyphRows", fn := fun _ => fun
  | [d1, d2, d3] => { results := [.lit (.bool true)], args := [d1, d2, d3] }
  | _ => none }
def glyphRowsRow : OpenClaim := { program := "ytboophfcakdlcaa", sum := "bf13b878df0071731a2b0a9f0ba51a6fea29e7ecaa0372fbaa9ca439b8625227", func := "frisket/frisketlaw08.GlyphRows", spec := "glyphRows", inPlace := ["internal/bytealg.IndexByteString"], unfollowed := true, recurses := true, apart := false }
def GlyphRowsSaid : Prop := glyphRowsRow.holds Try.pinned (OpenSpec.ofChange glyphRowsSpec)

/-- ITS FALSE NEIGHBOUR: 'it returns false'. Refute it at one input. -/
def glyphRowsWrong : ChangeSpec := { name := "glyphRows", fn := fun _ => fun
  | [d1, d2, d3] => { results := [.lit (.bool false)], args := [d1, d2, d3] }
  | _ => none }
def GlyphRowsWrongFalsely : Prop := glyphRowsRow.holds Try.pinned (OpenSpec.ofChange glyphRowsWrong)

/-- 'frisketlaw08.GlyphSums': WHATEVER THE INPUT: true; the input reads as it did. -/
def glyphSumsSpec : ChangeSpec := { name := "glyphSums", fn := fun _ => fun
  | [d1, d2] => { results := [.lit (.bool true)], args := [d1, d2] }
  | _ => none }
def glyphSumsRow : OpenClaim := { program := "ytboophfcakdlcaa", sum := "bf13b878df0071731a2b0a9f0ba51a6fea29e7ecaa0372fbaa9ca439b8625227", func := "frisket/frisketlaw08.GlyphSums", spec := "glyphSums", inPlace := ["internal/bytealg.IndexByteString"], unfollowed := true, recurses := true, apart := false }
def GlyphSumsSaid : Prop := glyphSumsRow.holds Try.pinned (OpenSpec.ofChange glyphSumsSpec)

/-- ITS FALSE NEIGHBOUR: 'it returns false'. Refute it at one input. -/
def glyphSumsWrong : ChangeSpec := { name := "glyphSums", fn := fun _ => fun
  | [d1, d2] => { results := [.lit (.bool false)], args := [d1, d2] }
  | _ => none }
def GlyphSumsWrongFalsely : Prop := glyphSumsRow.holds Try.pinned (OpenSpec.ofChange glyphSumsWrong)

/- THE SECOND FORM. 'bulk': how many values and letters a reading holds, each counted each time it is reached (what is shared counts as often as it is met; a slice's spare places count too). A statement '..UptoSaid' is the law's where the arguments, and the package variables that the reading takes, are together of bulk at most 1048576: NARROWER than '..Said'. Prove '..Said' where nothing that the law and all that it calls make is longer than what came in: it says more and counts as full. Else prove '..UptoSaid'. A law counts once. -/
mutual
def uptoBulk {H : Type} : DataW H → Nat
  | .lit (.string bytes) => bytes.length + 1
  | .lit _ => 1
  | .nil => 1
  | .ptr d => uptoBulk d + 1
  | .slice elems spare => uptoBulkAll elems + uptoBulkAll spare + 1
  | .agg parts => uptoBulkAll parts + 1
  | .iface _ d => uptoBulk d + 1
  | .map entries => uptoBulkEntries entries + 1
  | .held _ => 1
def uptoBulkAll {H : Type} : List (DataW H) → Nat
  | [] => 0
  | d :: r => uptoBulk d + uptoBulkAll r
def uptoBulkEntries {H : Type} : List (Lit × DataW H) → Nat
  | [] => 0
  | x :: r => uptoBulkEntry x + uptoBulkEntries r
def uptoBulkEntry {H : Type} : Lit × DataW H → Nat
  | (.string bytes, d) => bytes.length + uptoBulk d + 1
  | (_, d) => uptoBulk d + 1
 end
def uptoSmall : (H : Type) → List (DataW H) → Bool := fun _ ds => decide (uptoBulkAll ds ≤ 1048576)
def OpenSpec.upto (s : _root_.Go.ChangeSpec) : _root_.Go.OpenSpec := { _root_.Go.OpenSpec.ofChange s with cond := some uptoSmall }

/-- 'frisketlaw07.FontStandard', WHERE WHAT IT READS IS OF BULK AT MOST 1048576: true; the input reads as it did. -/
def fontStandardUptoRow : OpenClaim := { program := "ytboophfcakdlcaa", sum := "bf13b878df0071731a2b0a9f0ba51a6fea29e7ecaa0372fbaa9ca439b8625227", func := "frisket/frisketlaw07.FontStandard", spec := "fontStandard", inPlace := ["internal/bytealg.IndexByteString"], unfollowed := true, recurses := true, apart := false, narrowed := true }
def FontStandardUptoSaid : Prop := fontStandardUptoRow.holds Try.pinned (OpenSpec.upto fontStandardSpec)

/-- 'frisketlaw07.FontGrows', WHERE WHAT IT READS IS OF BULK AT MOST 1048576: true; the input reads as it did. -/
def fontGrowsUptoRow : OpenClaim := { program := "ytboophfcakdlcaa", sum := "bf13b878df0071731a2b0a9f0ba51a6fea29e7ecaa0372fbaa9ca439b8625227", func := "frisket/frisketlaw07.FontGrows", spec := "fontGrows", inPlace := ["internal/bytealg.IndexByteString"], unfollowed := true, recurses := true, apart := false, narrowed := true }
def FontGrowsUptoSaid : Prop := fontGrowsUptoRow.holds Try.pinned (OpenSpec.upto fontGrowsSpec)

/-- 'frisketlaw07.FontSame', WHERE WHAT IT READS IS OF BULK AT MOST 1048576: true; the input reads as it did. -/
def fontSameUptoRow : OpenClaim := { program := "ytboophfcakdlcaa", sum := "bf13b878df0071731a2b0a9f0ba51a6fea29e7ecaa0372fbaa9ca439b8625227", func := "frisket/frisketlaw07.FontSame", spec := "fontSame", inPlace := ["internal/bytealg.IndexByteString"], unfollowed := true, recurses := true, apart := false, narrowed := true }
def FontSameUptoSaid : Prop := fontSameUptoRow.holds Try.pinned (OpenSpec.upto fontSameSpec)

/-- 'frisketlaw08.GlyphMoves', WHERE WHAT IT READS IS OF BULK AT MOST 1048576: true; the input reads as it did. -/
def glyphMovesUptoRow : OpenClaim := { program := "ytboophfcakdlcaa", sum := "bf13b878df0071731a2b0a9f0ba51a6fea29e7ecaa0372fbaa9ca439b8625227", func := "frisket/frisketlaw08.GlyphMoves", spec := "glyphMoves", inPlace := ["internal/bytealg.IndexByteString"], unfollowed := true, recurses := true, apart := false, narrowed := true }
def GlyphMovesUptoSaid : Prop := glyphMovesUptoRow.holds Try.pinned (OpenSpec.upto glyphMovesSpec)

/-- 'frisketlaw08.GlyphRows', WHERE WHAT IT READS IS OF BULK AT MOST 1048576: true; the input reads as it did. -/
def glyphRowsUptoRow : OpenClaim := { program := "ytboophfcakdlcaa", sum := "bf13b878df0071731a2b0a9f0ba51a6fea29e7ecaa0372fbaa9ca439b8625227", func := "frisket/frisketlaw08.GlyphRows", spec := "glyphRows", inPlace := ["internal/bytealg.IndexByteString"], unfollowed := true, recurses := true, apart := false, narrowed := true }
def GlyphRowsUptoSaid : Prop := glyphRowsUptoRow.holds Try.pinned (OpenSpec.upto glyphRowsSpec)

/-- 'frisketlaw08.GlyphSums', WHERE WHAT IT READS IS OF BULK AT MOST 1048576: true; the input reads as it did. -/
def glyphSumsUptoRow : OpenClaim := { program := "ytboophfcakdlcaa", sum := "bf13b878df0071731a2b0a9f0ba51a6fea29e7ecaa0372fbaa9ca439b8625227", func := "frisket/frisketlaw08.GlyphSums", spec := "glyphSums", inPlace := ["internal/bytealg.IndexByteString"], unfollowed := true, recurses := true, apart := false, narrowed := true }
def GlyphSumsUptoSaid : Prop := glyphSumsUptoRow.holds Try.pinned (OpenSpec.upto glyphSumsSpec)

end Rows
end Go.Proofs.Ytboophfcakdlcaa
