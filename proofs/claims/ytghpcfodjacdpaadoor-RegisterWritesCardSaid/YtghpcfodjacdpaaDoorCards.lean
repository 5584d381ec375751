/-
  DERIVED. GIVEN WITH THE SEED: THE CARDS: each row of YtghpcfodjacdpaaDoorRows.lean that lists a variable, with what it lists TIED to the program's text (the seventh form; the later family's looks); each row that meets fmt, with fmt's text TOLD by the authors' own Lean function (tested against real Go, not proved from fmt's source: count such statements apart). THE CARD IS WHAT COUNTS. Prove the row's statement (the work); the ties are given (YtghpcfodjacdpaaDoorTie.lean); close each card by the builder's one call (the guide's Derived/Test/ToyasCard.lean, 'card_holds'). Laid BY PROGRAM, IN A SANDBOX (cutbox-door.mjs). By AI agents, Wed Nov 11 2026. No macro, syntax, notation, axiom, sorry.
-/
import Derived.Test.YtghpcfodjacdpaaDoorRows
import GoSem.ClaimSeven
namespace Go.Proofs.YtghpcfodjacdpaaDoor
namespace Rows

/-- THE TIED CARD OF 'frisketlaw02.RegisterWrites'. -/
def registerWritesCard : Claim7 := { stood := { row := registerWritesRow, standIns := [], harness := (true, "5ad75a7cf3bcc566af4f3369c192c58fa6d900849ae4b39d0070a34637a952ce"), looks := false }, kinds := [], alts := [], laidByText := true, laidKinds := [.data, .data, .data, .data, .data, .pinned, .pinned], laidTests := true, laidLooks := .later }
def RegisterWritesCardSaid : Prop := Claim7.holds Tryd.pinned (.plain (OpenSpec.ofChange registerWritesSpec)) registerWritesCard

/-- THE SECOND FORM's CARD OF 'frisketlaw02.RegisterWrites'. -/
def registerWritesUptoCard : Claim7 := { stood := { row := registerWritesUptoRow, standIns := [], harness := (true, "5ad75a7cf3bcc566af4f3369c192c58fa6d900849ae4b39d0070a34637a952ce"), looks := false }, kinds := [], alts := [], laidByText := true, laidKinds := [.data, .data, .data, .data, .data, .pinned, .pinned], laidTests := true, laidLooks := .later }
def RegisterWritesUptoCardSaid : Prop := Claim7.holds Tryd.pinned (.plain (OpenSpec.upto registerWritesSpec)) registerWritesUptoCard
end Rows
end Go.Proofs.YtghpcfodjacdpaaDoor
