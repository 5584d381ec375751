/-
  DERIVED. GIVEN WITH THE SEED: THE CARDS: each row of YtopgbbkndkincaaGreatDoorRows.lean that lists a variable, with what it lists TIED to the program's text (the seventh form; the later family's looks); each row that meets fmt, with fmt's text TOLD by the authors' own Lean function (tested against real Go, not proved from fmt's source: count such statements apart). THE CARD IS WHAT COUNTS. Prove the row's statement (the work); the ties are given (YtopgbbkndkincaaGreatDoorTie.lean); close each card by the builder's one call (the guide's Derived/Test/ToyasCard.lean, 'card_holds'). Laid BY PROGRAM, IN A SANDBOX (cutbox-door.mjs). By AI agents, Wed Nov 11 2026. No macro, syntax, notation, axiom, sorry.
-/
import Derived.Test.YtopgbbkndkincaaGreatDoorRows
import GoSem.ClaimSeven
namespace Go.Proofs.YtopgbbkndkincaaGreatDoor
namespace Rows

/-- THE TIED CARD OF 'frisketlaw02.RegisterApart'. -/
def registerApartCard : Claim7 := { stood := { row := registerApartRow, standIns := [], harness := (true, "142044ae6a0ff65136a768e0cd8c93ded68044a5b4dab85b05f5717cdf17cc68"), looks := true }, kinds := [], alts := [], laidByText := true, laidKinds := [.data, .data, .data, .data, .data, .pinned, .pinned], laidTests := true, laidLooks := .later }
def RegisterApartCardSaid : Prop := Claim7.holds Tryz.pinned (.plain (OpenSpec.ofChange registerApartSpec)) registerApartCard

/-- THE SECOND FORM's CARD OF 'frisketlaw02.RegisterApart'. -/
def registerApartUptoCard : Claim7 := { stood := { row := registerApartUptoRow, standIns := [], harness := (true, "142044ae6a0ff65136a768e0cd8c93ded68044a5b4dab85b05f5717cdf17cc68"), looks := true }, kinds := [], alts := [], laidByText := true, laidKinds := [.data, .data, .data, .data, .data, .pinned, .pinned], laidTests := true, laidLooks := .later }
def RegisterApartUptoCardSaid : Prop := Claim7.holds Tryz.pinned (.plain (OpenSpec.upto registerApartSpec)) registerApartUptoCard
end Rows
end Go.Proofs.YtopgbbkndkincaaGreatDoor
