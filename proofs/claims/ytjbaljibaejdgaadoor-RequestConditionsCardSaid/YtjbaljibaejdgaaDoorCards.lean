/-
  DERIVED. GIVEN WITH THE SEED: THE CARDS: each row of YtjbaljibaejdgaaDoorRows.lean that lists a variable, with what it lists TIED to the program's text (the seventh form; the later family's looks); each row that meets fmt, with fmt's text TOLD by the authors' own Lean function (tested against real Go, not proved from fmt's source: count such statements apart). THE CARD IS WHAT COUNTS. Prove the row's statement (the work); the ties are given (YtjbaljibaejdgaaDoorTie.lean); close each card by the builder's one call (the guide's Derived/Test/ToyasCard.lean, 'card_holds'). Laid BY PROGRAM, IN A SANDBOX (cutbox-door.mjs). By AI agents, Wed Nov 11 2026. No macro, syntax, notation, axiom, sorry.
-/
import Derived.Test.YtjbaljibaejdgaaDoorRows
import GoSem.ClaimSeven
namespace Go.Proofs.YtjbaljibaejdgaaDoor
namespace Rows

/-- THE TIED CARD OF 'frisketlaw06.RequestConditions'. -/
def requestConditionsCard : Claim7 := { stood := { row := requestConditionsRow, standIns := [], harness := (true, "93a71cf5e4f903179456680b995f5e32569bb2523dc7944ed24b91786fa708e7"), looks := false }, kinds := [], alts := [], laidByText := true, laidKinds := [.data, .pinned], laidTests := true, laidLooks := .later }
def RequestConditionsCardSaid : Prop := Claim7.holds Tryd.pinned (.plain (OpenSpec.ofChange requestConditionsSpec)) requestConditionsCard

/-- THE TIED CARD OF 'frisketlaw06.RequestNots'. -/
def requestNotsCard : Claim7 := { stood := { row := requestNotsRow, standIns := [], harness := (true, "93a71cf5e4f903179456680b995f5e32569bb2523dc7944ed24b91786fa708e7"), looks := false }, kinds := [], alts := [], laidByText := true, laidKinds := [.data, .pinned], laidTests := true, laidLooks := .later }
def RequestNotsCardSaid : Prop := Claim7.holds Tryd.pinned (.plain (OpenSpec.ofChange requestNotsSpec)) requestNotsCard

/-- THE SECOND FORM's CARD OF 'frisketlaw06.RequestConditions'. -/
def requestConditionsUptoCard : Claim7 := { stood := { row := requestConditionsUptoRow, standIns := [], harness := (true, "93a71cf5e4f903179456680b995f5e32569bb2523dc7944ed24b91786fa708e7"), looks := false }, kinds := [], alts := [], laidByText := true, laidKinds := [.data, .pinned], laidTests := true, laidLooks := .later }
def RequestConditionsUptoCardSaid : Prop := Claim7.holds Tryd.pinned (.plain (OpenSpec.upto requestConditionsSpec)) requestConditionsUptoCard

/-- THE SECOND FORM's CARD OF 'frisketlaw06.RequestNots'. -/
def requestNotsUptoCard : Claim7 := { stood := { row := requestNotsUptoRow, standIns := [], harness := (true, "93a71cf5e4f903179456680b995f5e32569bb2523dc7944ed24b91786fa708e7"), looks := false }, kinds := [], alts := [], laidByText := true, laidKinds := [.data, .pinned], laidTests := true, laidLooks := .later }
def RequestNotsUptoCardSaid : Prop := Claim7.holds Tryd.pinned (.plain (OpenSpec.upto requestNotsSpec)) requestNotsUptoCard
end Rows
end Go.Proofs.YtjbaljibaejdgaaDoor
