/-
  DERIVED. GIVEN WITH THE SEED: THE CARDS: each row of YtkkcoajgpdpfkabDoorRows.lean that lists a variable, with what it lists TIED to the program's text (the seventh form; the later family's looks); each row that meets fmt, with fmt's text TOLD by the authors' own Lean function (tested against real Go, not proved from fmt's source: count such statements apart). THE CARD IS WHAT COUNTS. Prove the row's statement (the work); the ties are given (YtkkcoajgpdpfkabDoorTie.lean); close each card by the builder's one call (the guide's Derived/Test/ToyasCard.lean, 'card_holds'). Laid BY PROGRAM, IN A SANDBOX (cutbox-door.mjs). By AI agents, Wed Nov 11 2026. No macro, syntax, notation, axiom, sorry.
-/
import Derived.Test.YtkkcoajgpdpfkabDoorRows
import GoSem.ClaimSeven
namespace Go.Proofs.YtkkcoajgpdpfkabDoor
namespace Rows

/-- THE TIED CARD OF 'frisketlaw01.MeasureReads'. -/
def measureReadsCard : Claim7 := { stood := { row := measureReadsRow, standIns := [], harness := (true, "dff9601780d4a472524ab7116a9d085d960a702ee14272b82746058ccb664646"), looks := true }, kinds := [], alts := [], laidByText := true, laidKinds := [.data], laidTests := true, laidLooks := .later }
def MeasureReadsCardSaid : Prop := Claim7.holds Tryd.pinned (.plain (OpenSpec.ofChange measureReadsSpec)) measureReadsCard

/-- THE TIED CARD OF 'frisketlaw01.MeasureBits'. -/
def measureBitsCard : Claim7 := { stood := { row := measureBitsRow, standIns := [], harness := (true, "dff9601780d4a472524ab7116a9d085d960a702ee14272b82746058ccb664646"), looks := true }, kinds := [], alts := [], laidByText := true, laidKinds := [.data], laidTests := true, laidLooks := .later }
def MeasureBitsCardSaid : Prop := Claim7.holds Tryd.pinned (.plain (OpenSpec.ofChange measureBitsSpec)) measureBitsCard

/-- THE TIED CARD OF 'frisketlaw01.MeasureTexts'. -/
def measureTextsCard : Claim7 := { stood := { row := measureTextsRow, standIns := [], harness := (true, "dff9601780d4a472524ab7116a9d085d960a702ee14272b82746058ccb664646"), looks := true }, kinds := [], alts := [], laidByText := true, laidKinds := [.data, .data, .data, .data, .data, .pinned], laidTests := true, laidLooks := .later }
def MeasureTextsCardSaid : Prop := Claim7.holds Tryd.pinned (.plain (OpenSpec.ofChange measureTextsSpec)) measureTextsCard

/-- THE TIED CARD OF 'frisketlaw01.MeasureBack'. -/
def measureBackCard : Claim7 := { stood := { row := measureBackRow, standIns := [], harness := (true, "dff9601780d4a472524ab7116a9d085d960a702ee14272b82746058ccb664646"), looks := true }, kinds := [], alts := [], laidByText := true, laidKinds := [.data, .data, .data, .data, .data, .pinned], laidTests := true, laidLooks := .later }
def MeasureBackCardSaid : Prop := Claim7.holds Tryd.pinned (.plain (OpenSpec.ofChange measureBackSpec)) measureBackCard

/-- THE TIED CARD OF 'frisketlaw01.MeasureSums'. -/
def measureSumsCard : Claim7 := { stood := { row := measureSumsRow, standIns := [], harness := (true, "dff9601780d4a472524ab7116a9d085d960a702ee14272b82746058ccb664646"), looks := true }, kinds := [], alts := [], laidByText := true, laidKinds := [.data], laidTests := true, laidLooks := .later }
def MeasureSumsCardSaid : Prop := Claim7.holds Tryd.pinned (.plain (OpenSpec.ofChange measureSumsSpec)) measureSumsCard

/-- THE TIED CARD OF 'frisketlaw01.MeasureLeft'. -/
def measureLeftCard : Claim7 := { stood := { row := measureLeftRow, standIns := [], harness := (true, "dff9601780d4a472524ab7116a9d085d960a702ee14272b82746058ccb664646"), looks := true }, kinds := [], alts := [], laidByText := true, laidKinds := [.data], laidTests := true, laidLooks := .later }
def MeasureLeftCardSaid : Prop := Claim7.holds Tryd.pinned (.plain (OpenSpec.ofChange measureLeftSpec)) measureLeftCard

/-- THE SECOND FORM's CARD OF 'frisketlaw01.MeasureReads'. -/
def measureReadsUptoCard : Claim7 := { stood := { row := measureReadsUptoRow, standIns := [], harness := (true, "dff9601780d4a472524ab7116a9d085d960a702ee14272b82746058ccb664646"), looks := true }, kinds := [], alts := [], laidByText := true, laidKinds := [.data], laidTests := true, laidLooks := .later }
def MeasureReadsUptoCardSaid : Prop := Claim7.holds Tryd.pinned (.plain (OpenSpec.upto measureReadsSpec)) measureReadsUptoCard

/-- THE SECOND FORM's CARD OF 'frisketlaw01.MeasureBits'. -/
def measureBitsUptoCard : Claim7 := { stood := { row := measureBitsUptoRow, standIns := [], harness := (true, "dff9601780d4a472524ab7116a9d085d960a702ee14272b82746058ccb664646"), looks := true }, kinds := [], alts := [], laidByText := true, laidKinds := [.data], laidTests := true, laidLooks := .later }
def MeasureBitsUptoCardSaid : Prop := Claim7.holds Tryd.pinned (.plain (OpenSpec.upto measureBitsSpec)) measureBitsUptoCard

/-- THE SECOND FORM's CARD OF 'frisketlaw01.MeasureTexts'. -/
def measureTextsUptoCard : Claim7 := { stood := { row := measureTextsUptoRow, standIns := [], harness := (true, "dff9601780d4a472524ab7116a9d085d960a702ee14272b82746058ccb664646"), looks := true }, kinds := [], alts := [], laidByText := true, laidKinds := [.data, .data, .data, .data, .data, .pinned], laidTests := true, laidLooks := .later }
def MeasureTextsUptoCardSaid : Prop := Claim7.holds Tryd.pinned (.plain (OpenSpec.upto measureTextsSpec)) measureTextsUptoCard

/-- THE SECOND FORM's CARD OF 'frisketlaw01.MeasureBack'. -/
def measureBackUptoCard : Claim7 := { stood := { row := measureBackUptoRow, standIns := [], harness := (true, "dff9601780d4a472524ab7116a9d085d960a702ee14272b82746058ccb664646"), looks := true }, kinds := [], alts := [], laidByText := true, laidKinds := [.data, .data, .data, .data, .data, .pinned], laidTests := true, laidLooks := .later }
def MeasureBackUptoCardSaid : Prop := Claim7.holds Tryd.pinned (.plain (OpenSpec.upto measureBackSpec)) measureBackUptoCard

/-- THE SECOND FORM's CARD OF 'frisketlaw01.MeasureSums'. -/
def measureSumsUptoCard : Claim7 := { stood := { row := measureSumsUptoRow, standIns := [], harness := (true, "dff9601780d4a472524ab7116a9d085d960a702ee14272b82746058ccb664646"), looks := true }, kinds := [], alts := [], laidByText := true, laidKinds := [.data], laidTests := true, laidLooks := .later }
def MeasureSumsUptoCardSaid : Prop := Claim7.holds Tryd.pinned (.plain (OpenSpec.upto measureSumsSpec)) measureSumsUptoCard

/-- THE SECOND FORM's CARD OF 'frisketlaw01.MeasureLeft'. -/
def measureLeftUptoCard : Claim7 := { stood := { row := measureLeftUptoRow, standIns := [], harness := (true, "dff9601780d4a472524ab7116a9d085d960a702ee14272b82746058ccb664646"), looks := true }, kinds := [], alts := [], laidByText := true, laidKinds := [.data], laidTests := true, laidLooks := .later }
def MeasureLeftUptoCardSaid : Prop := Claim7.holds Tryd.pinned (.plain (OpenSpec.upto measureLeftSpec)) measureLeftUptoCard
end Rows
end Go.Proofs.YtkkcoajgpdpfkabDoor
