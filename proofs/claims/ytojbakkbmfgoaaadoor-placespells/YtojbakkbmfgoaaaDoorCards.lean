/-
  DERIVED. GIVEN WITH THE SEED: THE CARDS: each row of YtojbakkbmfgoaaaDoorRows.lean that lists a variable, with what it lists TIED to the program's text (the seventh form; the later family's looks); each row that meets fmt, with fmt's text TOLD by the authors' own Lean function (tested against real Go, not proved from fmt's source: count such statements apart). THE CARD IS WHAT COUNTS. Prove the row's statement (the work); the ties are given (YtojbakkbmfgoaaaDoorTie.lean); close each card by the builder's one call (the guide's Derived/Test/ToyasCard.lean, 'card_holds'). Laid BY PROGRAM, IN A SANDBOX (cutbox-door.mjs). By AI agents, Wed Nov 11 2026. No macro, syntax, notation, axiom, sorry.
-/
import Derived.Test.YtojbakkbmfgoaaaDoorRows
import GoSem.ClaimSeven
namespace Go.Proofs.YtojbakkbmfgoaaaDoor
namespace Rows

/-- THE TIED CARD OF 'eyotlaw10.PlaceAll'. -/
def placeAllCard : Claim7 := { stood := { row := placeAllRow, standIns := [], harness := (true, "95ce21ef93a1c4fb6301cb7b9563dfda1281346f852e42a249eb7ddda61149a6"), looks := false }, kinds := [], alts := [], laidByText := true, laidKinds := [.data], laidTests := true, laidLooks := .later }
def PlaceAllCardSaid : Prop := Claim7.holds Tryd.pinned (.plain (OpenSpec.ofChange placeAllSpec)) placeAllCard

/-- THE TIED CARD OF 'eyotlaw10.PlaceSpells'. -/
def placeSpellsCard : Claim7 := { stood := { row := placeSpellsRow, standIns := [], harness := (true, "95ce21ef93a1c4fb6301cb7b9563dfda1281346f852e42a249eb7ddda61149a6"), looks := false }, kinds := [], alts := [], laidByText := true, laidKinds := [.data], laidTests := true, laidLooks := .later }
def PlaceSpellsCardSaid : Prop := Claim7.holds Tryd.pinned (.plain (OpenSpec.ofChange placeSpellsSpec)) placeSpellsCard

/-- THE TIED CARD OF 'eyotlaw10.PlaceCounts'. -/
def placeCountsCard : Claim7 := { stood := { row := placeCountsRow, standIns := [], harness := (true, "95ce21ef93a1c4fb6301cb7b9563dfda1281346f852e42a249eb7ddda61149a6"), looks := false }, kinds := [], alts := [], laidByText := true, laidKinds := [.data], laidTests := true, laidLooks := .later }
def PlaceCountsCardSaid : Prop := Claim7.holds Tryd.pinned (.plain (OpenSpec.ofChange placeCountsSpec)) placeCountsCard

/-- THE TIED CARD OF 'eyotlaw10.PlaceSigns'. -/
def placeSignsCard : Claim7 := { stood := { row := placeSignsRow, standIns := [], harness := (true, "95ce21ef93a1c4fb6301cb7b9563dfda1281346f852e42a249eb7ddda61149a6"), looks := false }, kinds := [], alts := [], laidByText := true, laidKinds := [.data], laidTests := true, laidLooks := .later }
def PlaceSignsCardSaid : Prop := Claim7.holds Tryd.pinned (.plain (OpenSpec.ofChange placeSignsSpec)) placeSignsCard

/-- THE SECOND FORM's CARD OF 'eyotlaw10.PlaceAll'. -/
def placeAllUptoCard : Claim7 := { stood := { row := placeAllUptoRow, standIns := [], harness := (true, "95ce21ef93a1c4fb6301cb7b9563dfda1281346f852e42a249eb7ddda61149a6"), looks := false }, kinds := [], alts := [], laidByText := true, laidKinds := [.data], laidTests := true, laidLooks := .later }
def PlaceAllUptoCardSaid : Prop := Claim7.holds Tryd.pinned (.plain (OpenSpec.upto placeAllSpec)) placeAllUptoCard

/-- THE SECOND FORM's CARD OF 'eyotlaw10.PlaceSpells'. -/
def placeSpellsUptoCard : Claim7 := { stood := { row := placeSpellsUptoRow, standIns := [], harness := (true, "95ce21ef93a1c4fb6301cb7b9563dfda1281346f852e42a249eb7ddda61149a6"), looks := false }, kinds := [], alts := [], laidByText := true, laidKinds := [.data], laidTests := true, laidLooks := .later }
def PlaceSpellsUptoCardSaid : Prop := Claim7.holds Tryd.pinned (.plain (OpenSpec.upto placeSpellsSpec)) placeSpellsUptoCard

/-- THE SECOND FORM's CARD OF 'eyotlaw10.PlaceCounts'. -/
def placeCountsUptoCard : Claim7 := { stood := { row := placeCountsUptoRow, standIns := [], harness := (true, "95ce21ef93a1c4fb6301cb7b9563dfda1281346f852e42a249eb7ddda61149a6"), looks := false }, kinds := [], alts := [], laidByText := true, laidKinds := [.data], laidTests := true, laidLooks := .later }
def PlaceCountsUptoCardSaid : Prop := Claim7.holds Tryd.pinned (.plain (OpenSpec.upto placeCountsSpec)) placeCountsUptoCard

/-- THE SECOND FORM's CARD OF 'eyotlaw10.PlaceSigns'. -/
def placeSignsUptoCard : Claim7 := { stood := { row := placeSignsUptoRow, standIns := [], harness := (true, "95ce21ef93a1c4fb6301cb7b9563dfda1281346f852e42a249eb7ddda61149a6"), looks := false }, kinds := [], alts := [], laidByText := true, laidKinds := [.data], laidTests := true, laidLooks := .later }
def PlaceSignsUptoCardSaid : Prop := Claim7.holds Tryd.pinned (.plain (OpenSpec.upto placeSignsSpec)) placeSignsUptoCard
end Rows
end Go.Proofs.YtojbakkbmfgoaaaDoor
