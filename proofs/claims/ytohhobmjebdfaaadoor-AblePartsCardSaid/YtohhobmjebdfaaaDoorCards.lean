/-
  DERIVED. GIVEN WITH THE SEED: THE CARDS: each row of YtohhobmjebdfaaaDoorRows.lean that lists a variable, with what it lists TIED to the program's text (the seventh form; the later family's looks); each row that meets fmt, with fmt's text TOLD by the authors' own Lean function (tested against real Go, not proved from fmt's source: count such statements apart). THE CARD IS WHAT COUNTS. Prove the row's statement (the work); the ties are given (YtohhobmjebdfaaaDoorTie.lean); close each card by the builder's one call (the guide's Derived/Test/ToyasCard.lean, 'card_holds'). Laid BY PROGRAM, IN A SANDBOX (cutbox-door.mjs). By AI agents, Wed Nov 11 2026. No macro, syntax, notation, axiom, sorry.
-/
import Derived.Test.YtohhobmjebdfaaaDoorRows
import GoSem.ClaimSeven
namespace Go.Proofs.YtohhobmjebdfaaaDoor
namespace Rows

/-- THE TIED CARD OF 'posternlaw01.AbleSets'. -/
def ableSetsCard : Claim7 := { stood := { row := ableSetsRow, standIns := [], harness := (true, "0fe6510fa268fbd8a2d0bc56b99212bb6fbc50534217de52e8167add4a9a89d8"), looks := false }, kinds := [], alts := [], laidByText := true, laidKinds := [.data], laidTests := true, laidLooks := .later }
def AbleSetsCardSaid : Prop := Claim7.holds Tryd.pinned (.plain (OpenSpec.ofChange ableSetsSpec)) ableSetsCard

/-- THE TIED CARD OF 'posternlaw01.AbleWalks'. -/
def ableWalksCard : Claim7 := { stood := { row := ableWalksRow, standIns := [], harness := (true, "0fe6510fa268fbd8a2d0bc56b99212bb6fbc50534217de52e8167add4a9a89d8"), looks := false }, kinds := [], alts := [], laidByText := true, laidKinds := [.data], laidTests := true, laidLooks := .later }
def AbleWalksCardSaid : Prop := Claim7.holds Tryd.pinned (.plain (OpenSpec.ofChange ableWalksSpec)) ableWalksCard

/-- THE TIED CARD OF 'posternlaw01.AbleTexts'. -/
def ableTextsCard : Claim7 := { stood := { row := ableTextsRow, standIns := [], harness := (true, "0fe6510fa268fbd8a2d0bc56b99212bb6fbc50534217de52e8167add4a9a89d8"), looks := false }, kinds := [], alts := [], laidByText := true, laidKinds := [.data], laidTests := true, laidLooks := .later }
def AbleTextsCardSaid : Prop := Claim7.holds Tryd.pinned (.plain (OpenSpec.ofChange ableTextsSpec)) ableTextsCard

/-- THE TIED CARD OF 'posternlaw01.AbleNames'. -/
def ableNamesCard : Claim7 := { stood := { row := ableNamesRow, standIns := [], harness := (true, "0fe6510fa268fbd8a2d0bc56b99212bb6fbc50534217de52e8167add4a9a89d8"), looks := false }, kinds := [], alts := [], laidByText := true, laidKinds := [.data], laidTests := true, laidLooks := .later }
def AbleNamesCardSaid : Prop := Claim7.holds Tryd.pinned (.plain (OpenSpec.ofChange ableNamesSpec)) ableNamesCard

/-- THE TIED CARD OF 'posternlaw01.AbleLattice'. -/
def ableLatticeCard : Claim7 := { stood := { row := ableLatticeRow, standIns := [], harness := (true, "0fe6510fa268fbd8a2d0bc56b99212bb6fbc50534217de52e8167add4a9a89d8"), looks := false }, kinds := [], alts := [], laidByText := true, laidKinds := [.data], laidTests := true, laidLooks := .later }
def AbleLatticeCardSaid : Prop := Claim7.holds Tryd.pinned (.plain (OpenSpec.ofChange ableLatticeSpec)) ableLatticeCard

/-- THE TIED CARD OF 'posternlaw01.AbleParts'. -/
def ablePartsCard : Claim7 := { stood := { row := ablePartsRow, standIns := [], harness := (true, "0fe6510fa268fbd8a2d0bc56b99212bb6fbc50534217de52e8167add4a9a89d8"), looks := false }, kinds := [], alts := [], laidByText := true, laidKinds := [.data], laidTests := true, laidLooks := .later }
def AblePartsCardSaid : Prop := Claim7.holds Tryd.pinned (.plain (OpenSpec.ofChange ablePartsSpec)) ablePartsCard

/-- THE TIED CARD OF 'posternlaw01.AbleBack'. -/
def ableBackCard : Claim7 := { stood := { row := ableBackRow, standIns := [], harness := (true, "0fe6510fa268fbd8a2d0bc56b99212bb6fbc50534217de52e8167add4a9a89d8"), looks := false }, kinds := [], alts := [], laidByText := true, laidKinds := [.data], laidTests := true, laidLooks := .later }
def AbleBackCardSaid : Prop := Claim7.holds Tryd.pinned (.plain (OpenSpec.ofChange ableBackSpec)) ableBackCard

/-- THE SECOND FORM's CARD OF 'posternlaw01.AbleSets'. -/
def ableSetsUptoCard : Claim7 := { stood := { row := ableSetsUptoRow, standIns := [], harness := (true, "0fe6510fa268fbd8a2d0bc56b99212bb6fbc50534217de52e8167add4a9a89d8"), looks := false }, kinds := [], alts := [], laidByText := true, laidKinds := [.data], laidTests := true, laidLooks := .later }
def AbleSetsUptoCardSaid : Prop := Claim7.holds Tryd.pinned (.plain (OpenSpec.upto ableSetsSpec)) ableSetsUptoCard

/-- THE SECOND FORM's CARD OF 'posternlaw01.AbleWalks'. -/
def ableWalksUptoCard : Claim7 := { stood := { row := ableWalksUptoRow, standIns := [], harness := (true, "0fe6510fa268fbd8a2d0bc56b99212bb6fbc50534217de52e8167add4a9a89d8"), looks := false }, kinds := [], alts := [], laidByText := true, laidKinds := [.data], laidTests := true, laidLooks := .later }
def AbleWalksUptoCardSaid : Prop := Claim7.holds Tryd.pinned (.plain (OpenSpec.upto ableWalksSpec)) ableWalksUptoCard

/-- THE SECOND FORM's CARD OF 'posternlaw01.AbleTexts'. -/
def ableTextsUptoCard : Claim7 := { stood := { row := ableTextsUptoRow, standIns := [], harness := (true, "0fe6510fa268fbd8a2d0bc56b99212bb6fbc50534217de52e8167add4a9a89d8"), looks := false }, kinds := [], alts := [], laidByText := true, laidKinds := [.data], laidTests := true, laidLooks := .later }
def AbleTextsUptoCardSaid : Prop := Claim7.holds Tryd.pinned (.plain (OpenSpec.upto ableTextsSpec)) ableTextsUptoCard

/-- THE SECOND FORM's CARD OF 'posternlaw01.AbleNames'. -/
def ableNamesUptoCard : Claim7 := { stood := { row := ableNamesUptoRow, standIns := [], harness := (true, "0fe6510fa268fbd8a2d0bc56b99212bb6fbc50534217de52e8167add4a9a89d8"), looks := false }, kinds := [], alts := [], laidByText := true, laidKinds := [.data], laidTests := true, laidLooks := .later }
def AbleNamesUptoCardSaid : Prop := Claim7.holds Tryd.pinned (.plain (OpenSpec.upto ableNamesSpec)) ableNamesUptoCard

/-- THE SECOND FORM's CARD OF 'posternlaw01.AbleLattice'. -/
def ableLatticeUptoCard : Claim7 := { stood := { row := ableLatticeUptoRow, standIns := [], harness := (true, "0fe6510fa268fbd8a2d0bc56b99212bb6fbc50534217de52e8167add4a9a89d8"), looks := false }, kinds := [], alts := [], laidByText := true, laidKinds := [.data], laidTests := true, laidLooks := .later }
def AbleLatticeUptoCardSaid : Prop := Claim7.holds Tryd.pinned (.plain (OpenSpec.upto ableLatticeSpec)) ableLatticeUptoCard

/-- THE SECOND FORM's CARD OF 'posternlaw01.AbleParts'. -/
def ablePartsUptoCard : Claim7 := { stood := { row := ablePartsUptoRow, standIns := [], harness := (true, "0fe6510fa268fbd8a2d0bc56b99212bb6fbc50534217de52e8167add4a9a89d8"), looks := false }, kinds := [], alts := [], laidByText := true, laidKinds := [.data], laidTests := true, laidLooks := .later }
def AblePartsUptoCardSaid : Prop := Claim7.holds Tryd.pinned (.plain (OpenSpec.upto ablePartsSpec)) ablePartsUptoCard

/-- THE SECOND FORM's CARD OF 'posternlaw01.AbleBack'. -/
def ableBackUptoCard : Claim7 := { stood := { row := ableBackUptoRow, standIns := [], harness := (true, "0fe6510fa268fbd8a2d0bc56b99212bb6fbc50534217de52e8167add4a9a89d8"), looks := false }, kinds := [], alts := [], laidByText := true, laidKinds := [.data], laidTests := true, laidLooks := .later }
def AbleBackUptoCardSaid : Prop := Claim7.holds Tryd.pinned (.plain (OpenSpec.upto ableBackSpec)) ableBackUptoCard
end Rows
end Go.Proofs.YtohhobmjebdfaaaDoor
