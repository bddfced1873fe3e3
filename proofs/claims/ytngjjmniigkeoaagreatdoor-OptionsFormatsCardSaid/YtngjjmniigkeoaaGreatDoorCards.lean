/-
  DERIVED. GIVEN WITH THE SEED: THE CARDS: each row of YtngjjmniigkeoaaGreatDoorRows.lean that lists a variable, with what it lists TIED to the program's text (the seventh form; the later family's looks); each row that meets fmt, with fmt's text TOLD by the authors' own Lean function (tested against real Go, not proved from fmt's source: count such statements apart). THE CARD IS WHAT COUNTS. Prove the row's statement (the work); the ties are given (YtngjjmniigkeoaaGreatDoorTie.lean); close each card by the builder's one call (the guide's Derived/Test/ToyasCard.lean, 'card_holds'). Laid BY PROGRAM, IN A SANDBOX (cutbox-door.mjs). By AI agents, Wed Nov 11 2026. No macro, syntax, notation, axiom, sorry.
-/
import Derived.Test.YtngjjmniigkeoaaGreatDoorRows
import GoSem.ClaimSeven
namespace Go.Proofs.YtngjjmniigkeoaaGreatDoor
namespace Rows

/-- THE TIED CARD OF 'ignitionlaw01.OptionsChecks'. -/
def optionsChecksCard : Claim7 := { stood := { row := optionsChecksRow, standIns := [], harness := (true, "1c80b10caff14390e55f4f2ed3b9c1976f479072037aad4a035fb278fe0d8a46"), looks := true }, kinds := [], alts := [], laidByText := true, laidKinds := [.data, .data, .data], laidTests := true, laidLooks := .later }
def OptionsChecksCardSaid : Prop := Claim7.holds Tryz.pinned (.plain (OpenSpec.ofChange optionsChecksSpec)) optionsChecksCard

/-- THE TIED CARD OF 'ignitionlaw01.OptionsFormats'. -/
def optionsFormatsCard : Claim7 := { stood := { row := optionsFormatsRow, standIns := [], harness := (true, "1c80b10caff14390e55f4f2ed3b9c1976f479072037aad4a035fb278fe0d8a46"), looks := true }, kinds := [], alts := [], laidByText := true, laidKinds := [.data, .data, .data], laidTests := true, laidLooks := .later }
def OptionsFormatsCardSaid : Prop := Claim7.holds Tryz.pinned (.plain (OpenSpec.ofChange optionsFormatsSpec)) optionsFormatsCard

/-- THE TIED CARD OF 'ignitionlaw01.OptionsParses'. -/
def optionsParsesCard : Claim7 := { stood := { row := optionsParsesRow, standIns := [], harness := (true, "1c80b10caff14390e55f4f2ed3b9c1976f479072037aad4a035fb278fe0d8a46"), looks := true }, kinds := [], alts := [], laidByText := true, laidKinds := [.data, .data, .data], laidTests := true, laidLooks := .later }
def OptionsParsesCardSaid : Prop := Claim7.holds Tryz.pinned (.plain (OpenSpec.ofChange optionsParsesSpec)) optionsParsesCard

/-- THE TIED CARD OF 'ignitionlaw01.OptionsHolds'. -/
def optionsHoldsCard : Claim7 := { stood := { row := optionsHoldsRow, standIns := [], harness := (true, "1c80b10caff14390e55f4f2ed3b9c1976f479072037aad4a035fb278fe0d8a46"), looks := true }, kinds := [], alts := [], laidByText := true, laidKinds := [.data, .data, .data], laidTests := true, laidLooks := .later }
def OptionsHoldsCardSaid : Prop := Claim7.holds Tryz.pinned (.plain (OpenSpec.ofChange optionsHoldsSpec)) optionsHoldsCard

/-- THE TIED CARD OF 'ignitionlaw01.OptionsFollows'. -/
def optionsFollowsCard : Claim7 := { stood := { row := optionsFollowsRow, standIns := [], harness := (true, "1c80b10caff14390e55f4f2ed3b9c1976f479072037aad4a035fb278fe0d8a46"), looks := true }, kinds := [], alts := [], laidByText := true, laidKinds := [.data, .data, .data], laidTests := true, laidLooks := .later }
def OptionsFollowsCardSaid : Prop := Claim7.holds Tryz.pinned (.plain (OpenSpec.ofChange optionsFollowsSpec)) optionsFollowsCard

/-- THE SECOND FORM's CARD OF 'ignitionlaw01.OptionsChecks'. -/
def optionsChecksUptoCard : Claim7 := { stood := { row := optionsChecksUptoRow, standIns := [], harness := (true, "1c80b10caff14390e55f4f2ed3b9c1976f479072037aad4a035fb278fe0d8a46"), looks := true }, kinds := [], alts := [], laidByText := true, laidKinds := [.data, .data, .data], laidTests := true, laidLooks := .later }
def OptionsChecksUptoCardSaid : Prop := Claim7.holds Tryz.pinned (.plain (OpenSpec.upto optionsChecksSpec)) optionsChecksUptoCard

/-- THE SECOND FORM's CARD OF 'ignitionlaw01.OptionsFormats'. -/
def optionsFormatsUptoCard : Claim7 := { stood := { row := optionsFormatsUptoRow, standIns := [], harness := (true, "1c80b10caff14390e55f4f2ed3b9c1976f479072037aad4a035fb278fe0d8a46"), looks := true }, kinds := [], alts := [], laidByText := true, laidKinds := [.data, .data, .data], laidTests := true, laidLooks := .later }
def OptionsFormatsUptoCardSaid : Prop := Claim7.holds Tryz.pinned (.plain (OpenSpec.upto optionsFormatsSpec)) optionsFormatsUptoCard

/-- THE SECOND FORM's CARD OF 'ignitionlaw01.OptionsParses'. -/
def optionsParsesUptoCard : Claim7 := { stood := { row := optionsParsesUptoRow, standIns := [], harness := (true, "1c80b10caff14390e55f4f2ed3b9c1976f479072037aad4a035fb278fe0d8a46"), looks := true }, kinds := [], alts := [], laidByText := true, laidKinds := [.data, .data, .data], laidTests := true, laidLooks := .later }
def OptionsParsesUptoCardSaid : Prop := Claim7.holds Tryz.pinned (.plain (OpenSpec.upto optionsParsesSpec)) optionsParsesUptoCard

/-- THE SECOND FORM's CARD OF 'ignitionlaw01.OptionsHolds'. -/
def optionsHoldsUptoCard : Claim7 := { stood := { row := optionsHoldsUptoRow, standIns := [], harness := (true, "1c80b10caff14390e55f4f2ed3b9c1976f479072037aad4a035fb278fe0d8a46"), looks := true }, kinds := [], alts := [], laidByText := true, laidKinds := [.data, .data, .data], laidTests := true, laidLooks := .later }
def OptionsHoldsUptoCardSaid : Prop := Claim7.holds Tryz.pinned (.plain (OpenSpec.upto optionsHoldsSpec)) optionsHoldsUptoCard

/-- THE SECOND FORM's CARD OF 'ignitionlaw01.OptionsFollows'. -/
def optionsFollowsUptoCard : Claim7 := { stood := { row := optionsFollowsUptoRow, standIns := [], harness := (true, "1c80b10caff14390e55f4f2ed3b9c1976f479072037aad4a035fb278fe0d8a46"), looks := true }, kinds := [], alts := [], laidByText := true, laidKinds := [.data, .data, .data], laidTests := true, laidLooks := .later }
def OptionsFollowsUptoCardSaid : Prop := Claim7.holds Tryz.pinned (.plain (OpenSpec.upto optionsFollowsSpec)) optionsFollowsUptoCard
end Rows
end Go.Proofs.YtngjjmniigkeoaaGreatDoor
