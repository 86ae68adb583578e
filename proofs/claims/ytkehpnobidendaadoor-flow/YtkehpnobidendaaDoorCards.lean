/-
  DERIVED. GIVEN WITH THE SEED: THE CARDS: each row of YtkehpnobidendaaDoorRows.lean that lists a variable, with what it lists TIED to the program's text (the seventh form; the later family's looks); each row that meets fmt, with fmt's text TOLD by the authors' own Lean function (tested against real Go, not proved from fmt's source: count such statements apart). THE CARD IS WHAT COUNTS. Prove the row's statement (the work); the ties are given (YtkehpnobidendaaDoorTie.lean); close each card by the builder's one call (the guide's Derived/Test/ToyasCard.lean, 'card_holds'). Laid BY PROGRAM, IN A SANDBOX (cutbox-door.mjs). By AI agents, Wed Nov 11 2026. No macro, syntax, notation, axiom, sorry.
-/
import Derived.Test.YtkehpnobidendaaDoorRows
import GoSem.ClaimSeven
namespace Go.Proofs.YtkehpnobidendaaDoor
namespace Rows

/-- THE TIED CARD OF 'parleykeep.Counted'. -/
def countedCard : Claim7 := { stood := { row := countedRow, standIns := [], harness := (true, "f4fb49208ff428e0c8f71a263102e072f8107ed46908de90448f3da58217d2b9"), looks := false }, kinds := [], alts := [], laidByText := true, laidKinds := [.data, .data, .data], laidTests := true, laidLooks := .later }
def CountedCardSaid : Prop := Claim7.holds Tryd.pinned (.plain (OpenSpec.ofChange countedSpec)) countedCard

/-- THE TIED CARD OF 'parleykeep.Deaf'. -/
def deafCard : Claim7 := { stood := { row := deafRow, standIns := [], harness := (true, "f4fb49208ff428e0c8f71a263102e072f8107ed46908de90448f3da58217d2b9"), looks := false }, kinds := [], alts := [], laidByText := true, laidKinds := [.data, .data, .data], laidTests := true, laidLooks := .later }
def DeafCardSaid : Prop := Claim7.holds Tryd.pinned (.plain (OpenSpec.ofChange deafSpec)) deafCard

/-- THE TIED CARD OF 'parleykeep.Flow'. -/
def flowCard : Claim7 := { stood := { row := flowRow, standIns := [], harness := (true, "f4fb49208ff428e0c8f71a263102e072f8107ed46908de90448f3da58217d2b9"), looks := false }, kinds := [], alts := [], laidByText := true, laidKinds := [.data, .data, .data], laidTests := true, laidLooks := .later }
def FlowCardSaid : Prop := Claim7.holds Tryd.pinned (.plain (OpenSpec.ofChange flowSpec)) flowCard

/-- THE TIED CARD OF 'parleykeep.Again'. -/
def againCard : Claim7 := { stood := { row := againRow, standIns := [], harness := (true, "f4fb49208ff428e0c8f71a263102e072f8107ed46908de90448f3da58217d2b9"), looks := false }, kinds := [], alts := [], laidByText := true, laidKinds := [.data, .data, .data], laidTests := true, laidLooks := .later }
def AgainCardSaid : Prop := Claim7.holds Tryd.pinned (.plain (OpenSpec.ofChange againSpec)) againCard

/-- THE TIED CARD OF 'parleykeep.Recovers'. -/
def recoversCard : Claim7 := { stood := { row := recoversRow, standIns := [], harness := (true, "f4fb49208ff428e0c8f71a263102e072f8107ed46908de90448f3da58217d2b9"), looks := false }, kinds := [], alts := [], laidByText := true, laidKinds := [.data, .data, .data], laidTests := true, laidLooks := .later }
def RecoversCardSaid : Prop := Claim7.holds Tryd.pinned (.plain (OpenSpec.ofChange recoversSpec)) recoversCard

/-- THE TIED CARD OF 'parleykeep.Sealed'. -/
def sealedCard : Claim7 := { stood := { row := sealedRow, standIns := [], harness := (true, "f4fb49208ff428e0c8f71a263102e072f8107ed46908de90448f3da58217d2b9"), looks := false }, kinds := [], alts := [], laidByText := true, laidKinds := [.data, .data, .data], laidTests := true, laidLooks := .later }
def SealedCardSaid : Prop := Claim7.holds Tryd.pinned (.plain (OpenSpec.ofChange sealedSpec)) sealedCard

/-- THE TIED CARD OF 'parleykeep.Agree'. -/
def agreeCard : Claim7 := { stood := { row := agreeRow, standIns := [], harness := (true, "f4fb49208ff428e0c8f71a263102e072f8107ed46908de90448f3da58217d2b9"), looks := false }, kinds := [], alts := [], laidByText := true, laidKinds := [.data, .data, .data], laidTests := true, laidLooks := .later }
def AgreeCardSaid : Prop := Claim7.holds Tryd.pinned (.plain (OpenSpec.ofChange agreeSpec)) agreeCard

/-- THE SECOND FORM's CARD OF 'parleykeep.Counted'. -/
def countedUptoCard : Claim7 := { stood := { row := countedUptoRow, standIns := [], harness := (true, "f4fb49208ff428e0c8f71a263102e072f8107ed46908de90448f3da58217d2b9"), looks := false }, kinds := [], alts := [], laidByText := true, laidKinds := [.data, .data, .data], laidTests := true, laidLooks := .later }
def CountedUptoCardSaid : Prop := Claim7.holds Tryd.pinned (.plain (OpenSpec.upto countedSpec)) countedUptoCard

/-- THE SECOND FORM's CARD OF 'parleykeep.Deaf'. -/
def deafUptoCard : Claim7 := { stood := { row := deafUptoRow, standIns := [], harness := (true, "f4fb49208ff428e0c8f71a263102e072f8107ed46908de90448f3da58217d2b9"), looks := false }, kinds := [], alts := [], laidByText := true, laidKinds := [.data, .data, .data], laidTests := true, laidLooks := .later }
def DeafUptoCardSaid : Prop := Claim7.holds Tryd.pinned (.plain (OpenSpec.upto deafSpec)) deafUptoCard

/-- THE SECOND FORM's CARD OF 'parleykeep.Flow'. -/
def flowUptoCard : Claim7 := { stood := { row := flowUptoRow, standIns := [], harness := (true, "f4fb49208ff428e0c8f71a263102e072f8107ed46908de90448f3da58217d2b9"), looks := false }, kinds := [], alts := [], laidByText := true, laidKinds := [.data, .data, .data], laidTests := true, laidLooks := .later }
def FlowUptoCardSaid : Prop := Claim7.holds Tryd.pinned (.plain (OpenSpec.upto flowSpec)) flowUptoCard

/-- THE SECOND FORM's CARD OF 'parleykeep.Again'. -/
def againUptoCard : Claim7 := { stood := { row := againUptoRow, standIns := [], harness := (true, "f4fb49208ff428e0c8f71a263102e072f8107ed46908de90448f3da58217d2b9"), looks := false }, kinds := [], alts := [], laidByText := true, laidKinds := [.data, .data, .data], laidTests := true, laidLooks := .later }
def AgainUptoCardSaid : Prop := Claim7.holds Tryd.pinned (.plain (OpenSpec.upto againSpec)) againUptoCard

/-- THE SECOND FORM's CARD OF 'parleykeep.Recovers'. -/
def recoversUptoCard : Claim7 := { stood := { row := recoversUptoRow, standIns := [], harness := (true, "f4fb49208ff428e0c8f71a263102e072f8107ed46908de90448f3da58217d2b9"), looks := false }, kinds := [], alts := [], laidByText := true, laidKinds := [.data, .data, .data], laidTests := true, laidLooks := .later }
def RecoversUptoCardSaid : Prop := Claim7.holds Tryd.pinned (.plain (OpenSpec.upto recoversSpec)) recoversUptoCard

/-- THE SECOND FORM's CARD OF 'parleykeep.Sealed'. -/
def sealedUptoCard : Claim7 := { stood := { row := sealedUptoRow, standIns := [], harness := (true, "f4fb49208ff428e0c8f71a263102e072f8107ed46908de90448f3da58217d2b9"), looks := false }, kinds := [], alts := [], laidByText := true, laidKinds := [.data, .data, .data], laidTests := true, laidLooks := .later }
def SealedUptoCardSaid : Prop := Claim7.holds Tryd.pinned (.plain (OpenSpec.upto sealedSpec)) sealedUptoCard

/-- THE SECOND FORM's CARD OF 'parleykeep.Agree'. -/
def agreeUptoCard : Claim7 := { stood := { row := agreeUptoRow, standIns := [], harness := (true, "f4fb49208ff428e0c8f71a263102e072f8107ed46908de90448f3da58217d2b9"), looks := false }, kinds := [], alts := [], laidByText := true, laidKinds := [.data, .data, .data], laidTests := true, laidLooks := .later }
def AgreeUptoCardSaid : Prop := Claim7.holds Tryd.pinned (.plain (OpenSpec.upto agreeSpec)) agreeUptoCard
end Rows
end Go.Proofs.YtkehpnobidendaaDoor
