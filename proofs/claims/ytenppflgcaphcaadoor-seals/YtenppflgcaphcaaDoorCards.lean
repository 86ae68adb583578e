/-
  DERIVED. GIVEN WITH THE SEED: THE CARDS: each row of YtenppflgcaphcaaDoorRows.lean that lists a variable, with what it lists TIED to the program's text (the seventh form; the later family's looks); each row that meets fmt, with fmt's text TOLD by the authors' own Lean function (tested against real Go, not proved from fmt's source: count such statements apart). THE CARD IS WHAT COUNTS. Prove the row's statement (the work); the ties are given (YtenppflgcaphcaaDoorTie.lean); close each card by the builder's one call (the guide's Derived/Test/ToyasCard.lean, 'card_holds'). Laid BY PROGRAM, IN A SANDBOX (cutbox-door.mjs). By AI agents, Wed Nov 11 2026. No macro, syntax, notation, axiom, sorry.
-/
import Derived.Test.YtenppflgcaphcaaDoorRows
import GoSem.ClaimSeven
namespace Go.Proofs.YtenppflgcaphcaaDoor
namespace Rows

/-- THE TIED CARD OF 'parleylaw.Seals'. -/
def sealsCard : Claim7 := { stood := { row := sealsRow, standIns := [], harness := (true, "bf87781ffc18eb52446bdaff5d35e80295806d62419cd75aee31457ed27f2e42"), looks := false }, kinds := [], alts := [], laidByText := true, laidKinds := [.data, .data, .data], laidTests := true, laidLooks := .later }
def SealsCardSaid : Prop := Claim7.holds Tryd.pinned (.plain (OpenSpec.ofChange sealsSpec)) sealsCard

/-- THE TIED CARD OF 'parleylaw.Ticks'. -/
def ticksCard : Claim7 := { stood := { row := ticksRow, standIns := [], harness := (true, "bf87781ffc18eb52446bdaff5d35e80295806d62419cd75aee31457ed27f2e42"), looks := false }, kinds := [], alts := [], laidByText := true, laidKinds := [.data, .data, .data], laidTests := true, laidLooks := .later }
def TicksCardSaid : Prop := Claim7.holds Tryd.pinned (.plain (OpenSpec.ofChange ticksSpec)) ticksCard

/-- THE SECOND FORM's CARD OF 'parleylaw.Seals'. -/
def sealsUptoCard : Claim7 := { stood := { row := sealsUptoRow, standIns := [], harness := (true, "bf87781ffc18eb52446bdaff5d35e80295806d62419cd75aee31457ed27f2e42"), looks := false }, kinds := [], alts := [], laidByText := true, laidKinds := [.data, .data, .data], laidTests := true, laidLooks := .later }
def SealsUptoCardSaid : Prop := Claim7.holds Tryd.pinned (.plain (OpenSpec.upto sealsSpec)) sealsUptoCard

/-- THE SECOND FORM's CARD OF 'parleylaw.Ticks'. -/
def ticksUptoCard : Claim7 := { stood := { row := ticksUptoRow, standIns := [], harness := (true, "bf87781ffc18eb52446bdaff5d35e80295806d62419cd75aee31457ed27f2e42"), looks := false }, kinds := [], alts := [], laidByText := true, laidKinds := [.data, .data, .data], laidTests := true, laidLooks := .later }
def TicksUptoCardSaid : Prop := Claim7.holds Tryd.pinned (.plain (OpenSpec.upto ticksSpec)) ticksUptoCard
end Rows
end Go.Proofs.YtenppflgcaphcaaDoor
