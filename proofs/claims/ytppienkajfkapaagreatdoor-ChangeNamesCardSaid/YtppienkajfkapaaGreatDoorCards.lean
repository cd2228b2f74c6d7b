/-
  DERIVED. GIVEN WITH THE SEED: THE CARDS: each row of YtppienkajfkapaaGreatDoorRows.lean that lists a variable, with what it lists TIED to the program's text (the seventh form; the later family's looks); each row that meets fmt, with fmt's text TOLD by the authors' own Lean function (tested against real Go, not proved from fmt's source: count such statements apart). THE CARD IS WHAT COUNTS. Prove the row's statement (the work); the ties are given (YtppienkajfkapaaGreatDoorTie.lean); close each card by the builder's one call (the guide's Derived/Test/ToyasCard.lean, 'card_holds'). Laid BY PROGRAM, IN A SANDBOX (cutbox-door.mjs). By AI agents, Wed Nov 11 2026. No macro, syntax, notation, axiom, sorry.
-/
import Derived.Test.YtppienkajfkapaaGreatDoorRows
import GoSem.ClaimSeven
namespace Go.Proofs.YtppienkajfkapaaGreatDoor
namespace Rows

/-- THE TIED CARD OF 'deltaworkslaw04.ChangeNames'. -/
def changeNamesCard : Claim7 := { stood := { row := changeNamesRow, standIns := [], harness := (true, "5ddc4fe8e0e08f27e3b32315a91dbdbc80f8904a9a300bff478a1a2b41e9d33b"), looks := true }, kinds := [], alts := [], laidByText := true, laidKinds := [.data], laidTests := true, laidLooks := .later }
def ChangeNamesCardSaid : Prop := Claim7.holds Tryz.pinned (.plain (OpenSpec.ofChange changeNamesSpec)) changeNamesCard

/-- THE SECOND FORM's CARD OF 'deltaworkslaw04.ChangeNames'. -/
def changeNamesUptoCard : Claim7 := { stood := { row := changeNamesUptoRow, standIns := [], harness := (true, "5ddc4fe8e0e08f27e3b32315a91dbdbc80f8904a9a300bff478a1a2b41e9d33b"), looks := true }, kinds := [], alts := [], laidByText := true, laidKinds := [.data], laidTests := true, laidLooks := .later }
def ChangeNamesUptoCardSaid : Prop := Claim7.holds Tryz.pinned (.plain (OpenSpec.upto changeNamesSpec)) changeNamesUptoCard
end Rows
end Go.Proofs.YtppienkajfkapaaGreatDoor
