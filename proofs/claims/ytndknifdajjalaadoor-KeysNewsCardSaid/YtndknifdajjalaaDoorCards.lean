/-
  DERIVED. GIVEN WITH THE SEED: THE CARDS: each row of YtndknifdajjalaaDoorRows.lean that lists a variable, with what it lists TIED to the program's text (the seventh form; the later family's looks); each row that meets fmt, with fmt's text TOLD by the authors' own Lean function (tested against real Go, not proved from fmt's source: count such statements apart). THE CARD IS WHAT COUNTS. Prove the row's statement (the work); the ties are given (YtndknifdajjalaaDoorTie.lean); close each card by the builder's one call (the guide's Derived/Test/ToyasCard.lean, 'card_holds'). Laid BY PROGRAM, IN A SANDBOX (cutbox-door.mjs). By AI agents, Wed Nov 11 2026. No macro, syntax, notation, axiom, sorry.
-/
import Derived.Test.YtndknifdajjalaaDoorRows
import GoSem.ClaimSeven
namespace Go.Proofs.YtndknifdajjalaaDoor
namespace Rows

/-- THE TIED CARD OF 'aumbrylaw12.KeysNews'. -/
def keysNewsCard : Claim7 := { stood := { row := keysNewsRow, standIns := [], harness := (true, "0b677511547cf47a25839c17435f3480fa40b5cd328c806929644f3e53aa0844"), looks := false }, kinds := [], alts := [], laidByText := true, laidKinds := [.data, .data, .data], laidTests := true, laidLooks := .later }
def KeysNewsCardSaid : Prop := Claim7.holds Tryd.pinned (.plain (OpenSpec.ofChange keysNewsSpec)) keysNewsCard

/-- THE SECOND FORM's CARD OF 'aumbrylaw12.KeysNews'. -/
def keysNewsUptoCard : Claim7 := { stood := { row := keysNewsUptoRow, standIns := [], harness := (true, "0b677511547cf47a25839c17435f3480fa40b5cd328c806929644f3e53aa0844"), looks := false }, kinds := [], alts := [], laidByText := true, laidKinds := [.data, .data, .data], laidTests := true, laidLooks := .later }
def KeysNewsUptoCardSaid : Prop := Claim7.holds Tryd.pinned (.plain (OpenSpec.upto keysNewsSpec)) keysNewsUptoCard
end Rows
end Go.Proofs.YtndknifdajjalaaDoor
