/-
  DERIVED. GIVEN WITH THE SEED: THE CARDS: each row of YtkkokngdhhakdaaDoorRows.lean that lists a variable, with what it lists TIED to the program's text (the seventh form; the later family's looks); each row that meets fmt, with fmt's text TOLD by the authors' own Lean function (tested against real Go, not proved from fmt's source: count such statements apart). THE CARD IS WHAT COUNTS. Prove the row's statement (the work); the ties are given (YtkkokngdhhakdaaDoorTie.lean); close each card by the builder's one call (the guide's Derived/Test/ToyasCard.lean, 'card_holds'). Laid BY PROGRAM, IN A SANDBOX (cutbox-door.mjs). By AI agents, Wed Nov 11 2026. No macro, syntax, notation, axiom, sorry.
-/
import Derived.Test.YtkkokngdhhakdaaDoorRows
import GoSem.ClaimSeven
namespace Go.Proofs.YtkkokngdhhakdaaDoor
namespace Rows

/-- THE TIED CARD OF 'aumbrylaw13.CapsKeys'. -/
def capsKeysCard : Claim7 := { stood := { row := capsKeysRow, standIns := [], harness := (true, "8040d82ec167017c5543bde5b1eaa832fa47e1e6e54c3110f8e21d42cc4fcceb"), looks := true }, kinds := [], alts := [], laidByText := true, laidKinds := [.data, .data, .data], laidTests := true, laidLooks := .later }
def CapsKeysCardSaid : Prop := Claim7.holds Tryd.pinned (.plain (OpenSpec.ofChange capsKeysSpec)) capsKeysCard

/-- THE TIED CARD OF 'aumbrylaw13.CapsLess'. -/
def capsLessCard : Claim7 := { stood := { row := capsLessRow, standIns := [], harness := (true, "8040d82ec167017c5543bde5b1eaa832fa47e1e6e54c3110f8e21d42cc4fcceb"), looks := true }, kinds := [], alts := [], laidByText := true, laidKinds := [.data, .data, .data], laidTests := true, laidLooks := .later }
def CapsLessCardSaid : Prop := Claim7.holds Tryd.pinned (.plain (OpenSpec.ofChange capsLessSpec)) capsLessCard

/-- THE TIED CARD OF 'aumbrylaw13.CapsMore'. -/
def capsMoreCard : Claim7 := { stood := { row := capsMoreRow, standIns := [], harness := (true, "8040d82ec167017c5543bde5b1eaa832fa47e1e6e54c3110f8e21d42cc4fcceb"), looks := true }, kinds := [], alts := [], laidByText := true, laidKinds := [.data, .data, .data], laidTests := true, laidLooks := .later }
def CapsMoreCardSaid : Prop := Claim7.holds Tryd.pinned (.plain (OpenSpec.ofChange capsMoreSpec)) capsMoreCard

/-- THE TIED CARD OF 'aumbrylaw13.CapsParses'. -/
def capsParsesCard : Claim7 := { stood := { row := capsParsesRow, standIns := [], harness := (true, "8040d82ec167017c5543bde5b1eaa832fa47e1e6e54c3110f8e21d42cc4fcceb"), looks := true }, kinds := [], alts := [], laidByText := true, laidKinds := [.data, .data, .data, .data, .sentinel, .sentinel, .pinned], laidTests := true, laidLooks := .later }
def CapsParsesCardSaid : Prop := Claim7.holds Tryd.pinned (.plain (OpenSpec.ofChange capsParsesSpec)) capsParsesCard

/-- THE TIED CARD OF 'aumbrylaw13.CapsBack'. -/
def capsBackCard : Claim7 := { stood := { row := capsBackRow, standIns := [], harness := (true, "8040d82ec167017c5543bde5b1eaa832fa47e1e6e54c3110f8e21d42cc4fcceb"), looks := true }, kinds := [], alts := [], laidByText := true, laidKinds := [.data, .data, .data, .data, .sentinel, .sentinel, .pinned], laidTests := true, laidLooks := .later }
def CapsBackCardSaid : Prop := Claim7.holds Tryd.pinned (.plain (OpenSpec.ofChange capsBackSpec)) capsBackCard

/-- THE TIED CARD OF 'aumbrylaw13.CapsDown'. -/
def capsDownCard : Claim7 := { stood := { row := capsDownRow, standIns := [], harness := (true, "8040d82ec167017c5543bde5b1eaa832fa47e1e6e54c3110f8e21d42cc4fcceb"), looks := true }, kinds := [], alts := [], laidByText := true, laidKinds := [.data, .data, .data], laidTests := true, laidLooks := .later }
def CapsDownCardSaid : Prop := Claim7.holds Tryd.pinned (.plain (OpenSpec.ofChange capsDownSpec)) capsDownCard

/-- THE SECOND FORM's CARD OF 'aumbrylaw13.CapsKeys'. -/
def capsKeysUptoCard : Claim7 := { stood := { row := capsKeysUptoRow, standIns := [], harness := (true, "8040d82ec167017c5543bde5b1eaa832fa47e1e6e54c3110f8e21d42cc4fcceb"), looks := true }, kinds := [], alts := [], laidByText := true, laidKinds := [.data, .data, .data], laidTests := true, laidLooks := .later }
def CapsKeysUptoCardSaid : Prop := Claim7.holds Tryd.pinned (.plain (OpenSpec.upto capsKeysSpec)) capsKeysUptoCard

/-- THE SECOND FORM's CARD OF 'aumbrylaw13.CapsLess'. -/
def capsLessUptoCard : Claim7 := { stood := { row := capsLessUptoRow, standIns := [], harness := (true, "8040d82ec167017c5543bde5b1eaa832fa47e1e6e54c3110f8e21d42cc4fcceb"), looks := true }, kinds := [], alts := [], laidByText := true, laidKinds := [.data, .data, .data], laidTests := true, laidLooks := .later }
def CapsLessUptoCardSaid : Prop := Claim7.holds Tryd.pinned (.plain (OpenSpec.upto capsLessSpec)) capsLessUptoCard

/-- THE SECOND FORM's CARD OF 'aumbrylaw13.CapsMore'. -/
def capsMoreUptoCard : Claim7 := { stood := { row := capsMoreUptoRow, standIns := [], harness := (true, "8040d82ec167017c5543bde5b1eaa832fa47e1e6e54c3110f8e21d42cc4fcceb"), looks := true }, kinds := [], alts := [], laidByText := true, laidKinds := [.data, .data, .data], laidTests := true, laidLooks := .later }
def CapsMoreUptoCardSaid : Prop := Claim7.holds Tryd.pinned (.plain (OpenSpec.upto capsMoreSpec)) capsMoreUptoCard

/-- THE SECOND FORM's CARD OF 'aumbrylaw13.CapsParses'. -/
def capsParsesUptoCard : Claim7 := { stood := { row := capsParsesUptoRow, standIns := [], harness := (true, "8040d82ec167017c5543bde5b1eaa832fa47e1e6e54c3110f8e21d42cc4fcceb"), looks := true }, kinds := [], alts := [], laidByText := true, laidKinds := [.data, .data, .data, .data, .sentinel, .sentinel, .pinned], laidTests := true, laidLooks := .later }
def CapsParsesUptoCardSaid : Prop := Claim7.holds Tryd.pinned (.plain (OpenSpec.upto capsParsesSpec)) capsParsesUptoCard

/-- THE SECOND FORM's CARD OF 'aumbrylaw13.CapsBack'. -/
def capsBackUptoCard : Claim7 := { stood := { row := capsBackUptoRow, standIns := [], harness := (true, "8040d82ec167017c5543bde5b1eaa832fa47e1e6e54c3110f8e21d42cc4fcceb"), looks := true }, kinds := [], alts := [], laidByText := true, laidKinds := [.data, .data, .data, .data, .sentinel, .sentinel, .pinned], laidTests := true, laidLooks := .later }
def CapsBackUptoCardSaid : Prop := Claim7.holds Tryd.pinned (.plain (OpenSpec.upto capsBackSpec)) capsBackUptoCard

/-- THE SECOND FORM's CARD OF 'aumbrylaw13.CapsDown'. -/
def capsDownUptoCard : Claim7 := { stood := { row := capsDownUptoRow, standIns := [], harness := (true, "8040d82ec167017c5543bde5b1eaa832fa47e1e6e54c3110f8e21d42cc4fcceb"), looks := true }, kinds := [], alts := [], laidByText := true, laidKinds := [.data, .data, .data], laidTests := true, laidLooks := .later }
def CapsDownUptoCardSaid : Prop := Claim7.holds Tryd.pinned (.plain (OpenSpec.upto capsDownSpec)) capsDownUptoCard
end Rows
end Go.Proofs.YtkkokngdhhakdaaDoor
