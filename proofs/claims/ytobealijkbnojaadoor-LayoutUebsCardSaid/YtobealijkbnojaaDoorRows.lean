/-
  NARROWER THAN 'FOR EVERY INPUT', by the rows' own cells (each row's printed sentence says how): LayoutUnlike: laid · LayoutUebs: laid · LayoutShares: laid · LayoutVersions: laid · LayoutPieces: laid.
  DERIVED. THE GIVEN ROWS OF THIS SEAT. 5 by the template 'for every input the law returns true; each argument reads behind the call as it read before'; 0 by the template 'total and deterministic' (their statements: YtobealijkbnojaaDoorTotals.lean).
  GIVEN WITH THE SEED: the statements are not yours to turn. If you find one false, say at which input.
  Laid BY PROGRAM, IN A SANDBOX (cutbox-rows.mjs): the forced cells as the released guide's own fill.sh prints them over the translation ae8cdcbeeff5a011… (all of the seat's roots in one cut). By AI agents, Wed Nov 11 2026. No macro, syntax, notation, axiom, sorry.
-/
import Derived.Test.YtobealijkbnojaaDoorChecked
import GoSem.Claim
import GoSem.ClaimJoined
import GoSem.ClaimMapViews
import Derived.JoinedTies
import Derived.KernelRfl
namespace Go.Proofs.YtobealijkbnojaaDoor
/- THE CELL 'sum', in the pinned program and in every row, IS THE sha256 OF THE DUMP (.gsa) THAT YtobealijkbnojaaDoorProg.lean LOADS. Nothing in Lean hashes anything: it is a label: what it is worth is what the hold of that sum in a sandbox is worth. -/
noncomputable def Tryd.pinned : Pinned := { name := "ytobealijkbnojaadoor", sum := "ae8cdcbeeff5a011e27e11252bab5fb699eb1309e81afaa86db8e7e7fb9348a2", checked := Tryd.checked }
namespace Rows
def none {H : Type} : Left H := { results := [], args := [] }

/- WHAT THE LISTED PACKAGE-LEVEL VARIABLES READ AS WHEN THE CALL BEGINS. Each datum BY PROGRAM (the guide's laid-datum.mjs) off the statement by which the dump's own 'gosem.cut.vars' lays the variable. In a bare row this is a premise. The card (YtobealijkbnojaaDoorCards.lean) ties it to the program's text. -/
def laid_math_bits_deBruijn32tab {H : Type} : DataW H := .agg [.lit (.int .u8 0), .lit (.int .u8 1), .lit (.int .u8 28), .lit (.int .u8 2), .lit (.int .u8 29), .lit (.int .u8 14), .lit (.int .u8 24), .lit (.int .u8 3), .lit (.int .u8 30), .lit (.int .u8 22), .lit (.int .u8 20), .lit (.int .u8 15), .lit (.int .u8 25), .lit (.int .u8 17), .lit (.int .u8 4), .lit (.int .u8 8), .lit (.int .u8 31), .lit (.int .u8 27), .lit (.int .u8 13), .lit (.int .u8 23), .lit (.int .u8 21), .lit (.int .u8 19), .lit (.int .u8 16), .lit (.int .u8 7), .lit (.int .u8 26), .lit (.int .u8 12), .lit (.int .u8 18), .lit (.int .u8 6), .lit (.int .u8 11), .lit (.int .u8 5), .lit (.int .u8 10), .lit (.int .u8 9)]
def laid_math_bits_deBruijn64tab {H : Type} : DataW H := .agg [.lit (.int .u8 0), .lit (.int .u8 1), .lit (.int .u8 56), .lit (.int .u8 2), .lit (.int .u8 57), .lit (.int .u8 49), .lit (.int .u8 28), .lit (.int .u8 3), .lit (.int .u8 61), .lit (.int .u8 58), .lit (.int .u8 42), .lit (.int .u8 50), .lit (.int .u8 38), .lit (.int .u8 29), .lit (.int .u8 17), .lit (.int .u8 4), .lit (.int .u8 62), .lit (.int .u8 47), .lit (.int .u8 59), .lit (.int .u8 36), .lit (.int .u8 45), .lit (.int .u8 43), .lit (.int .u8 51), .lit (.int .u8 22), .lit (.int .u8 53), .lit (.int .u8 39), .lit (.int .u8 33), .lit (.int .u8 30), .lit (.int .u8 24), .lit (.int .u8 18), .lit (.int .u8 12), .lit (.int .u8 5), .lit (.int .u8 63), .lit (.int .u8 55), .lit (.int .u8 48), .lit (.int .u8 27), .lit (.int .u8 60), .lit (.int .u8 41), .lit (.int .u8 37), .lit (.int .u8 16), .lit (.int .u8 46), .lit (.int .u8 35), .lit (.int .u8 44), .lit (.int .u8 21), .lit (.int .u8 52), .lit (.int .u8 32), .lit (.int .u8 23), .lit (.int .u8 11), .lit (.int .u8 54), .lit (.int .u8 26), .lit (.int .u8 40), .lit (.int .u8 15), .lit (.int .u8 34), .lit (.int .u8 20), .lit (.int .u8 31), .lit (.int .u8 10), .lit (.int .u8 25), .lit (.int .u8 14), .lit (.int .u8 19), .lit (.int .u8 9), .lit (.int .u8 13), .lit (.int .u8 8), .lit (.int .u8 7), .lit (.int .u8 6)]
def laid_internal_strconv_uint64pow10 {H : Type} : DataW H := .agg [.lit (.int .u64 1), .lit (.int .u64 10), .lit (.int .u64 100), .lit (.int .u64 1000), .lit (.int .u64 10000), .lit (.int .u64 100000), .lit (.int .u64 1000000), .lit (.int .u64 10000000), .lit (.int .u64 100000000), .lit (.int .u64 1000000000), .lit (.int .u64 10000000000), .lit (.int .u64 100000000000), .lit (.int .u64 1000000000000), .lit (.int .u64 10000000000000), .lit (.int .u64 100000000000000), .lit (.int .u64 1000000000000000), .lit (.int .u64 10000000000000000), .lit (.int .u64 100000000000000000), .lit (.int .u64 1000000000000000000), .lit (.int .u64 10000000000000000000)]

/-- 'aumbrylaw14.LayoutUnlike': WHATEVER THE INPUT: true; the input reads as it did. -/
def layoutUnlikeSpec : ChangeSpec := { name := "layoutUnlike", fn := fun _ => fun
  | [d1, d2, d3, d4, d5, d6, d7] => { results := [.lit (.bool true)], args := [d1, d2, d3, d4, d5, d6, d7] }
  | _ => none }
def layoutUnlikeRow : OpenClaim := { program := "ytobealijkbnojaadoor", sum := "ae8cdcbeeff5a011e27e11252bab5fb699eb1309e81afaa86db8e7e7fb9348a2", func := "aumbry/aumbrylaw14.LayoutUnlike", spec := "layoutUnlike", recurses := true, named := ["internal/strconv.uint64pow10", "math/bits.deBruijn32tab", "math/bits.deBruijn64tab"], apart := false, laid := [("math/bits.deBruijn32tab", laid_math_bits_deBruijn32tab), ("math/bits.deBruijn64tab", laid_math_bits_deBruijn64tab), ("internal/strconv.uint64pow10", laid_internal_strconv_uint64pow10)] }
def LayoutUnlikeSaid : Prop := layoutUnlikeRow.holds Tryd.pinned (OpenSpec.ofChange layoutUnlikeSpec)

/-- ITS FALSE NEIGHBOUR: 'it returns false'. Refute it at one input. -/
def layoutUnlikeWrong : ChangeSpec := { name := "layoutUnlike", fn := fun _ => fun
  | [d1, d2, d3, d4, d5, d6, d7] => { results := [.lit (.bool false)], args := [d1, d2, d3, d4, d5, d6, d7] }
  | _ => none }
def LayoutUnlikeWrongFalsely : Prop := layoutUnlikeRow.holds Tryd.pinned (OpenSpec.ofChange layoutUnlikeWrong)

/-- 'aumbrylaw14.LayoutUebs': WHATEVER THE INPUT: true; the input reads as it did. -/
def layoutUebsSpec : ChangeSpec := { name := "layoutUebs", fn := fun _ => fun
  | [d1, d2] => { results := [.lit (.bool true)], args := [d1, d2] }
  | _ => none }
def layoutUebsRow : OpenClaim := { program := "ytobealijkbnojaadoor", sum := "ae8cdcbeeff5a011e27e11252bab5fb699eb1309e81afaa86db8e7e7fb9348a2", func := "aumbry/aumbrylaw14.LayoutUebs", spec := "layoutUebs", recurses := true, named := ["internal/strconv.uint64pow10", "math/bits.deBruijn32tab", "math/bits.deBruijn64tab"], apart := false, laid := [("math/bits.deBruijn32tab", laid_math_bits_deBruijn32tab), ("math/bits.deBruijn64tab", laid_math_bits_deBruijn64tab), ("internal/strconv.uint64pow10", laid_internal_strconv_uint64pow10)] }
def LayoutUebsSaid : Prop := layoutUebsRow.holds Tryd.pinned (OpenSpec.ofChange layoutUebsSpec)

/-- ITS FALSE NEIGHBOUR: 'it returns false'. Refute it at one input. -/
def layoutUebsWrong : ChangeSpec := { name := "layoutUebs", fn := fun _ => fun
  | [d1, d2] => { results := [.lit (.bool false)], args := [d1, d2] }
  | _ => none }
def LayoutUebsWrongFalsely : Prop := layoutUebsRow.holds Tryd.pinned (OpenSpec.ofChange layoutUebsWrong)

/-- 'aumbrylaw14.LayoutShares': WHATEVER THE INPUT: true; the input reads as it did. -/
def layoutSharesSpec : ChangeSpec := { name := "layoutShares", fn := fun _ => fun
  | [d1, d2] => { results := [.lit (.bool true)], args := [d1, d2] }
  | _ => none }
def layoutSharesRow : OpenClaim := { program := "ytobealijkbnojaadoor", sum := "ae8cdcbeeff5a011e27e11252bab5fb699eb1309e81afaa86db8e7e7fb9348a2", func := "aumbry/aumbrylaw14.LayoutShares", spec := "layoutShares", unfollowed := true, recurses := true, named := ["internal/strconv.uint64pow10", "math/bits.deBruijn32tab", "math/bits.deBruijn64tab"], apart := false, laid := [("math/bits.deBruijn32tab", laid_math_bits_deBruijn32tab), ("math/bits.deBruijn64tab", laid_math_bits_deBruijn64tab), ("internal/strconv.uint64pow10", laid_internal_strconv_uint64pow10)] }
def LayoutSharesSaid : Prop := layoutSharesRow.holds Tryd.pinned (OpenSpec.ofChange layoutSharesSpec)

/-- ITS FALSE NEIGHBOUR: 'it returns false'. Refute it at one input. -/
def layoutSharesWrong : ChangeSpec := { name := "layoutShares", fn := fun _ => fun
  | [d1, d2] => { results := [.lit (.bool false)], args := [d1, d2] }
  | _ => none }
def LayoutSharesWrongFalsely : Prop := layoutSharesRow.holds Tryd.pinned (OpenSpec.ofChange layoutSharesWrong)

/-- 'aumbrylaw14.LayoutVersions': WHATEVER THE INPUT: true; the input reads as it did. -/
def layoutVersionsSpec : ChangeSpec := { name := "layoutVersions", fn := fun _ => fun
  | [d1, d2] => { results := [.lit (.bool true)], args := [d1, d2] }
  | _ => none }
def layoutVersionsRow : OpenClaim := { program := "ytobealijkbnojaadoor", sum := "ae8cdcbeeff5a011e27e11252bab5fb699eb1309e81afaa86db8e7e7fb9348a2", func := "aumbry/aumbrylaw14.LayoutVersions", spec := "layoutVersions", recurses := true, named := ["internal/strconv.uint64pow10", "math/bits.deBruijn32tab", "math/bits.deBruijn64tab"], apart := false, laid := [("math/bits.deBruijn32tab", laid_math_bits_deBruijn32tab), ("math/bits.deBruijn64tab", laid_math_bits_deBruijn64tab), ("internal/strconv.uint64pow10", laid_internal_strconv_uint64pow10)] }
def LayoutVersionsSaid : Prop := layoutVersionsRow.holds Tryd.pinned (OpenSpec.ofChange layoutVersionsSpec)

/-- ITS FALSE NEIGHBOUR: 'it returns false'. Refute it at one input. -/
def layoutVersionsWrong : ChangeSpec := { name := "layoutVersions", fn := fun _ => fun
  | [d1, d2] => { results := [.lit (.bool false)], args := [d1, d2] }
  | _ => none }
def LayoutVersionsWrongFalsely : Prop := layoutVersionsRow.holds Tryd.pinned (OpenSpec.ofChange layoutVersionsWrong)

/-- 'aumbrylaw14.LayoutPieces': WHATEVER THE INPUT: true; the input reads as it did. -/
def layoutPiecesSpec : ChangeSpec := { name := "layoutPieces", fn := fun _ => fun
  | [d1, d2] => { results := [.lit (.bool true)], args := [d1, d2] }
  | _ => none }
def layoutPiecesRow : OpenClaim := { program := "ytobealijkbnojaadoor", sum := "ae8cdcbeeff5a011e27e11252bab5fb699eb1309e81afaa86db8e7e7fb9348a2", func := "aumbry/aumbrylaw14.LayoutPieces", spec := "layoutPieces", unfollowed := true, recurses := true, named := ["internal/strconv.uint64pow10", "math/bits.deBruijn32tab", "math/bits.deBruijn64tab"], apart := false, laid := [("math/bits.deBruijn32tab", laid_math_bits_deBruijn32tab), ("math/bits.deBruijn64tab", laid_math_bits_deBruijn64tab), ("internal/strconv.uint64pow10", laid_internal_strconv_uint64pow10)] }
def LayoutPiecesSaid : Prop := layoutPiecesRow.holds Tryd.pinned (OpenSpec.ofChange layoutPiecesSpec)

/-- ITS FALSE NEIGHBOUR: 'it returns false'. Refute it at one input. -/
def layoutPiecesWrong : ChangeSpec := { name := "layoutPieces", fn := fun _ => fun
  | [d1, d2] => { results := [.lit (.bool false)], args := [d1, d2] }
  | _ => none }
def LayoutPiecesWrongFalsely : Prop := layoutPiecesRow.holds Tryd.pinned (OpenSpec.ofChange layoutPiecesWrong)

/- THE SECOND FORM. 'bulk': how many values and letters a reading holds, each counted each time it is reached (what is shared counts as often as it is met; a slice's spare places count too). A statement '..UptoSaid' is the law's where the arguments, and the package variables that the reading takes, are together of bulk at most 1048576: NARROWER than '..Said'. Prove '..Said' where nothing that the law and all that it calls make is longer than what came in: it says more and counts as full. Else prove '..UptoSaid'. A law counts once. -/
mutual
def uptoBulk {H : Type} : DataW H → Nat
  | .lit (.string bytes) => bytes.length + 1
  | .lit _ => 1
  | .nil => 1
  | .ptr d => uptoBulk d + 1
  | .slice elems spare => uptoBulkAll elems + uptoBulkAll spare + 1
  | .agg parts => uptoBulkAll parts + 1
  | .iface _ d => uptoBulk d + 1
  | .map entries => uptoBulkEntries entries + 1
  | .held _ => 1
def uptoBulkAll {H : Type} : List (DataW H) → Nat
  | [] => 0
  | d :: r => uptoBulk d + uptoBulkAll r
def uptoBulkEntries {H : Type} : List (Lit × DataW H) → Nat
  | [] => 0
  | x :: r => uptoBulkEntry x + uptoBulkEntries r
def uptoBulkEntry {H : Type} : Lit × DataW H → Nat
  | (.string bytes, d) => bytes.length + uptoBulk d + 1
  | (_, d) => uptoBulk d + 1
 end
def uptoSmall : (H : Type) → List (DataW H) → Bool := fun _ ds => decide (uptoBulkAll ds ≤ 1048576)
def OpenSpec.upto (s : _root_.Go.ChangeSpec) : _root_.Go.OpenSpec := { _root_.Go.OpenSpec.ofChange s with cond := some uptoSmall }

/-- 'aumbrylaw14.LayoutUnlike', WHERE WHAT IT READS IS OF BULK AT MOST 1048576: true; the input reads as it did. -/
def layoutUnlikeUptoRow : OpenClaim := { program := "ytobealijkbnojaadoor", sum := "ae8cdcbeeff5a011e27e11252bab5fb699eb1309e81afaa86db8e7e7fb9348a2", func := "aumbry/aumbrylaw14.LayoutUnlike", spec := "layoutUnlike", recurses := true, named := ["internal/strconv.uint64pow10", "math/bits.deBruijn32tab", "math/bits.deBruijn64tab"], apart := false, laid := [("math/bits.deBruijn32tab", laid_math_bits_deBruijn32tab), ("math/bits.deBruijn64tab", laid_math_bits_deBruijn64tab), ("internal/strconv.uint64pow10", laid_internal_strconv_uint64pow10)], narrowed := true }
def LayoutUnlikeUptoSaid : Prop := layoutUnlikeUptoRow.holds Tryd.pinned (OpenSpec.upto layoutUnlikeSpec)

/-- 'aumbrylaw14.LayoutUebs', WHERE WHAT IT READS IS OF BULK AT MOST 1048576: true; the input reads as it did. -/
def layoutUebsUptoRow : OpenClaim := { program := "ytobealijkbnojaadoor", sum := "ae8cdcbeeff5a011e27e11252bab5fb699eb1309e81afaa86db8e7e7fb9348a2", func := "aumbry/aumbrylaw14.LayoutUebs", spec := "layoutUebs", recurses := true, named := ["internal/strconv.uint64pow10", "math/bits.deBruijn32tab", "math/bits.deBruijn64tab"], apart := false, laid := [("math/bits.deBruijn32tab", laid_math_bits_deBruijn32tab), ("math/bits.deBruijn64tab", laid_math_bits_deBruijn64tab), ("internal/strconv.uint64pow10", laid_internal_strconv_uint64pow10)], narrowed := true }
def LayoutUebsUptoSaid : Prop := layoutUebsUptoRow.holds Tryd.pinned (OpenSpec.upto layoutUebsSpec)

/-- 'aumbrylaw14.LayoutShares', WHERE WHAT IT READS IS OF BULK AT MOST 1048576: true; the input reads as it did. -/
def layoutSharesUptoRow : OpenClaim := { program := "ytobealijkbnojaadoor", sum := "ae8cdcbeeff5a011e27e11252bab5fb699eb1309e81afaa86db8e7e7fb9348a2", func := "aumbry/aumbrylaw14.LayoutShares", spec := "layoutShares", unfollowed := true, recurses := true, named := ["internal/strconv.uint64pow10", "math/bits.deBruijn32tab", "math/bits.deBruijn64tab"], apart := false, laid := [("math/bits.deBruijn32tab", laid_math_bits_deBruijn32tab), ("math/bits.deBruijn64tab", laid_math_bits_deBruijn64tab), ("internal/strconv.uint64pow10", laid_internal_strconv_uint64pow10)], narrowed := true }
def LayoutSharesUptoSaid : Prop := layoutSharesUptoRow.holds Tryd.pinned (OpenSpec.upto layoutSharesSpec)

/-- 'aumbrylaw14.LayoutVersions', WHERE WHAT IT READS IS OF BULK AT MOST 1048576: true; the input reads as it did. -/
def layoutVersionsUptoRow : OpenClaim := { program := "ytobealijkbnojaadoor", sum := "ae8cdcbeeff5a011e27e11252bab5fb699eb1309e81afaa86db8e7e7fb9348a2", func := "aumbry/aumbrylaw14.LayoutVersions", spec := "layoutVersions", recurses := true, named := ["internal/strconv.uint64pow10", "math/bits.deBruijn32tab", "math/bits.deBruijn64tab"], apart := false, laid := [("math/bits.deBruijn32tab", laid_math_bits_deBruijn32tab), ("math/bits.deBruijn64tab", laid_math_bits_deBruijn64tab), ("internal/strconv.uint64pow10", laid_internal_strconv_uint64pow10)], narrowed := true }
def LayoutVersionsUptoSaid : Prop := layoutVersionsUptoRow.holds Tryd.pinned (OpenSpec.upto layoutVersionsSpec)

/-- 'aumbrylaw14.LayoutPieces', WHERE WHAT IT READS IS OF BULK AT MOST 1048576: true; the input reads as it did. -/
def layoutPiecesUptoRow : OpenClaim := { program := "ytobealijkbnojaadoor", sum := "ae8cdcbeeff5a011e27e11252bab5fb699eb1309e81afaa86db8e7e7fb9348a2", func := "aumbry/aumbrylaw14.LayoutPieces", spec := "layoutPieces", unfollowed := true, recurses := true, named := ["internal/strconv.uint64pow10", "math/bits.deBruijn32tab", "math/bits.deBruijn64tab"], apart := false, laid := [("math/bits.deBruijn32tab", laid_math_bits_deBruijn32tab), ("math/bits.deBruijn64tab", laid_math_bits_deBruijn64tab), ("internal/strconv.uint64pow10", laid_internal_strconv_uint64pow10)], narrowed := true }
def LayoutPiecesUptoSaid : Prop := layoutPiecesUptoRow.holds Tryd.pinned (OpenSpec.upto layoutPiecesSpec)

end Rows
end Go.Proofs.YtobealijkbnojaaDoor
