/-
  No cell of these rows narrows 'for every input' (looked for: loops, veiled, ifaces, maps, wideKeys, modest, calm, conditions, laid).
  DERIVED. THE GIVEN ROWS OF THIS SEAT. 8 by the template 'for every input the law returns true; each argument reads behind the call as it read before'; 0 by the template 'total and deterministic' (their statements: YtdaofffkbnkljaaTotals.lean).
  GIVEN WITH THE SEED: the statements are not yours to turn. If you find one false, say at which input.
  Laid BY PROGRAM, IN A SANDBOX (cutbox-rows.mjs): the forced cells as the released guide's own fill.sh prints them over the translation 508fcc9de3cc563f… (all of the seat's roots in one cut). By AI agents, Wed Nov 11 2026. No macro, syntax, notation, axiom, sorry.
-/
import Derived.Test.YtdaofffkbnkljaaChecked
import GoSem.Claim
import GoSem.ClaimJoined
import GoSem.ClaimMapViews
import Derived.JoinedTies
import Derived.KernelRfl
namespace Go.Proofs.Ytdaofffkbnkljaa
/- THE CELL 'sum', in the pinned program and in every row, IS THE sha256 OF THE DUMP (.gsa) THAT YtdaofffkbnkljaaProg.lean LOADS. Nothing in Lean hashes anything: it is a label: what it is worth is what the hold of that sum in a sandbox is worth. -/
noncomputable def Try.pinned : Pinned := { name := "ytdaofffkbnkljaa", sum := "508fcc9de3cc563f1183ab413542aaf626fd5d8584043ff8204d3ba684ea57b2", checked := Try.checked }
namespace Rows
def none {H : Type} : Left H := { results := [], args := [] }

/-- 'aumbrylaw06.RsAnew': WHATEVER THE INPUT: true; the input reads as it did. -/
def rsAnewSpec : ChangeSpec := { name := "rsAnew", fn := fun _ => fun
  | [d1, d2, d3, d4] => { results := [.lit (.bool true)], args := [d1, d2, d3, d4] }
  | _ => none }
def rsAnewRow : OpenClaim := { program := "ytdaofffkbnkljaa", sum := "508fcc9de3cc563f1183ab413542aaf626fd5d8584043ff8204d3ba684ea57b2", func := "aumbry/aumbrylaw06.RsAnew", spec := "rsAnew", unfollowed := true, recurses := true, apart := false }
def RsAnewSaid : Prop := rsAnewRow.holds Try.pinned (OpenSpec.ofChange rsAnewSpec)

/-- ITS FALSE NEIGHBOUR: 'it returns false'. Refute it at one input. -/
def rsAnewWrong : ChangeSpec := { name := "rsAnew", fn := fun _ => fun
  | [d1, d2, d3, d4] => { results := [.lit (.bool false)], args := [d1, d2, d3, d4] }
  | _ => none }
def RsAnewWrongFalsely : Prop := rsAnewRow.holds Try.pinned (OpenSpec.ofChange rsAnewWrong)

/-- 'aumbrylaw06.RsWrong': WHATEVER THE INPUT: true; the input reads as it did. -/
def rsWrongSpec : ChangeSpec := { name := "rsWrong", fn := fun _ => fun
  | [d1, d2, d3, d4, d5, d6] => { results := [.lit (.bool true)], args := [d1, d2, d3, d4, d5, d6] }
  | _ => none }
def rsWrongRow : OpenClaim := { program := "ytdaofffkbnkljaa", sum := "508fcc9de3cc563f1183ab413542aaf626fd5d8584043ff8204d3ba684ea57b2", func := "aumbry/aumbrylaw06.RsWrong", spec := "rsWrong", unfollowed := true, recurses := true, apart := false }
def RsWrongSaid : Prop := rsWrongRow.holds Try.pinned (OpenSpec.ofChange rsWrongSpec)

/-- ITS FALSE NEIGHBOUR: 'it returns false'. Refute it at one input. -/
def rsWrongWrong : ChangeSpec := { name := "rsWrong", fn := fun _ => fun
  | [d1, d2, d3, d4, d5, d6] => { results := [.lit (.bool false)], args := [d1, d2, d3, d4, d5, d6] }
  | _ => none }
def RsWrongWrongFalsely : Prop := rsWrongRow.holds Try.pinned (OpenSpec.ofChange rsWrongWrong)

/-- 'aumbrylaw06.RsNews': WHATEVER THE INPUT: true; the input reads as it did. -/
def rsNewsSpec : ChangeSpec := { name := "rsNews", fn := fun _ => fun
  | [d1, d2] => { results := [.lit (.bool true)], args := [d1, d2] }
  | _ => none }
def rsNewsRow : OpenClaim := { program := "ytdaofffkbnkljaa", sum := "508fcc9de3cc563f1183ab413542aaf626fd5d8584043ff8204d3ba684ea57b2", func := "aumbry/aumbrylaw06.RsNews", spec := "rsNews", unfollowed := true, recurses := true, apart := false }
def RsNewsSaid : Prop := rsNewsRow.holds Try.pinned (OpenSpec.ofChange rsNewsSpec)

/-- ITS FALSE NEIGHBOUR: 'it returns false'. Refute it at one input. -/
def rsNewsWrong : ChangeSpec := { name := "rsNews", fn := fun _ => fun
  | [d1, d2] => { results := [.lit (.bool false)], args := [d1, d2] }
  | _ => none }
def RsNewsWrongFalsely : Prop := rsNewsRow.holds Try.pinned (OpenSpec.ofChange rsNewsWrong)

/-- 'aumbrylaw06.RsEncodes': WHATEVER THE INPUT: true; the input reads as it did. -/
def rsEncodesSpec : ChangeSpec := { name := "rsEncodes", fn := fun _ => fun
  | [d1, d2, d3, d4] => { results := [.lit (.bool true)], args := [d1, d2, d3, d4] }
  | _ => none }
def rsEncodesRow : OpenClaim := { program := "ytdaofffkbnkljaa", sum := "508fcc9de3cc563f1183ab413542aaf626fd5d8584043ff8204d3ba684ea57b2", func := "aumbry/aumbrylaw06.RsEncodes", spec := "rsEncodes", unfollowed := true, recurses := true, apart := false }
def RsEncodesSaid : Prop := rsEncodesRow.holds Try.pinned (OpenSpec.ofChange rsEncodesSpec)

/-- ITS FALSE NEIGHBOUR: 'it returns false'. Refute it at one input. -/
def rsEncodesWrong : ChangeSpec := { name := "rsEncodes", fn := fun _ => fun
  | [d1, d2, d3, d4] => { results := [.lit (.bool false)], args := [d1, d2, d3, d4] }
  | _ => none }
def RsEncodesWrongFalsely : Prop := rsEncodesRow.holds Try.pinned (OpenSpec.ofChange rsEncodesWrong)

/-- 'aumbrylaw06.RsDecodes': WHATEVER THE INPUT: true; the input reads as it did. -/
def rsDecodesSpec : ChangeSpec := { name := "rsDecodes", fn := fun _ => fun
  | [d1, d2, d3] => { results := [.lit (.bool true)], args := [d1, d2, d3] }
  | _ => none }
def rsDecodesRow : OpenClaim := { program := "ytdaofffkbnkljaa", sum := "508fcc9de3cc563f1183ab413542aaf626fd5d8584043ff8204d3ba684ea57b2", func := "aumbry/aumbrylaw06.RsDecodes", spec := "rsDecodes", unfollowed := true, recurses := true, apart := false }
def RsDecodesSaid : Prop := rsDecodesRow.holds Try.pinned (OpenSpec.ofChange rsDecodesSpec)

/-- ITS FALSE NEIGHBOUR: 'it returns false'. Refute it at one input. -/
def rsDecodesWrong : ChangeSpec := { name := "rsDecodes", fn := fun _ => fun
  | [d1, d2, d3] => { results := [.lit (.bool false)], args := [d1, d2, d3] }
  | _ => none }
def RsDecodesWrongFalsely : Prop := rsDecodesRow.holds Try.pinned (OpenSpec.ofChange rsDecodesWrong)

/-- 'aumbrylaw06.RsAny': WHATEVER THE INPUT: true; the input reads as it did. -/
def rsAnySpec : ChangeSpec := { name := "rsAny", fn := fun _ => fun
  | [d1, d2, d3, d4] => { results := [.lit (.bool true)], args := [d1, d2, d3, d4] }
  | _ => none }
def rsAnyRow : OpenClaim := { program := "ytdaofffkbnkljaa", sum := "508fcc9de3cc563f1183ab413542aaf626fd5d8584043ff8204d3ba684ea57b2", func := "aumbry/aumbrylaw06.RsAny", spec := "rsAny", unfollowed := true, recurses := true, apart := false }
def RsAnySaid : Prop := rsAnyRow.holds Try.pinned (OpenSpec.ofChange rsAnySpec)

/-- ITS FALSE NEIGHBOUR: 'it returns false'. Refute it at one input. -/
def rsAnyWrong : ChangeSpec := { name := "rsAny", fn := fun _ => fun
  | [d1, d2, d3, d4] => { results := [.lit (.bool false)], args := [d1, d2, d3, d4] }
  | _ => none }
def RsAnyWrongFalsely : Prop := rsAnyRow.holds Try.pinned (OpenSpec.ofChange rsAnyWrong)

/-- 'aumbrylaw06.RsFirst': WHATEVER THE INPUT: true; the input reads as it did. -/
def rsFirstSpec : ChangeSpec := { name := "rsFirst", fn := fun _ => fun
  | [d1, d2, d3] => { results := [.lit (.bool true)], args := [d1, d2, d3] }
  | _ => none }
def rsFirstRow : OpenClaim := { program := "ytdaofffkbnkljaa", sum := "508fcc9de3cc563f1183ab413542aaf626fd5d8584043ff8204d3ba684ea57b2", func := "aumbry/aumbrylaw06.RsFirst", spec := "rsFirst", unfollowed := true, recurses := true, apart := false }
def RsFirstSaid : Prop := rsFirstRow.holds Try.pinned (OpenSpec.ofChange rsFirstSpec)

/-- ITS FALSE NEIGHBOUR: 'it returns false'. Refute it at one input. -/
def rsFirstWrong : ChangeSpec := { name := "rsFirst", fn := fun _ => fun
  | [d1, d2, d3] => { results := [.lit (.bool false)], args := [d1, d2, d3] }
  | _ => none }
def RsFirstWrongFalsely : Prop := rsFirstRow.holds Try.pinned (OpenSpec.ofChange rsFirstWrong)

/-- 'aumbrylaw06.RsSums': WHATEVER THE INPUT: true; the input reads as it did. -/
def rsSumsSpec : ChangeSpec := { name := "rsSums", fn := fun _ => fun
  | [d1, d2, d3, d4] => { results := [.lit (.bool true)], args := [d1, d2, d3, d4] }
  | _ => none }
def rsSumsRow : OpenClaim := { program := "ytdaofffkbnkljaa", sum := "508fcc9de3cc563f1183ab413542aaf626fd5d8584043ff8204d3ba684ea57b2", func := "aumbry/aumbrylaw06.RsSums", spec := "rsSums", unfollowed := true, recurses := true, apart := false }
def RsSumsSaid : Prop := rsSumsRow.holds Try.pinned (OpenSpec.ofChange rsSumsSpec)

/-- ITS FALSE NEIGHBOUR: 'it returns false'. Refute it at one input. -/
def rsSumsWrong : ChangeSpec := { name := "rsSums", fn := fun _ => fun
  | [d1, d2, d3, d4] => { results := [.lit (.bool false)], args := [d1, d2, d3, d4] }
  | _ => none }
def RsSumsWrongFalsely : Prop := rsSumsRow.holds Try.pinned (OpenSpec.ofChange rsSumsWrong)

/- THE SECOND FORM. 'bulk': how many values and letters a reading holds, each counted each time it is reached (what is shared counts as often as it is met; a slice's spare places count too). A statement '..UptoSaid' is the law's where the arguments, and the package variables that the reading takes, are together of bulk at most 1048576: NARROWER than '..Said'. Prove '..Said' where nothing that the law and all that it calls make is longer than what came in: it says more and counts as full. Else prove '..UptoSaid'. A law counts once. -/
mutual
def uptoBulk {H : Type} : DataW H → Nat
  | .lit (.string bytes) => bytes.length + 1
  | .lit _ => 1
  | .nil => 1
  | .ptr d => uptoBulk d + 1
  | .slice elems spare => uptoBulkAll elems + uptoBulkAll spare + 1
  | .agg parts => uptoBulkAll parts + 1
  | .iface _ d => uptoBulk d + 1
  | .map entries => uptoBulkEntries entries + 1
  | .held _ => 1
def uptoBulkAll {H : Type} : List (DataW H) → Nat
  | [] => 0
  | d :: r => uptoBulk d + uptoBulkAll r
def uptoBulkEntries {H : Type} : List (Lit × DataW H) → Nat
  | [] => 0
  | x :: r => uptoBulkEntry x + uptoBulkEntries r
def uptoBulkEntry {H : Type} : Lit × DataW H → Nat
  | (.string bytes, d) => bytes.length + uptoBulk d + 1
  | (_, d) => uptoBulk d + 1
 end
def uptoSmall : (H : Type) → List (DataW H) → Bool := fun _ ds => decide (uptoBulkAll ds ≤ 1048576)
def OpenSpec.upto (s : _root_.Go.ChangeSpec) : _root_.Go.OpenSpec := { _root_.Go.OpenSpec.ofChange s with cond := some uptoSmall }

/-- 'aumbrylaw06.RsAnew', WHERE WHAT IT READS IS OF BULK AT MOST 1048576: true; the input reads as it did. -/
def rsAnewUptoRow : OpenClaim := { program := "ytdaofffkbnkljaa", sum := "508fcc9de3cc563f1183ab413542aaf626fd5d8584043ff8204d3ba684ea57b2", func := "aumbry/aumbrylaw06.RsAnew", spec := "rsAnew", unfollowed := true, recurses := true, apart := false, narrowed := true }
def RsAnewUptoSaid : Prop := rsAnewUptoRow.holds Try.pinned (OpenSpec.upto rsAnewSpec)

/-- 'aumbrylaw06.RsWrong', WHERE WHAT IT READS IS OF BULK AT MOST 1048576: true; the input reads as it did. -/
def rsWrongUptoRow : OpenClaim := { program := "ytdaofffkbnkljaa", sum := "508fcc9de3cc563f1183ab413542aaf626fd5d8584043ff8204d3ba684ea57b2", func := "aumbry/aumbrylaw06.RsWrong", spec := "rsWrong", unfollowed := true, recurses := true, apart := false, narrowed := true }
def RsWrongUptoSaid : Prop := rsWrongUptoRow.holds Try.pinned (OpenSpec.upto rsWrongSpec)

/-- 'aumbrylaw06.RsNews', WHERE WHAT IT READS IS OF BULK AT MOST 1048576: true; the input reads as it did. -/
def rsNewsUptoRow : OpenClaim := { program := "ytdaofffkbnkljaa", sum := "508fcc9de3cc563f1183ab413542aaf626fd5d8584043ff8204d3ba684ea57b2", func := "aumbry/aumbrylaw06.RsNews", spec := "rsNews", unfollowed := true, recurses := true, apart := false, narrowed := true }
def RsNewsUptoSaid : Prop := rsNewsUptoRow.holds Try.pinned (OpenSpec.upto rsNewsSpec)

/-- 'aumbrylaw06.RsEncodes', WHERE WHAT IT READS IS OF BULK AT MOST 1048576: true; the input reads as it did. -/
def rsEncodesUptoRow : OpenClaim := { program := "ytdaofffkbnkljaa", sum := "508fcc9de3cc563f1183ab413542aaf626fd5d8584043ff8204d3ba684ea57b2", func := "aumbry/aumbrylaw06.RsEncodes", spec := "rsEncodes", unfollowed := true, recurses := true, apart := false, narrowed := true }
def RsEncodesUptoSaid : Prop := rsEncodesUptoRow.holds Try.pinned (OpenSpec.upto rsEncodesSpec)

/-- 'aumbrylaw06.RsDecodes', WHERE WHAT IT READS IS OF BULK AT MOST 1048576: true; the input reads as it did. -/
def rsDecodesUptoRow : OpenClaim := { program := "ytdaofffkbnkljaa", sum := "508fcc9de3cc563f1183ab413542aaf626fd5d8584043ff8204d3ba684ea57b2", func := "aumbry/aumbrylaw06.RsDecodes", spec := "rsDecodes", unfollowed := true, recurses := true, apart := false, narrowed := true }
def RsDecodesUptoSaid : Prop := rsDecodesUptoRow.holds Try.pinned (OpenSpec.upto rsDecodesSpec)

/-- 'aumbrylaw06.RsAny', WHERE WHAT IT READS IS OF BULK AT MOST 1048576: true; the input reads as it did. -/
def rsAnyUptoRow : OpenClaim := { program := "ytdaofffkbnkljaa", sum := "508fcc9de3cc563f1183ab413542aaf626fd5d8584043ff8204d3ba684ea57b2", func := "aumbry/aumbrylaw06.RsAny", spec := "rsAny", unfollowed := true, recurses := true, apart := false, narrowed := true }
def RsAnyUptoSaid : Prop := rsAnyUptoRow.holds Try.pinned (OpenSpec.upto rsAnySpec)

/-- 'aumbrylaw06.RsFirst', WHERE WHAT IT READS IS OF BULK AT MOST 1048576: true; the input reads as it did. -/
def rsFirstUptoRow : OpenClaim := { program := "ytdaofffkbnkljaa", sum := "508fcc9de3cc563f1183ab413542aaf626fd5d8584043ff8204d3ba684ea57b2", func := "aumbry/aumbrylaw06.RsFirst", spec := "rsFirst", unfollowed := true, recurses := true, apart := false, narrowed := true }
def RsFirstUptoSaid : Prop := rsFirstUptoRow.holds Try.pinned (OpenSpec.upto rsFirstSpec)

/-- 'aumbrylaw06.RsSums', WHERE WHAT IT READS IS OF BULK AT MOST 1048576: true; the input reads as it did. -/
def rsSumsUptoRow : OpenClaim := { program := "ytdaofffkbnkljaa", sum := "508fcc9de3cc563f1183ab413542aaf626fd5d8584043ff8204d3ba684ea57b2", func := "aumbry/aumbrylaw06.RsSums", spec := "rsSums", unfollowed := true, recurses := true, apart := false, narrowed := true }
def RsSumsUptoSaid : Prop := rsSumsUptoRow.holds Try.pinned (OpenSpec.upto rsSumsSpec)

end Rows
end Go.Proofs.Ytdaofffkbnkljaa
