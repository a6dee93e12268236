/-
  No cell of these rows narrows 'for every input' (looked for: loops, veiled, ifaces, maps, wideKeys, modest, calm, conditions, laid).
  DERIVED. THE GIVEN ROWS OF THIS SEAT. 6 by the template 'for every input the law returns true; each argument reads behind the call as it read before'; 0 by the template 'total and deterministic' (their statements: YtcajlmlblkdjoaaTotals.lean).
  GIVEN WITH THE SEED: the statements are not yours to turn. If you find one false, say at which input.
  Laid BY PROGRAM, IN A SANDBOX (cutbox-rows.mjs): the forced cells as the released guide's own fill.sh prints them over the translation fece63314d8e0f35… (all of the seat's roots in one cut). By AI agents, Wed Nov 11 2026. No macro, syntax, notation, axiom, sorry.
-/
import Derived.Test.YtcajlmlblkdjoaaChecked
import GoSem.Claim
import GoSem.ClaimJoined
import GoSem.ClaimMapViews
import Derived.JoinedTies
import Derived.KernelRfl
namespace Go.Proofs.Ytcajlmlblkdjoaa
/- THE CELL 'sum', in the pinned program and in every row, IS THE sha256 OF THE DUMP (.gsa) THAT YtcajlmlblkdjoaaProg.lean LOADS. Nothing in Lean hashes anything: it is a label: what it is worth is what the hold of that sum in a sandbox is worth. -/
noncomputable def Try.pinned : Pinned := { name := "ytcajlmlblkdjoaa", sum := "fece63314d8e0f351c71f998e70662e136d7b8f4e403ddbad562a32c37200df1", checked := Try.checked }
namespace Rows
def none {H : Type} : Left H := { results := [], args := [] }

/-- 'aumbrylaw03.AesSums': WHATEVER THE INPUT: true; the input reads as it did. -/
def aesSumsSpec : ChangeSpec := { name := "aesSums", fn := fun _ => fun
  | [d1, d2, d3, d4] => { results := [.lit (.bool true)], args := [d1, d2, d3, d4] }
  | _ => none }
def aesSumsRow : OpenClaim := { program := "ytcajlmlblkdjoaa", sum := "fece63314d8e0f351c71f998e70662e136d7b8f4e403ddbad562a32c37200df1", func := "aumbry/aumbrylaw03.AesSums", spec := "aesSums", apart := false }
def AesSumsSaid : Prop := aesSumsRow.holds Try.pinned (OpenSpec.ofChange aesSumsSpec)

/-- ITS FALSE NEIGHBOUR: 'it returns false'. Refute it at one input. -/
def aesSumsWrong : ChangeSpec := { name := "aesSums", fn := fun _ => fun
  | [d1, d2, d3, d4] => { results := [.lit (.bool false)], args := [d1, d2, d3, d4] }
  | _ => none }
def AesSumsWrongFalsely : Prop := aesSumsRow.holds Try.pinned (OpenSpec.ofChange aesSumsWrong)

/-- 'aumbrylaw03.AesBlocks': WHATEVER THE INPUT: true; the input reads as it did. -/
def aesBlocksSpec : ChangeSpec := { name := "aesBlocks", fn := fun _ => fun
  | [d1, d2] => { results := [.lit (.bool true)], args := [d1, d2] }
  | _ => none }
def aesBlocksRow : OpenClaim := { program := "ytcajlmlblkdjoaa", sum := "fece63314d8e0f351c71f998e70662e136d7b8f4e403ddbad562a32c37200df1", func := "aumbry/aumbrylaw03.AesBlocks", spec := "aesBlocks", apart := false }
def AesBlocksSaid : Prop := aesBlocksRow.holds Try.pinned (OpenSpec.ofChange aesBlocksSpec)

/-- ITS FALSE NEIGHBOUR: 'it returns false'. Refute it at one input. -/
def aesBlocksWrong : ChangeSpec := { name := "aesBlocks", fn := fun _ => fun
  | [d1, d2] => { results := [.lit (.bool false)], args := [d1, d2] }
  | _ => none }
def AesBlocksWrongFalsely : Prop := aesBlocksRow.holds Try.pinned (OpenSpec.ofChange aesBlocksWrong)

/-- 'aumbrylaw03.AesStreams': WHATEVER THE INPUT: true; the input reads as it did. -/
def aesStreamsSpec : ChangeSpec := { name := "aesStreams", fn := fun _ => fun
  | [d1, d2, d3] => { results := [.lit (.bool true)], args := [d1, d2, d3] }
  | _ => none }
def aesStreamsRow : OpenClaim := { program := "ytcajlmlblkdjoaa", sum := "fece63314d8e0f351c71f998e70662e136d7b8f4e403ddbad562a32c37200df1", func := "aumbry/aumbrylaw03.AesStreams", spec := "aesStreams", apart := false }
def AesStreamsSaid : Prop := aesStreamsRow.holds Try.pinned (OpenSpec.ofChange aesStreamsSpec)

/-- ITS FALSE NEIGHBOUR: 'it returns false'. Refute it at one input. -/
def aesStreamsWrong : ChangeSpec := { name := "aesStreams", fn := fun _ => fun
  | [d1, d2, d3] => { results := [.lit (.bool false)], args := [d1, d2, d3] }
  | _ => none }
def AesStreamsWrongFalsely : Prop := aesStreamsRow.holds Try.pinned (OpenSpec.ofChange aesStreamsWrong)

/-- 'aumbrylaw03.AesTwice': WHATEVER THE INPUT: true; the input reads as it did. -/
def aesTwiceSpec : ChangeSpec := { name := "aesTwice", fn := fun _ => fun
  | [d1, d2, d3, d4] => { results := [.lit (.bool true)], args := [d1, d2, d3, d4] }
  | _ => none }
def aesTwiceRow : OpenClaim := { program := "ytcajlmlblkdjoaa", sum := "fece63314d8e0f351c71f998e70662e136d7b8f4e403ddbad562a32c37200df1", func := "aumbry/aumbrylaw03.AesTwice", spec := "aesTwice", apart := false }
def AesTwiceSaid : Prop := aesTwiceRow.holds Try.pinned (OpenSpec.ofChange aesTwiceSpec)

/-- ITS FALSE NEIGHBOUR: 'it returns false'. Refute it at one input. -/
def aesTwiceWrong : ChangeSpec := { name := "aesTwice", fn := fun _ => fun
  | [d1, d2, d3, d4] => { results := [.lit (.bool false)], args := [d1, d2, d3, d4] }
  | _ => none }
def AesTwiceWrongFalsely : Prop := aesTwiceRow.holds Try.pinned (OpenSpec.ofChange aesTwiceWrong)

/-- 'aumbrylaw03.AesCounts': WHATEVER THE INPUT: true; the input reads as it did. -/
def aesCountsSpec : ChangeSpec := { name := "aesCounts", fn := fun _ => fun
  | [d1, d2] => { results := [.lit (.bool true)], args := [d1, d2] }
  | _ => none }
def aesCountsRow : OpenClaim := { program := "ytcajlmlblkdjoaa", sum := "fece63314d8e0f351c71f998e70662e136d7b8f4e403ddbad562a32c37200df1", func := "aumbry/aumbrylaw03.AesCounts", spec := "aesCounts", apart := false }
def AesCountsSaid : Prop := aesCountsRow.holds Try.pinned (OpenSpec.ofChange aesCountsSpec)

/-- ITS FALSE NEIGHBOUR: 'it returns false'. Refute it at one input. -/
def aesCountsWrong : ChangeSpec := { name := "aesCounts", fn := fun _ => fun
  | [d1, d2] => { results := [.lit (.bool false)], args := [d1, d2] }
  | _ => none }
def AesCountsWrongFalsely : Prop := aesCountsRow.holds Try.pinned (OpenSpec.ofChange aesCountsWrong)

/-- 'aumbrylaw03.AesUnlike': WHATEVER THE INPUT: true; the input reads as it did. -/
def aesUnlikeSpec : ChangeSpec := { name := "aesUnlike", fn := fun _ => fun
  | [d1, d2, d3] => { results := [.lit (.bool true)], args := [d1, d2, d3] }
  | _ => none }
def aesUnlikeRow : OpenClaim := { program := "ytcajlmlblkdjoaa", sum := "fece63314d8e0f351c71f998e70662e136d7b8f4e403ddbad562a32c37200df1", func := "aumbry/aumbrylaw03.AesUnlike", spec := "aesUnlike", apart := false }
def AesUnlikeSaid : Prop := aesUnlikeRow.holds Try.pinned (OpenSpec.ofChange aesUnlikeSpec)

/-- ITS FALSE NEIGHBOUR: 'it returns false'. Refute it at one input. -/
def aesUnlikeWrong : ChangeSpec := { name := "aesUnlike", fn := fun _ => fun
  | [d1, d2, d3] => { results := [.lit (.bool false)], args := [d1, d2, d3] }
  | _ => none }
def AesUnlikeWrongFalsely : Prop := aesUnlikeRow.holds Try.pinned (OpenSpec.ofChange aesUnlikeWrong)

/- THE SECOND FORM. 'bulk': how many values and letters a reading holds, each counted each time it is reached (what is shared counts as often as it is met; a slice's spare places count too). A statement '..UptoSaid' is the law's where the arguments, and the package variables that the reading takes, are together of bulk at most 1048576: NARROWER than '..Said'. Prove '..Said' where nothing that the law and all that it calls make is longer than what came in: it says more and counts as full. Else prove '..UptoSaid'. A law counts once. -/
mutual
def uptoBulk {H : Type} : DataW H → Nat
  | .lit (.string bytes) => bytes.length + 1
  | .lit _ => 1
  | .nil => 1
  | .ptr d => uptoBulk d + 1
  | .slice elems spare => uptoBulkAll elems + uptoBulkAll spare + 1
  | .agg parts => uptoBulkAll parts + 1
  | .iface _ d => uptoBulk d + 1
  | .map entries => uptoBulkEntries entries + 1
  | .held _ => 1
def uptoBulkAll {H : Type} : List (DataW H) → Nat
  | [] => 0
  | d :: r => uptoBulk d + uptoBulkAll r
def uptoBulkEntries {H : Type} : List (Lit × DataW H) → Nat
  | [] => 0
  | x :: r => uptoBulkEntry x + uptoBulkEntries r
def uptoBulkEntry {H : Type} : Lit × DataW H → Nat
  | (.string bytes, d) => bytes.length + uptoBulk d + 1
  | (_, d) => uptoBulk d + 1
 end
def uptoSmall : (H : Type) → List (DataW H) → Bool := fun _ ds => decide (uptoBulkAll ds ≤ 1048576)
def OpenSpec.upto (s : _root_.Go.ChangeSpec) : _root_.Go.OpenSpec := { _root_.Go.OpenSpec.ofChange s with cond := some uptoSmall }

/-- 'aumbrylaw03.AesSums', WHERE WHAT IT READS IS OF BULK AT MOST 1048576: true; the input reads as it did. -/
def aesSumsUptoRow : OpenClaim := { program := "ytcajlmlblkdjoaa", sum := "fece63314d8e0f351c71f998e70662e136d7b8f4e403ddbad562a32c37200df1", func := "aumbry/aumbrylaw03.AesSums", spec := "aesSums", apart := false, narrowed := true }
def AesSumsUptoSaid : Prop := aesSumsUptoRow.holds Try.pinned (OpenSpec.upto aesSumsSpec)

/-- 'aumbrylaw03.AesBlocks', WHERE WHAT IT READS IS OF BULK AT MOST 1048576: true; the input reads as it did. -/
def aesBlocksUptoRow : OpenClaim := { program := "ytcajlmlblkdjoaa", sum := "fece63314d8e0f351c71f998e70662e136d7b8f4e403ddbad562a32c37200df1", func := "aumbry/aumbrylaw03.AesBlocks", spec := "aesBlocks", apart := false, narrowed := true }
def AesBlocksUptoSaid : Prop := aesBlocksUptoRow.holds Try.pinned (OpenSpec.upto aesBlocksSpec)

/-- 'aumbrylaw03.AesStreams', WHERE WHAT IT READS IS OF BULK AT MOST 1048576: true; the input reads as it did. -/
def aesStreamsUptoRow : OpenClaim := { program := "ytcajlmlblkdjoaa", sum := "fece63314d8e0f351c71f998e70662e136d7b8f4e403ddbad562a32c37200df1", func := "aumbry/aumbrylaw03.AesStreams", spec := "aesStreams", apart := false, narrowed := true }
def AesStreamsUptoSaid : Prop := aesStreamsUptoRow.holds Try.pinned (OpenSpec.upto aesStreamsSpec)

/-- 'aumbrylaw03.AesTwice', WHERE WHAT IT READS IS OF BULK AT MOST 1048576: true; the input reads as it did. -/
def aesTwiceUptoRow : OpenClaim := { program := "ytcajlmlblkdjoaa", sum := "fece63314d8e0f351c71f998e70662e136d7b8f4e403ddbad562a32c37200df1", func := "aumbry/aumbrylaw03.AesTwice", spec := "aesTwice", apart := false, narrowed := true }
def AesTwiceUptoSaid : Prop := aesTwiceUptoRow.holds Try.pinned (OpenSpec.upto aesTwiceSpec)

/-- 'aumbrylaw03.AesCounts', WHERE WHAT IT READS IS OF BULK AT MOST 1048576: true; the input reads as it did. -/
def aesCountsUptoRow : OpenClaim := { program := "ytcajlmlblkdjoaa", sum := "fece63314d8e0f351c71f998e70662e136d7b8f4e403ddbad562a32c37200df1", func := "aumbry/aumbrylaw03.AesCounts", spec := "aesCounts", apart := false, narrowed := true }
def AesCountsUptoSaid : Prop := aesCountsUptoRow.holds Try.pinned (OpenSpec.upto aesCountsSpec)

/-- 'aumbrylaw03.AesUnlike', WHERE WHAT IT READS IS OF BULK AT MOST 1048576: true; the input reads as it did. -/
def aesUnlikeUptoRow : OpenClaim := { program := "ytcajlmlblkdjoaa", sum := "fece63314d8e0f351c71f998e70662e136d7b8f4e403ddbad562a32c37200df1", func := "aumbry/aumbrylaw03.AesUnlike", spec := "aesUnlike", apart := false, narrowed := true }
def AesUnlikeUptoSaid : Prop := aesUnlikeUptoRow.holds Try.pinned (OpenSpec.upto aesUnlikeSpec)

end Rows
end Go.Proofs.Ytcajlmlblkdjoaa
