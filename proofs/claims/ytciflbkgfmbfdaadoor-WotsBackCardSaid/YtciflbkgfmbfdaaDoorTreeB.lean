/- The document's own nodes: their texts, their hashes. The document's own leaf; its cuts of hashes and of bytes. The program's tree of hashes: leaves, nodes, their texts. -/
import Derived.Test.YtciflbkgfmbfdaaDoorTreeA
import Derived.Test.YtciflbkgfmbfdaaDoorRShort
import Derived.StillTailTactics
import Derived.Deep.CutRange
import Derived.Deep.MidRow
import Derived.Test.YtciflbkgfmbfdaaDoorShaD
namespace Go.Proofs.YtciflbkgfmbfdaaDoor
open Go.RowKit

theorem rd_of_blk {w : World} {g : Nat} {l : List UInt8} {T : TypeId} (h : Blk w g (u8A l) T) : Rd w w.heap.size (some ⟨g, 0, none⟩) l := .inr ⟨g, 0, rfl, h.lt, fun i hi => by
  rw [Nat.zero_add, h.byteAt hi]
  simp [List.getD_eq_getElem?_getD, hi]⟩
/-- Two slices in a block of their own, as rows. -/
theorem rdr_two (w : World) (A B : Option Addr) {n m c e : Nat} {l k : List UInt8} (hl : l.length = n) (hc : n ≤ c) (hcm : c ≤ maxLen) (hk : k.length = m) (he : m ≤ e) (hem : e ≤ maxLen) (h1 : Rd w w.heap.size A l) (h2 : Rd w w.heap.size B k) :
    RdR (w.alloc (.cells #[.slice A n c, .slice B m e] 24)) (w.alloc (.cells #[.slice A n c, .slice B m e] 24)).heap.size (some ⟨w.heap.size, 0, none⟩) [l, k] := by
  subst hl hk
  have hal : Below w.heap.size w (w.alloc (.cells #[.slice A l.length c, .slice B k.length e] 24)) := (Below.refl _ _).alloc (Nat.le_refl _) _
  have hblk := Blk.new w #[.slice A l.length c, .slice B k.length e] 24
  refine .inr ⟨w.heap.size, 0, rfl, hblk.lt, fun i hi => ?_⟩
  rw [Nat.zero_add]
  match i, hi with
  | 0, _ => exact ⟨A, c, hblk.cell 0, hc, hcm, (h1.below hal (Nat.le_refl _)).more hal.size⟩
  | 1, _ => exact ⟨B, e, hblk.cell 1, he, hem, (h2.below hal (Nat.le_refl _)).more hal.size⟩
/-- A node's text: the tag and two hashes. -/
def nodeT (a b : List UInt8) : List UInt8 := netsL [[110, 111, 100, 101], a, b]
def nodeH (a b : List UInt8) : List UInt8 := shaL (nodeT a b)
theorem nodeT_len (a b : List UInt8) (ha : a.length = 32) (hb : b.length = 32) : (nodeT a b).length ≤ 1000000 :=
  Nat.le_trans (nets_short [[110, 111, 100, 101], a, b] (by simp) (by
    intro r hr
    simp at hr
    rcases hr with rfl | rfl | rfl
    · decide
    · omega
    · omega)) (by omega)
theorem range_of_blk {w : World} {g : Nat} {l : List UInt8} {T : TypeId} (h : Blk w g (u8A l) T) : w.rangeAt g 0 (Lib.byteCells l) := fun j v hv => by
  rw [Nat.zero_add, h.cell j]
  simpa [u8A] using hv
end Go.Proofs.YtciflbkgfmbfdaaDoor
namespace Go.Proofs.YtciflbkgfmbfdaaDoor
open Go.RowKit

/-- One slice in a block of its own, as a row. -/
theorem rdr_leaf (w : World) (A : Option Addr) {n c : Nat} {l : List UInt8} (hl : l.length = n) (hc : n ≤ c) (hcm : c ≤ maxLen) (h1 : Rd w w.heap.size A l) :
    RdR (w.alloc (.cells #[.slice A n c] 24)) (w.alloc (.cells #[.slice A n c] 24)).heap.size (some ⟨w.heap.size, 0, none⟩) [l] := by
  subst hl
  have hal : Below w.heap.size w (w.alloc (.cells #[.slice A l.length c] 24)) := (Below.refl _ _).alloc (Nat.le_refl _) _
  have hblk := Blk.new w #[.slice A l.length c] 24
  refine .inr ⟨w.heap.size, 0, rfl, hblk.lt, fun i hi => ?_⟩
  rw [Nat.zero_add]
  match i, hi with
  | 0, _ => exact ⟨A, c, hblk.cell 0, hc, hcm, (h1.below hal (Nat.le_refl _)).more hal.size⟩
/-- A leaf's hash. -/
def leafH (b : List UInt8) : List UInt8 := shaL (netsL [[108, 101, 97, 102], b])
theorem leafH_len (b : List UInt8) : (leafH b).length = 32 := outTo_len _ 8 (by omega)
end Go.Proofs.YtciflbkgfmbfdaaDoor
namespace Go.Proofs.YtciflbkgfmbfdaaDoor
open Go.RowKit

theorem nodeT_len8 (a b : List UInt8) (ha : a.length = 32) (hb : b.length = 32) : (nodeT a b).length ≤ 800000 :=
  Nat.le_trans (nets_short [[110, 111, 100, 101], a, b] (by simp) (by
    intro r hr
    simp at hr
    rcases hr with rfl | rfl | rfl
    · decide
    · omega
    · omega)) (by omega)
end Go.Proofs.YtciflbkgfmbfdaaDoor
