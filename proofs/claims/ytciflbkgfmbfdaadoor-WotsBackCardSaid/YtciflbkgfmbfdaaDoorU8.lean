/- Rows of bytes in blocks that are known whole. A row of bytes in the midst of a block of bytes: read, written. -/
import Derived.Test.YtciflbkgfmbfdaaDoorBlk
import Derived.Test.YtciflbkgfmbfdaaDoorPut
import Derived.Deep.MidRow
namespace Go.Proofs.YtciflbkgfmbfdaaDoor
open Go.RowKit

def u8A (bs : List UInt8) : Array Value := (Lib.byteCells bs).toArray
theorem u8A_size (bs : List UInt8) : (u8A bs).size = bs.length := by simp [u8A, Lib.byteCells]
theorem u8A_one (bs : List UInt8) : (u8A bs).all (·.oneCell') = true := by simp [u8A, Lib.byteCells, Value.oneCell']
theorem u8A_get {bs : List UInt8} {i : Nat} (h : i < bs.length) : ∃ v, (u8A bs)[i]? = some v := ⟨.int .u8 (bs[i].toNat : Int), by simp only [u8A, Lib.byteCells, List.getElem?_toArray, List.getElem?_map, List.getElem?_eq_getElem h, Option.map_some]⟩
theorem u8A_set (bs : List UInt8) (i : Nat) (x : UInt8) : (u8A bs).setIfInBounds i (.int .u8 (x.toNat : Int)) = u8A (bs.set i x) := by
  simp [u8A, Lib.byteCells, List.map_set]
def padB (k : Nat) (bs : List UInt8) : List UInt8 := bs ++ List.replicate (k - bs.length) 0
theorem padB_len {k : Nat} {bs : List UInt8} (h : bs.length ≤ k) : (padB k bs).length = k := by simp [padB]; omega
theorem padB_full {k : Nat} {bs : List UInt8} (h : bs.length = k) : padB k bs = bs := by simp [padB, h]
theorem padB_set {k : Nat} {bs : List UInt8} (h : bs.length < k) (x : UInt8) : (padB k bs).set bs.length x = padB k (bs ++ [x]) := by
  unfold padB
  rw [List.set_append_right _ _ (Nat.le_refl _), Nat.sub_self, List.length_append, List.length_singleton]
  obtain ⟨q, hq⟩ : ∃ q, k - bs.length = q + 1 := ⟨k - bs.length - 1, by omega⟩
  rw [hq, List.replicate_succ, List.set_cons_zero, show k - (bs.length + 1) = q by omega, List.append_assoc]
  rfl
theorem Blk.byte {w : World} {g n k : Nat} {bs : List UInt8} {T : TypeId} (h : Blk w g (u8A (padB k bs)) T) (hn : bs.length = n) (hk : n < k) {x : Int} {y : UInt8} (hx : x = (y.toNat : Int)) : Blk (w.setCell ⟨g, n, none⟩ (.int .u8 x)) g (u8A (padB k (bs ++ [y]))) T := by
  subst hn hx
  have := h.set bs.length (.int .u8 (y.toNat : Int))
  rwa [u8A_set, padB_set hk] at this

theorem wpList_store_blkTo {P : Program} {ops : Array Oper} {rest : List Oper} {o : Oper} {a : Act} {w : World} {Q : Exit → Act → World → Prop} (hgd : o.guard = none) (ty : TypeId) (x y : Operand) (ho : o.op = .store ty x y)
    (hd : o.dst = none) (g : Nat) (cells : Array Value) (hx : a.eval x = .pointer (some ⟨g, 0, none⟩)) (hy : a.eval y = .agg cells)
    (t : TypeId) (old : Array Value) (hg : Blk w g old t) (hi : (P.info? ty).map (·.size) = some cells.size)
    (hold : old.size = cells.size) (h1 : cells.all (·.oneCell') = true)
    (h : wpList P ops Q rest a (w.setRow g cells)) : wpList P ops Q (o :: rest) a w :=
  wpList_store_row hgd ty x y ho g cells hx hy t old hg hi hold h1 (by rw [hd]; exact h)
theorem sizeByte' : (Tryd.prog.info? 5).map (·.size) = some 1 := by kernel_rfl
theorem store_new {W w w2 : World} {zs cs : Array Value} {T : TypeId} (hw : (w.alloc (.cells zs T)).setRow w.heap.size cs = w2) (hb : Below W.heap.size W w) : Blk w2 w.heap.size cs T ∧ Below W.heap.size W w2 := by
  subst hw
  exact ⟨(Blk.new w zs T).row _, below_row (hb.alloc hb.size _) (by have := hb.size; simp; omega) hb.size _⟩

end Go.Proofs.YtciflbkgfmbfdaaDoor
namespace Go.Proofs.YtciflbkgfmbfdaaDoor
open Go.RowKit

theorem u8A_at {bs : List UInt8} {i : Nat} (h : i < bs.length) : (u8A bs)[i]? = some (.int .u8 ((bs.getD i 0).toNat : Int)) := by
  simp [u8A, Lib.byteCells, h, List.getD_eq_getElem?_getD]
theorem Blk.byteAt {w : World} {g : Nat} {bs : List UInt8} {T : TypeId} (h : Blk w g (u8A bs) T) {i : Nat} (hi : i < bs.length) : w.cell? ⟨g, i, none⟩ = some (.int .u8 ((bs.getD i 0).toNat : Int)) := (h.cell i).trans (u8A_at hi)
theorem Blk.put {w : World} {g : Nat} {bs : List UInt8} {T : TypeId} (h : Blk w g (u8A bs) T) (i : Nat) {x : Int} {y : UInt8} (hx : x = (y.toNat : Int)) : Blk (w.setCell ⟨g, i, none⟩ (.int .u8 x)) g (u8A (bs.set i y)) T := by
  subst hx
  have := h.set i (.int .u8 (y.toNat : Int))
  rwa [u8A_set] at this
theorem set_parts (bs : List UInt8) (o : Nat) (x : UInt8) (l : List UInt8) (h : o + (x :: l).length ≤ bs.length) : (bs.set o x).take (o + 1) ++ l ++ (bs.set o x).drop (o + 1 + l.length) = bs.take o ++ (x :: l) ++ bs.drop (o + (x :: l).length) := by
  simp only [List.length_cons] at h ⊢
  have h1 : (bs.set o x).take (o + 1) = bs.take o ++ [x] := by
    rw [List.take_succ_eq_append_getElem (by simp; omega), List.take_set_of_le (Nat.le_refl _)]
    simp
  have h2 : (bs.set o x).drop (o + 1 + l.length) = bs.drop (o + (l.length + 1)) := by
    rw [List.drop_set_of_lt (by omega)]
    congr 1
    omega
  rw [h1, h2]
  simp
theorem Blk.putAll {g : Nat} {T : TypeId} : ∀ (l : List UInt8) (o : Nat) {w : World} {bs : List UInt8}, Blk w g (u8A bs) T → o + l.length ≤ bs.length → Blk (w.setCells g o (Lib.byteCells l)) g (u8A (bs.take o ++ l ++ bs.drop (o + l.length))) T
  | [], o, w, bs, h, _ => by simpa [World.setCells, Lib.byteCells] using h
  | x :: l, o, w, bs, h, hl => by
    have h1 := h.put o (x := (x.toNat : Int)) (y := x) rfl
    have h2 := Blk.putAll l (o + 1) h1 (by simp at hl ⊢; omega)
    rw [set_parts bs o x l hl] at h2
    exact h2
theorem padB_splice {k : Nat} {l m : List UInt8} (_ : l.length + m.length ≤ k) : (padB k l).take l.length ++ m ++ (padB k l).drop (l.length + m.length) = padB k (l ++ m) := by
  unfold padB
  rw [List.take_append_of_le_length (Nat.le_refl _), List.take_length, List.drop_append, List.drop_of_length_le (by omega), List.nil_append, List.length_append, show l.length + m.length - l.length = m.length by omega, List.drop_replicate, show k - l.length - m.length = k - (l.length + m.length) by omega]
theorem Blk.row_ {w : World} {g k n : Nat} {l m : List UInt8} {T : TypeId} (h : Blk w g (u8A (padB k l)) T) (hn : l.length = n) (hm : n + m.length ≤ k) : Blk (w.setCells g n (Lib.byteCells m)) g (u8A (padB k (l ++ m))) T := by
  subst hn
  have := Blk.putAll m l.length h (by rw [padB_len (by omega)]; exact hm)
  rwa [padB_splice hm] at this
theorem Blk.range {w : World} {g : Nat} {bs : List UInt8} {T : TypeId} (h : Blk w g (u8A bs) T) (o n : Nat) : w.rangeAt g o (Lib.byteCells ((bs.drop o).take n)) := fun j v hv => by
  rw [h.cell (o + j)]
  simp only [u8A, Lib.byteCells, List.getElem?_toArray, List.getElem?_map] at hv ⊢
  rw [List.getElem?_take] at hv
  split at hv
  · rwa [List.getElem?_drop] at hv
  · simp at hv
theorem Blk.there {w : World} {g : Nat} {bs : List UInt8} {T : TypeId} (h : Blk w g (u8A bs) T) (o n : Nat) (hn : o + n ≤ bs.length) : w.there g o n := fun j hj =>
  ⟨by rw [h.byteAt (i := o + j) (by omega)]; rfl, h.frozen _⟩
theorem below_cells {B : Nat} {a : World} {g : Nat} (hg : B ≤ g) : ∀ (vs : List Value) (o : Nat) {w : World}, Below B a w → Below B a (w.setCells g o vs)
  | [], _, _, h => h
  | v :: r, o, _, h => below_cells hg r (o + 1) (h.setCell hg v)
theorem Blk.otherCells {g' : Nat} {cs : Array Value} {T : TypeId} {g : Nat} (hne : g' ≠ g) : ∀ (vs : List Value) (o : Nat) {w : World}, Blk w g' cs T → Blk (w.setCells g o vs) g' cs T
  | [], _, _, h => h
  | v :: r, o, _, h => Blk.otherCells hne r (o + 1) (h.other hne v)
theorem cells_size {g : Nat} : ∀ (vs : List Value) (o : Nat) (w : World), (w.setCells g o vs).heap.size = w.heap.size
  | [], _, _ => rfl
  | v :: r, o, w => by
    show ((w.setCell ⟨g, o, none⟩ v).setCells g (o + 1) r).heap.size = _
    rw [cells_size r (o + 1)]; simp
theorem one_cells (l : List UInt8) : ∀ v ∈ Lib.byteCells l, v.oneCell' = true := by
  intro v hv
  obtain ⟨x, _, rfl⟩ := List.mem_map.1 hv
  rfl
end Go.Proofs.YtciflbkgfmbfdaaDoor
