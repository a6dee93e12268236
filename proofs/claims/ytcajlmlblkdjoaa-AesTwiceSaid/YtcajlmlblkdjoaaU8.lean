/- Rows of bytes in blocks that are known whole. -/
import Derived.Test.YtcajlmlblkdjoaaBlk
import Derived.Test.YtcajlmlblkdjoaaPut
namespace Go.Proofs.Ytcajlmlblkdjoaa
open Go.RowKit

def u8A (bs : List UInt8) : Array Value := (Lib.byteCells bs).toArray
theorem u8A_size (bs : List UInt8) : (u8A bs).size = bs.length := by simp [u8A, Lib.byteCells]
theorem u8A_one (bs : List UInt8) : (u8A bs).all (·.oneCell') = true := by simp [u8A, Lib.byteCells, Value.oneCell']
theorem u8A_get {bs : List UInt8} {i : Nat} (h : i < bs.length) : ∃ v, (u8A bs)[i]? = some v := ⟨.int .u8 (bs[i].toNat : Int), by simp only [u8A, Lib.byteCells, List.getElem?_toArray, List.getElem?_map, List.getElem?_eq_getElem h, Option.map_some]⟩
theorem u8A_set (bs : List UInt8) (i : Nat) (x : UInt8) : (u8A bs).setIfInBounds i (.int .u8 (x.toNat : Int)) = u8A (bs.set i x) := by
  simp [u8A, Lib.byteCells, List.map_set]
def padB (k : Nat) (bs : List UInt8) : List UInt8 := bs ++ List.replicate (k - bs.length) 0
theorem padB_len {k : Nat} {bs : List UInt8} (h : bs.length ≤ k) : (padB k bs).length = k := by simp [padB]; omega
theorem padB_full {k : Nat} {bs : List UInt8} (h : bs.length = k) : padB k bs = bs := by simp [padB, h]
theorem padB_set {k : Nat} {bs : List UInt8} (h : bs.length < k) (x : UInt8) : (padB k bs).set bs.length x = padB k (bs ++ [x]) := by
  unfold padB
  rw [List.set_append_right _ _ (Nat.le_refl _), Nat.sub_self, List.length_append, List.length_singleton]
  obtain ⟨q, hq⟩ : ∃ q, k - bs.length = q + 1 := ⟨k - bs.length - 1, by omega⟩
  rw [hq, List.replicate_succ, List.set_cons_zero, show k - (bs.length + 1) = q by omega, List.append_assoc]
  rfl
theorem Blk.byte {w : World} {g n k : Nat} {bs : List UInt8} {T : TypeId} (h : Blk w g (u8A (padB k bs)) T) (hn : bs.length = n) (hk : n < k) {x : Int} {y : UInt8} (hx : x = (y.toNat : Int)) : Blk (w.setCell ⟨g, n, none⟩ (.int .u8 x)) g (u8A (padB k (bs ++ [y]))) T := by
  subst hn hx
  have := h.set bs.length (.int .u8 (y.toNat : Int))
  rwa [u8A_set, padB_set hk] at this

theorem wpList_store_blkTo {P : Program} {ops : Array Oper} {rest : List Oper} {o : Oper} {a : Act} {w : World} {Q : Exit → Act → World → Prop} (hgd : o.guard = none) (ty : TypeId) (x y : Operand) (ho : o.op = .store ty x y)
    (hd : o.dst = none) (g : Nat) (cells : Array Value) (hx : a.eval x = .pointer (some ⟨g, 0, none⟩)) (hy : a.eval y = .agg cells)
    (t : TypeId) (old : Array Value) (hg : Blk w g old t) (hi : (P.info? ty).map (·.size) = some cells.size)
    (hold : old.size = cells.size) (h1 : cells.all (·.oneCell') = true)
    (h : wpList P ops Q rest a (w.setRow g cells)) : wpList P ops Q (o :: rest) a w :=
  wpList_store_row hgd ty x y ho g cells hx hy t old hg hi hold h1 (by rw [hd]; exact h)
theorem sizeByte' : (Try.prog.info? 5).map (·.size) = some 1 := by kernel_rfl
theorem store_new {W w w2 : World} {zs cs : Array Value} {T : TypeId} (hw : (w.alloc (.cells zs T)).setRow w.heap.size cs = w2) (hb : Below W.heap.size W w) : Blk w2 w.heap.size cs T ∧ Below W.heap.size W w2 := by
  subst hw
  exact ⟨(Blk.new w zs T).row _, below_row (hb.alloc hb.size _) (by have := hb.size; simp; omega) hb.size _⟩

end Go.Proofs.Ytcajlmlblkdjoaa
