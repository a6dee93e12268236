/- Blocks of memory that are known whole; rows of words in them. -/
import Derived.Test.YtciflbkgfmbfdaaDoorAppend
import Derived.Lib.SmallJoins
namespace Go.Proofs.YtciflbkgfmbfdaaDoor
open Go.RowKit

def Blk (w : World) (g : Nat) (cs : Array Value) (T : TypeId) : Prop := w.heap[g]? = some (.cells cs T (0, 0))
theorem Blk.lt {w : World} {g : Nat} {cs : Array Value} {T : TypeId} (h : Blk w g cs T) : g < w.heap.size := (Array.getElem?_eq_some_iff.1 h).1
theorem Blk.cell {w : World} {g : Nat} {cs : Array Value} {T : TypeId} (h : Blk w g cs T) (i : Nat) : w.cell? ⟨g, i, none⟩ = cs[i]? := Lib.cell_of_heap h i
theorem Blk.frozen {w : World} {g : Nat} {cs : Array Value} {T : TypeId} (h : Blk w g cs T) (i : Nat) : w.frozen? ⟨g, i, none⟩ = false := Lib.frozen_of_heap h i
theorem Blk.set {w : World} {g : Nat} {cs : Array Value} {T : TypeId} (h : Blk w g cs T) (i : Nat) (v : Value) : Blk (w.setCell ⟨g, i, none⟩ v) g (cs.setIfInBounds i v) T := Go.Joins.block_setCell h v
theorem Blk.other {w : World} {g : Nat} {cs : Array Value} {T : TypeId} (h : Blk w g cs T) {p : Addr} (hp : g ≠ p.block) (v : Value) : Blk (w.setCell p v) g cs T := (Below.heap_setCell w p v g hp).trans h
theorem Blk.alloc {w : World} {g : Nat} {cs : Array Value} {T : TypeId} (h : Blk w g cs T) (o : Obj) : Blk (w.alloc o) g cs T := (Below.heap_alloc w o g h.lt).trans h
theorem Blk.below {w w' : World} {g B : Nat} {cs : Array Value} {T : TypeId} (h : Blk w g cs T) (hb : Below B w w') (hg : g < B) : Blk w' g cs T := (hb.block g hg).trans h
theorem Blk.grown {w w' : World} {g : Nat} {cs : Array Value} {T : TypeId} {row : Option Nat} (h : Blk w g cs T) (hg : w.grownBy w' row) (hr : some g ≠ row) : Blk w' g cs T := (hg.block g h.lt hr).trans h
theorem Blk.drewN {w : World} {g : Nat} {cs : Array Value} {T : TypeId} (h : Blk w g cs T) (n : Nat) : Blk (w.drewN n) g cs T := h
theorem Blk.new (w : World) (cs : Array Value) (T : TypeId) : Blk (w.alloc (.cells cs T)) w.heap.size cs T := heap_alloc_new _ _

theorem Blk.row {w : World} {g : Nat} {old : Array Value} {T : TypeId} (h : Blk w g old T) (cs : Array Value) : Blk (w.setRow g cs) g cs T := setRow_heap _ _ _ _ _ _ h
theorem Blk.rowOther {w : World} {g g' : Nat} {cs : Array Value} {T : TypeId} (h : Blk w g cs T) (hne : g' ≠ g) (cs' : Array Value) : Blk (w.setRow g' cs') g cs T := (setRow_other _ _ _ _ (Ne.symm hne)).trans h
theorem setRow_grown (w : World) (g : Nat) (cs : Array Value) : w.grownBy (w.setRow g cs) (some g) := ⟨rfl, rfl, rfl, by simp, fun j _ hj => setRow_other _ _ _ _ (fun e => hj (by rw [e]))⟩
theorem below_row {B : Nat} {a w : World} (h : Below B a w) (hB : B ≤ w.heap.size) {g : Nat} (hg : B ≤ g) (cs : Array Value) : Below B a (w.setRow g cs) := h.grown (setRow_grown w g cs) hB (fun k hk => by injection hk with hk; omega)
section
variable {P : Program}
theorem wpList_load_blk {ops : Array Oper} {rest : List Oper} {o : Oper} {a : Act} {w : World} {Q : Exit → Act → World → Prop} (hgd : o.guard = none) (ty : TypeId) (x : Operand) (ho : o.op = .load ty x)
    (g : Nat) (hx : a.eval x = .pointer (some ⟨g, 0, none⟩)) (t : TypeId) (cs : Array Value) (d : TypeDesc) (hg : Blk w g cs t)
    (hu : P.underlying ty = some d) (hd : (match d with | .struct _ | .array _ _ => true | _ => false) = true) (hi : (P.info? ty).map (·.size) = some cs.size)
    (h : wpList P ops Q rest (a.put o.dst (.agg cs)) w) : wpList P ops Q (o :: rest) a w :=
  wpList_load_row hgd ty x ho g hx t cs (0, 0) d hg hu hd hi h
theorem wpList_store_blk {ops : Array Oper} {rest : List Oper} {o : Oper} {a : Act} {w : World} {Q : Exit → Act → World → Prop} (hgd : o.guard = none) (ty : TypeId) (x y : Operand) (ho : o.op = .store ty x y)
    (g : Nat) (cells : Array Value) (hx : a.eval x = .pointer (some ⟨g, 0, none⟩)) (hy : a.eval y = .agg cells)
    (t : TypeId) (old : Array Value) (hg : Blk w g old t) (hi : (P.info? ty).map (·.size) = some cells.size)
    (hold : old.size = cells.size) (h1 : cells.all (·.oneCell') = true)
    (h : wpList P ops Q rest (a.put o.dst undef) (w.setRow g cells)) : wpList P ops Q (o :: rest) a w :=
  wpList_store_row hgd ty x y ho g cells hx hy t old hg hi hold h1 h
end

def u32A (ns : List Nat) : Array Value := (ns.map fun (x : Nat) => Value.int .u32 (x : Int)).toArray
theorem u32A_size (ns : List Nat) : (u32A ns).size = ns.length := by simp [u32A]
theorem u32A_one (ns : List Nat) : (u32A ns).all (·.oneCell') = true := by
  simp [u32A, Value.oneCell']
theorem u32A_get {ns : List Nat} {i : Nat} (h : i < ns.length) : (u32A ns)[i]? = some (.int .u32 (ns.getD i 0 : Nat)) := by
  simp [u32A, h, List.getD_eq_getElem?_getD]
theorem u32A_set (ns : List Nat) (i x : Nat) : (u32A ns).setIfInBounds i (.int .u32 (x : Int)) = u32A (ns.set i x) := by
  simp [u32A, List.map_set]
/-- Words from the left, noughts behind them up to k. -/
def padW (k : Nat) (ws : List Nat) : List Nat := ws ++ List.replicate (k - ws.length) 0
theorem padW_nil (k : Nat) : padW k [] = List.replicate k 0 := by simp [padW]
theorem padW_len {k : Nat} {ws : List Nat} (h : ws.length ≤ k) : (padW k ws).length = k := by simp [padW]; omega
theorem padW_full {k : Nat} {ws : List Nat} (h : ws.length = k) : padW k ws = ws := by simp [padW, h]
theorem padW_set {k : Nat} {ws : List Nat} (h : ws.length < k) (x : Nat) : (padW k ws).set ws.length x = padW k (ws ++ [x]) := by
  unfold padW
  rw [List.set_append_right _ _ (Nat.le_refl _), Nat.sub_self, List.length_append, List.length_singleton]
  obtain ⟨q, hq⟩ : ∃ q, k - ws.length = q + 1 := ⟨k - ws.length - 1, by omega⟩
  rw [hq, List.replicate_succ, List.set_cons_zero, show k - (ws.length + 1) = q by omega, List.append_assoc]
  rfl
theorem padW_get {k : Nat} {ws : List Nat} {i : Nat} (h : i < ws.length) : (padW k ws).getD i 0 = ws.getD i 0 := by
  unfold padW
  rw [List.getD_eq_getElem?_getD, List.getD_eq_getElem?_getD, List.getElem?_append_left h]
end Go.Proofs.YtciflbkgfmbfdaaDoor
