/- Blocks of memory that are known whole; rows of words in them. Rows of bytes in blocks that are known whole. A row of bytes in the midst of a block of bytes: read, written. Arguments that are byte slices, or slices of them, opened: they read as lists. Arguments that are arrays of bytes, opened: they read as lists. -/
import Derived.Test.YtkkokngdhhakdaaDoorMem
import Derived.Lib.SmallJoins
import Derived.Test.YtkkokngdhhakdaaDoorPut
import Derived.Deep.MidRow
import Derived.Test.YtkkokngdhhakdaaDoorProg
import Derived.ProofKit
import Derived.OpenShut
import Derived.Deep.Matrix
namespace Go.Proofs.YtkkokngdhhakdaaDoor
open Go.RowKit

def Blk (w : World) (g : Nat) (cs : Array Value) (T : TypeId) : Prop := w.heap[g]? = some (.cells cs T (0, 0))
theorem Blk.lt {w : World} {g : Nat} {cs : Array Value} {T : TypeId} (h : Blk w g cs T) : g < w.heap.size := (Array.getElem?_eq_some_iff.1 h).1
theorem Blk.cell {w : World} {g : Nat} {cs : Array Value} {T : TypeId} (h : Blk w g cs T) (i : Nat) : w.cell? ⟨g, i, none⟩ = cs[i]? := Lib.cell_of_heap h i
theorem Blk.frozen {w : World} {g : Nat} {cs : Array Value} {T : TypeId} (h : Blk w g cs T) (i : Nat) : w.frozen? ⟨g, i, none⟩ = false := Lib.frozen_of_heap h i
theorem Blk.set {w : World} {g : Nat} {cs : Array Value} {T : TypeId} (h : Blk w g cs T) (i : Nat) (v : Value) : Blk (w.setCell ⟨g, i, none⟩ v) g (cs.setIfInBounds i v) T := Go.Joins.block_setCell h v
theorem Blk.other {w : World} {g : Nat} {cs : Array Value} {T : TypeId} (h : Blk w g cs T) {p : Addr} (hp : g ≠ p.block) (v : Value) : Blk (w.setCell p v) g cs T := (Below.heap_setCell w p v g hp).trans h
theorem Blk.alloc {w : World} {g : Nat} {cs : Array Value} {T : TypeId} (h : Blk w g cs T) (o : Obj) : Blk (w.alloc o) g cs T := (Below.heap_alloc w o g h.lt).trans h
theorem Blk.below {w w' : World} {g B : Nat} {cs : Array Value} {T : TypeId} (h : Blk w g cs T) (hb : Below B w w') (hg : g < B) : Blk w' g cs T := (hb.block g hg).trans h
theorem Blk.grown {w w' : World} {g : Nat} {cs : Array Value} {T : TypeId} {row : Option Nat} (h : Blk w g cs T) (hg : w.grownBy w' row) (hr : some g ≠ row) : Blk w' g cs T := (hg.block g h.lt hr).trans h
theorem Blk.drewN {w : World} {g : Nat} {cs : Array Value} {T : TypeId} (h : Blk w g cs T) (n : Nat) : Blk (w.drewN n) g cs T := h
theorem Blk.new (w : World) (cs : Array Value) (T : TypeId) : Blk (w.alloc (.cells cs T)) w.heap.size cs T := heap_alloc_new _ _

theorem Blk.row {w : World} {g : Nat} {old : Array Value} {T : TypeId} (h : Blk w g old T) (cs : Array Value) : Blk (w.setRow g cs) g cs T := setRow_heap _ _ _ _ _ _ h
theorem Blk.rowOther {w : World} {g g' : Nat} {cs : Array Value} {T : TypeId} (h : Blk w g cs T) (hne : g' ≠ g) (cs' : Array Value) : Blk (w.setRow g' cs') g cs T := (setRow_other _ _ _ _ (Ne.symm hne)).trans h
theorem setRow_grown (w : World) (g : Nat) (cs : Array Value) : w.grownBy (w.setRow g cs) (some g) := ⟨rfl, rfl, rfl, by simp, fun j _ hj => setRow_other _ _ _ _ (fun e => hj (by rw [e]))⟩
theorem below_row {B : Nat} {a w : World} (h : Below B a w) (hB : B ≤ w.heap.size) {g : Nat} (hg : B ≤ g) (cs : Array Value) : Below B a (w.setRow g cs) := h.grown (setRow_grown w g cs) hB (fun k hk => by injection hk with hk; omega)
section
variable {P : Program}
theorem wpList_load_blk {ops : Array Oper} {rest : List Oper} {o : Oper} {a : Act} {w : World} {Q : Exit → Act → World → Prop} (hgd : o.guard = none) (ty : TypeId) (x : Operand) (ho : o.op = .load ty x)
    (g : Nat) (hx : a.eval x = .pointer (some ⟨g, 0, none⟩)) (t : TypeId) (cs : Array Value) (d : TypeDesc) (hg : Blk w g cs t)
    (hu : P.underlying ty = some d) (hd : (match d with | .struct _ | .array _ _ => true | _ => false) = true) (hi : (P.info? ty).map (·.size) = some cs.size)
    (h : wpList P ops Q rest (a.put o.dst (.agg cs)) w) : wpList P ops Q (o :: rest) a w :=
  wpList_load_row hgd ty x ho g hx t cs (0, 0) d hg hu hd hi h
theorem wpList_store_blk {ops : Array Oper} {rest : List Oper} {o : Oper} {a : Act} {w : World} {Q : Exit → Act → World → Prop} (hgd : o.guard = none) (ty : TypeId) (x y : Operand) (ho : o.op = .store ty x y)
    (g : Nat) (cells : Array Value) (hx : a.eval x = .pointer (some ⟨g, 0, none⟩)) (hy : a.eval y = .agg cells)
    (t : TypeId) (old : Array Value) (hg : Blk w g old t) (hi : (P.info? ty).map (·.size) = some cells.size)
    (hold : old.size = cells.size) (h1 : cells.all (·.oneCell') = true)
    (h : wpList P ops Q rest (a.put o.dst undef) (w.setRow g cells)) : wpList P ops Q (o :: rest) a w :=
  wpList_store_row hgd ty x y ho g cells hx hy t old hg hi hold h1 h
end

def u32A (ns : List Nat) : Array Value := (ns.map fun (x : Nat) => Value.int .u32 (x : Int)).toArray
theorem u32A_size (ns : List Nat) : (u32A ns).size = ns.length := by simp [u32A]
theorem u32A_one (ns : List Nat) : (u32A ns).all (·.oneCell') = true := by
  simp [u32A, Value.oneCell']
theorem u32A_get {ns : List Nat} {i : Nat} (h : i < ns.length) : (u32A ns)[i]? = some (.int .u32 (ns.getD i 0 : Nat)) := by
  simp [u32A, h, List.getD_eq_getElem?_getD]
theorem u32A_set (ns : List Nat) (i x : Nat) : (u32A ns).setIfInBounds i (.int .u32 (x : Int)) = u32A (ns.set i x) := by
  simp [u32A, List.map_set]
/-- Words from the left, noughts behind them up to k. -/
def padW (k : Nat) (ws : List Nat) : List Nat := ws ++ List.replicate (k - ws.length) 0
theorem padW_nil (k : Nat) : padW k [] = List.replicate k 0 := by simp [padW]
theorem padW_len {k : Nat} {ws : List Nat} (h : ws.length ≤ k) : (padW k ws).length = k := by simp [padW]; omega
theorem padW_full {k : Nat} {ws : List Nat} (h : ws.length = k) : padW k ws = ws := by simp [padW, h]
theorem padW_set {k : Nat} {ws : List Nat} (h : ws.length < k) (x : Nat) : (padW k ws).set ws.length x = padW k (ws ++ [x]) := by
  unfold padW
  rw [List.set_append_right _ _ (Nat.le_refl _), Nat.sub_self, List.length_append, List.length_singleton]
  obtain ⟨q, hq⟩ : ∃ q, k - ws.length = q + 1 := ⟨k - ws.length - 1, by omega⟩
  rw [hq, List.replicate_succ, List.set_cons_zero, show k - (ws.length + 1) = q by omega, List.append_assoc]
  rfl
theorem padW_get {k : Nat} {ws : List Nat} {i : Nat} (h : i < ws.length) : (padW k ws).getD i 0 = ws.getD i 0 := by
  unfold padW
  rw [List.getD_eq_getElem?_getD, List.getD_eq_getElem?_getD, List.getElem?_append_left h]
end Go.Proofs.YtkkokngdhhakdaaDoor
namespace Go.Proofs.YtkkokngdhhakdaaDoor
open Go.RowKit

def u8A (bs : List UInt8) : Array Value := (Lib.byteCells bs).toArray
theorem u8A_size (bs : List UInt8) : (u8A bs).size = bs.length := by simp [u8A, Lib.byteCells]
theorem u8A_one (bs : List UInt8) : (u8A bs).all (·.oneCell') = true := by simp [u8A, Lib.byteCells, Value.oneCell']
theorem u8A_get {bs : List UInt8} {i : Nat} (h : i < bs.length) : ∃ v, (u8A bs)[i]? = some v := ⟨.int .u8 (bs[i].toNat : Int), by simp only [u8A, Lib.byteCells, List.getElem?_toArray, List.getElem?_map, List.getElem?_eq_getElem h, Option.map_some]⟩
theorem u8A_set (bs : List UInt8) (i : Nat) (x : UInt8) : (u8A bs).setIfInBounds i (.int .u8 (x.toNat : Int)) = u8A (bs.set i x) := by
  simp [u8A, Lib.byteCells, List.map_set]
def padB (k : Nat) (bs : List UInt8) : List UInt8 := bs ++ List.replicate (k - bs.length) 0
theorem padB_len {k : Nat} {bs : List UInt8} (h : bs.length ≤ k) : (padB k bs).length = k := by simp [padB]; omega
theorem padB_full {k : Nat} {bs : List UInt8} (h : bs.length = k) : padB k bs = bs := by simp [padB, h]
theorem padB_set {k : Nat} {bs : List UInt8} (h : bs.length < k) (x : UInt8) : (padB k bs).set bs.length x = padB k (bs ++ [x]) := by
  unfold padB
  rw [List.set_append_right _ _ (Nat.le_refl _), Nat.sub_self, List.length_append, List.length_singleton]
  obtain ⟨q, hq⟩ : ∃ q, k - bs.length = q + 1 := ⟨k - bs.length - 1, by omega⟩
  rw [hq, List.replicate_succ, List.set_cons_zero, show k - (bs.length + 1) = q by omega, List.append_assoc]
  rfl
theorem Blk.byte {w : World} {g n k : Nat} {bs : List UInt8} {T : TypeId} (h : Blk w g (u8A (padB k bs)) T) (hn : bs.length = n) (hk : n < k) {x : Int} {y : UInt8} (hx : x = (y.toNat : Int)) : Blk (w.setCell ⟨g, n, none⟩ (.int .u8 x)) g (u8A (padB k (bs ++ [y]))) T := by
  subst hn hx
  have := h.set bs.length (.int .u8 (y.toNat : Int))
  rwa [u8A_set, padB_set hk] at this

theorem wpList_store_blkTo {P : Program} {ops : Array Oper} {rest : List Oper} {o : Oper} {a : Act} {w : World} {Q : Exit → Act → World → Prop} (hgd : o.guard = none) (ty : TypeId) (x y : Operand) (ho : o.op = .store ty x y)
    (hd : o.dst = none) (g : Nat) (cells : Array Value) (hx : a.eval x = .pointer (some ⟨g, 0, none⟩)) (hy : a.eval y = .agg cells)
    (t : TypeId) (old : Array Value) (hg : Blk w g old t) (hi : (P.info? ty).map (·.size) = some cells.size)
    (hold : old.size = cells.size) (h1 : cells.all (·.oneCell') = true)
    (h : wpList P ops Q rest a (w.setRow g cells)) : wpList P ops Q (o :: rest) a w :=
  wpList_store_row hgd ty x y ho g cells hx hy t old hg hi hold h1 (by rw [hd]; exact h)
theorem sizeByte' : (Tryd.prog.info? 5).map (·.size) = some 1 := by kernel_rfl
theorem store_new {W w w2 : World} {zs cs : Array Value} {T : TypeId} (hw : (w.alloc (.cells zs T)).setRow w.heap.size cs = w2) (hb : Below W.heap.size W w) : Blk w2 w.heap.size cs T ∧ Below W.heap.size W w2 := by
  subst hw
  exact ⟨(Blk.new w zs T).row _, below_row (hb.alloc hb.size _) (by have := hb.size; simp; omega) hb.size _⟩

end Go.Proofs.YtkkokngdhhakdaaDoor
namespace Go.Proofs.YtkkokngdhhakdaaDoor
open Go.RowKit

theorem u8A_at {bs : List UInt8} {i : Nat} (h : i < bs.length) : (u8A bs)[i]? = some (.int .u8 ((bs.getD i 0).toNat : Int)) := by
  simp [u8A, Lib.byteCells, h, List.getD_eq_getElem?_getD]
theorem Blk.byteAt {w : World} {g : Nat} {bs : List UInt8} {T : TypeId} (h : Blk w g (u8A bs) T) {i : Nat} (hi : i < bs.length) : w.cell? ⟨g, i, none⟩ = some (.int .u8 ((bs.getD i 0).toNat : Int)) := (h.cell i).trans (u8A_at hi)
theorem Blk.put {w : World} {g : Nat} {bs : List UInt8} {T : TypeId} (h : Blk w g (u8A bs) T) (i : Nat) {x : Int} {y : UInt8} (hx : x = (y.toNat : Int)) : Blk (w.setCell ⟨g, i, none⟩ (.int .u8 x)) g (u8A (bs.set i y)) T := by
  subst hx
  have := h.set i (.int .u8 (y.toNat : Int))
  rwa [u8A_set] at this
theorem set_parts (bs : List UInt8) (o : Nat) (x : UInt8) (l : List UInt8) (h : o + (x :: l).length ≤ bs.length) : (bs.set o x).take (o + 1) ++ l ++ (bs.set o x).drop (o + 1 + l.length) = bs.take o ++ (x :: l) ++ bs.drop (o + (x :: l).length) := by
  simp only [List.length_cons] at h ⊢
  have h1 : (bs.set o x).take (o + 1) = bs.take o ++ [x] := by
    rw [List.take_succ_eq_append_getElem (by simp; omega), List.take_set_of_le (Nat.le_refl _)]
    simp
  have h2 : (bs.set o x).drop (o + 1 + l.length) = bs.drop (o + (l.length + 1)) := by
    rw [List.drop_set_of_lt (by omega)]
    congr 1
    omega
  rw [h1, h2]
  simp
theorem Blk.putAll {g : Nat} {T : TypeId} : ∀ (l : List UInt8) (o : Nat) {w : World} {bs : List UInt8}, Blk w g (u8A bs) T → o + l.length ≤ bs.length → Blk (w.setCells g o (Lib.byteCells l)) g (u8A (bs.take o ++ l ++ bs.drop (o + l.length))) T
  | [], o, w, bs, h, _ => by simpa [World.setCells, Lib.byteCells] using h
  | x :: l, o, w, bs, h, hl => by
    have h1 := h.put o (x := (x.toNat : Int)) (y := x) rfl
    have h2 := Blk.putAll l (o + 1) h1 (by simp at hl ⊢; omega)
    rw [set_parts bs o x l hl] at h2
    exact h2
theorem padB_splice {k : Nat} {l m : List UInt8} (_ : l.length + m.length ≤ k) : (padB k l).take l.length ++ m ++ (padB k l).drop (l.length + m.length) = padB k (l ++ m) := by
  unfold padB
  rw [List.take_append_of_le_length (Nat.le_refl _), List.take_length, List.drop_append, List.drop_of_length_le (by omega), List.nil_append, List.length_append, show l.length + m.length - l.length = m.length by omega, List.drop_replicate, show k - l.length - m.length = k - (l.length + m.length) by omega]
theorem Blk.row_ {w : World} {g k n : Nat} {l m : List UInt8} {T : TypeId} (h : Blk w g (u8A (padB k l)) T) (hn : l.length = n) (hm : n + m.length ≤ k) : Blk (w.setCells g n (Lib.byteCells m)) g (u8A (padB k (l ++ m))) T := by
  subst hn
  have := Blk.putAll m l.length h (by rw [padB_len (by omega)]; exact hm)
  rwa [padB_splice hm] at this
theorem Blk.range {w : World} {g : Nat} {bs : List UInt8} {T : TypeId} (h : Blk w g (u8A bs) T) (o n : Nat) : w.rangeAt g o (Lib.byteCells ((bs.drop o).take n)) := fun j v hv => by
  rw [h.cell (o + j)]
  simp only [u8A, Lib.byteCells, List.getElem?_toArray, List.getElem?_map] at hv ⊢
  rw [List.getElem?_take] at hv
  split at hv
  · rwa [List.getElem?_drop] at hv
  · simp at hv
theorem Blk.there {w : World} {g : Nat} {bs : List UInt8} {T : TypeId} (h : Blk w g (u8A bs) T) (o n : Nat) (hn : o + n ≤ bs.length) : w.there g o n := fun j hj =>
  ⟨by rw [h.byteAt (i := o + j) (by omega)]; rfl, h.frozen _⟩
theorem below_cells {B : Nat} {a : World} {g : Nat} (hg : B ≤ g) : ∀ (vs : List Value) (o : Nat) {w : World}, Below B a w → Below B a (w.setCells g o vs)
  | [], _, _, h => h
  | v :: r, o, _, h => below_cells hg r (o + 1) (h.setCell hg v)
theorem Blk.otherCells {g' : Nat} {cs : Array Value} {T : TypeId} {g : Nat} (hne : g' ≠ g) : ∀ (vs : List Value) (o : Nat) {w : World}, Blk w g' cs T → Blk (w.setCells g o vs) g' cs T
  | [], _, _, h => h
  | v :: r, o, _, h => Blk.otherCells hne r (o + 1) (h.other hne v)
theorem cells_size {g : Nat} : ∀ (vs : List Value) (o : Nat) (w : World), (w.setCells g o vs).heap.size = w.heap.size
  | [], _, _ => rfl
  | v :: r, o, w => by
    show ((w.setCell ⟨g, o, none⟩ v).setCells g (o + 1) r).heap.size = _
    rw [cells_size r (o + 1)]; simp
theorem one_cells (l : List UInt8) : ∀ v ∈ Lib.byteCells l, v.oneCell' = true := by
  intro v hv
  obtain ⟨x, _, rfl⟩ := List.mem_map.1 hv
  rfl
end Go.Proofs.YtkkokngdhhakdaaDoor
namespace Go.Proofs.YtkkokngdhhakdaaDoor
open Go.ChangeShapes Go.WideShapes Go.ChangeAt Go.RowKit Go.Deep

theorem cellsByte : Tryd.prog.cellsOf 5 = 1 := by kernel_rfl
theorem cellsSlice : Tryd.prog.cellsOf 26 = 1 := by kernel_rfl

/-- Cells of bytes, as numbers, read as a list of bytes. -/
theorem rd_of_ints {W : World} {a : Addr} {zs : List Int} (hcell : ∀ i, i < zs.length → W.cell? (a.add i) = some (.int .u8 (zs.getD i 0))) (hwf : ∀ n ∈ zs, (Lit.int .u8 n).wf = true) (n : Nat) (hn : n ≤ zs.length) :
    ∃ l : List UInt8, l.length = n ∧ Rd W W.heap.size (some a) l := by
  rcases Nat.eq_zero_or_pos n with rfl | hp
  · exact ⟨[], rfl, .inl rfl⟩
  · obtain ⟨b, off, rfl, hc⟩ := ints_at hcell (by omega)
    refine ⟨(zs.take n).map fun z => UInt8.ofNat z.toNat, by simp; omega, .inr ⟨b, off, rfl, World.block_lt_of_cell? W _ (hc 0 (by omega)), fun i hi => ?_⟩⟩
    have hi' : i < n := by simp at hi; omega
    rw [hc i (by omega)]
    have hb := bounds_u8 (hwf (zs.getD i 0) (by rw [List.getD_eq_getElem?_getD, List.getElem?_eq_getElem (by omega)]; exact List.getElem_mem _))
    simp only [List.getElem_map, List.getElem_take]
    rw [List.getD_eq_getElem?_getD, List.getElem?_eq_getElem (by omega)] at hb ⊢
    simp only [Option.getD_some] at hb ⊢
    rw [UInt8.toNat_ofNat_of_lt' (by simp; omega)]
    congr 2
    omega

set_option maxRecDepth 100000 in
theorem open_bytes {H : Type} {enc : TypeId × Value → H} {W : World} {r : Reach} {base : Nat} {v : Value} {d : DataW H} {p : List MemPlace} (hval : Value.okWide Tryd.prog W r base 26 v) (h : DataW.Trod enc Tryd.prog W 0 (fun _ => true) true 26 v d p) :
    ∃ A n c l, v = .slice A n c ∧ l.length = n ∧ n ≤ c ∧ c ≤ maxLen ∧ Rd W W.heap.size A l := by
  obtain ⟨a0, len, cap, rfl⟩ := okWide_slice Tryd.underlying26 hval
  obtain ⟨fuel, hf⟩ := h
  rcases open_ints Tryd.underlying26 Tryd.underlying5 cellsByte hf with ⟨hcs, _⟩ | ⟨a, len', cap', zs, hcs, _, hl, hm, hz, _, hcell, hwz⟩
  · simp [Value.cells] at hcs
    obtain ⟨rfl, rfl, rfl⟩ := hcs
    exact ⟨none, 0, 0, [], rfl, rfl, Nat.le_refl _, Nat.zero_le _, .inl rfl⟩
  · simp [Value.cells] at hcs
    obtain ⟨rfl, rfl, rfl⟩ := hcs
    obtain ⟨l, h1, h2⟩ := rd_of_ints hcell hwz len (by simp at hz; omega)
    exact ⟨some a, len, cap, l, rfl, h1, hl, hm, h2⟩

set_option maxRecDepth 100000 in
theorem open_rows {H : Type} {enc : TypeId × Value → H} {W : World} {r : Reach} {base : Nat} {v : Value} {d : DataW H} {p : List MemPlace} (hval : Value.okWide Tryd.prog W r base 54 v) (h : DataW.Trod enc Tryd.prog W 0 (fun _ => true) true 54 v d p) :
    ∃ A n c ls, v = .slice A n c ∧ ls.length = n ∧ n ≤ c ∧ c ≤ maxLen ∧ RdR W W.heap.size A ls := by
  obtain ⟨a0, len, cap, rfl⟩ := okWide_slice Tryd.underlying54 hval
  obtain ⟨fuel, hf⟩ := h
  rcases open_int_rows Tryd.underlying54 Tryd.underlying26 Tryd.underlying5 cellsSlice cellsByte hf with ⟨hcs, _⟩ | ⟨a, len', cap', A, L, C, Z, hcs, _, hl, hm, _, hx⟩
  · simp [Value.cells] at hcs
    obtain ⟨rfl, rfl, rfl⟩ := hcs
    exact ⟨none, 0, 0, [], rfl, rfl, Nat.le_refl _, Nat.zero_le _, .inl rfl⟩
  · simp [Value.cells] at hcs
    obtain ⟨rfl, rfl, rfl⟩ := hcs
    have each : ∀ i, ∃ l : List UInt8, i < cap → l.length = L i ∧ Rd W W.heap.size (A i) l := by
      intro i
      by_cases hi : i < cap
      · obtain ⟨h1, h2, h3, h4, h5, h6, h7⟩ := hx i hi
        cases hA : A i with
        | none =>
          have := h6 hA
          exact ⟨[], fun _ => ⟨by simp; omega, .inl rfl⟩⟩
        | some a' =>
          obtain ⟨l, e1, e2⟩ := rd_of_ints (zs := Z i) (fun c hc => (h7 a' hA).2 c (by omega)) h5 (L i) (by omega)
          exact ⟨l, fun _ => ⟨e1, e2⟩⟩
      · exact ⟨[], fun h => absurd h hi⟩
    obtain ⟨f, hf'⟩ := Classical.axiomOfChoice each
    refine ⟨some a, len, cap, (List.range len).map f, rfl, by simp, hl, hm, ?_⟩
    rcases Nat.eq_zero_or_pos len with h0 | hp
    · subst h0; exact .inl rfl
    · obtain ⟨b, off, spot⟩ := a
      have hc0 := (hx 0 (by omega)).1
      have hspot : spot = none := by simpa [Addr.add] using World.cell?_spot hc0
      subst hspot
      refine .inr ⟨b, off, rfl, World.block_lt_of_cell? W _ hc0, fun i hi => ?_⟩
      have hi' : i < len := by simpa using hi
      obtain ⟨h1, h2, h3, _⟩ := hx i (by omega)
      obtain ⟨e1, e2⟩ := hf' i (by omega)
      refine ⟨A i, C i, ?_, ?_, h3, ?_⟩
      · rw [← Go.WideShapes.add_plain, h1]
        simp [e1]
      · simp [e1]; exact h2
      · simpa using e2
end Go.Proofs.YtkkokngdhhakdaaDoor
namespace Go.Proofs.YtkkokngdhhakdaaDoor
open Go.ChangeShapes Go.WideShapes Go.ChangeAt Go.RowKit Go.Deep

set_option maxRecDepth 100000 in
theorem open_array {H : Type} {enc : TypeId × Value → H} {W : World} {r : Reach} {base n : Nat} {T : TypeId} {v : Value} {d : DataW H} {p : List MemPlace} (hT : Tryd.prog.underlying T = some (.array n 5)) (hc : Tryd.prog.cellsOf T = n)
    (hval : Value.okWide Tryd.prog W r base T v) (h : DataW.Trod enc Tryd.prog W 0 (fun _ => true) true T v d p) :
    ∃ l : List UInt8, v = .agg (u8A l) ∧ l.length = n := by
  obtain ⟨cs, rfl, hsz⟩ : ∃ cs, v = .agg cs ∧ cs.size = Tryd.prog.cellsOf T := by
    unfold Value.okWide at hval
    rw [hT] at hval
    obtain ⟨cs, h1, h2, _⟩ := hval
    exact ⟨cs, h1, h2⟩
  rw [hc] at hsz
  obtain ⟨fuel, hf⟩ := h
  obtain ⟨xs, m, _, _, _, hl, hel⟩ := DataW.trod_array hT hf
  have each : ∀ i, ∃ b : UInt8, i < n → cs[i]? = some (.int .u8 (b.toNat : Int)) := by
    intro i
    by_cases hi : i < n
    · have h1 := hel i hi
      rw [cellsByte, Nat.mul_one, List.getElem?_eq_getElem (show i < xs.length by omega)] at h1
      obtain ⟨x, e, _, wf⟩ := DataW.trod_int Tryd.underlying5 h1
      have hb := bounds_u8 wf
      refine ⟨UInt8.ofNat x.toNat, fun _ => ?_⟩
      have h2 : (Value.agg cs).cells.toList[i]? = some (.int .u8 x) := by
        have := congrArg (fun l => l[0]?) e
        simpa [List.getElem?_take, List.getElem?_drop] using this
      rw [UInt8.toNat_ofNat_of_lt' (by simp; omega), show ((x.toNat : Nat) : Int) = x by omega]
      simpa [Value.cells] using h2
    · exact ⟨0, fun h => absurd h hi⟩
  obtain ⟨f, hf'⟩ := Classical.axiomOfChoice each
  refine ⟨(List.range n).map f, ?_, by simp⟩
  refine congrArg Value.agg ?_
  apply Array.ext_getElem?
  intro i
  by_cases hi : i < n
  · rw [hf' i hi]
    simp [u8A, Lib.byteCells, hi]
  · rw [Array.getElem?_eq_none (by omega), Array.getElem?_eq_none (by rw [u8A_size]; simp; omega)]
end Go.Proofs.YtkkokngdhhakdaaDoor
