/- A hash in the making, in memory: the words of the whole blocks, the open block, the count. -/
import Derived.Test.YtdjnaeifmeffoaaDoorMix
import Derived.Deep.MidRow
namespace Go.Proofs.YtdjnaeifmeffoaaDoor
open Go.RowKit

def shaA (H : H8) (op : List UInt8) (n : Nat) : Array Value := (((list8 H).map fun (x : Nat) => Value.int .u32 (x : Int)) ++ Lib.byteCells op ++ [Value.int .i64 (n : Int)]).toArray
theorem shaA_size (H : H8) (op : List UInt8) (n : Nat) (h : op.length = 64) : (shaA H op n).size = 73 := by simp [shaA, list8, Lib.byteCells, h]
theorem shaA_word (H : H8) (op : List UInt8) (n i : Nat) (h : i < 8) : (shaA H op n)[i]? = some (.int .u32 ((list8 H).getD i 0 : Nat)) := by
  match i, h with
  | 0, _ | 1, _ | 2, _ | 3, _ | 4, _ | 5, _ | 6, _ | 7, _ => rfl
theorem shaA_open (H : H8) (op : List UInt8) (n i : Nat) (h : i < op.length) : (shaA H op n)[8 + i]? = some (.int .u8 (op[i].toNat : Int)) := by
  rw [Nat.add_comm]
  simp only [shaA, list8, Lib.byteCells, List.map_cons, List.map_nil, List.getElem?_toArray, List.cons_append, List.nil_append, List.getElem?_cons_succ]
  rw [List.getElem?_append_left (by simpa using h)]
  simp [h]
theorem shaA_count (H : H8) (op : List UInt8) (n : Nat) (h : op.length = 64) : (shaA H op n)[72]? = some (.int .i64 (n : Int)) := by
  simp [shaA, list8, Lib.byteCells, h]
theorem shaA_setCount (H : H8) (op : List UInt8) (n m : Nat) (h : op.length = 64) : (shaA H op n).setIfInBounds 72 (.int .i64 (m : Int)) = shaA H op m := by
  unfold shaA
  rw [List.setIfInBounds_toArray, List.set_append_right _ _ (by simp [list8, Lib.byteCells, h])]
  simp [list8, Lib.byteCells, h]
theorem shaA_splice (H : H8) (op x : List UInt8) (n k : Nat) (h : op.length = 64) (hx : k + x.length ≤ 64) :
    ((shaA H op n).toList.take (8 + k) ++ Lib.byteCells x ++ (shaA H op n).toList.drop (8 + k + (Lib.byteCells x).length)).toArray = shaA H (op.take k ++ x ++ op.drop (k + x.length)) n := by
  unfold shaA
  simp only [List.append_assoc]
  rw [Lib.byteCells_length]
  have e8 : ((list8 H).map fun (x : Nat) => Value.int .u32 (x : Int)).length = 8 := rfl
  generalize ((list8 H).map fun (x : Nat) => Value.int .u32 (x : Int)) = hh at e8
  rw [List.take_append, e8, show 8 + k - 8 = k by omega, List.take_of_length_le (by omega), List.take_append_of_le_length (by rw [Lib.byteCells_length]; omega)]
  rw [List.drop_append, e8, show 8 + k + x.length - 8 = k + x.length by omega, List.drop_of_length_le (show hh.length ≤ 8 + k + x.length by omega), List.nil_append, List.drop_append_of_le_length (by rw [Lib.byteCells_length]; omega)]
  simp [Lib.byteCells, List.map_take, List.map_drop]

def shaB (H : H8) : List Value := (list8 H).map fun (x : Nat) => Value.int .u32 (x : Int)
theorem Blk.words {w : World} {g n : Nat} {H : H8} {op : List UInt8} {T : TypeId} (h : Blk w g (shaA H op n) T) (H' : H8) : Blk (w.setCells g 0 (h8 H').toList) g (shaA H' op n) T := by
  have s := (((((((h.set 0 (.int .u32 (H'.a : Int))).set 1 (.int .u32 (H'.b : Int))).set 2 (.int .u32 (H'.c : Int))).set 3 (.int .u32 (H'.d : Int))).set 4 (.int .u32 (H'.e : Int))).set 5 (.int .u32 (H'.f : Int))).set 6 (.int .u32 (H'.g : Int))).set 7 (.int .u32 (H'.h : Int))
  have e : (((((((((shaA H op n).setIfInBounds 0 (.int .u32 (H'.a : Int))).setIfInBounds 1 (.int .u32 (H'.b : Int))).setIfInBounds 2 (.int .u32 (H'.c : Int))).setIfInBounds 3 (.int .u32 (H'.d : Int))).setIfInBounds 4 (.int .u32 (H'.e : Int))).setIfInBounds 5 (.int .u32 (H'.f : Int))).setIfInBounds 6 (.int .u32 (H'.g : Int))).setIfInBounds 7 (.int .u32 (H'.h : Int))) = shaA H' op n := by
    simp [shaA, list8]
  rw [e] at s
  exact s

/-- The j-th block hangs on what stands ahead of its end alone. -/
theorem blocksTo_ext (m x : List UInt8) : ∀ j, 64 * j ≤ m.length → blocksTo (m ++ x) j = blocksTo m j
  | 0, _ => rfl
  | j + 1, h => by
    show comp (blocksTo (m ++ x) j) _ = comp (blocksTo m j) _
    rw [blocksTo_ext m x j (by omega), List.drop_append_of_le_length (by omega), List.take_append_of_le_length (by rw [List.length_drop]; omega)]

/-- At block g stands a hash into which m has been written. -/
def ShaAt (w : World) (g : Nat) (m : List UInt8) : Prop :=
  ∃ op : List UInt8, op.length = 64 ∧ op.take (m.length % 64) = m.drop (64 * (m.length / 64)) ∧ Blk w g (shaA (blocksTo m (m.length / 64)) op m.length) 57
theorem ShaAt.lt {w : World} {g : Nat} {m : List UInt8} (h : ShaAt w g m) : g < w.heap.size := by obtain ⟨_, _, _, h⟩ := h; exact h.lt
theorem ShaAt.drewN {w : World} {g : Nat} {m : List UInt8} (h : ShaAt w g m) (n : Nat) : ShaAt (w.drewN n) g m := h
theorem ShaAt.below {w w' : World} {g B : Nat} {m : List UInt8} (h : ShaAt w g m) (hb : Below B w w') (hg : g < B) : ShaAt w' g m := by
  obtain ⟨op, h1, h2, h3⟩ := h; exact ⟨op, h1, h2, h3.below hb hg⟩
theorem ShaAt.grown {w w' : World} {g : Nat} {m : List UInt8} {row : Option Nat} (h : ShaAt w g m) (hg : w.grownBy w' row) (hr : some g ≠ row) : ShaAt w' g m := by
  obtain ⟨op, h1, h2, h3⟩ := h; exact ⟨op, h1, h2, h3.grown hg hr⟩

/-- The open block with x put in, where the block does not become whole. -/
theorem open_more (m x op : List UInt8) (ho : op.length = 64) (h : op.take (m.length % 64) = m.drop (64 * (m.length / 64))) (hx : m.length % 64 + x.length < 64) :
    (op.take (m.length % 64) ++ x ++ op.drop (m.length % 64 + x.length)).take ((m ++ x).length % 64) = (m ++ x).drop (64 * ((m ++ x).length / 64)) ∧ blocksTo (m ++ x) ((m ++ x).length / 64) = blocksTo m (m.length / 64) := by
  have e : (m ++ x).length / 64 = m.length / 64 := by rw [List.length_append]; omega
  have e2 : (m ++ x).length % 64 = m.length % 64 + x.length := by rw [List.length_append]; omega
  have hl : (op.take (m.length % 64)).length = m.length % 64 := by rw [List.length_take]; omega
  rw [e, e2]
  refine ⟨?_, blocksTo_ext m x _ (by omega)⟩
  rw [List.take_append_of_le_length (by rw [List.length_append, hl]; exact Nat.le_refl _), List.take_of_length_le (by rw [List.length_append, hl]; exact Nat.le_refl _), List.drop_append_of_le_length (by omega), h]
/-- .. and where it does. -/
theorem open_full (m x op : List UInt8) (ho : op.length = 64) (h : op.take (m.length % 64) = m.drop (64 * (m.length / 64))) (hx : m.length % 64 + x.length = 64) :
    comp (blocksTo m (m.length / 64)) (op.take (m.length % 64) ++ x ++ op.drop (m.length % 64 + x.length)) = blocksTo (m ++ x) ((m ++ x).length / 64) ∧ (m ++ x).length % 64 = 0 ∧ (m ++ x).drop (64 * ((m ++ x).length / 64)) = [] := by
  have e : (m ++ x).length / 64 = m.length / 64 + 1 := by rw [List.length_append]; omega
  have e2 : (m ++ x).length % 64 = 0 := by rw [List.length_append]; omega
  refine ⟨?_, e2, List.drop_of_length_le (by omega)⟩
  rw [e]
  show _ = comp (blocksTo (m ++ x) (m.length / 64)) (((m ++ x).drop (64 * (m.length / 64))).take 64)
  rw [blocksTo_ext m x _ (by omega), List.drop_append_of_le_length (by omega), ← h, List.drop_of_length_le (l := op) (by omega), List.append_nil, List.take_of_length_le (l := op.take (m.length % 64) ++ x)]
  rw [List.length_append, List.length_take]; omega
end Go.Proofs.YtdjnaeifmeffoaaDoor
