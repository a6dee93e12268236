/- A row of bytes of which the first n are known; a place within a stream's bounds. -/
import Derived.Test.YtcajlmlblkdjoaaAesS
import Derived.Test.YtcajlmlblkdjoaaU8
namespace Go.Proofs.Ytcajlmlblkdjoaa
open Go.RowKit

/-- A row whose first n cells are bytes. -/
def PreB (w : World) (g : Nat) (T : TypeId) (n : Nat) (xs : List UInt8) : Prop := ∃ cur, Blk w g cur T ∧ n ≤ cur.size ∧ xs.length = n ∧ cur.toList.take n = Lib.byteCells xs
theorem PreB.byteAt {w : World} {g n : Nat} {T : TypeId} {xs : List UInt8} (h : PreB w g T n xs) {i : Nat} (hi : i < n) : w.cell? ⟨g, i, none⟩ = some (.int .u8 ((xs.getD i 0).toNat : Int)) := by
  obtain ⟨cur, hb, hn, hl, ht⟩ := h
  rw [hb.cell i]
  have h2 : (cur.toList.take n)[i]? = some (.int .u8 ((xs.getD i 0).toNat : Int)) := by
    rw [ht]
    simp [Lib.byteCells, List.getElem?_eq_getElem (show i < xs.length by omega), List.getD_eq_getElem?_getD]
  rw [List.getElem?_take, if_pos hi] at h2
  simpa using h2
theorem PreB.frozen {w : World} {g n : Nat} {T : TypeId} {xs : List UInt8} (h : PreB w g T n xs) (i : Nat) : w.frozen? ⟨g, i, none⟩ = false := by
  obtain ⟨cur, hb, _⟩ := h
  exact hb.frozen i
theorem PreB.put {w : World} {g n : Nat} {T : TypeId} {xs : List UInt8} (h : PreB w g T n xs) (i : Nat) {x : Int} {y : UInt8} (hx : x = (y.toNat : Int)) : PreB (w.setCell ⟨g, i, none⟩ (.int .u8 x)) g T n (xs.set i y) := by
  subst hx
  obtain ⟨cur, hb, hn, hl, ht⟩ := h
  refine ⟨_, hb.set i _, by simpa using hn, by simpa using hl, ?_⟩
  rw [Array.toList_setIfInBounds, List.take_set, ht]
  simp [Lib.byteCells, List.map_set]
theorem PreB.other {w : World} {g n : Nat} {T : TypeId} {xs : List UInt8} (h : PreB w g T n xs) {p : Addr} (hp : g ≠ p.block) (v : Value) : PreB (w.setCell p v) g T n xs := by
  obtain ⟨cur, hb, r⟩ := h
  exact ⟨cur, hb.other hp v, r⟩
theorem PreB.below {w w' : World} {g n B : Nat} {T : TypeId} {xs : List UInt8} (h : PreB w g T n xs) (hb' : Below B w w') (hg : g < B) : PreB w' g T n xs := by
  obtain ⟨cur, hb, r⟩ := h
  exact ⟨cur, hb.below hb' hg, r⟩
theorem PreB.rd {w : World} {g n : Nat} {T : TypeId} {xs : List UInt8} (h : PreB w g T n xs) : Rd w w.heap.size (some ⟨g, 0, none⟩) xs := by
  have hl : xs.length = n := by obtain ⟨_, _, _, hl, _⟩ := h; exact hl
  have hlt : g < w.heap.size := by obtain ⟨_, hb, _⟩ := h; exact hb.lt
  refine .inr ⟨g, 0, rfl, hlt, fun i hi => ?_⟩
  rw [Nat.zero_add, h.byteAt (i := i) (by omega)]
  simp [List.getD_eq_getElem?_getD, List.getElem?_eq_getElem hi]

def clampN (at_ : Int) : Nat := if at_ ≤ 0 then 0 else if at_ ≤ 1073741824 then at_.toNat else 1073741824
end Go.Proofs.Ytcajlmlblkdjoaa
