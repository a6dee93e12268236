/- The program's store: Names. -/
import Derived.Test.YtndknifdajjalaaGreatDoorPStpQ
namespace Go.Proofs.YtndknifdajjalaaGreatDoor
open Go.RowKit Go.Sort
set_option maxRecDepth 100000

abbrev Name := List UInt8
/-- Names in memory. -/
def RdS (w : World) (B : Nat) (A : Option Addr) (ls : List Name) : Prop := ls = [] ∨ ∃ b off, A = some ⟨b, off, none⟩ ∧ b < B ∧ ∀ i (h : i < ls.length), w.cell? ⟨b, off + i, none⟩ = some (.string ⟨ls[i].toArray⟩)
theorem RdS.of_own {w : World} {base : Nat} {e : TypeId} {A : Option Addr} {n c : Nat} {ls : List Name} (h : w.ownsRow base e 1 (.slice A n c) n (ls.map encStr)) : RdS w w.heap.size A ls := by
  cases ls with
  | nil => exact .inl rfl
  | cons x l =>
    right
    have hl := h.1
    have hpos : 0 < n := by simp at hl; omega
    rcases h.2 with ⟨_, h0⟩ | ⟨g, cap, cur, hv, _, hb, hc, _, hs, ht⟩
    · omega
    · injection hv with e1 e2 e3
      subst e1
      refine ⟨g, 0, rfl, (Array.getElem?_eq_some_iff.1 hb).1, fun i hi => ?_⟩
      have h1 : (cur.toList.take (n * 1))[i]? = ((x :: l).map encStr)[i]? := by rw [ht]
      have hin : i < n * 1 := by rw [List.length_map] at hl; omega
      rw [List.getElem?_take_of_lt hin, List.getElem?_map, List.getElem?_eq_getElem hi] at h1
      have hb' : Blk w g cur e := hb
      rw [Nat.zero_add, hb'.cell, ← Array.getElem?_toList, h1]
      rfl
end Go.Proofs.YtndknifdajjalaaGreatDoor
