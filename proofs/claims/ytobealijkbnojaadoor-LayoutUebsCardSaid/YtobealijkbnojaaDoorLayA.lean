/- Four numbers and two arrays of bytes in memory: a layout's, a version's struct; its cells, loads, what is built. Six rows of bytes that are handed on. -/
import Derived.Test.YtobealijkbnojaaDoorLayM
import Derived.Test.YtobealijkbnojaaDoorHashD
import Derived.Test.YtobealijkbnojaaDoorPut
import Derived.StillTailTactics
import Derived.Deep.RegionHeld3
namespace Go.Proofs.YtobealijkbnojaaDoor
open Go.RowKit
set_option maxRecDepth 100000

def f14L (u : F14) : List Value := Value.int .i64 u.a :: Value.int .i64 u.b :: Value.int .i64 u.c :: Value.int .i64 u.d :: (Lib.byteCells u.x ++ Lib.byteCells u.y)
def f14A (u : F14) : Array Value := (f14L u).toArray
/-- So many bytes have the arrays. -/
def F14.wf (p : Nat) (u : F14) : Prop := u.x.length = p ∧ u.y.length = 32
def F14.bd (u : F14) : Prop := (-9223372036854775808 ≤ u.a ∧ u.a ≤ 9223372036854775807) ∧ (-9223372036854775808 ≤ u.b ∧ u.b ≤ 9223372036854775807) ∧ (-9223372036854775808 ≤ u.c ∧ u.c ≤ 9223372036854775807) ∧ (-9223372036854775808 ≤ u.d ∧ u.d ≤ 9223372036854775807)
theorem f14L_len {p : Nat} {u : F14} (h : u.wf p) : (f14L u).length = 36 + p := by
  unfold f14L
  simp [Lib.byteCells_length, h.1, h.2]
  omega
theorem f14A_size {p : Nat} {u : F14} (h : u.wf p) : (f14A u).size = 36 + p := by
  unfold f14A
  simp [f14L_len h]
theorem f14L_x {p : Nat} {u : F14} (h : u.wf p) (i : Nat) (hi : i < p) : (f14L u)[4 + i]? = (Lib.byteCells u.x)[i]? := by
  unfold f14L
  rw [show 4 + i = (((i + 1) + 1) + 1) + 1 by omega]
  simp only [List.getElem?_cons_succ]
  rw [List.getElem?_append_left (by rw [Lib.byteCells_length, h.1]; exact hi)]
theorem f14L_y {p : Nat} {u : F14} (h : u.wf p) (i : Nat) : (f14L u)[4 + p + i]? = (Lib.byteCells u.y)[i]? := by
  unfold f14L
  rw [show 4 + p + i = ((((p + i) + 1) + 1) + 1) + 1 by omega]
  simp only [List.getElem?_cons_succ]
  rw [List.getElem?_append_right (by rw [Lib.byteCells_length, h.1]; omega), Lib.byteCells_length, h.1, show p + i - p = i by omega]
theorem f14A_one (u : F14) : (f14A u).all (·.oneCell') = true := by
  unfold f14A f14L Lib.byteCells
  simp [Value.oneCell']

/-- It stands in a block of its own. -/
structure FAt (T : TypeId) (p : Nat) (w : World) (b : Nat) (u : F14) : Prop where
  blk : Blk w b (f14A u) T
  wf : u.wf p
theorem FAt.lt {T : TypeId} {p : Nat} {w : World} {b : Nat} {u : F14} (h : FAt T p w b u) : b < w.heap.size := h.blk.lt
theorem FAt.below {T : TypeId} {p : Nat} {w w' : World} {b : Nat} {u : F14} (h : FAt T p w b u) (hb : Below w.heap.size w w') : FAt T p w' b u := ⟨h.blk.below hb h.blk.lt, h.wf⟩
theorem FAt.new {T : TypeId} {p : Nat} (w : World) {u : F14} (hw : u.wf p) {X : Array Value} (hX : f14A u = X) : FAt T p (w.alloc (.cells X T)) w.heap.size u := ⟨by rw [hX]; exact Blk.new w _ _, hw⟩
theorem FAt.cell {T : TypeId} {p : Nat} {w : World} {b : Nat} {u : F14} (h : FAt T p w b u) (i : Nat) : w.cell? ⟨b, i, none⟩ = (f14L u)[i]? := by
  rw [h.blk.cell i]
  unfold f14A
  rw [List.getElem?_toArray]
theorem FAt.cells {T : TypeId} {p : Nat} {w : World} {b : Nat} {u : F14} (h : FAt T p w b u) : w.cell? ⟨b, 0, none⟩ = some (.int .i64 u.a) ∧ w.cell? ⟨b, 1, none⟩ = some (.int .i64 u.b) ∧ w.cell? ⟨b, 2, none⟩ = some (.int .i64 u.c) ∧ w.cell? ⟨b, 3, none⟩ = some (.int .i64 u.d) :=
  ⟨h.cell 0, h.cell 1, h.cell 2, h.cell 3⟩
theorem FAt.rangeX {T : TypeId} {p : Nat} {w : World} {b : Nat} {u : F14} (h : FAt T p w b u) : w.rangeAt b 4 (Lib.byteCells u.x) := fun j v hv => by
  have hj : j < p := by
    have := (List.getElem?_eq_some_iff.1 hv).1
    rwa [Lib.byteCells_length, h.wf.1] at this
  rw [h.cell, f14L_x h.wf j hj, hv]
theorem FAt.rangeY {T : TypeId} {p : Nat} {w : World} {b : Nat} {u : F14} (h : FAt T p w b u) : w.rangeAt b (4 + p) (Lib.byteCells u.y) := fun j v hv => by
  rw [h.cell, f14L_y h.wf j, hv]
theorem Rd.of_range14 {w : World} {b off : Nat} {l : List UInt8} (hb : b < w.heap.size) (h : w.rangeAt b off (Lib.byteCells l)) : Rd w w.heap.size (some ⟨b, off, none⟩) l := .inr ⟨b, off, rfl, hb, fun i hi => h i _ (by simp [Lib.byteCells, List.getElem?_eq_getElem hi])⟩
theorem FAt.rdX {T : TypeId} {p : Nat} {w : World} {b : Nat} {u : F14} (h : FAt T p w b u) : Rd w w.heap.size (some ⟨b, 4, none⟩) u.x := Rd.of_range14 h.lt h.rangeX
theorem FAt.rdY {T : TypeId} {p : Nat} {w : World} {b : Nat} {u : F14} (h : FAt T p w b u) : Rd w w.heap.size (some ⟨b, 4 + p, none⟩) u.y := Rd.of_range14 h.lt h.rangeY

/-- Rows that are laid side by side in a new block. -/
theorem rdr_cells (w : World) (T : TypeId) (cs : Array Value) (ls : List (List UInt8)) (h : ∀ i (hi : i < ls.length), ∃ A c, cs[i]? = some (.slice A ls[i].length c) ∧ ls[i].length ≤ c ∧ c ≤ maxLen ∧ Rd w w.heap.size A ls[i]) :
    RdR (w.alloc (.cells cs T)) (w.alloc (.cells cs T)).heap.size (some ⟨w.heap.size, 0, none⟩) ls := by
  have hal : Below w.heap.size w (w.alloc (.cells cs T)) := (Below.refl _ _).alloc (Nat.le_refl _) _
  have hblk := Blk.new w cs T
  refine .inr ⟨w.heap.size, 0, rfl, hblk.lt, fun i hi => ?_⟩
  rw [Nat.zero_add]
  obtain ⟨A, c, h1, h2, h3, h4⟩ := h i hi
  exact ⟨A, c, by rw [hblk.cell i]; exact h1, h2, h3, (h4.below hal (Nat.le_refl _)).more hal.size⟩
/-- A slice value that reads as these bytes. -/
structure BV14 (w : World) (A : Option Addr) (n c : Nat) (l : List UInt8) : Prop where
  len : l.length = n
  room : n ≤ c
  max : c ≤ maxLen
  rd : Rd w w.heap.size A l
theorem BV14.on {w w' : World} {A : Option Addr} {n c : Nat} {l : List UInt8} (h : BV14 w A n c l) (hb : Below w.heap.size w w') : BV14 w' A n c l := ⟨h.len, h.room, h.max, h.rd.on hb⟩
theorem rdr_six (w : World) {A0 A1 A2 A3 A4 A5 : Option Addr} {n0 n1 n2 n3 n4 n5 c0 c1 c2 c3 c4 c5 : Nat} {l0 l1 l2 l3 l4 l5 : List UInt8} (h0 : BV14 w A0 n0 c0 l0) (h1 : BV14 w A1 n1 c1 l1) (h2 : BV14 w A2 n2 c2 l2) (h3 : BV14 w A3 n3 c3 l3) (h4 : BV14 w A4 n4 c4 l4) (h5 : BV14 w A5 n5 c5 l5) :
    RdR (w.alloc (.cells #[.slice A0 n0 c0, .slice A1 n1 c1, .slice A2 n2 c2, .slice A3 n3 c3, .slice A4 n4 c4, .slice A5 n5 c5] 24)) (w.alloc (.cells #[.slice A0 n0 c0, .slice A1 n1 c1, .slice A2 n2 c2, .slice A3 n3 c3, .slice A4 n4 c4, .slice A5 n5 c5] 24)).heap.size (some ⟨w.heap.size, 0, none⟩) [l0, l1, l2, l3, l4, l5] := by
  obtain ⟨e0, a0, b0, r0⟩ := h0
  obtain ⟨e1, a1, b1, r1⟩ := h1
  obtain ⟨e2, a2, b2, r2⟩ := h2
  obtain ⟨e3, a3, b3, r3⟩ := h3
  obtain ⟨e4, a4, b4, r4⟩ := h4
  obtain ⟨e5, a5, b5, r5⟩ := h5
  subst e0 e1 e2 e3 e4 e5
  refine rdr_cells w _ _ _ fun i hi => ?_
  match i, hi with
  | 0, _ => exact ⟨A0, c0, rfl, a0, b0, r0⟩
  | 1, _ => exact ⟨A1, c1, rfl, a1, b1, r1⟩
  | 2, _ => exact ⟨A2, c2, rfl, a2, b2, r2⟩
  | 3, _ => exact ⟨A3, c3, rfl, a3, b3, r3⟩
  | 4, _ => exact ⟨A4, c4, rfl, a4, b4, r4⟩
  | 5, _ => exact ⟨A5, c5, rfl, a5, b5, r5⟩

/-! Put, in one byte and in four -/
def putB (n : Int) (W : Nat) : List UInt8 := putL (putN n) W
theorem pput14 (n : Int) (W : Nat) (hW : W = 1 ∨ W = 2 ∨ W = 4) (w : World) (hn : n ≤ 9223372036854775807) : Calls Tryd.prog 46 #[.int .i64 n, .int .i64 W] w fun e w' => ∃ A c, e = .returned (.slice A W c) ∧ BV14 w' A W c (putB n W) ∧ Below w.heap.size w w' :=
  (put_any n W w hn).mono fun _ _ ⟨A, c, he, ho, hb⟩ => by
    have e4 : putW (W : Int) = W := by rcases hW with rfl | rfl | rfl <;> rfl
    rw [e4] at he ho
    obtain ⟨A', c', e, h1, h2⟩ := own_caps ho
    injection e with e1 e2 e3
    subst e1 e3
    exact ⟨A, c, he, ⟨putL_length _ _, h1, h2, Rd.of_own ho⟩, hb⟩
theorem rput14 (n : Int) (W : Nat) (hW : W = 1 ∨ W = 2 ∨ W = 4) (w : World) (hn : n ≤ 9223372036854775807) : Calls Tryd.prog 55 #[.int .i64 n, .int .i64 W] w fun e w' => ∃ A c, e = .returned (.slice A W c) ∧ BV14 w' A W c (putB n W) ∧ Below w.heap.size w w' :=
  (rput_any n W w hn).mono fun _ _ ⟨A, c, he, ho, hb⟩ => by
    have e4 : putW (W : Int) = W := by rcases hW with rfl | rfl | rfl <;> rfl
    rw [e4] at he ho
    obtain ⟨A', c', e, h1, h2⟩ := own_caps ho
    injection e with e1 e2 e3
    subst e1 e3
    exact ⟨A, c, he, ⟨putL_length _ _, h1, h2, Rd.of_own ho⟩, hb⟩
end Go.Proofs.YtobealijkbnojaaDoor
