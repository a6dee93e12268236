/- Worlds in which some blocks have changed. A block that begins with given bytes: read, written. What a disk is: its sectors' bytes, and what becomes of its writes. -/
import Derived.Laws.CopyOwn
import Derived.Deep.MidRow
import Derived.Test.YtndknifdajjalaaGreatDoorPMem
import Derived.Test.YtndknifdajjalaaGreatDoorPU8
namespace Go.Proofs.YtndknifdajjalaaGreatDoor
open Go.RowKit

/-- Just blocks of S, and what is new, have changed. -/
structure Chg (S : Nat → Prop) (w w' : World) : Prop where
  os : w'.os = w.os
  tape : w'.tape = w.tape
  output : w'.output = w.output
  size : w.heap.size ≤ w'.heap.size
  block : ∀ k, k < w.heap.size → ¬ S k → w'.heap[k]? = w.heap[k]?
theorem Chg.refl (S : Nat → Prop) (w : World) : Chg S w w := ⟨rfl, rfl, rfl, Nat.le_refl _, fun _ _ _ => rfl⟩
theorem Chg.trans {S : Nat → Prop} {a b c : World} (h : Chg S a b) (k : Chg S b c) : Chg S a c :=
  ⟨k.os.trans h.os, k.tape.trans h.tape, k.output.trans h.output, Nat.le_trans h.size k.size, fun i hi hs => (k.block i (Nat.lt_of_lt_of_le hi h.size) hs).trans (h.block i hi hs)⟩
theorem Chg.more {S T : Nat → Prop} {a b : World} (h : Chg S a b) (hST : ∀ k, S k → T k) : Chg T a b := ⟨h.os, h.tape, h.output, h.size, fun k hk hs => h.block k hk fun h' => hs (hST k h')⟩
theorem Chg.of_below {S : Nat → Prop} {a b : World} (h : Below a.heap.size a b) : Chg S a b := ⟨h.os, h.tape, h.output, h.size, fun k hk _ => h.block k hk⟩
theorem Chg.alloc {S : Nat → Prop} {a b : World} (h : Chg S a b) (o : Obj) : Chg S a (b.alloc o) := h.trans (.of_below ((Below.refl _ _).alloc (Nat.le_refl _) o))
theorem Chg.drewN {S : Nat → Prop} {a b : World} (h : Chg S a b) (n : Nat) : Chg S a (b.drewN n) := h.trans (.of_below (below_drewN (Below.refl _ _) n))
theorem Chg.drew {S : Nat → Prop} {a b : World} (h : Chg S a b) : Chg S a b.drew := h.trans (.of_below (Below.refl _ _).drew)
theorem Chg.grown {S : Nat → Prop} {a b c : World} (h : Chg S a b) {row : Option Nat} (hg : b.grownBy c row) (hr : ∀ k, row = some k → k < a.heap.size → S k) : Chg S a c :=
  ⟨hg.os.trans h.os, hg.tape.trans h.tape, hg.output.trans h.output, Nat.le_trans h.size hg.size, fun k hk hs => (hg.block k (Nat.lt_of_lt_of_le hk h.size) (fun e => hs (hr k e.symm hk))).trans (h.block k hk hs)⟩
theorem Chg.setCell {S : Nat → Prop} {a b : World} (h : Chg S a b) {p : Addr} (hp : p.block < a.heap.size → S p.block) (v : Value) : Chg S a (b.setCell p v) :=
  ⟨h.os, h.tape, h.output, by simpa [World.setCell] using h.size, fun k hk hs => (Below.heap_setCell b p v k (fun e => hs (by rw [e] at hk ⊢; exact hp hk))).trans (h.block k hk hs)⟩
theorem Chg.setCells {S : Nat → Prop} {a : World} {g : Nat} (hp : g < a.heap.size → S g) : ∀ (vs : List Value) (o : Nat) {b : World}, Chg S a b → Chg S a (b.setCells g o vs)
  | [], _, _, h => h
  | v :: r, o, _, h => Chg.setCells hp r (o + 1) (h.setCell (p := ⟨g, o, none⟩) hp v)
theorem Chg.below {S : Nat → Prop} {a b : World} (h : Chg S a b) {B : Nat} (hB : B ≤ a.heap.size) (hS : ∀ k, S k → B ≤ k) : Below B a b :=
  ⟨h.os, h.tape, h.output, h.size, fun k hk => h.block k (Nat.lt_of_lt_of_le hk hB) (fun hs => by have := hS k hs; omega)⟩
theorem Chg.blk {S : Nat → Prop} {a b : World} (h : Chg S a b) {g : Nat} {cs : Array Value} {T : TypeId} (hb : Blk a g cs T) (hs : ¬ S g) : Blk b g cs T := (h.block g hb.lt hs).trans hb

/-- The block begins with these bytes. -/
def BytesAt (w : World) (g : Nat) (T : TypeId) (B : List UInt8) : Prop := ∃ cur : Array Value, Blk w g cur T ∧ cur.toList.take B.length = Lib.byteCells B
theorem BytesAt.lt {w : World} {g : Nat} {T : TypeId} {B : List UInt8} (h : BytesAt w g T B) : g < w.heap.size := by obtain ⟨_, h, _⟩ := h; exact h.lt
theorem BytesAt.chg {S : Nat → Prop} {w w' : World} {g : Nat} {T : TypeId} {B : List UInt8} (h : BytesAt w g T B) (hc : Chg S w w') (hs : ¬ S g) : BytesAt w' g T B := by obtain ⟨cur, h1, h2⟩ := h; exact ⟨cur, hc.blk h1 hs, h2⟩
theorem BytesAt.below {w w' : World} {g C : Nat} {T : TypeId} {B : List UInt8} (h : BytesAt w g T B) (hc : Below C w w') (hs : g < C) : BytesAt w' g T B := by obtain ⟨cur, h1, h2⟩ := h; exact ⟨cur, h1.below hc hs, h2⟩
theorem BytesAt.other {w : World} {g : Nat} {T : TypeId} {B : List UInt8} (h : BytesAt w g T B) {p : Addr} (hp : g ≠ p.block) (v : Value) : BytesAt (w.setCell p v) g T B := by obtain ⟨cur, h1, h2⟩ := h; exact ⟨cur, h1.other hp v, h2⟩
theorem BytesAt.cell {w : World} {g : Nat} {T : TypeId} {B : List UInt8} (h : BytesAt w g T B) {i : Nat} (hi : i < B.length) : w.cell? ⟨g, i, none⟩ = some (.int .u8 ((B.getD i 0).toNat : Int)) := by
  obtain ⟨cur, h1, h2⟩ := h
  rw [h1.cell]
  have h3 : (cur.toList.take B.length)[i]? = (Lib.byteCells B)[i]? := by rw [h2]
  rw [List.getElem?_take, if_pos hi, Array.getElem?_toList] at h3
  rw [h3]
  simp [Lib.byteCells, hi, List.getD_eq_getElem?_getD]
theorem BytesAt.frozen {w : World} {g : Nat} {T : TypeId} {B : List UInt8} (h : BytesAt w g T B) (i : Nat) : w.frozen? ⟨g, i, none⟩ = false := by obtain ⟨_, h, _⟩ := h; exact h.frozen i
theorem BytesAt.set {w : World} {g : Nat} {T : TypeId} {B : List UInt8} (h : BytesAt w g T B) (i : Nat) {x : Int} {y : UInt8} (hx : x = (y.toNat : Int)) : BytesAt (w.setCell ⟨g, i, none⟩ (.int .u8 x)) g T (B.set i y) := by
  subst hx
  obtain ⟨cur, h1, h2⟩ := h
  refine ⟨_, h1.set i _, ?_⟩
  rw [List.length_set, Array.toList_setIfInBounds, List.take_set, h2]
  simp [Lib.byteCells, List.map_set]
theorem BytesAt.size {w : World} {g : Nat} {T : TypeId} {B : List UInt8} (h : BytesAt w g T B) : ∃ cur : Array Value, Blk w g cur T ∧ B.length ≤ cur.size ∧ cur.toList.take B.length = Lib.byteCells B := by
  obtain ⟨cur, h1, h2⟩ := h
  refine ⟨cur, h1, ?_, h2⟩
  have := congrArg List.length h2
  rw [List.length_take, Lib.byteCells_length] at this
  simp at this
  omega
theorem BytesAt.there {w : World} {g : Nat} {T : TypeId} {B : List UInt8} (h : BytesAt w g T B) (o n : Nat) (hn : o + n ≤ B.length) : w.there g o n := fun j hj =>
  ⟨by rw [h.cell (i := o + j) (by omega)]; rfl, h.frozen _⟩
theorem BytesAt.range {w : World} {g : Nat} {T : TypeId} {B : List UInt8} (h : BytesAt w g T B) (o n : Nat) : w.rangeAt g o (Lib.byteCells ((B.drop o).take n)) := fun j v hv => by
  have hj : j < ((B.drop o).take n).length := by
    have := (List.getElem?_eq_some_iff.1 hv).1
    rwa [Lib.byteCells_length] at this
  simp at hj
  rw [h.cell (i := o + j) (by omega)]
  simp only [Lib.byteCells, List.getElem?_map, List.getElem?_take, List.getElem?_drop] at hv
  rw [if_pos (by omega), List.getElem?_eq_getElem (by omega)] at hv
  simp only [Option.map_some] at hv
  rw [← hv, List.getD_eq_getElem?_getD, List.getElem?_eq_getElem (by omega)]
  rfl
theorem BytesAt.rd {w : World} {g : Nat} {T : TypeId} {B : List UInt8} (h : BytesAt w g T B) (o n : Nat) : Rd w w.heap.size (some ⟨g, o, none⟩) ((B.drop o).take n) := by
  refine .inr ⟨g, o, rfl, h.lt, fun i hi => ?_⟩
  have hi' := hi
  simp at hi'
  rw [h.cell (i := o + i) (by omega)]
  simp [List.getD_eq_getElem?_getD, show o + i < B.length by omega]
theorem BytesAt.of_own {w : World} {base : Nat} {T : TypeId} {g n c k : Nat} {B : List UInt8} (h : w.ownsRow base T k (.slice (some ⟨g, 0, none⟩) n c) n (Lib.byteCells B)) : BytesAt w g T B ∧ base ≤ g := by
  rcases h.2 with ⟨h1, _⟩ | ⟨g', cap, cur, h1, h2, h3, _, _, _, h4⟩
  · cases h1
  · injection h1 with h1
    injection h1 with h1
    injection h1 with h1
    subst h1
    refine ⟨⟨cur, h3, ?_⟩, h2⟩
    have := h.1
    rw [Lib.byteCells_length] at this
    rw [this, h4]

/-- Bytes laid over others, from o on. -/
def layL (B : List UInt8) (o : Nat) (l : List UInt8) : List UInt8 := B.take o ++ l ++ B.drop (o + l.length)
theorem layL_len {B l : List UInt8} {o : Nat} (h : o + l.length ≤ B.length) : (layL B o l).length = B.length := by simp [layL]; omega
theorem layL_nil (B : List UInt8) (o : Nat) : layL B o [] = B := by simp [layL]
theorem layL_cons (B : List UInt8) (o : Nat) (x : UInt8) (l : List UInt8) (h : o + (x :: l).length ≤ B.length) : layL (B.set o x) (o + 1) l = layL B o (x :: l) := by
  unfold layL
  exact set_parts B o x l h
theorem BytesAt.putAll {g : Nat} {T : TypeId} : ∀ (l : List UInt8) (o : Nat) {w : World} {B : List UInt8}, BytesAt w g T B → o + l.length ≤ B.length → BytesAt (w.setCells g o (Lib.byteCells l)) g T (layL B o l)
  | [], o, w, B, h, _ => by rw [layL_nil]; simpa [World.setCells, Lib.byteCells] using h
  | x :: l, o, w, B, h, hl => by
    have h1 := h.set o (x := (x.toNat : Int)) (y := x) rfl
    have h2 := BytesAt.putAll l (o + 1) h1 (by simp at hl ⊢; omega)
    rw [layL_cons B o x l hl] at h2
    exact h2
theorem BytesAt.splice {w : World} {g : Nat} {T : TypeId} {B l : List UInt8} {o : Nat} {cur : Array Value} (h : Blk w g cur T) (h2 : cur.toList.take B.length = Lib.byteCells B) (hl : o + l.length ≤ B.length) :
    BytesAt (w.setRow g (cur.toList.take o ++ (Lib.byteCells l ++ cur.toList.drop (o + (Lib.byteCells l).length))).toArray) g T (layL B o l) := by
  refine ⟨_, h.row _, ?_⟩
  rw [layL_len hl]
  simp only [Lib.byteCells_length]
  have hc : cur.toList = Lib.byteCells B ++ cur.toList.drop B.length := by rw [← h2, List.take_append_drop]
  have hbl : (Lib.byteCells B).length = B.length := Lib.byteCells_length B
  generalize cur.toList.drop B.length = R at hc
  have hA : cur.toList.take o = (Lib.byteCells B).take o := by rw [hc, List.take_append_of_le_length (by omega)]
  have hD : cur.toList.drop (o + l.length) = (Lib.byteCells B).drop (o + l.length) ++ R := by rw [hc, List.drop_append_of_le_length (by omega)]
  rw [hA, hD]
  have e : (Lib.byteCells B).take o ++ (Lib.byteCells l ++ ((Lib.byteCells B).drop (o + l.length) ++ R)) = Lib.byteCells (layL B o l) ++ R := by
    simp [layL, Lib.byteCells, List.map_take, List.map_drop]
  rw [e, List.take_append_of_le_length (by rw [Lib.byteCells_length, layL_len hl]; exact Nat.le_refl _), List.take_of_length_le (by rw [Lib.byteCells_length, layL_len hl]; exact Nat.le_refl _)]

theorem sizeU8 : (Tryz.prog.info? 5).map (·.size) = some 1 := by kernel_rfl
/-- copy of bytes into the midst of such a block. -/
theorem wpList_copy_at {w : World} {ops : Array Oper} {rest : List Oper} {o : Oper} {a : Act} {Q : Exit → Act → World → Prop} (hgd : o.guard = none) (d s : Operand)
    (ho : o.op = .call { callee := .builtin .copy, args := #[d, s], argTypes := #[35, 35] }) (g off n c : Nat) (T : TypeId) (B : List UInt8) (hB : BytesAt w g T B) (C : Nat) (A : Option Addr) (m e : Nat) (l : List UInt8)
    (hd : a.eval d = .slice (some ⟨g, off, none⟩) n c) (hs : a.eval s = .slice A m e) (hl : l.length = m) (hr : Rd w C A l) (k : Nat) (hk : k = min m n) (hfit : off + k ≤ B.length)
    (h : ∀ w', BytesAt w' g T (layL B off (l.take k)) → w.grownBy w' (some g) → wpList Tryz.prog ops Q rest (a.put o.dst (goInt k)) w') : wpList Tryz.prog ops Q (o :: rest) a w := by
  subst hk hl
  by_cases h0 : min l.length n = 0
  · refine wpList_copy_nothing hgd d s 35 35 ho 5 Tryz.underlying35 sizeU8 _ _ _ _ _ _ hd hs h0 ?_
    have := h w (by rw [h0, List.take_zero, layL_nil]; exact hB) (World.grownBy.refl w _)
    rwa [h0] at this
  · obtain ⟨cur, h1, h2, h3⟩ := hB.size
    have hn0 : l ≠ [] := by rintro rfl; simp at h0
    obtain ⟨ad, rfl⟩ : ∃ ad, A = some ad := by
      rcases hr with hr | ⟨b, o', hA, _⟩
      · exact absurd hr hn0
      · exact ⟨_, hA⟩
    have hll : (l.take (min l.length n)).length = min l.length n := by rw [List.length_take]; omega
    refine wpList_copy_own hgd d s 35 35 ho 5 Tryz.underlying35 sizeU8 g off n c ad _ _ hd hs cur T h1 (Lib.byteCells (l.take (min l.length n))) (by rw [Lib.byteCells_length, hll]) (hr.take _).cells (by rw [Lib.byteCells_length, hll]; omega) (Lib.byteCells_one _) ?_
    have := h _ (BytesAt.splice h1 h3 (by rw [hll]; exact hfit)) (setRow_grown w g _)
    rw [show (Lib.byteCells (l.take (min l.length n))).length = min l.length n by rw [Lib.byteCells_length, hll]] at this ⊢
    exact this

/-- The bytes at A are l, in a block outside of S. -/
def RdA (S : Nat → Prop) (w : World) (A : Option Addr) (l : List UInt8) : Prop :=
  l = [] ∨ ∃ b off, A = some ⟨b, off, none⟩ ∧ b < w.heap.size ∧ ¬ S b ∧ ∀ i (h : i < l.length), w.cell? ⟨b, off + i, none⟩ = some (.int .u8 (l[i].toNat : Int))
theorem RdA.rd {S : Nat → Prop} {w : World} {A : Option Addr} {l : List UInt8} (h : RdA S w A l) : Rd w w.heap.size A l := by
  rcases h with rfl | ⟨b, off, rfl, h1, _, h2⟩
  · exact .inl rfl
  · exact .inr ⟨b, off, rfl, h1, h2⟩
theorem RdA.chg {S : Nat → Prop} {w w' : World} {A : Option Addr} {l : List UInt8} (h : RdA S w A l) (hc : Chg S w w') : RdA S w' A l := by
  rcases h with rfl | ⟨b, off, rfl, h1, h2, h3⟩
  · exact .inl rfl
  · exact .inr ⟨b, off, rfl, Nat.lt_of_lt_of_le h1 hc.size, h2, fun i hi => (World.cell?_of_block (hc.block b h1 h2)).trans (h3 i hi)⟩
theorem RdA.less {S T : Nat → Prop} {w : World} {A : Option Addr} {l : List UInt8} (h : RdA S w A l) (hT : ∀ k, T k → S k) : RdA T w A l := by
  rcases h with rfl | ⟨b, off, rfl, h1, h2, h3⟩
  · exact .inl rfl
  · exact .inr ⟨b, off, rfl, h1, fun h => h2 (hT b h), h3⟩
theorem RdA.at_ {S : Nat → Prop} {w : World} {A : Option Addr} {l : List UInt8} (h : RdA S w A l) {i : Nat} (hi : i < l.length) : ∃ b off, A = some ⟨b, off, none⟩ ∧ ¬ S b ∧ w.cell? ⟨b, off + i, none⟩ = some (.int .u8 (l[i].toNat : Int)) := by
  rcases h with rfl | ⟨b, off, rfl, _, h2, h3⟩
  · simp at hi
  · exact ⟨b, off, rfl, h2, h3 i hi⟩
end Go.Proofs.YtndknifdajjalaaGreatDoor
