/- A capability's cells in memory; the program's Same, Valid, CanRead, CanWrite, and its kinds. -/
import Derived.Test.YtkkokngdhhakdaaDoorOpenCp
import Derived.Test.YtkkokngdhhakdaaDoorHashD
import Derived.StillTailTactics
namespace Go.Proofs.YtkkokngdhhakdaaDoor
open Go.RowKit
set_option maxRecDepth 100000

section
variable {P : Program}
theorem wpList_valC {w : World} {ops : Array Oper} {rest : List Oper} {o : Oper} {a : Act} {Q : Exit → Act → World → Prop} (v : Value) (hw : Region.wanted o (yielded ops a.tmps) = true) (hrun : (execOp a.eval o).run P w = .ok (.value v) w)
    (hk : wpList P ops Q rest (a.put o.dst v) w) : wpList P ops Q (o :: rest) a w :=
  wpList_step fun K hK => by
    rw [if_pos hw]
    unfold Oper.wp
    rw [hrun]
    exact hK _ _ hk
theorem wpList_load_whenC {w : World} {ops : Array Oper} {rest : List Oper} {o : Oper} {a : Act} {Q : Exit → Act → World → Prop} (hw : Region.wanted o (yielded ops a.tmps) = true) (ty : TypeId) (x : Operand) (ho : o.op = .load ty x)
    (g : Nat) (hx : a.eval x = .pointer (some ⟨g, 0, none⟩)) (t : TypeId) (cs : Array Value) (d : TypeDesc) (hg : Blk w g cs t) (hu : P.underlying ty = some d) (hd : (match d with | .struct _ | .array _ _ => true | _ => false) = true) (hi : (P.info? ty).map (·.size) = some cs.size)
    (hk : wpList P ops Q rest (a.put o.dst (.agg cs)) w) : wpList P ops Q (o :: rest) a w :=
  wpList_step fun K hK => by
    rw [if_pos hw]
    exact wp_load_row ty x ho g hx t cs (0, 0) d hg hu hd hi (hK _ _ hk)
theorem run_load_rowC {w : World} {ρ : Operand → Value} {o : Oper} (ty : TypeId) (x : Operand) (ho : o.op = .load ty x) (b off : Nat) (hx : ρ x = .pointer (some ⟨b, off, none⟩)) (cs : List Value) (d : TypeDesc) (hS : w.rangeAt b off cs)
    (hu : P.underlying ty = some d) (hd : d.isRow = true) (hi : (P.info? ty).map (·.size) = some cs.length) {X : Array Value} (hX : X = cs.toArray) : (execOp ρ o).run P w = .ok (.value (.agg X)) w := by
  subst hX
  unfold execOp
  simp only [ho, hx, Instr.loadAt, Instr.sureAddr, Sem.run_bind, Sem.run_pure, Result.andThen_ok, run_loadVar_mid w b off ty cs d hS hu hd hi]
end
set_option maxHeartbeats 400000 in
theorem equalC_any (A B : Option Addr) (n m c d C D : Nat) (l k : List UInt8) (w : World) (hn : l.length = n) (hm : k.length = m) (ha : Rd w C A l) (hb : Rd w D B k) :
    Calls Tryd.prog 61 #[.slice A n c, .slice B m d] w fun e w' => e = .returned (.bool (l == k)) ∧ w = w' := by
  have h1 := run_string_rd (P := Tryd.prog) 26 9 5 Tryd.underlying26 Tryd.underlying5 Tryd.underlying9 _ _ n c l hn ha
  have h2 := run_string_rd (P := Tryd.prog) 26 9 5 Tryd.underlying26 Tryd.underlying5 Tryd.underlying9 _ _ m d k hm hb
  go_enter Tryd.func61, Tryd.ntmps61
  go_wp2_with fail
  go_ret
  exact ⟨rfl, rfl⟩

theorem capL_at0 (c : Cap13) (X : Value) : (capL c X)[0]? = some (.int .i64 c.kind) := rfl
theorem capL_key (c : Cap13) (X : Value) (hw : c.wf) (i : Nat) (hi : i < 16) : (capL c X)[1 + i]? = (Lib.byteCells c.key)[i]? := by
  have hl : (Lib.byteCells c.key).length = 16 := by rw [Lib.byteCells_length, hw.1]
  unfold capL
  rw [show 1 + i = i + 1 by omega, List.getElem?_cons_succ, List.getElem?_append_left (by omega)]
theorem capL_fp (c : Cap13) (X : Value) (hw : c.wf) (i : Nat) (hi : i < 32) : (capL c X)[17 + i]? = (Lib.byteCells c.fp)[i]? := by
  have hl : (Lib.byteCells c.key).length = 16 := by rw [Lib.byteCells_length, hw.1]
  have hl2 : (Lib.byteCells c.fp).length = 32 := by rw [Lib.byteCells_length, hw.2]
  unfold capL
  rw [show 17 + i = (16 + i) + 1 by omega, List.getElem?_cons_succ, List.getElem?_append_right (by omega), hl, List.getElem?_append_left (by omega)]
  congr 1
  omega
theorem capL_rest (c : Cap13) (X : Value) (hw : c.wf) (i : Nat) : (capL c X)[49 + i]? = [Value.int .i64 c.k, Value.int .i64 c.n, Value.int .i64 c.size, X][i]? := by
  have hl : (Lib.byteCells c.key).length = 16 := by rw [Lib.byteCells_length, hw.1]
  have hl2 : (Lib.byteCells c.fp).length = 32 := by rw [Lib.byteCells_length, hw.2]
  unfold capL
  rw [show 49 + i = (48 + i) + 1 by omega, List.getElem?_cons_succ, List.getElem?_append_right (by omega), hl, List.getElem?_append_right (by omega), hl2]
  congr 1
  omega

/-- The capability in a block of its own. -/
structure CapAt (w : World) (b : Nat) (c : Cap13) (X : Value) : Prop where
  blk : Blk w b (capA c X) 28
  wf : c.wf
theorem CapAt.lt {w : World} {b : Nat} {c : Cap13} {X : Value} (h : CapAt w b c X) : b < w.heap.size := h.blk.lt
theorem CapAt.below {w w' : World} {b : Nat} {c : Cap13} {X : Value} (h : CapAt w b c X) (hb : Below w.heap.size w w') : CapAt w' b c X := ⟨h.blk.below hb h.blk.lt, h.wf⟩
theorem CapAt.cell {w : World} {b : Nat} {c : Cap13} {X : Value} (h : CapAt w b c X) (i : Nat) : w.cell? ⟨b, i, none⟩ = (capL c X)[i]? := by
  rw [h.blk.cell i]
  unfold capA
  rw [List.getElem?_toArray]
theorem CapAt.cells {w : World} {b : Nat} {c : Cap13} {X : Value} (h : CapAt w b c X) : w.cell? ⟨b, 0, none⟩ = some (.int .i64 c.kind) ∧ w.cell? ⟨b, 49, none⟩ = some (.int .i64 c.k) ∧ w.cell? ⟨b, 50, none⟩ = some (.int .i64 c.n) ∧ w.cell? ⟨b, 51, none⟩ = some (.int .i64 c.size) ∧ w.cell? ⟨b, 52, none⟩ = some X :=
  ⟨(h.cell 0).trans (capL_at0 c X), (h.cell 49).trans (capL_rest c X h.wf 0), (h.cell 50).trans (capL_rest c X h.wf 1), (h.cell 51).trans (capL_rest c X h.wf 2), (h.cell 52).trans (capL_rest c X h.wf 3)⟩
theorem CapAt.rangeKey {w : World} {b : Nat} {c : Cap13} {X : Value} (h : CapAt w b c X) : w.rangeAt b 1 (Lib.byteCells c.key) := fun j v hv => by
  have hj : j < 16 := by
    have := (List.getElem?_eq_some_iff.1 hv).1
    rwa [Lib.byteCells_length, h.wf.1] at this
  rw [h.cell, capL_key c X h.wf j hj, hv]
theorem CapAt.rangeFp {w : World} {b : Nat} {c : Cap13} {X : Value} (h : CapAt w b c X) : w.rangeAt b 17 (Lib.byteCells c.fp) := fun j v hv => by
  have hj : j < 32 := by
    have := (List.getElem?_eq_some_iff.1 hv).1
    rwa [Lib.byteCells_length, h.wf.2] at this
  rw [h.cell, capL_fp c X h.wf j hj, hv]
theorem CapAt.frozen {w : World} {b : Nat} {c : Cap13} {X : Value} (h : CapAt w b c X) (i : Nat) : w.frozen? ⟨b, i, none⟩ = false := h.blk.frozen i
theorem CapAt.new (w : World) {c : Cap13} (X : Value) (hw : c.wf) {CX : Array Value} (hCX : capA c X = CX) : CapAt (w.alloc (.cells CX 28)) w.heap.size c X := ⟨by rw [hCX]; exact Blk.new w _ _, hw⟩

theorem run_key_eq (W : World) (x y : List UInt8) (hx : x.length = 16) (hy : y.length = 16) : (Op.equalIn 10000 23 (.agg (u8A x)) (.agg (u8A y))).run Tryd.prog W = .ok (decide (x = y)) W := by
  obtain ⟨i, hi, _⟩ := infoByte
  rw [show (10000 : Nat) = 9999 + 1 from rfl, run_equalIn_array W 9999 (u8A x) (u8A y) Tryd.underlying23 hi, show Tryd.prog.cellsOf 5 = 1 from by kernel_rfl, run_items W x y 9998 _ (fun j hj => by have := List.mem_range.1 hj; omega), all_upto 16 x y hx hy]

theorem keySize : (Tryd.prog.info? 23).map (·.size) = some 16 := by kernel_rfl
theorem hashSize : (Tryd.prog.info? 25).map (·.size) = some 32 := by kernel_rfl
theorem capSize : (Tryd.prog.info? 28).map (·.size) = some 53 := by kernel_rfl
theorem CapAt.load {w : World} {b : Nat} {c : Cap13} {X : Value} (h : CapAt w b c X) {CX : Array Value} (hX : capA c X = CX) : (loadVar 28 ⟨b, 0, none⟩).run Tryd.prog w = .ok (.agg CX) w := by
  subst hX
  exact run_loadVar_mid w b 0 28 (capL c X) _ (fun j v hv => by rw [h.cell, Nat.zero_add, hv]) Tryd.underlying28 rfl (by rw [capSize, capL_len h.wf])
theorem CapAt.loadKey {w : World} {b : Nat} {c : Cap13} {X : Value} (h : CapAt w b c X) {KX : Array Value} (hX : u8A c.key = KX) : (loadVar 23 ⟨b, 1, none⟩).run Tryd.prog w = .ok (.agg KX) w := by
  subst hX
  exact run_loadVar_mid w b 1 23 (Lib.byteCells c.key) _ h.rangeKey Tryd.underlying23 rfl (by rw [keySize, Lib.byteCells_length, h.wf.1])
theorem CapAt.loadFp {w : World} {b : Nat} {c : Cap13} {X : Value} (h : CapAt w b c X) {FX : Array Value} (hX : u8A c.fp = FX) : (loadVar 25 ⟨b, 17, none⟩).run Tryd.prog w = .ok (.agg FX) w := by
  subst hX
  exact run_loadVar_mid w b 17 25 (Lib.byteCells c.fp) _ h.rangeFp Tryd.underlying25 rfl (by rw [hashSize, Lib.byteCells_length, h.wf.2])
theorem CapAt.loadC {w : World} {b : Nat} {c : Cap13} {X : Value} (h : CapAt w b c X) {CX : Array Value} (hX : capA c X = CX) : (loadCells ⟨b, 0, none⟩ 53).run Tryd.prog w = .ok CX w := by
  subst hX
  have := run_loadCells_list (P := Tryd.prog) w ⟨b, 0, none⟩ (capL c X) (fun j v hv => by rw [Addr.add_mid, h.cell, Nat.zero_add, hv])
  rwa [capL_len h.wf] at this
/-- Key and print are loaded. -/
theorem wpList_load_keyC {w : World} {ops : Array Oper} {rest : List Oper} {o : Oper} {a : Act} {Q : Exit → Act → World → Prop} (hw : Region.wanted o (yielded ops a.tmps) = true) (x : Operand) (ho : o.op = .load 23 x)
    (b : Nat) (hx : a.eval x = .pointer (some ⟨b, 1, none⟩)) {c : Cap13} {Y : Value} (h : CapAt w b c Y) {X : Array Value} (hX : u8A c.key = X)
    (hk : wpList Tryd.prog ops Q rest (a.put o.dst (.agg X)) w) : wpList Tryd.prog ops Q (o :: rest) a w :=
  wpList_valC (.agg X) hw (run_load_rowC 23 x ho b 1 hx (Lib.byteCells c.key) _ h.rangeKey Tryd.underlying23 rfl (by rw [keySize, Lib.byteCells_length, h.wf.1]) hX.symm) hk
theorem wpList_load_fpC {w : World} {ops : Array Oper} {rest : List Oper} {o : Oper} {a : Act} {Q : Exit → Act → World → Prop} (hw : Region.wanted o (yielded ops a.tmps) = true) (x : Operand) (ho : o.op = .load 25 x)
    (b : Nat) (hx : a.eval x = .pointer (some ⟨b, 17, none⟩)) {c : Cap13} {Y : Value} (h : CapAt w b c Y) {X : Array Value} (hX : u8A c.fp = X)
    (hk : wpList Tryd.prog ops Q rest (a.put o.dst (.agg X)) w) : wpList Tryd.prog ops Q (o :: rest) a w :=
  wpList_valC (.agg X) hw (run_load_rowC 25 x ho b 17 hx (Lib.byteCells c.fp) _ h.rangeFp Tryd.underlying25 rfl (by rw [hashSize, Lib.byteCells_length, h.wf.2]) hX.symm) hk
theorem wpList_load_capC {w : World} {ops : Array Oper} {rest : List Oper} {o : Oper} {a : Act} {Q : Exit → Act → World → Prop} (hw : Region.wanted o (yielded ops a.tmps) = true) (x : Operand) (ho : o.op = .load 28 x)
    (b : Nat) (hx : a.eval x = .pointer (some ⟨b, 0, none⟩)) {c : Cap13} {Y : Value} (h : CapAt w b c Y) {X : Array Value} (hX : capA c Y = X)
    (hk : wpList Tryd.prog ops Q rest (a.put o.dst (.agg X)) w) : wpList Tryd.prog ops Q (o :: rest) a w := by
  subst hX
  exact wpList_load_whenC hw 28 x ho b hx 28 _ _ h.blk Tryd.underlying28 rfl (by rw [capSize, capA_size h.wf]) hk

theorem Cap13.same_iff (a b : Cap13) : a = b ↔ a.kind = b.kind ∧ a.key = b.key ∧ a.fp = b.fp ∧ a.k = b.k ∧ a.n = b.n ∧ a.size = b.size ∧ a.lit = b.lit := by
  obtain ⟨_, _, _, _, _, _, _⟩ := a
  obtain ⟨_, _, _, _, _, _, _⟩ := b
  simp
instance : DecidableEq Cap13 := fun a b => decidable_of_iff _ (a.same_iff b).symm

/-! What is built: a struct with some of its fields given -/
theorem built_cap0 : Tryd.prog.built 28 [] = some (capA cap0 (.slice none 0 0)) := by kernel_rfl
theorem built_cap06 (k : Int) (X : Option Addr) (n c : Nat) : Tryd.prog.built 28 [(0, .int .i64 k), (6, .slice X n c)] = some (capA ⟨k, key0, hash0, 0, 0, 0, []⟩ (.slice X n c)) := by kernel_rfl
theorem built_capK (k : Int) : Tryd.prog.built 28 [(0, .int .i64 k)] = some (capA ⟨k, key0, hash0, 0, 0, 0, []⟩ (.slice none 0 0)) := by kernel_rfl
theorem built_key0 : Tryd.prog.built 23 [] = some (u8A key0) := by kernel_rfl
theorem built_hash0 : Tryd.prog.built 25 [] = some (u8A hash0) := by kernel_rfl
theorem wpList_build_C {w : World} {ops : Array Oper} {rest : List Oper} {o : Oper} {a : Act} {Q : Exit → Act → World → Prop} (hw : Region.wanted o (yielded ops a.tmps) = true) (T : TypeId) (xs : Array (Nat × Operand)) (ho : o.op = .build T xs) (L : List (Nat × Value)) (hL : (xs.map fun (i, x) => (i, a.eval x)).toList = L)
    (Z Y : Array Value) (hb : Tryd.prog.built T L = some Y) (hZ : Y = Z)
    (hk : wpList Tryd.prog ops Q rest (a.put o.dst (.agg Z)) w) : wpList Tryd.prog ops Q (o :: rest) a w := by
  subst hZ
  refine wpList_step fun K hK => ?_
  rw [if_pos hw]
  have hb' : Tryd.prog.built T (xs.map fun (i, x) => (i, a.eval x)).toList = some Y := by rw [hL]; exact hb
  refine wp_build (P := Tryd.prog) T xs ho (by rw [hb']; rfl) ?_
  rw [hb']
  exact hK _ _ hk

theorem ok_file {c : Cap13} {n : Nat} (hn : c.lit.length = n) (hk : c.kind = 1 ∨ c.kind = 2) : c.ok ↔ 1 ≤ c.k ∧ c.k ≤ c.n ∧ c.n ≤ 16 ∧ 1 ≤ c.size ∧ c.size ≤ 1024 ∧ (n : Int) = 0 := by
  unfold Cap13.ok
  rw [if_pos (show FileK c.kind from hk)]
  have : c.lit = [] ↔ (n : Int) = 0 := by rw [← List.length_eq_zero_iff, hn]; omega
  rw [this]
theorem ok_lit {c : Cap13} {n : Nat} (hn : c.lit.length = n) (hk : c.kind = 3) : c.ok ↔ (n : Int) ≤ 64 ∧ c = ⟨c.kind, key0, hash0, 0, 0, 0, c.lit⟩ := by
  unfold Cap13.ok Cap13.none3
  rw [if_neg (show ¬ FileK c.kind by unfold FileK; omega), if_pos hk, Cap13.same_iff]
  constructor
  · rintro ⟨⟨h1, h2, h3⟩, h4, h5, h6⟩
    exact ⟨by omega, rfl, h4, h5, h1, h2, h3, rfl⟩
  · rintro ⟨h1, _, h4, h5, h6, h7, h8, _⟩
    exact ⟨⟨h6, h7, h8⟩, h4, h5, by omega⟩
theorem ok_slot {c : Cap13} {n : Nat} (hn : c.lit.length = n) (hk : 4 ≤ c.kind ∧ c.kind ≤ 9) : c.ok ↔ c.k = 0 ∧ c.n = 0 ∧ c.size = 0 ∧ (n : Int) = 0 := by
  unfold Cap13.ok Cap13.none3
  rw [if_neg (show ¬ FileK c.kind by unfold FileK; omega), if_neg (show ¬ c.kind = 3 by omega)]
  have : c.lit = [] ↔ (n : Int) = 0 := by rw [← List.length_eq_zero_iff, hn]; omega
  rw [this]
  constructor
  · rintro ⟨_, ⟨h1, h2, h3⟩, h4⟩
    exact ⟨h1, h2, h3, h4⟩
  · rintro ⟨h1, h2, h3, h4⟩
    exact ⟨hk, ⟨h1, h2, h3⟩, h4⟩
end Go.Proofs.YtkkokngdhhakdaaDoor
