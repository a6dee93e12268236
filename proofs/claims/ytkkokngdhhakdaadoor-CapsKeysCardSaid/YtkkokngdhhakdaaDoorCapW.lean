/- A capability in memory, changed; the law's own Valid and cut. -/
import Derived.Test.YtkkokngdhhakdaaDoorCapT
import Derived.Test.YtkkokngdhhakdaaDoorKeep
import Derived.Test.YtkkokngdhhakdaaDoorCopyB
namespace Go.Proofs.YtkkokngdhhakdaaDoor
open Go.RowKit
set_option maxRecDepth 100000

theorem capL_setKind (c : Cap13) (X : Value) (i : Int) : (capA c X).setIfInBounds 0 (.int .i64 i) = capA { c with kind := i } X := by
  unfold capA
  rw [List.setIfInBounds_toArray]
  rfl
theorem capL_setRest {c : Cap13} (hw : c.wf) (X : Value) (j : Nat) (v : Value) : (capA c X).setIfInBounds (49 + j) v = (Value.int .i64 c.kind :: (Lib.byteCells c.key ++ (Lib.byteCells c.fp ++ ([Value.int .i64 c.k, Value.int .i64 c.n, Value.int .i64 c.size, X] : List Value).set j v))).toArray := by
  have hl : (Lib.byteCells c.key).length = 16 := by rw [Lib.byteCells_length, hw.1]
  have hl2 : (Lib.byteCells c.fp).length = 32 := by rw [Lib.byteCells_length, hw.2]
  unfold capA capL
  rw [List.setIfInBounds_toArray, show 49 + j = (48 + j) + 1 by omega, List.set_cons_succ, List.set_append_right _ _ (by omega), hl, List.set_append_right _ _ (by omega), hl2, show 48 + j - 16 - 32 = j by omega]
theorem CapAt.setKind {w : World} {b : Nat} {c : Cap13} {X : Value} (h : CapAt w b c X) (i : Int) : CapAt (w.setCell ⟨b, 0, none⟩ (.int .i64 i)) b { c with kind := i } X :=
  ⟨by rw [← capL_setKind]; exact h.blk.set 0 _, h.wf⟩
theorem CapAt.setK {w : World} {b : Nat} {c : Cap13} {X : Value} (h : CapAt w b c X) (i : Int) : CapAt (w.setCell ⟨b, 49, none⟩ (.int .i64 i)) b { c with k := i } X :=
  ⟨by have := h.blk.set 49 (.int .i64 i); rwa [show (49 : Nat) = 49 + 0 from rfl, capL_setRest h.wf] at this, h.wf⟩
theorem CapAt.setN {w : World} {b : Nat} {c : Cap13} {X : Value} (h : CapAt w b c X) (i : Int) : CapAt (w.setCell ⟨b, 50, none⟩ (.int .i64 i)) b { c with n := i } X :=
  ⟨by have := h.blk.set 50 (.int .i64 i); rwa [show (50 : Nat) = 49 + 1 from rfl, capL_setRest h.wf] at this, h.wf⟩
theorem CapAt.setSize {w : World} {b : Nat} {c : Cap13} {X : Value} (h : CapAt w b c X) (i : Int) : CapAt (w.setCell ⟨b, 51, none⟩ (.int .i64 i)) b { c with size := i } X :=
  ⟨by have := h.blk.set 51 (.int .i64 i); rwa [show (51 : Nat) = 49 + 2 from rfl, capL_setRest h.wf] at this, h.wf⟩
theorem CapAt.setLit {w : World} {b : Nat} {c : Cap13} {X : Value} (h : CapAt w b c X) (Y : Value) (l : List UInt8) : CapAt (w.setCell ⟨b, 52, none⟩ Y) b { c with lit := l } Y :=
  ⟨by have := h.blk.set 52 Y; rwa [show (52 : Nat) = 49 + 3 from rfl, capL_setRest h.wf] at this, h.wf⟩
theorem CapAt.noLit {w : World} {b : Nat} {c : Cap13} {X : Value} (h : CapAt w b c X) (l : List UInt8) : CapAt w b { c with lit := l } X := ⟨h.blk, h.wf⟩
/-- Cells laid over a part of a block. -/
theorem Blk.over {g : Nat} {T : TypeId} : ∀ (vs old p r : List Value) {w : World}, old.length = vs.length → Blk w g (p ++ (old ++ r)).toArray T → Blk (w.setCells g p.length vs) g (p ++ (vs ++ r)).toArray T
  | [], old, p, r, w, hl, h => by
    obtain rfl : old = [] := List.length_eq_zero_iff.1 (by simpa using hl)
    exact h
  | v :: vs, [], p, r, w, hl, h => by simp at hl
  | v :: vs, x :: old, p, r, w, hl, h => by
    have h1 := h.set p.length v
    rw [List.setIfInBounds_toArray, List.set_append_right _ _ (Nat.le_refl _), Nat.sub_self, List.cons_append, List.set_cons_zero] at h1
    have h2 := Blk.over vs old (p ++ [v]) r (w := w.setCell ⟨g, p.length, none⟩ v) (by simpa using hl) (by simpa using h1)
    simpa [World.setCells] using h2
theorem CapAt.setKey {w : World} {b : Nat} {c : Cap13} {X : Value} (h : CapAt w b c X) (k : List UInt8) (hk : k.length = 16) : CapAt (w.setCells b 1 (Lib.byteCells k)) b { c with key := k } X :=
  ⟨Blk.over (Lib.byteCells k) (Lib.byteCells c.key) [Value.int .i64 c.kind] _ (by rw [Lib.byteCells_length, Lib.byteCells_length, hk, h.wf.1]) h.blk, hk, h.wf.2⟩
theorem CapAt.setFp {w : World} {b : Nat} {c : Cap13} {X : Value} (h : CapAt w b c X) (k : List UInt8) (hk : k.length = 32) : CapAt (w.setCells b 17 (Lib.byteCells k)) b { c with fp := k } X := by
  have hb := h.blk
  unfold capA capL at hb
  rw [show (Value.int .i64 c.kind :: (Lib.byteCells c.key ++ (Lib.byteCells c.fp ++ [Value.int .i64 c.k, Value.int .i64 c.n, Value.int .i64 c.size, X]))) = (Value.int .i64 c.kind :: Lib.byteCells c.key) ++ (Lib.byteCells c.fp ++ [Value.int .i64 c.k, Value.int .i64 c.n, Value.int .i64 c.size, X]) from rfl] at hb
  have := Blk.over (Lib.byteCells k) (Lib.byteCells c.fp) _ _ (by rw [Lib.byteCells_length, Lib.byteCells_length, hk, h.wf.2]) hb
  rw [show (Value.int .i64 c.kind :: Lib.byteCells c.key).length = 17 by simp [Lib.byteCells_length, h.wf.1]] at this
  exact ⟨this, h.wf.1, hk⟩
theorem CapAt.other {w : World} {b : Nat} {c : Cap13} {X : Value} (h : CapAt w b c X) {p : Addr} (hp : b ≠ p.block) (v : Value) : CapAt (w.setCell p v) b c X := ⟨h.blk.other hp v, h.wf⟩
theorem CapAt.there {w : World} {b : Nat} {c : Cap13} {X : Value} (h : CapAt w b c X) (o n : Nat) (hn : o + n ≤ 53) : w.there b o n := fun j hj =>
  ⟨by rw [h.cell, List.getElem?_eq_getElem (by rw [capL_len h.wf]; omega)]; rfl, h.frozen _⟩
theorem capA_one {c : Cap13} {A : Option Addr} {n cc : Nat} : (capA c (.slice A n cc)).all (·.oneCell') = true := by
  unfold capA capL
  rw [List.all_toArray]
  simp [Lib.byteCells, Value.oneCell']

/-- Its Lit is empty, or lies at B or above. -/
def LitAt (B : Nat) (A : Option Addr) (l : List UInt8) : Prop := l = [] ∨ ∀ ad, A = some ad → B ≤ ad.block
/-- The value reads as the capability; its Lit lies at B or above. -/
def CapV (w : World) (B : Nat) (v : Value) (c : Cap13) : Prop := c.wf ∧ ∃ A m cc, v = .agg (capA c (.slice A m cc)) ∧ c.lit.length = m ∧ m ≤ cc ∧ Rd w w.heap.size A c.lit ∧ LitAt B A c.lit
theorem CapV.on {w w' : World} {B : Nat} {v : Value} {c : Cap13} (h : CapV w B v c) (hb : Below w.heap.size w w') : CapV w' B v c := by
  obtain ⟨h1, A, m, cc, h2, h3, h4, h5, h6⟩ := h
  exact ⟨h1, A, m, cc, h2, h3, h4, h5.on hb, h6⟩
theorem rd_keepB {B : Nat} {w w' : World} (h : ∀ g, B ≤ g → w'.heap[g]? = w.heap[g]?) (hs : w.heap.size ≤ w'.heap.size) {A : Option Addr} {l : List UInt8} (hr : Rd w w.heap.size A l) (hl : LitAt B A l) : Rd w' w'.heap.size A l := by
  rcases hl with rfl | hl
  · exact .inl rfl
  · rcases hr with h0 | ⟨b, off, rfl, hb, hc⟩
    · exact .inl h0
    · refine .inr ⟨b, off, rfl, by omega, fun i hi => ?_⟩
      have e : w'.cell? ⟨b, off + i, none⟩ = w.cell? ⟨b, off + i, none⟩ := by
        unfold World.cell?
        rw [h b (hl _ rfl)]
      rw [e]
      exact hc i hi

/-- What the law makes of any capability. -/
def mk13 (c : Cap13) : Cap13 :=
  let k := 1 + withinI c.kind 9
  let n := 1 + withinI c.n 16
  if FileK k then ⟨k, c.key, c.fp, 1 + withinI c.k n, n, 1 + withinI c.size 1024, []⟩
  else if k = 3 then ⟨3, key0, hash0, 0, 0, 0, c.lit.take 64⟩
  else ⟨k, c.key, c.fp, 0, 0, 0, []⟩
theorem mk13_ok (c : Cap13) : (mk13 c).ok := by
  have hk := withinI_range c.kind 9 (by omega)
  have hn := withinI_range c.n 16 (by omega)
  have hs := withinI_range c.size 1024 (by omega)
  have hc := withinI_range c.k (1 + withinI c.n 16) (by omega)
  unfold mk13
  dsimp only
  by_cases hf : FileK (1 + withinI c.kind 9)
  · rw [if_pos hf]
    unfold Cap13.ok
    rw [if_pos hf]
    dsimp only
    exact ⟨by omega, by omega, by omega, by omega, by omega, rfl⟩
  · rw [if_neg hf]
    by_cases h3 : 1 + withinI c.kind 9 = 3
    · rw [if_pos h3]
      unfold Cap13.ok
      rw [if_neg (show ¬ FileK 3 by unfold FileK; decide), if_pos rfl]
      exact ⟨⟨rfl, rfl, rfl⟩, rfl, rfl, by simp; omega⟩
    · rw [if_neg h3]
      unfold Cap13.ok
      rw [if_neg hf, if_neg h3]
      unfold FileK at hf
      exact ⟨⟨by dsimp only; omega, by dsimp only; omega⟩, ⟨rfl, rfl, rfl⟩, rfl⟩
theorem mk13_wf {c : Cap13} (h : c.wf) : (mk13 c).wf := by
  unfold mk13
  dsimp only
  split
  · exact h
  · split
    · exact ⟨rfl, rfl⟩
    · exact h

/-- A function's own capability at b, and the block of its result at r. -/
structure CapR (w0 W : World) (b r : Nat) (c : Cap13) (X : Value) : Prop where
  cap : CapAt W b c X
  res : ∃ rs, Blk W r rs 28 ∧ rs.size = 53
  bel : Below w0.heap.size w0 W
  ne : b ≠ r
  ge : w0.heap.size ≤ b
  ge' : w0.heap.size ≤ r
theorem CapR.start {w W : World} {c : Cap13} {X : Value} {CX Y : Array Value} (hw : c.wf) (hCX : capA c X = CX) (hY : Y.size = 53) (hW : W = (w.alloc (.cells CX 28)).alloc (.cells Y 28)) : CapR w W w.heap.size (w.heap.size + 1) c X := by
  subst hW
  have e : (w.alloc (.cells CX 28)).heap.size = w.heap.size + 1 := by simp
  refine ⟨⟨(CapAt.new w X hw hCX).blk.alloc _, hw⟩, ⟨Y, by rw [← e]; exact Blk.new _ _ _, hY⟩, ((Below.refl _ _).alloc (Nat.le_refl _) _).alloc (by simp) _, by omega, Nat.le_refl _, by omega⟩
theorem CapR.below {w0 W W' : World} {b r : Nat} {c : Cap13} {X : Value} (h : CapR w0 W b r c X) (hb : Below W.heap.size W W') : CapR w0 W' b r c X := by
  obtain ⟨rs, h1, h2⟩ := h.res
  exact ⟨h.cap.below hb, ⟨rs, h1.below hb h1.lt, h2⟩, h.bel.trans (hb.mono h.bel.size), h.ne, h.ge, h.ge'⟩
theorem CapR.on {w0 W W' : World} {b r : Nat} {c c' : Cap13} {X X' : Value} (h : CapR w0 W b r c X) (hc : CapAt W' b c' X') (hr : ∀ rs, Blk W r rs 28 → Blk W' r rs 28) (hb : Below w0.heap.size w0 W') : CapR w0 W' b r c' X' := by
  obtain ⟨rs, h1, h2⟩ := h.res
  exact ⟨hc, ⟨rs, hr rs h1, h2⟩, hb, h.ne, h.ge, h.ge'⟩
theorem CapR.setKind {w0 W : World} {b r : Nat} {c : Cap13} {X : Value} (h : CapR w0 W b r c X) (i : Int) : CapR w0 (W.setCell ⟨b, 0, none⟩ (.int .i64 i)) b r { c with kind := i } X := h.on (h.cap.setKind i) (fun _ hr => hr.other (fun e => h.ne e.symm) _) (h.bel.setCell h.ge _)
theorem CapR.setK {w0 W : World} {b r : Nat} {c : Cap13} {X : Value} (h : CapR w0 W b r c X) (i : Int) : CapR w0 (W.setCell ⟨b, 49, none⟩ (.int .i64 i)) b r { c with k := i } X := h.on (h.cap.setK i) (fun _ hr => hr.other (fun e => h.ne e.symm) _) (h.bel.setCell h.ge _)
theorem CapR.setN {w0 W : World} {b r : Nat} {c : Cap13} {X : Value} (h : CapR w0 W b r c X) (i : Int) : CapR w0 (W.setCell ⟨b, 50, none⟩ (.int .i64 i)) b r { c with n := i } X := h.on (h.cap.setN i) (fun _ hr => hr.other (fun e => h.ne e.symm) _) (h.bel.setCell h.ge _)
theorem CapR.setSize {w0 W : World} {b r : Nat} {c : Cap13} {X : Value} (h : CapR w0 W b r c X) (i : Int) : CapR w0 (W.setCell ⟨b, 51, none⟩ (.int .i64 i)) b r { c with size := i } X := h.on (h.cap.setSize i) (fun _ hr => hr.other (fun e => h.ne e.symm) _) (h.bel.setCell h.ge _)
theorem CapR.setLit {w0 W : World} {b r : Nat} {c : Cap13} {X : Value} (h : CapR w0 W b r c X) (Y : Value) (l : List UInt8) : CapR w0 (W.setCell ⟨b, 52, none⟩ Y) b r { c with lit := l } Y := h.on (h.cap.setLit Y l) (fun _ hr => hr.other (fun e => h.ne e.symm) _) (h.bel.setCell h.ge _)
theorem CapR.setKey {w0 W : World} {b r : Nat} {c : Cap13} {X : Value} (h : CapR w0 W b r c X) (k : List UInt8) (hk : k.length = 16) : CapR w0 (W.setCells b 1 (Lib.byteCells k)) b r { c with key := k } X := h.on (h.cap.setKey k hk) (fun _ hr => Blk.otherCells (fun e => h.ne e.symm) _ _ hr) (below_cells h.ge _ _ h.bel)
theorem CapR.setFp {w0 W : World} {b r : Nat} {c : Cap13} {X : Value} (h : CapR w0 W b r c X) (k : List UInt8) (hk : k.length = 32) : CapR w0 (W.setCells b 17 (Lib.byteCells k)) b r { c with fp := k } X := h.on (h.cap.setFp k hk) (fun _ hr => Blk.otherCells (fun e => h.ne e.symm) _ _ hr) (below_cells h.ge _ _ h.bel)

/-- What lies at B or above stands. -/
def KeepB (B : Nat) (w w' : World) : Prop := ∀ g, B ≤ g → w'.heap[g]? = w.heap[g]?
theorem KeepB.refl (B : Nat) (w : World) : KeepB B w w := fun _ _ => rfl
theorem KeepB.setCell {B : Nat} {w w' : World} (h : KeepB B w w') {b : Nat} (hb : b < B) (i : Nat) (v : Value) : KeepB B w (w'.setCell ⟨b, i, none⟩ v) := fun g hg => (Below.heap_setCell w' ⟨b, i, none⟩ v g (by show g ≠ b; omega)).trans (h g hg)
theorem KeepB.setCells {B : Nat} {w : World} {b : Nat} (hb : b < B) : ∀ (vs : List Value) (o : Nat) {w' : World}, KeepB B w w' → KeepB B w (w'.setCells b o vs)
  | [], _, _, h => h
  | v :: vs, o, _, h => KeepB.setCells hb vs (o + 1) (h.setCell hb o v)
theorem KeepB.row {B : Nat} {w w' : World} (h : KeepB B w w') {b : Nat} (hb : b < B) (cs : Array Value) : KeepB B w (w'.setRow b cs) := fun g hg => (setRow_other _ _ _ _ (by omega)).trans (h g hg)
theorem KeepB.own {B : Nat} {w w' : World} (h : KeepB B w w') {e : TypeId} {v : Value} {n : Nat} {l : List UInt8} (ho : OwnB w B e v n l) : OwnB w' B e v n l := by
  refine ⟨ho.1, ?_⟩
  rcases ho.2 with h0 | ⟨g, cap, full, h1, h2, h3, h4⟩
  · exact .inl h0
  · exact .inr ⟨g, cap, full, h1, h2, (h g h2).trans h3, h4⟩
/-- What is told at the end: the function's own capability, read out into its result. -/
theorem CapR.said {w0 W : World} {b r : Nat} {c : Cap13} {A : Option Addr} {n cc : Nat} (h : CapR w0 W b r c (.slice A n cc)) (hn : c.lit.length = n) (hc : n ≤ cc) {cs : Array Value} (hr : Rd (W.setRow r cs) (W.setRow r cs).heap.size A c.lit ∧ LitAt w0.heap.size A c.lit) {CX : Array Value} (hCX : capA c (.slice A n cc) = CX) : CapV (W.setRow r cs) w0.heap.size (.agg CX) c ∧ Below w0.heap.size w0 (W.setRow r cs) :=
  ⟨⟨h.cap.wf, A, n, cc, by rw [hCX], hn, hc, hr.1, hr.2⟩, below_row h.bel (h.bel.size) h.ge' _⟩

set_option maxHeartbeats 4000000 in
theorem mk13_any {w : World} {c : Cap13} {A : Option Addr} {n cc : Nat} (hw : c.wf) (hbd : c.bd) (hn : c.lit.length = n) (hc : n ≤ cc) (hr : Rd w w.heap.size A c.lit) :
    Calls Tryd.prog 18 #[.agg (capA c (.slice A n cc))] w fun e w' => (∃ v, e = .returned v ∧ CapV w' w.heap.size v (mk13 c)) ∧ Below w.heap.size w w' := by
  obtain ⟨CX, hCX⟩ : ∃ x, capA c (.slice A n cc) = x := ⟨_, rfl⟩
  have HST := Lib.hid (fun (W : World) (Y : Array Value) => CapR.start (w := w) (W := W) (Y := Y) hw hCX)
  have HWI := Lib.hid (fun (v k : Int) (hv : Bd64 v) (hk : k ≤ 1024) (W : World) => within_any v k W hv.1 hv.2 (by omega))
  have HW1 := Lib.hid (HWI.out c.kind 9 hbd.1 (by omega))
  have HW2 := Lib.hid (HWI.out c.n 16 hbd.2.2.1 (by omega))
  have hr1 := withinI_range c.kind 9 (by omega)
  have hr2 := withinI_range c.n 16 (by omega)
  have hr3 := withinI_range c.k (1 + withinI c.n 16) (by omega)
  have hr4 := withinI_range c.size 1024 (by omega)
  have HW3 := Lib.hid (HWI.out c.k (1 + withinI c.n 16) hbd.2.1 (by omega))
  have HW4 := Lib.hid (HWI.out c.size 1024 hbd.2.2.2 (by omega))
  obtain ⟨M, hM⟩ : ∃ x, mk13 c = x := ⟨_, rfl⟩
  have hM' := hM
  unfold mk13 at hM'
  dsimp only at hM'
  rw [hM]
  generalize withinI c.kind 9 = x1 at *
  generalize withinI c.n 16 = x2 at *
  generalize withinI c.k (1 + x2) = x3 at *
  generalize withinI c.size 1024 = x4 at *
  have hw1 : IntKind.i64.wrap (1 + x1) = 1 + x1 := by rw [IntKind.wrap_i64]; omega
  have hw2 : IntKind.i64.wrap (1 + x2) = 1 + x2 := by rw [IntKind.wrap_i64]; omega
  have hw3 : IntKind.i64.wrap (1 + x3) = 1 + x3 := by rw [IntKind.wrap_i64]; omega
  have hw4 : IntKind.i64.wrap (1 + x4) = 1 + x4 := by rw [IntKind.wrap_i64]; omega
  have HM := Lib.hid hM'
  have HR1 := Lib.hid hr1
  have HCU := Lib.hid (fun (W : World) => (show Calls Tryd.prog 42 #[.slice A n cc, .int .i64 64] W fun e w' => e = .returned (.slice A (min n 64) cc) ∧ W = w' from cut_any A n cc 64 W hc))
  have hmin : min n 64 ≤ cc := by omega
  have HCO := Lib.hid (fun (W : World) (hW : Below w.heap.size w W) => copyB_any A (min n 64) cc W.heap.size (c.lit.take 64) W (by rw [List.length_take, hn, Nat.min_comm]) (by omega) ((hr.on hW).take 64))
  have HWF := Lib.hid hw
  have HN := Lib.hid hn
  have HCC := Lib.hid hc
  rw [hCX]
  clear hCX hM hM' hr1 hr2 hr3 hr4 HWI hw hbd hn hr hmin hc
  go_enter Tryd.func18, Tryd.ntmps18
  go_upto_region 1 with fail
  generalize hwa : World.alloc _ _ = w1
  have H1 := HST.out w1 _ rfl hwa.symm
  clear HST hwa
  generalize w.heap.size + 1 = r at *
  obtain ⟨b, hb⟩ : ∃ g, w.heap.size = g := ⟨_, rfl⟩
  rw [hb] at H1 ⊢
  have HB := Lib.hid hb
  clear hb
  obtain ⟨c0, c49, c50, c51, c52⟩ := H1.cap.cells
  have f0 := H1.cap.frozen 0
  have HR := Lib.hid H1
  clear H1
  go_upto_region 2 with (first | (with_reducible refine (HW1.out _).mono ?_; rintro e w2 ⟨rfl, rfl⟩))
  have H2 := HR.out.setKind (1 + x1)
  have HB1 := HB
  clear HR c0 c49 c50 c51 c52 f0 hw1
  generalize w1.setCell ⟨b, 0, none⟩ (.int .i64 (1 + x1)) = w2 at *
  obtain ⟨_, c49, c50, c51, c52⟩ := H2.cap.cells
  have HR := Lib.hid H2
  clear H2
  go_upto_region 3 with (first | (with_reducible refine (HW2.out _).mono ?_; rintro e w3 ⟨rfl, rfl⟩))
  clear hw2 HW2
  have HKEEP := Lib.hid (fun (W : World) (h : Below w2.heap.size w2 W) => (show (W.cell? ⟨b, 49, none⟩ = some (.int .i64 c.k) ∧ W.cell? ⟨b, 51, none⟩ = some (.int .i64 c.size) ∧ W.cell? ⟨b, 52, none⟩ = some (.slice A n cc)) ∧ Below w2.heap.size w2 W from ⟨⟨(HR.out.cap.below h).cells.2.1, (HR.out.cap.below h).cells.2.2.2.1, (HR.out.cap.below h).cells.2.2.2.2⟩, h⟩))
  have HCP := Lib.hid (fun (W : World) (hW : Below w2.heap.size w2 W) => (show Calls Tryd.prog 43 #[.slice A (min n 64) cc] W fun e w' => ∃ A' c', e = .returned (.slice A' (min n 64) c') ∧ min n 64 ≤ c' ∧ OwnB w' w2.heap.size 5 (.slice A' (min n 64) c') (min n 64) (c.lit.take 64) ∧ Below w2.heap.size w2 w' from
    (HCO.out W (HR.out.bel.trans (hW.mono HR.out.bel.size))).mono fun e w' ⟨A', c', h1, h2, h3, h4⟩ => ⟨A', c', h1, h2, ⟨h3.1, h3.2.imp id fun ⟨g, cap, full, k1, k2, k⟩ => ⟨g, cap, full, k1, Nat.le_trans hW.size k2, k⟩⟩, hW.trans (h4.mono hW.size)⟩))
  clear c49 c50 c51 c52 HCO
  go_region_held3 (fun W => (W.cell? ⟨b, 49, none⟩ = some (.int .i64 c.k) ∧ W.cell? ⟨b, 51, none⟩ = some (.int .i64 c.size) ∧ W.cell? ⟨b, 52, none⟩ = some (.slice A n cc)) ∧ Below w2.heap.size w2 W)
    ((first | exact HKEEP.out _ ‹_› | exact HKEEP.out _ (Below.refl _ _) | exact HKEEP.out _ (Below.refl _ _).drew | exact HKEEP.out _ (below_drewN (Below.refl _ _) _) | exact HKEEP.out _ (Below.drew ‹_›) | exact HKEEP.out _ (below_drewN ‹_› _)))
    ((first
      | (go_at_call 32; with_reducible refine (HW3.out _).mono ?_; rintro e W ⟨rfl, rfl⟩)
      | (go_at_call 32; with_reducible refine (HW4.out _).mono ?_; rintro e W ⟨rfl, rfl⟩)
      | (go_at_call 42; with_reducible refine (HCU.out _).mono ?_; rintro e W ⟨rfl, rfl⟩)
      | (go_at_call 43; with_reducible refine (HCP.out _ (by first | assumption | exact Below.refl _ _ | exact (Below.refl _ _).drew | exact below_drewN (by assumption) _ | exact below_drewN (Below.refl _ _) _)).mono ?_; rintro e W ⟨A', c', rfl, hc', hrd, hbW⟩)
      | fail "none"))
  have H3 := HR.out.below hbW
  have HRD := Lib.hid hrd
  have hblt : b < w2.heap.size := HR.out.cap.lt
  have hrlt : r < w2.heap.size := by
    obtain ⟨rs, h, _⟩ := HR.out.res
    exact h.lt
  have hbg : w.heap.size ≤ w2.heap.size := HR.out.bel.size
  generalize w2.heap.size = B5 at HRD hblt hrlt hbg
  have HBG := Lib.hid hbg
  have HBL := Lib.hid hblt
  have HRL := Lib.hid hrlt
  clear HR HKEEP HCP HCU HW3 HW4 hbW hrd hblt hrlt hbg
  obtain ⟨w3, hw3⟩ : ∃ x, W = x := ⟨_, rfl⟩
  rw [hw3] at H3 HRD ⊢
  clear hw3
  have f49 := H3.cap.frozen 49
  have f50 := H3.cap.frozen 50
  have f51 := H3.cap.frozen 51
  have f52 := H3.cap.frozen 52
  obtain ⟨_, c49, c50, c51, c52⟩ := H3.cap.cells
  have HR := Lib.hid H3
  have HC' := Lib.hid hc'
  clear H3 hc'
  go_upto_region 5 with fail
  have H4 := (((HR.out.setK 0).setN 0).setSize 0).setLit (.slice none 0 0) []
  have HK4 := Lib.hid (show KeepB B5 w3 ((((w3.setCell ⟨b, 49, none⟩ (.int .i64 0)).setCell ⟨b, 50, none⟩ (.int .i64 0)).setCell ⟨b, 51, none⟩ (.int .i64 0)).setCell ⟨b, 52, none⟩ (.slice none 0 0)) from (((((KeepB.refl B5 w3)).setCell HBL.out 49 _).setCell HBL.out 50 _).setCell HBL.out 51 _).setCell HBL.out 52 _)
  clear c49 c50 c51 c52 f49 f50 f51 f52 HR
  generalize (((w3.setCell ⟨b, 49, none⟩ (.int .i64 0)).setCell ⟨b, 50, none⟩ (.int .i64 0)).setCell ⟨b, 51, none⟩ (.int .i64 0)).setCell ⟨b, 52, none⟩ (.slice none 0 0) = w4 at *
  have f49 := H4.cap.frozen 49
  have f50 := H4.cap.frozen 50
  have f51 := H4.cap.frozen 51
  have f52 := H4.cap.frozen 52
  obtain ⟨c0, c49, c50, c51, c52⟩ := H4.cap.cells
  have HR := Lib.hid H4
  clear H4
  have e64 : (List.take 64 c.lit).length = min n 64 := by rw [List.length_take, HN.out, Nat.min_comm]
  have HE64 := Lib.hid e64
  clear e64
  by_cases hx : x1 = 0 ∨ x1 = 1
  · have hM : M = ⟨1 + x1, c.key, c.fp, 1 + x3, 1 + x2, 1 + x4, []⟩ := by rw [← HM.out, if_pos (show FileK (1 + x1) by unfold FileK; omega)]
    clear HM
    have HMM := Lib.hid hM
    obtain ⟨C5, hC5⟩ : ∃ x, capA M (.slice none 0 0) = x := ⟨_, rfl⟩
    have HC5 := Lib.hid hC5
    have HLN := Lib.hid (show M.lit.length = 0 by rw [hM]; rfl)
    have HLC := Lib.hid (Nat.le_refl 0)
    have HLR := Lib.hid (fun (cs : Array Value) (W : World) => (show Rd (W.setRow r cs) (W.setRow r cs).heap.size none M.lit ∧ LitAt w.heap.size none M.lit from ⟨.inl (by rw [hM]), .inl (by rw [hM])⟩))
    clear hM hC5
    rcases hx with rfl | rfl
    all_goals
      go_upto_region 11 with fail
      have H5 := ((HR.out.setK (1 + x3)).setN (1 + x2)).setSize (1 + x4)
      clear c0 c49 c50 c51 c52 f49 f50 f51 f52 HR
      generalize ((w4.setCell ⟨b, 49, none⟩ (.int .i64 (1 + x3))).setCell ⟨b, 50, none⟩ (.int .i64 (1 + x2))).setCell ⟨b, 51, none⟩ (.int .i64 (1 + x4)) = w5 at *
      have HR6 := Lib.hid (show CapR w w5 b r M (.slice none 0 0) by rw [HMM.out]; exact H5)
      clear H5
      have HZ5 := Lib.hid (show C5.size = 53 by rw [← HC5.out]; exact capA_size HR6.out.cap.wf _)
      have HO5 := Lib.hid (show C5.all (·.oneCell') = true by rw [← HC5.out]; exact capA_one)
      obtain ⟨rs, hrs, hrz⟩ := HR6.out.res
      have HRS := Lib.hid hrs
      have HRZ := Lib.hid hrz
      clear hrs hrz
      go_wp2_with (first | (refine wpList_load_capC ?_ (.tmp 1) rfl b rfl HR6.out.cap HC5.out ?_; · rfl) | (with_reducible refine wpList_store_blkTo rfl 28 (.tmp 2) (.tmp 52) rfl rfl r C5 rfl rfl 28 rs HRS.out (by rw [HZ5.out]; kernel_rfl) (by rw [HZ5.out, HRZ.out]) HO5.out ?_))
      have hs := HR6.out.said HLN.out HLC.out (cs := C5) (HLR.out C5 w5) HC5.out
      refine bodyPost_ret (v := .agg C5) (results_cell_row (p := 2) (ty := 28) (by kernel_rfl) _ _ r 28 _ (0, 0) _ rfl (HRS.out.row C5) Tryd.underlying28 rfl (by rw [HZ5.out]; kernel_rfl)) rfl ⟨⟨_, rfl, hs.1⟩, by first | exact hs.2 | (rw [← HB.out]; exact hs.2)⟩
  · by_cases hx2 : x1 = 2
    · subst hx2
      have hM : M = ⟨3, key0, hash0, 0, 0, 0, c.lit.take 64⟩ := by rw [← HM.out, if_neg (show ¬ FileK (1 + 2) by unfold FileK; decide), if_pos (by decide)]
      clear HM
      have HMM := Lib.hid hM
      obtain ⟨m5, hm5⟩ : ∃ x, min n 64 = x := ⟨_, rfl⟩
      rw [hm5] at HRD HC' HE64
      obtain ⟨C5, hC5⟩ : ∃ x, capA M (.slice A' m5 c') = x := ⟨_, rfl⟩
      have HC5 := Lib.hid hC5
      have HLN := Lib.hid (show M.lit.length = m5 by rw [hM]; exact HE64.out)
      have HLC := HC'
      obtain ⟨KZ, hKZ⟩ : ∃ x, u8A key0 = x := ⟨_, rfl⟩
      obtain ⟨FZ, hFZ⟩ : ∃ x, u8A hash0 = x := ⟨_, rfl⟩
      have HKZ := Lib.hid hKZ
      have HFZ := Lib.hid hFZ
      have HKS := Lib.hid (show KZ.size = 16 by rw [← hKZ, u8A_size]; rfl)
      have HFS := Lib.hid (show FZ.size = 32 by rw [← hFZ, u8A_size]; rfl)
      have HKO := Lib.hid (show KZ.all (·.oneCell') = true by rw [← hKZ]; exact u8A_one _)
      have HFO := Lib.hid (show FZ.all (·.oneCell') = true by rw [← hFZ]; exact u8A_one _)
      have HKT := Lib.hid (show w4.there b 1 KZ.size by rw [HKS.out]; exact HR.out.cap.there 1 16 (by omega))
      have HFT := Lib.hid (show (w4.setCells b 1 KZ.toList).there b 17 FZ.size by rw [HFS.out, ← hKZ]; exact (HR.out.setKey key0 rfl).cap.there 17 32 (by omega))
      have hkf := (HR.out.setKey key0 rfl).setFp hash0 rfl
      rw [show Lib.byteCells key0 = KZ.toList by rw [← hKZ]; rfl, show Lib.byteCells hash0 = FZ.toList by rw [← hFZ]; rfl] at hkf
      have d52 := hkf.cap.cells.2.2.2.2
      have g52 := hkf.cap.frozen 52
      clear hM hC5 hKZ hFZ hx hkf
      go_upto_region 11 with (first
        | (refine wpList_build_C ?_ 23 #[] rfl [] (by simp) KZ _ built_key0 HKZ.out ?_; · rfl)
        | (refine wpList_build_C ?_ 25 #[] rfl [] (by simp) FZ _ built_hash0 HFZ.out ?_; · rfl)
        | (with_reducible refine wpList_store_mid rfl 23 (.tmp 49) (.tmp 46) rfl b 1 KZ rfl rfl HKT.out (by rw [HKS.out]; kernel_rfl) HKO.out ?_)
        | (with_reducible refine wpList_store_mid rfl 25 (.tmp 50) (.tmp 47) rfl b 17 FZ rfl rfl HFT.out (by rw [HFS.out]; kernel_rfl) HFO.out ?_))
      have H5 := ((HR.out.setKey key0 rfl).setFp hash0 rfl).setLit (.slice A' m5 c') (c.lit.take 64)
      have HK5 := Lib.hid (show KeepB B5 w3 (((w4.setCells b 1 KZ.toList).setCells b 17 FZ.toList).setCell ⟨b, 52, none⟩ (.slice A' m5 c')) from (KeepB.setCells HBL.out _ _ (KeepB.setCells HBL.out _ _ HK4.out)).setCell HBL.out 52 _)
      rw [show Lib.byteCells key0 = KZ.toList by rw [← HKZ.out]; rfl, show Lib.byteCells hash0 = FZ.toList by rw [← HFZ.out]; rfl] at H5
      clear c0 c49 c50 c51 c52 f49 f50 f51 f52 HR HK4 HKT HFT d52 g52
      generalize ((w4.setCells b 1 KZ.toList).setCells b 17 FZ.toList).setCell ⟨b, 52, none⟩ (.slice A' m5 c') = w5 at *
      have HR6 := Lib.hid (show CapR w w5 b r M (.slice A' m5 c') by rw [HMM.out]; exact H5)
      have HLR := Lib.hid (fun (cs : Array Value) => (show Rd (w5.setRow r cs) (w5.setRow r cs).heap.size A' M.lit ∧ LitAt w.heap.size A' M.lit by
        rw [HMM.out]
        refine ⟨(((HK5.out.row HRL.out cs)).own HRD.out).rd, .inr fun ad had => ?_⟩
        rcases HRD.out.2 with ⟨e, _⟩ | ⟨g, cap, full, e, hg, _⟩
        · injection e with e1; rw [had] at e1; cases e1
        · injection e with e1; rw [had] at e1; injection e1 with e1; subst e1; exact Nat.le_trans HBG.out hg))
      clear H5
      have HZ5 := Lib.hid (show C5.size = 53 by rw [← HC5.out]; exact capA_size HR6.out.cap.wf _)
      have HO5 := Lib.hid (show C5.all (·.oneCell') = true by rw [← HC5.out]; exact capA_one)
      obtain ⟨rs, hrs, hrz⟩ := HR6.out.res
      have HRS := Lib.hid hrs
      have HRZ := Lib.hid hrz
      clear hrs hrz
      go_wp2_with (first | (refine wpList_load_capC ?_ (.tmp 1) rfl b rfl HR6.out.cap HC5.out ?_; · rfl) | (with_reducible refine wpList_store_blkTo rfl 28 (.tmp 2) (.tmp 52) rfl rfl r C5 rfl rfl 28 rs HRS.out (by rw [HZ5.out]; kernel_rfl) (by rw [HZ5.out, HRZ.out]) HO5.out ?_))
      have hs := HR6.out.said HLN.out HLC.out (cs := C5) (HLR.out C5) HC5.out
      refine bodyPost_ret (v := .agg C5) (results_cell_row (p := 2) (ty := 28) (by kernel_rfl) _ _ r 28 _ (0, 0) _ rfl (HRS.out.row C5) Tryd.underlying28 rfl (by rw [HZ5.out]; kernel_rfl)) rfl ⟨⟨_, rfl, hs.1⟩, by first | exact hs.2 | (rw [← HB.out]; exact hs.2)⟩
    · have hf3 : ¬ FileK (1 + x1) := by have := HR1.out; unfold FileK; omega
      have hM : M = ⟨1 + x1, c.key, c.fp, 0, 0, 0, []⟩ := by rw [← HM.out, if_neg hf3, if_neg (by omega)]
      clear HM hf3
      have HMM := Lib.hid hM
      obtain ⟨C5, hC5⟩ : ∃ x, capA M (.slice none 0 0) = x := ⟨_, rfl⟩
      have HC5 := Lib.hid hC5
      have HLN := Lib.hid (show M.lit.length = 0 by rw [hM]; rfl)
      have HLC := Lib.hid (Nat.le_refl 0)
      have HLR := Lib.hid (fun (cs : Array Value) => (show Rd (w4.setRow r cs) (w4.setRow r cs).heap.size none M.lit ∧ LitAt w.heap.size none M.lit from ⟨.inl (by rw [hM]), .inl (by rw [hM])⟩))
      have hr1 := HR1.out
      have hk1 : (1 + x1 == 1) = false := by rw [beq_eq_false_iff_ne]; omega
      have hk2 : (1 + x1 == 2) = false := by rw [beq_eq_false_iff_ne]; omega
      have hk3 : (1 + x1 == 3) = false := by rw [beq_eq_false_iff_ne]; omega
      clear hM hC5 hr1 hx hx2
      go_upto_region 11 with fail
      clear c0 c49 c50 c51 c52 f49 f50 f51 f52 hk1 hk2 hk3
      have HR6 := Lib.hid (show CapR w w4 b r M (.slice none 0 0) by rw [HMM.out]; exact HR.out)
      have HZ5 := Lib.hid (show C5.size = 53 by rw [← HC5.out]; exact capA_size HR6.out.cap.wf _)
      have HO5 := Lib.hid (show C5.all (·.oneCell') = true by rw [← HC5.out]; exact capA_one)
      obtain ⟨rs, hrs, hrz⟩ := HR6.out.res
      have HRS := Lib.hid hrs
      have HRZ := Lib.hid hrz
      clear hrs hrz
      go_wp2_with (first | (refine wpList_load_capC ?_ (.tmp 1) rfl b rfl HR6.out.cap HC5.out ?_; · rfl) | (with_reducible refine wpList_store_blkTo rfl 28 (.tmp 2) (.tmp 52) rfl rfl r C5 rfl rfl 28 rs HRS.out (by rw [HZ5.out]; kernel_rfl) (by rw [HZ5.out, HRZ.out]) HO5.out ?_))
      have hs := HR6.out.said HLN.out HLC.out (cs := C5) (HLR.out C5) HC5.out
      refine bodyPost_ret (v := .agg C5) (results_cell_row (p := 2) (ty := 28) (by kernel_rfl) _ _ r 28 _ (0, 0) _ rfl (HRS.out.row C5) Tryd.underlying28 rfl (by rw [HZ5.out]; kernel_rfl)) rfl ⟨⟨_, rfl, hs.1⟩, by first | exact hs.2 | (rw [← HB.out]; exact hs.2)⟩
end Go.Proofs.YtkkokngdhhakdaaDoor
