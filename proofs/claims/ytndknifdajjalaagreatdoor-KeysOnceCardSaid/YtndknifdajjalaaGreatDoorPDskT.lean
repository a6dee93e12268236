/- What DiskTears looks at: rows of one byte; sectors that are written, and that tear. -/
import Derived.IntWalk
import Derived.Test.YtndknifdajjalaaGreatDoorPDskP
namespace Go.Proofs.YtndknifdajjalaaGreatDoor
open Go.RowKit
set_option maxRecDepth 100000

def keepOf (k : Int) : Nat := (min (max k 0) 32).toNat
theorem keepOf_le (k : Int) : keepOf k ≤ 32 := by unfold keepOf; omega
def Dsk.stop (s : Dsk) (at_ keep : Int) : Dsk := { s with ahead := true, at_ := max at_ 0, keep := keepOf keep }
def Dsk.start (s : Dsk) : Dsk := { s with dead := false, ahead := false, at_ := 0, keep := 0 }

set_option maxHeartbeats 1000000 in
theorem pstop_any {w : World} {p g n c : Nat} {s : Dsk} (h : DP w p g n c s) (at_ keep : Int) (h1 : at_ ≤ 9223372036854775807) :
    Calls Tryz.prog 20 #[.pointer (some ⟨p, 0, none⟩), .int .i64 at_, .int .i64 keep] w fun e w' => e = .returned (.tuple #[]) ∧ DP w' p g n c (s.stop at_ keep) ∧ Chg (two p g) w w' := by
  have H := Lib.hid h
  obtain ⟨c0, c1, c2, c3, c4, c5⟩ := h.cells
  have f3 := h.head.frozen 3
  have f4 := h.head.frozen 4
  have f5 := h.head.frozen 5
  clear h
  go_enter Tryz.func20, Tryz.ntmps20
  go_wp2
  go_end0
  have e : (keepOf keep : Int) = min (max keep 0) 32 := by unfold keepOf; omega
  have k := ((H.out.head.set 3 (.bool true)).set 4 (.int .i64 (max at_ 0))).set 5 (.int .i64 (min (max keep 0) 32))
  refine ⟨rfl, ⟨?_, ((H.out.body.other (p := ⟨p, 3, none⟩) (fun e => H.out.ne e.symm) _).other (p := ⟨p, 4, none⟩) (fun e => H.out.ne e.symm) _).other (p := ⟨p, 5, none⟩) (fun e => H.out.ne e.symm) _, H.out.ne, H.out.len, H.out.cap, H.out.small, fun _ => ⟨?_, ?_⟩, keepOf_le _⟩, ?_⟩
  · show Blk _ p #[.slice (some ⟨g, 0, none⟩) n c, .bool s.dead, .int .i64 s.writes, .bool true, .int .i64 (max at_ 0), .int .i64 (keepOf keep : Int)] _
    rw [e]
    exact k
  · show 0 ≤ max at_ 0
    omega
  · show max at_ 0 ≤ _
    omega
  · exact (((Chg.refl _ w).setCell (fun _ => .inl rfl) _).setCell (fun _ => .inl rfl) _).setCell (fun _ => .inl rfl) _
set_option maxHeartbeats 1000000 in
theorem pdstart_any {w : World} {p g n c : Nat} {s : Dsk} (h : DP w p g n c s) :
    Calls Tryz.prog 22 #[.pointer (some ⟨p, 0, none⟩)] w fun e w' => e = .returned (.tuple #[]) ∧ DP w' p g n c s.start ∧ Chg (two p g) w w' := by
  have H := Lib.hid h
  obtain ⟨c0, c1, c2, c3, c4, c5⟩ := h.cells
  have f1 := h.head.frozen 1
  have f3 := h.head.frozen 3
  have f4 := h.head.frozen 4
  have f5 := h.head.frozen 5
  clear h
  go_enter Tryz.func22, Tryz.ntmps22
  go_wp2
  go_end0
  have k := (((H.out.head.set 1 (.bool false)).set 3 (.bool false)).set 4 (.int .i64 0)).set 5 (.int .i64 0)
  exact ⟨rfl, ⟨k, (((H.out.body.other (p := ⟨p, 1, none⟩) (fun e => H.out.ne e.symm) _).other (p := ⟨p, 3, none⟩) (fun e => H.out.ne e.symm) _).other (p := ⟨p, 4, none⟩) (fun e => H.out.ne e.symm) _).other (p := ⟨p, 5, none⟩) (fun e => H.out.ne e.symm) _, H.out.ne, H.out.len, H.out.cap, H.out.small, (fun h => by cases h), Nat.zero_le _⟩, ((((Chg.refl _ w).setCell (fun _ => .inl rfl) _).setCell (fun _ => .inl rfl) _).setCell (fun _ => .inl rfl) _).setCell (fun _ => .inl rfl) _⟩

/-! ### New -/
theorem infoSec : (Tryz.prog.info? 148).map (fun i => (i.zero, i.size, i.bytes)) = some (some (.agg (u8A zeroS)), 32, 32) := by kernel_rfl
theorem sec_parts : ∃ i, Tryz.prog.info? 148 = some i ∧ i.zero = some (.agg (u8A zeroS)) ∧ i.size = 32 ∧ i.bytes = 32 := by
  have h := infoSec
  cases hi : Tryz.prog.info? 148 with
  | none => rw [hi] at h; simp at h
  | some i =>
    rw [hi] at h
    simp only [Option.map_some, Option.some.injEq, Prod.mk.injEq] at h
    exact ⟨i, rfl, h⟩
theorem made_sectors (n : Nat) : (madeCells (u8A zeroS) (n * 32)).toList = Lib.byteCells (List.replicate (n * 32) 0) := by
  have h5 : (u8A zeroS).size = 32 := by rw [u8A_size]; rfl
  have hz : ∀ i, i < 32 → (u8A zeroS)[i]! = .int .u8 0 := fun i hi => by
    have e : u8A zeroS = (List.replicate 32 (Value.int .u8 0)).toArray := rfl
    have h2 : (u8A zeroS)[i]? = some (.int .u8 0) := by rw [e, List.getElem?_toArray, List.getElem?_replicate, if_pos hi]
    rw [getElem!_pos (u8A zeroS) i (by omega)]
    rw [Array.getElem?_eq_getElem (by omega)] at h2
    exact Option.some.inj h2
  apply List.ext_getElem?
  intro j
  by_cases hj : j < n * 32
  · have h1 := hz (j % 32) (Nat.mod_lt _ (by omega))
    simp [madeCells, hj, h5, h1, Lib.byteCells]
  · rw [List.getElem?_eq_none (by simp [madeCells]; omega), List.getElem?_eq_none (by rw [Lib.byteCells_length, List.length_replicate]; omega)]
theorem wpList_make_sectors {w : World} {ops : Array Oper} {rest : List Oper} {o : Oper} {a : Act} {Q : Exit → Act → World → Prop} (hgd : o.guard = none) (l c : Operand) (ho : o.op = .makeSlice 69 l c)
    (n : Nat) (hn : n ≤ 1000000) (hl : a.eval l = .int .i64 (n : Int)) (hc : a.eval c = .int .i64 (n : Int))
    (hk : ∀ w', BytesAt w' w.heap.size 148 (List.replicate (n * 32) 0) → Below w.heap.size w w' → wpList Tryz.prog ops Q rest (a.put o.dst (.slice (some ⟨w.heap.size, 0, none⟩) n n)) w') : wpList Tryz.prog ops Q (o :: rest) a w := by
  obtain ⟨i, hi, hz, hsz, hby⟩ := sec_parts
  obtain ⟨w', hrun, r1, r2⟩ := run_make_full (P := Tryz.prog) w w.heap.size 69 148 i _ 32 Tryz.underlying69 hi hz hsz .i64 .i64 n (by rw [hby]; omega) (by unfold maxLen; omega) (Nat.le_refl _)
  rw [show (Value.agg (u8A zeroS)).cells = u8A zeroS from rfl, made_sectors] at r1
  refine wpList_plain hgd fun K hK => ?_
  unfold Oper.wp
  simp [execOp, ho, hl, hc, hrun, Result.andThen]
  exact hK _ _ (hk w' (BytesAt.of_own r1).1 ((Below.refl _ _).grown r2 (Nat.le_refl _) (fun k hk => by cases hk)))
def newD (n : Nat) : Dsk := ⟨List.replicate (n * 32) 0, false, 0, false, 0, 0⟩
theorem pnew_any (n : Nat) (w : World) (h1 : 1 ≤ n) (h2 : n ≤ 4096) : Calls Tryz.prog 6 #[.int .i64 (n : Int)] w fun e w' => ∃ p, e = .returned (.tuple #[.pointer (some ⟨p, 0, none⟩), .int .i64 0]) ∧ w.heap.size ≤ p ∧ ∃ g, w.heap.size ≤ g ∧ DP w' p g n n (newD n) ∧ Below w.heap.size w w' := by
  have hd : decide ((n : Int) < 1) = false := decide_eq_false (by omega)
  have hd2 : decide (4096 < (n : Int)) = false := decide_eq_false (by omega)
  have h3 : ¬ (n : Int) < 1 := by omega
  have h4 : ¬ 4096 < (n : Int) := by omega
  go_enter Tryz.func6, Tryz.ntmps6
  go_wp2_with (with_reducible refine wpList_make_sectors rfl (.tmp 10) (.tmp 10) rfl n (by omega) rfl rfl ?_; intro w1 hw1 hb1; have HW1 := Lib.hid hw1; have HB1 := Lib.hid hb1; clear hw1 hb1)
  go_ret2
  refine ⟨w1.heap.size, rfl, HB1.out.size, w.heap.size, Nat.le_refl _, ⟨Blk.new w1 _ _, HW1.out.below ((Below.refl _ _).alloc (Nat.le_refl _) _) HW1.out.lt, ?_, by simp [newD], Nat.le_refl _, ⟨h1, h2⟩, (fun h => by cases h), Nat.zero_le _⟩, HB1.out.alloc HB1.out.size _⟩
  have := HW1.out.lt
  omega

/-! ### Write, whatever it is asked -/
def badW (n : Nat) (i : Int) (m : Nat) : Prop := ¬ (0 ≤ i ∧ i < n) ∨ 32 < m
instance (n : Nat) (i : Int) (m : Nat) : Decidable (badW n i m) := by unfold badW; infer_instance
/-- What a write answers. -/
def Dsk.code (s : Dsk) (n : Nat) (i : Int) (m : Nat) : Int := if badW n i m then 1 else if s.dead = true then 8 else if s.ahead = true ∧ s.at_ = 0 then 8 else 0
/-- What it leaves. -/
def Dsk.next (s : Dsk) (n : Nat) (i : Int) (b : List UInt8) : Dsk := if badW n i b.length then s else if s.dead = true then s else if s.ahead = true ∧ s.at_ = 0 then s.tear i.toNat b else s.well i.toNat b
theorem pwrite_any {w : World} {p g n c : Nat} {s : Dsk} (h : DP w p g n c s) (i : Int) (A : Option Addr) (m d : Nat) (b : List UInt8) (hb : b.length = m) (hr : Rd w w.heap.size A b) :
    Calls Tryz.prog 115 #[.pointer (some ⟨p, 0, none⟩), .int .i64 i, .slice A m d] w fun e w' => e = .returned (.int .i64 (s.code n i m)) ∧ DP w' p g n c (s.next n i b) ∧ Chg (two p g) w w' := by
  unfold Dsk.code Dsk.next
  rw [hb]
  by_cases h1 : badW n i m
  · rw [if_pos h1, if_pos h1]
    have k : Calls Tryz.prog 115 #[.pointer (some ⟨p, 0, none⟩), .int .i64 i, .slice A m d] w fun e w' => e = .returned (.int .i64 1) ∧ w = w' := by
      by_cases h2 : 0 ≤ i ∧ i < n
      · obtain ⟨j, rfl⟩ : ∃ j : Nat, i = (j : Int) := ⟨i.toNat, by omega⟩
        exact pwrite_long h j A m d (by omega) (by rcases h1 with h1 | h1; exact absurd h2 h1; exact h1)
      · exact pwrite_place h i A m d h2
    refine k.mono ?_
    rintro e w' ⟨rfl, rfl⟩
    exact ⟨rfl, h, Chg.refl _ _⟩
  · rw [if_neg h1, if_neg h1]
    obtain ⟨h2, h3⟩ : (0 ≤ i ∧ i < n) ∧ m ≤ 32 := by unfold badW at h1; omega
    obtain ⟨j, rfl⟩ : ∃ j : Nat, i = (j : Int) := ⟨i.toNat, by omega⟩
    have hj : j < n := by omega
    cases hd : s.dead with
    | true =>
      rw [if_pos rfl, if_pos rfl]
      refine (pwrite_dead h j A m d hj h3 hd).mono ?_
      rintro e w' ⟨rfl, rfl⟩
      exact ⟨rfl, h, Chg.refl _ _⟩
    | false =>
      rw [if_neg (show ¬ false = true by simp), if_neg (show ¬ false = true by simp), Int.toNat_natCast]
      cases ha : s.ahead with
      | true =>
        by_cases h0 : s.at_ = 0
        · rw [if_pos ⟨rfl, h0⟩, if_pos ⟨rfl, h0⟩]
          exact pwrite_tear h j A m d b hj h3 hb hr hd ha h0
        · rw [if_neg (fun h => h0 h.2), if_neg (fun h => h0 h.2)]
          exact pwrite_well1 h j A m d b hj h3 hb hr hd ha (by have := h.ahead ha; omega)
      | false =>
        rw [if_neg (show ¬ (false = true ∧ s.at_ = 0) by simp), if_neg (show ¬ (false = true ∧ s.at_ = 0) by simp)]
        exact pwrite_well0 h j A m d b hj h3 hb hr hd ha
set_option maxRecDepth 100000

/-- The document's disk at block q, its bytes at block h. -/
structure RP (w : World) (q h n c : Nat) (s : Dsk) : Prop where
  head : Blk w q #[.slice (some ⟨h, 0, none⟩) (n * 32) c, .bool s.dead, .bool s.ahead, .int .i64 s.at_, .int .i64 (s.keep : Int), .int .i64 s.writes] 94
  body : BytesAt w h 5 s.B
  ne : q ≠ h
  len : s.B.length = n * 32
  cap : n * 32 ≤ c
  small : 1 ≤ n ∧ n ≤ 4096
  keep : s.keep ≤ 32
theorem RP.chg {S : Nat → Prop} {w w' : World} {q g n c : Nat} {s : Dsk} (h : RP w q g n c s) (hc : Chg S w w') (hp : ¬ S q) (hg : ¬ S g) : RP w' q g n c s :=
  ⟨hc.blk h.head hp, h.body.chg hc hg, h.ne, h.len, h.cap, h.small, h.keep⟩
theorem RP.below {w w' : World} {q g n c : Nat} {s : Dsk} (h : RP w q g n c s) (hb : Below w.heap.size w w') : RP w' q g n c s := h.chg (S := fun _ => False) (.of_below hb) id id
theorem RP.cells {w : World} {q g n c : Nat} {s : Dsk} (h : RP w q g n c s) : w.cell? ⟨q, 0, none⟩ = some (.slice (some ⟨g, 0, none⟩) (n * 32) c) ∧ w.cell? ⟨q, 1, none⟩ = some (.bool s.dead) ∧ w.cell? ⟨q, 2, none⟩ = some (.bool s.ahead) ∧ w.cell? ⟨q, 3, none⟩ = some (.int .i64 s.at_) ∧ w.cell? ⟨q, 4, none⟩ = some (.int .i64 (s.keep : Int)) ∧ w.cell? ⟨q, 5, none⟩ = some (.int .i64 s.writes) :=
  ⟨h.head.cell 0, h.head.cell 1, h.head.cell 2, h.head.cell 3, h.head.cell 4, h.head.cell 5⟩

theorem RP.sec_len {w : World} {p g n c : Nat} {s : Dsk} (h : RP w p g n c s) {i : Nat} (hi : i < n) : (s.sec i).length = 32 := by
  have := h.len
  unfold Dsk.sec
  rw [List.length_take, List.length_drop]
  omega
set_option maxRecDepth 100000

def Dsk.rwell (s : Dsk) (i : Nat) (b : List UInt8) : Dsk := { s with B := layL s.B (i * 32) (padB 32 b), writes := IntKind.i64.wrap (s.writes + 1), at_ := IntKind.i64.wrap (s.at_ - 1) }
set_option maxRecDepth 100000

def Dsk.rnext (s : Dsk) (n : Nat) (i : Int) (b : List UInt8) : Dsk := if badW n i b.length then s else if s.dead = true then s else if s.ahead = true ∧ s.at_ = 0 then s.tear i.toNat b else s.rwell i.toNat b
/-! ### New -/
/-! ### The likeness -/
structure Like (s r : Dsk) : Prop where
  B : s.B = r.B
  dead : s.dead = r.dead
  writes : s.writes = r.writes
  ahead : s.ahead = r.ahead
  where_ : s.ahead = true → s.at_ = r.at_ ∧ s.keep = r.keep
theorem Like.refl (s : Dsk) : Like s s := ⟨rfl, rfl, rfl, rfl, fun _ => ⟨rfl, rfl⟩⟩
theorem Like.code {s r : Dsk} (h : Like s r) (n : Nat) (i : Int) (m : Nat) : s.code n i m = r.code n i m := by
  unfold Dsk.code
  rw [h.dead]
  congr 2
  by_cases ha : s.ahead = true
  · rw [(h.where_ ha).1, h.ahead]
  · rw [if_neg (fun k => ha k.1), if_neg (fun k => ha (h.ahead.trans k.1))]
theorem Like.sec {s r : Dsk} (h : Like s r) (i : Nat) : s.sec i = r.sec i := by unfold Dsk.sec; rw [h.B]
theorem Like.stop {s r : Dsk} (h : Like s r) (at_ keep : Int) : Like (s.stop at_ keep) (r.stop at_ keep) := ⟨h.B, h.dead, h.writes, rfl, fun _ => ⟨rfl, rfl⟩⟩
theorem Like.start {s r : Dsk} (h : Like s r) : Like s.start { r with dead := false, ahead := false, at_ := 0 } := ⟨h.B, rfl, h.writes, rfl, fun k => by cases k⟩
theorem Like.next {s r : Dsk} (h : Like s r) (hb : s.ahead = true → 0 ≤ s.at_ ∧ s.at_ ≤ 9223372036854775807) (n : Nat) (i : Int) (b : List UInt8) : Like (s.next n i b) (r.rnext n i b) := by
  unfold Dsk.next Dsk.rnext
  by_cases h1 : badW n i b.length
  · rw [if_pos h1, if_pos h1]; exact h
  · rw [if_neg h1, if_neg h1, ← h.dead]
    by_cases h2 : s.dead = true
    · rw [if_pos h2, if_pos h2]; exact h
    · rw [if_neg h2, if_neg h2]
      by_cases ha : s.ahead = true
      · obtain ⟨e1, e2⟩ := h.where_ ha
        rw [← h.ahead, ← e1]
        by_cases h0 : s.at_ = 0
        · rw [if_pos ⟨ha, h0⟩, if_pos ⟨ha, h0⟩]
          exact ⟨by show layL _ _ _ = layL _ _ _; rw [h.B, e2], rfl, h.writes, h.ahead, fun k => h.where_ k⟩
        · rw [if_neg (fun k => h0 k.2), if_neg (fun k => h0 k.2)]
          refine ⟨by show layL _ _ _ = layL _ _ _; rw [h.B], h.dead, by show IntKind.i64.wrap _ = IntKind.i64.wrap _; rw [h.writes], h.ahead, fun _ => ⟨?_, e2⟩⟩
          show (if s.ahead then s.at_ - 1 else s.at_) = IntKind.i64.wrap (r.at_ - 1)
          rw [if_pos ha, ← e1, IntWalk.i64_in _ (by have := hb ha; omega)]
      · rw [if_neg (fun k => ha k.1), if_neg (fun k => ha (h.ahead.trans k.1))]
        exact ⟨by show layL _ _ _ = layL _ _ _; rw [h.B], h.dead, by show IntKind.i64.wrap _ = IntKind.i64.wrap _; rw [h.writes], h.ahead, fun k => absurd k ha⟩
set_option maxRecDepth 100000

theorem two_ge {p g B : Nat} (hp : B ≤ p) (hg : B ≤ g) : ∀ k, two p g k → B ≤ k := fun k h => by
  rcases h with rfl | rfl
  · exact hp
  · exact hg
theorem pnew_at (n : Nat) (k : Int) (hk : k = n) (w : World) (h1 : 1 ≤ n) (h2 : n ≤ 4096) : Calls Tryz.prog 6 #[.int .i64 k] w fun e w' => ∃ p, e = .returned (.tuple #[.pointer (some ⟨p, 0, none⟩), .int .i64 0]) ∧ w.heap.size ≤ p ∧ ∃ g, w.heap.size ≤ g ∧ DP w' p g n n (newD n) ∧ Below w.heap.size w w' := by
  subst hk
  exact pnew_any n w h1 h2
theorem Rd.of_blk {w : World} {g : Nat} {T : TypeId} {bs : List UInt8} (h : Blk w g (u8A bs) T) : Rd w w.heap.size (some ⟨g, 0, none⟩) bs :=
  .inr ⟨g, 0, rfl, h.lt, fun i hi => by
    rw [Nat.zero_add, h.byteAt hi, List.getD_eq_getElem?_getD, List.getElem?_eq_getElem hi]
    rfl⟩
theorem Rd.two {w : World} {B : Nat} {A : Option Addr} {l : List UInt8} (h : Rd w B A l) (hl : 2 ≤ l.length) : ∃ b off, A = some ⟨b, off, none⟩ ∧ w.cell? ⟨b, off, none⟩ = some (.int .u8 ((l.getD 0 0).toNat : Int)) ∧ w.cell? ⟨b, off + 1, none⟩ = some (.int .u8 ((l.getD 1 0).toNat : Int)) := by
  rcases h with rfl | ⟨b, off, rfl, _, hc⟩
  · simp at hl
  · refine ⟨b, off, rfl, ?_, ?_⟩
    · have := hc 0 (by omega)
      rw [List.getD_eq_getElem?_getD, List.getElem?_eq_getElem (show 0 < l.length by omega)]
      exact this
    · have := hc 1 (by omega)
      rw [List.getD_eq_getElem?_getD, List.getElem?_eq_getElem (show 1 < l.length by omega)]
      exact this
set_option maxRecDepth 100000

theorem layL_get {B l : List UInt8} {o : Nat} (h : o + l.length ≤ B.length) (t : Nat) : (layL B o l)[t]? = if o ≤ t ∧ t < o + l.length then l[t - o]? else B[t]? := by
  unfold layL
  rw [List.append_assoc]
  by_cases h1 : t < o
  · rw [if_neg (by omega), List.getElem?_append_left (by rw [List.length_take]; omega), List.getElem?_take, if_pos h1]
  · have h2 : (B.take o).length = o := by rw [List.length_take]; omega
    rw [List.getElem?_append_right (by omega), h2]
    by_cases h3 : t < o + l.length
    · rw [if_pos ⟨by omega, h3⟩, List.getElem?_append_left (by omega)]
    · rw [if_neg (by omega), List.getElem?_append_right (by omega), List.getElem?_drop]
      congr 1
      omega
def Sec (s : Dsk) (f : Nat → Nat → UInt8) : Prop := s.B.length = 320 ∧ ∀ j k, j < 10 → k < 32 → s.B[j * 32 + k]? = some (f j k)
theorem Sec.sec {s : Dsk} {f : Nat → Nat → UInt8} (h : Sec s f) {j k : Nat} (hj : j < 10) (hk : k < 32) : (s.sec j)[k]? = some (f j k) := by
  unfold Dsk.sec
  rw [List.getElem?_take, if_pos hk, List.getElem?_drop]
  exact h.2 j k hj hk
theorem Sec.lay {s : Dsk} {f : Nat → Nat → UInt8} (h : Sec s f) {i : Nat} (hi : i < 10) (l : List UInt8) (hl : l.length ≤ 32) {B : List UInt8} (hB : B = layL s.B (i * 32) l) (s' : Dsk) (hs : s'.B = B) : Sec s' (fun j k => if j = i ∧ k < l.length then l.getD k 0 else f j k) := by
  have hle : i * 32 + l.length ≤ s.B.length := by rw [h.1]; omega
  refine ⟨by rw [hs, hB, layL_len hle, h.1], fun j k hj hk => ?_⟩
  rw [hs, hB, layL_get hle]
  show _ = some (if j = i ∧ k < l.length then l.getD k 0 else f j k)
  by_cases h1 : j = i ∧ k < l.length
  · rw [if_pos h1]
    obtain ⟨rfl, h2⟩ := h1
    rw [if_pos ⟨by omega, by omega⟩, Nat.add_sub_cancel_left, List.getD_eq_getElem?_getD, List.getElem?_eq_getElem h2]
    rfl
  · rw [if_neg (by omega), if_neg h1]
    exact h.2 j k hj hk
theorem Sec.congr {s : Dsk} {f g : Nat → Nat → UInt8} (h : Sec s f) (hg : ∀ j k, j < 10 → k < 32 → f j k = g j k) : Sec s g := ⟨h.1, fun j k hj hk => by rw [h.2 j k hj hk, hg j k hj hk]⟩
def rowL (c : UInt8) : List UInt8 := List.replicate 32 c
theorem rowL_len (c : UInt8) : (rowL c).length = 32 := List.length_replicate ..
theorem rowL_pad (c : UInt8) : padB 32 (rowL c) = rowL c := padB_full (rowL_len c)
theorem rowL_at {c : UInt8} {k : Nat} (hk : k < 32) : (rowL c).getD k 0 = c := by
  unfold rowL
  rw [List.getD_eq_getElem?_getD, List.getElem?_replicate, if_pos hk]
  rfl
theorem Sec.well {s : Dsk} {f : Nat → Nat → UInt8} (h : Sec s f) {i : Nat} (hi : i < 10) (c : UInt8) : Sec (s.well i (rowL c)) (fun j k => if j = i then c else f j k) := by
  have := h.lay hi (rowL c) (Nat.le_of_eq (rowL_len c)) (B := (s.well i (rowL c)).B) (by show layL _ _ _ = _; rw [rowL_pad]) _ rfl
  refine this.congr fun j k hj hk => ?_
  rw [rowL_len]
  by_cases e : j = i
  · rw [if_pos ⟨e, hk⟩, if_pos e, rowL_at hk]
  · rw [if_neg (fun h => e h.1), if_neg e]
theorem Sec.tear {s : Dsk} {f : Nat → Nat → UInt8} (h : Sec s f) {i K : Nat} (hi : i < 10) (hK : s.keep = K) (hK32 : K ≤ 32) (c : UInt8) : Sec (s.tear i (rowL c)) (fun j k => if j = i ∧ k < K then c else f j k) := by
  have hl : ((rowL c).take K).length = K := by rw [List.length_take, rowL_len]; omega
  have := h.lay hi ((rowL c).take K) (by omega) (B := (s.tear i (rowL c)).B) (by show layL _ _ _ = _; rw [rowL_pad, hK]) _ rfl
  refine this.congr fun j k hj hk => ?_
  rw [hl]
  by_cases e : j = i ∧ k < K
  · rw [if_pos e, if_pos e, List.getD_eq_getElem?_getD, List.getElem?_take, if_pos e.2, ← List.getD_eq_getElem?_getD, rowL_at hk]
  · rw [if_neg e, if_neg e]
end Go.Proofs.YtndknifdajjalaaGreatDoor
