/- The program's disk: Stop, Start. -/
import Derived.Test.YtffllpjlghehiaaDoorDskP
namespace Go.Proofs.YtffllpjlghehiaaDoor
open Go.RowKit
set_option maxRecDepth 100000

def keepOf (k : Int) : Nat := (min (max k 0) 32).toNat
theorem keepOf_le (k : Int) : keepOf k ≤ 32 := by unfold keepOf; omega
def Dsk.stop (s : Dsk) (at_ keep : Int) : Dsk := { s with ahead := true, at_ := max at_ 0, keep := keepOf keep }
def Dsk.start (s : Dsk) : Dsk := { s with dead := false, ahead := false, at_ := 0, keep := 0 }

set_option maxHeartbeats 1000000 in
theorem pstop_any {w : World} {p g n c : Nat} {s : Dsk} (h : DP w p g n c s) (at_ keep : Int) (h1 : at_ ≤ 9223372036854775807) :
    Calls Tryd.prog 21 #[.pointer (some ⟨p, 0, none⟩), .int .i64 at_, .int .i64 keep] w fun e w' => e = .returned (.tuple #[]) ∧ DP w' p g n c (s.stop at_ keep) ∧ Chg (two p g) w w' := by
  have H := Lib.hid h
  obtain ⟨c0, c1, c2, c3, c4, c5⟩ := h.cells
  have f3 := h.head.frozen 3
  have f4 := h.head.frozen 4
  have f5 := h.head.frozen 5
  clear h
  go_enter Tryd.func21, Tryd.ntmps21
  go_wp2
  go_end0
  have e : (keepOf keep : Int) = min (max keep 0) 32 := by unfold keepOf; omega
  have k := ((H.out.head.set 3 (.bool true)).set 4 (.int .i64 (max at_ 0))).set 5 (.int .i64 (min (max keep 0) 32))
  refine ⟨rfl, ⟨?_, ((H.out.body.other (p := ⟨p, 3, none⟩) (fun e => H.out.ne e.symm) _).other (p := ⟨p, 4, none⟩) (fun e => H.out.ne e.symm) _).other (p := ⟨p, 5, none⟩) (fun e => H.out.ne e.symm) _, H.out.ne, H.out.len, H.out.cap, H.out.small, fun _ => ⟨?_, ?_⟩, keepOf_le _⟩, ?_⟩
  · show Blk _ p #[.slice (some ⟨g, 0, none⟩) n c, .bool s.dead, .int .i64 s.writes, .bool true, .int .i64 (max at_ 0), .int .i64 (keepOf keep : Int)] _
    rw [e]
    exact k
  · show 0 ≤ max at_ 0
    omega
  · show max at_ 0 ≤ _
    omega
  · exact (((Chg.refl _ w).setCell (fun _ => .inl rfl) _).setCell (fun _ => .inl rfl) _).setCell (fun _ => .inl rfl) _
set_option maxHeartbeats 1000000 in
theorem pstart_any {w : World} {p g n c : Nat} {s : Dsk} (h : DP w p g n c s) :
    Calls Tryd.prog 22 #[.pointer (some ⟨p, 0, none⟩)] w fun e w' => e = .returned (.tuple #[]) ∧ DP w' p g n c s.start ∧ Chg (two p g) w w' := by
  have H := Lib.hid h
  obtain ⟨c0, c1, c2, c3, c4, c5⟩ := h.cells
  have f1 := h.head.frozen 1
  have f3 := h.head.frozen 3
  have f4 := h.head.frozen 4
  have f5 := h.head.frozen 5
  clear h
  go_enter Tryd.func22, Tryd.ntmps22
  go_wp2
  go_end0
  have k := (((H.out.head.set 1 (.bool false)).set 3 (.bool false)).set 4 (.int .i64 0)).set 5 (.int .i64 0)
  exact ⟨rfl, ⟨k, (((H.out.body.other (p := ⟨p, 1, none⟩) (fun e => H.out.ne e.symm) _).other (p := ⟨p, 3, none⟩) (fun e => H.out.ne e.symm) _).other (p := ⟨p, 4, none⟩) (fun e => H.out.ne e.symm) _).other (p := ⟨p, 5, none⟩) (fun e => H.out.ne e.symm) _, H.out.ne, H.out.len, H.out.cap, H.out.small, (fun h => by cases h), Nat.zero_le _⟩, ((((Chg.refl _ w).setCell (fun _ => .inl rfl) _).setCell (fun _ => .inl rfl) _).setCell (fun _ => .inl rfl) _).setCell (fun _ => .inl rfl) _⟩

/-! ### New -/
theorem infoSec : (Tryd.prog.info? 91).map (fun i => (i.zero, i.size, i.bytes)) = some (some (.agg (u8A zeroS)), 32, 32) := by kernel_rfl
theorem sec_parts : ∃ i, Tryd.prog.info? 91 = some i ∧ i.zero = some (.agg (u8A zeroS)) ∧ i.size = 32 ∧ i.bytes = 32 := by
  have h := infoSec
  cases hi : Tryd.prog.info? 91 with
  | none => rw [hi] at h; simp at h
  | some i =>
    rw [hi] at h
    simp only [Option.map_some, Option.some.injEq, Prod.mk.injEq] at h
    exact ⟨i, rfl, h⟩
theorem made_sectors (n : Nat) : (madeCells (u8A zeroS) (n * 32)).toList = Lib.byteCells (List.replicate (n * 32) 0) := by
  have h5 : (u8A zeroS).size = 32 := by rw [u8A_size]; rfl
  have hz : ∀ i, i < 32 → (u8A zeroS)[i]! = .int .u8 0 := fun i hi => by
    have e : u8A zeroS = (List.replicate 32 (Value.int .u8 0)).toArray := rfl
    have h2 : (u8A zeroS)[i]? = some (.int .u8 0) := by rw [e, List.getElem?_toArray, List.getElem?_replicate, if_pos hi]
    rw [getElem!_pos (u8A zeroS) i (by omega)]
    rw [Array.getElem?_eq_getElem (by omega)] at h2
    exact Option.some.inj h2
  apply List.ext_getElem?
  intro j
  by_cases hj : j < n * 32
  · have h1 := hz (j % 32) (Nat.mod_lt _ (by omega))
    simp [madeCells, hj, h5, h1, Lib.byteCells]
  · rw [List.getElem?_eq_none (by simp [madeCells]; omega), List.getElem?_eq_none (by rw [Lib.byteCells_length, List.length_replicate]; omega)]
theorem wpList_make_sectors {w : World} {ops : Array Oper} {rest : List Oper} {o : Oper} {a : Act} {Q : Exit → Act → World → Prop} (hgd : o.guard = none) (l c : Operand) (ho : o.op = .makeSlice 66 l c)
    (n : Nat) (hn : n ≤ 1000000) (hl : a.eval l = .int .i64 (n : Int)) (hc : a.eval c = .int .i64 (n : Int))
    (hk : ∀ w', BytesAt w' w.heap.size 91 (List.replicate (n * 32) 0) → Below w.heap.size w w' → wpList Tryd.prog ops Q rest (a.put o.dst (.slice (some ⟨w.heap.size, 0, none⟩) n n)) w') : wpList Tryd.prog ops Q (o :: rest) a w := by
  obtain ⟨i, hi, hz, hsz, hby⟩ := sec_parts
  obtain ⟨w', hrun, r1, r2⟩ := run_make_full (P := Tryd.prog) w w.heap.size 66 91 i _ 32 Tryd.underlying66 hi hz hsz .i64 .i64 n (by rw [hby]; omega) (by unfold maxLen; omega) (Nat.le_refl _)
  rw [show (Value.agg (u8A zeroS)).cells = u8A zeroS from rfl, made_sectors] at r1
  refine wpList_plain hgd fun K hK => ?_
  unfold Oper.wp
  simp [execOp, ho, hl, hc, hrun, Result.andThen]
  exact hK _ _ (hk w' (BytesAt.of_own r1).1 ((Below.refl _ _).grown r2 (Nat.le_refl _) (fun k hk => by cases hk)))
theorem pnew_bad (n : Int) (w : World) (hn : n < 1 ∨ 4096 < n) : Calls Tryd.prog 9 #[.int .i64 n] w fun e w' => e = .returned (.tuple #[.pointer none, .int .i64 1]) ∧ w = w' := by
  by_cases h1 : n < 1
  · have hd : decide (n < 1) = true := decide_eq_true h1
    clear hn
    go_enter Tryd.func9, Tryd.ntmps9
    go_wp2
    go_ret2
    exact ⟨rfl, rfl⟩
  · have hd : decide (n < 1) = false := decide_eq_false h1
    have h2 : 4096 < n := by omega
    clear hn
    go_enter Tryd.func9, Tryd.ntmps9
    go_wp2
    go_ret2
    exact ⟨rfl, rfl⟩
def newD (n : Nat) : Dsk := ⟨List.replicate (n * 32) 0, false, 0, false, 0, 0⟩
theorem pnew_any (n : Nat) (w : World) (h1 : 1 ≤ n) (h2 : n ≤ 4096) : Calls Tryd.prog 9 #[.int .i64 (n : Int)] w fun e w' => ∃ p, e = .returned (.tuple #[.pointer (some ⟨p, 0, none⟩), .int .i64 0]) ∧ w.heap.size ≤ p ∧ ∃ g, w.heap.size ≤ g ∧ DP w' p g n n (newD n) ∧ Below w.heap.size w w' := by
  have hd : decide ((n : Int) < 1) = false := decide_eq_false (by omega)
  have hd2 : decide (4096 < (n : Int)) = false := decide_eq_false (by omega)
  have h3 : ¬ (n : Int) < 1 := by omega
  have h4 : ¬ 4096 < (n : Int) := by omega
  go_enter Tryd.func9, Tryd.ntmps9
  go_wp2_with (with_reducible refine wpList_make_sectors rfl (.tmp 10) (.tmp 10) rfl n (by omega) rfl rfl ?_; intro w1 hw1 hb1; have HW1 := Lib.hid hw1; have HB1 := Lib.hid hb1; clear hw1 hb1)
  go_ret2
  refine ⟨w1.heap.size, rfl, HB1.out.size, w.heap.size, Nat.le_refl _, ⟨Blk.new w1 _ _, HW1.out.below ((Below.refl _ _).alloc (Nat.le_refl _) _) HW1.out.lt, ?_, by simp [newD], Nat.le_refl _, ⟨h1, h2⟩, (fun h => by cases h), Nat.zero_le _⟩, HB1.out.alloc HB1.out.size _⟩
  have := HW1.out.lt
  omega



/-! ### Write, whatever it is asked -/
def badW (n : Nat) (i : Int) (m : Nat) : Prop := ¬ (0 ≤ i ∧ i < n) ∨ 32 < m
instance (n : Nat) (i : Int) (m : Nat) : Decidable (badW n i m) := by unfold badW; infer_instance
/-- What a write answers. -/
def Dsk.code (s : Dsk) (n : Nat) (i : Int) (m : Nat) : Int := if badW n i m then 1 else if s.dead = true then 8 else if s.ahead = true ∧ s.at_ = 0 then 8 else 0
/-- What it leaves. -/
def Dsk.next (s : Dsk) (n : Nat) (i : Int) (b : List UInt8) : Dsk := if badW n i b.length then s else if s.dead = true then s else if s.ahead = true ∧ s.at_ = 0 then s.tear i.toNat b else s.well i.toNat b
theorem pwrite_any {w : World} {p g n c : Nat} {s : Dsk} (h : DP w p g n c s) (i : Int) (A : Option Addr) (m d : Nat) (b : List UInt8) (hb : b.length = m) (hr : Rd w w.heap.size A b) :
    Calls Tryd.prog 24 #[.pointer (some ⟨p, 0, none⟩), .int .i64 i, .slice A m d] w fun e w' => e = .returned (.int .i64 (s.code n i m)) ∧ DP w' p g n c (s.next n i b) ∧ Chg (two p g) w w' := by
  unfold Dsk.code Dsk.next
  rw [hb]
  by_cases h1 : badW n i m
  · rw [if_pos h1, if_pos h1]
    have k : Calls Tryd.prog 24 #[.pointer (some ⟨p, 0, none⟩), .int .i64 i, .slice A m d] w fun e w' => e = .returned (.int .i64 1) ∧ w = w' := by
      by_cases h2 : 0 ≤ i ∧ i < n
      · obtain ⟨j, rfl⟩ : ∃ j : Nat, i = (j : Int) := ⟨i.toNat, by omega⟩
        exact pwrite_long h j A m d (by omega) (by rcases h1 with h1 | h1; exact absurd h2 h1; exact h1)
      · exact pwrite_place h i A m d h2
    refine k.mono ?_
    rintro e w' ⟨rfl, rfl⟩
    exact ⟨rfl, h, Chg.refl _ _⟩
  · rw [if_neg h1, if_neg h1]
    obtain ⟨h2, h3⟩ : (0 ≤ i ∧ i < n) ∧ m ≤ 32 := by unfold badW at h1; omega
    obtain ⟨j, rfl⟩ : ∃ j : Nat, i = (j : Int) := ⟨i.toNat, by omega⟩
    have hj : j < n := by omega
    cases hd : s.dead with
    | true =>
      rw [if_pos rfl, if_pos rfl]
      refine (pwrite_dead h j A m d hj h3 hd).mono ?_
      rintro e w' ⟨rfl, rfl⟩
      exact ⟨rfl, h, Chg.refl _ _⟩
    | false =>
      rw [if_neg (show ¬ false = true by simp), if_neg (show ¬ false = true by simp), Int.toNat_natCast]
      cases ha : s.ahead with
      | true =>
        by_cases h0 : s.at_ = 0
        · rw [if_pos ⟨rfl, h0⟩, if_pos ⟨rfl, h0⟩]
          exact pwrite_tear h j A m d b hj h3 hb hr hd ha h0
        · rw [if_neg (fun h => h0 h.2), if_neg (fun h => h0 h.2)]
          exact pwrite_well1 h j A m d b hj h3 hb hr hd ha (by have := h.ahead ha; omega)
      | false =>
        rw [if_neg (show ¬ (false = true ∧ s.at_ = 0) by simp), if_neg (show ¬ (false = true ∧ s.at_ = 0) by simp)]
        exact pwrite_well0 h j A m d b hj h3 hb hr hd ha
end Go.Proofs.YtffllpjlghehiaaDoor
