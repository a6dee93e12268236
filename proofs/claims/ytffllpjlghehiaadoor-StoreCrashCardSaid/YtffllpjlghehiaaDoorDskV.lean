/- The document's own disk: Write of anything; new disks; copies. Both disks are one another's likeness, and stay so. -/
import Derived.Test.YtffllpjlghehiaaDoorDskW
namespace Go.Proofs.YtffllpjlghehiaaDoor
open Go.RowKit
set_option maxRecDepth 100000

def Dsk.rnext (s : Dsk) (n : Nat) (i : Int) (b : List UInt8) : Dsk := if badW n i b.length then s else if s.dead = true then s else if s.ahead = true ∧ s.at_ = 0 then s.tear i.toNat b else s.rwell i.toNat b
theorem rdwrite_place {w : World} {q g n c : Nat} {s : Dsk} (h : RP w q g n c s) (i : Int) (A : Option Addr) (m d : Nat) (hi : ¬ (0 ≤ i ∧ i < n)) : Calls Tryd.prog 26 #[.pointer (some ⟨q, 0, none⟩), .int .i64 i, .slice A m d] w fun e w' => e = .returned (.int .i64 1) ∧ w = w' := by
  have HC := Lib.hid (rdlen_any h)
  have hs := h.small
  by_cases h0 : i < 0
  · have hd : decide (i < 0) = true := decide_eq_true h0
    clear h hi
    go_enter Tryd.func26, Tryd.ntmps26
    go_wp2
    go_ret
    exact ⟨rfl, rfl⟩
  · have hd : decide (i < 0) = false := decide_eq_false h0
    have h1 : (n : Int) ≤ i := by omega
    have hd1 : decide ((n : Int) ≤ i) = true := decide_eq_true h1
    clear h hi
    go_enter Tryd.func26, Tryd.ntmps26
    go_wp2_with fail
    with_reducible refine HC.out.mono ?_
    rintro e w' ⟨rfl, rfl⟩
    go_wp2_with fail
    go_ret
    exact ⟨rfl, rfl⟩
theorem rdwrite_long {w : World} {q g n c : Nat} {s : Dsk} (h : RP w q g n c s) (i : Nat) (A : Option Addr) (m d : Nat) (hi : i < n) (hm : 32 < m) : Calls Tryd.prog 26 #[.pointer (some ⟨q, 0, none⟩), .int .i64 (i : Int), .slice A m d] w fun e w' => e = .returned (.int .i64 1) ∧ w = w' := by
  have HC := Lib.hid (rdlen_any h)
  have hs := h.small
  have h1 : ¬ (n : Int) ≤ (i : Int) := by omega
  have h2 : ¬ (i : Int) < 0 := by omega
  have hd1 : decide (n ≤ i) = false := decide_eq_false (by omega)
  have hm' : (32 : Int) < (m : Int) := by omega
  clear h
  go_enter Tryd.func26, Tryd.ntmps26
  go_wp2_with fail
  with_reducible refine HC.out.mono ?_
  rintro e w' ⟨rfl, rfl⟩
  go_wp2_with fail
  go_ret
  exact ⟨rfl, rfl⟩
theorem rdwrite_dead {w : World} {q g n c : Nat} {s : Dsk} (h : RP w q g n c s) (i : Nat) (A : Option Addr) (m d : Nat) (hi : i < n) (hm : m ≤ 32) (hd : s.dead = true) : Calls Tryd.prog 26 #[.pointer (some ⟨q, 0, none⟩), .int .i64 (i : Int), .slice A m d] w fun e w' => e = .returned (.int .i64 8) ∧ w = w' := by
  have HC := Lib.hid (rdlen_any h)
  have hs := h.small
  obtain ⟨_, c1, _⟩ := h.cells
  rw [hd] at c1
  have h1 : ¬ (n : Int) ≤ (i : Int) := by omega
  have h2 : ¬ (i : Int) < 0 := by omega
  have hd1 : decide (n ≤ i) = false := decide_eq_false (by omega)
  have hm' : ¬ (32 : Int) < (m : Int) := by omega
  clear h hd
  go_enter Tryd.func26, Tryd.ntmps26
  go_wp2_with fail
  with_reducible refine HC.out.mono ?_
  rintro e w' ⟨rfl, rfl⟩
  go_wp2_with fail
  go_ret
  exact ⟨rfl, rfl⟩
theorem rdwrite_any {w : World} {q g n c : Nat} {s : Dsk} (h : RP w q g n c s) (i : Int) (A : Option Addr) (m d : Nat) (b : List UInt8) (hb : b.length = m) (hr : RdA (two q g) w A b) :
    Calls Tryd.prog 26 #[.pointer (some ⟨q, 0, none⟩), .int .i64 i, .slice A m d] w fun e w' => e = .returned (.int .i64 (s.code n i m)) ∧ RP w' q g n c (s.rnext n i b) ∧ Chg (two q g) w w' := by
  unfold Dsk.code Dsk.rnext
  rw [hb]
  by_cases h1 : badW n i m
  · rw [if_pos h1, if_pos h1]
    have k : Calls Tryd.prog 26 #[.pointer (some ⟨q, 0, none⟩), .int .i64 i, .slice A m d] w fun e w' => e = .returned (.int .i64 1) ∧ w = w' := by
      by_cases h2 : 0 ≤ i ∧ i < n
      · obtain ⟨j, rfl⟩ : ∃ j : Nat, i = (j : Int) := ⟨i.toNat, by omega⟩
        exact rdwrite_long h j A m d (by omega) (by rcases h1 with h1 | h1; exact absurd h2 h1; exact h1)
      · exact rdwrite_place h i A m d h2
    refine k.mono ?_
    rintro e w' ⟨rfl, rfl⟩
    exact ⟨rfl, h, Chg.refl _ _⟩
  · rw [if_neg h1, if_neg h1]
    obtain ⟨h2, h3⟩ : (0 ≤ i ∧ i < n) ∧ m ≤ 32 := by unfold badW at h1; omega
    obtain ⟨j, rfl⟩ : ∃ j : Nat, i = (j : Int) := ⟨i.toNat, by omega⟩
    have hj : j < n := by omega
    cases hd : s.dead with
    | true =>
      rw [if_pos rfl, if_pos rfl]
      refine (rdwrite_dead h j A m d hj h3 hd).mono ?_
      rintro e w' ⟨rfl, rfl⟩
      exact ⟨rfl, h, Chg.refl _ _⟩
    | false =>
      rw [if_neg (show ¬ false = true by simp), if_neg (show ¬ false = true by simp), Int.toNat_natCast]
      cases ha : s.ahead with
      | true =>
        by_cases h0 : s.at_ = 0
        · rw [if_pos ⟨rfl, h0⟩, if_pos ⟨rfl, h0⟩]
          exact rdwrite_tear h j A m d b hj h3 hb hr hd ha h0
        · rw [if_neg (fun h => h0 h.2), if_neg (fun h => h0 h.2)]
          exact rdwrite_well1 h j A m d b hj h3 hb hr hd ha h0
      | false =>
        rw [if_neg (show ¬ (false = true ∧ s.at_ = 0) by simp), if_neg (show ¬ (false = true ∧ s.at_ = 0) by simp)]
        exact rdwrite_well0 h j A m d b hj h3 hb hr hd ha

/-! ### New -/
theorem madeZ (n : Nat) : (madeCells #[Value.int .u8 0] n).toList = Lib.byteCells (List.replicate n 0) := by
  apply List.ext_getElem?
  intro j
  by_cases hj : j < n
  · simp [madeCells, hj, Lib.byteCells, Nat.mod_one]
  · rw [List.getElem?_eq_none (by simp [madeCells]; omega), List.getElem?_eq_none (by rw [Lib.byteCells_length, List.length_replicate]; omega)]
theorem rdnew_bad (n : Int) (w : World) (hn : n < 1 ∨ 4096 < n) : Calls Tryd.prog 25 #[.int .i64 n] w fun e w' => e = .returned (.tuple #[.pointer none, .bool false]) ∧ w = w' := by
  by_cases h1 : n < 1
  · have hd : decide (n < 1) = true := decide_eq_true h1
    clear hn
    go_enter Tryd.func25, Tryd.ntmps25
    go_wp2
    go_ret2
    exact ⟨rfl, rfl⟩
  · have hd : decide (n < 1) = false := decide_eq_false h1
    have h2 : 4096 < n := by omega
    clear hn
    go_enter Tryd.func25, Tryd.ntmps25
    go_wp2
    go_ret2
    exact ⟨rfl, rfl⟩
theorem rdnew_any (n : Nat) (w : World) (h1 : 1 ≤ n) (h2 : n ≤ 4096) : Calls Tryd.prog 25 #[.int .i64 (n : Int)] w fun e w' => ∃ p, e = .returned (.tuple #[.pointer (some ⟨p, 0, none⟩), .bool true]) ∧ w.heap.size ≤ p ∧ ∃ g, w.heap.size ≤ g ∧ RP w' p g n (n * 32) (newD n) ∧ Below w.heap.size w w' := by
  have hd : decide ((n : Int) < 1) = false := decide_eq_false (by omega)
  have hd2 : decide (4096 < (n : Int)) = false := decide_eq_false (by omega)
  have h3 : ¬ (n : Int) < 1 := by omega
  have h4 : ¬ 4096 < (n : Int) := by omega
  obtain ⟨i0, hi, hz0, hz1, hz2⟩ := info_parts info5
  have hmk := fun W => run_make (P := Tryd.prog) W 31 5 i0 (.int .u8 0) Tryd.underlying31 hi hz0 .i64 .i64 ((n : Int) * 32) ((n : Int) * 32) (by omega) (by omega) (by rw [hz2]; omega) (by omega)
  go_enter Tryd.func25, Tryd.ntmps25
  go_wp2
  clear hmk
  go_ret2
  have k1 := Blk.new w (madeCells #[Value.int .u8 0] (n * 32)) 5
  have hb : Below w.heap.size w (w.alloc (.cells (madeCells #[Value.int .u8 0] (n * 32)) 5)) := (Below.refl _ _).alloc (Nat.le_refl _) _
  generalize hw1 : w.alloc (.cells (madeCells #[Value.int .u8 0] (n * 32)) 5) = w1 at k1 hb ⊢
  have hs1 : w1.heap.size = w.heap.size + 1 := by rw [← hw1]; simp
  have k2 := Blk.new w1 #[.slice (some ⟨w.heap.size, 0, none⟩) (n * 32) (n * 32), .bool false, .bool false, .int .i64 0, .int .i64 0, .int .i64 0] 93
  rw [hs1] at k2
  refine ⟨w.heap.size + 1, rfl, by omega, w.heap.size, Nat.le_refl _, ⟨k2, ⟨_, k1.alloc _, ?_⟩, by omega, by simp [newD], Nat.le_refl _, ⟨h1, h2⟩, Nat.zero_le _⟩, hb.alloc (by omega) _⟩
  rw [madeZ]
  simp only [newD, List.length_replicate]
  rw [List.take_of_length_le (by rw [Lib.byteCells_length, List.length_replicate]; exact Nat.le_refl _)]


/-! ### The likeness -/
structure Like (s r : Dsk) : Prop where
  B : s.B = r.B
  dead : s.dead = r.dead
  writes : s.writes = r.writes
  ahead : s.ahead = r.ahead
  where_ : s.ahead = true → s.at_ = r.at_ ∧ s.keep = r.keep
theorem Like.refl (s : Dsk) : Like s s := ⟨rfl, rfl, rfl, rfl, fun _ => ⟨rfl, rfl⟩⟩
theorem Like.code {s r : Dsk} (h : Like s r) (n : Nat) (i : Int) (m : Nat) : s.code n i m = r.code n i m := by
  unfold Dsk.code
  rw [h.dead]
  congr 2
  by_cases ha : s.ahead = true
  · rw [(h.where_ ha).1, h.ahead]
  · rw [if_neg (fun k => ha k.1), if_neg (fun k => ha (h.ahead.trans k.1))]
theorem Like.sec {s r : Dsk} (h : Like s r) (i : Nat) : s.sec i = r.sec i := by unfold Dsk.sec; rw [h.B]
theorem Like.stop {s r : Dsk} (h : Like s r) (at_ keep : Int) : Like (s.stop at_ keep) (r.stop at_ keep) := ⟨h.B, h.dead, h.writes, rfl, fun _ => ⟨rfl, rfl⟩⟩
theorem Like.start {s r : Dsk} (h : Like s r) : Like s.start { r with dead := false, ahead := false, at_ := 0 } := ⟨h.B, rfl, h.writes, rfl, fun k => by cases k⟩
theorem Like.next {s r : Dsk} (h : Like s r) (hb : s.ahead = true → 0 ≤ s.at_ ∧ s.at_ ≤ 9223372036854775807) (n : Nat) (i : Int) (b : List UInt8) : Like (s.next n i b) (r.rnext n i b) := by
  unfold Dsk.next Dsk.rnext
  by_cases h1 : badW n i b.length
  · rw [if_pos h1, if_pos h1]; exact h
  · rw [if_neg h1, if_neg h1, ← h.dead]
    by_cases h2 : s.dead = true
    · rw [if_pos h2, if_pos h2]; exact h
    · rw [if_neg h2, if_neg h2]
      by_cases ha : s.ahead = true
      · obtain ⟨e1, e2⟩ := h.where_ ha
        rw [← h.ahead, ← e1]
        by_cases h0 : s.at_ = 0
        · rw [if_pos ⟨ha, h0⟩, if_pos ⟨ha, h0⟩]
          exact ⟨by show layL _ _ _ = layL _ _ _; rw [h.B, e2], rfl, h.writes, h.ahead, fun k => h.where_ k⟩
        · rw [if_neg (fun k => h0 k.2), if_neg (fun k => h0 k.2)]
          refine ⟨by show layL _ _ _ = layL _ _ _; rw [h.B], h.dead, by show IntKind.i64.wrap _ = IntKind.i64.wrap _; rw [h.writes], h.ahead, fun _ => ⟨?_, e2⟩⟩
          show (if s.ahead then s.at_ - 1 else s.at_) = IntKind.i64.wrap (r.at_ - 1)
          rw [if_pos ha, ← e1, IntWalk.i64_in _ (by have := hb ha; omega)]
      · rw [if_neg (fun k => ha k.1), if_neg (fun k => ha (h.ahead.trans k.1))]
        exact ⟨by show layL _ _ _ = layL _ _ _; rw [h.B], h.dead, by show IntKind.i64.wrap _ = IntKind.i64.wrap _; rw [h.writes], h.ahead, fun k => absurd k ha⟩
end Go.Proofs.YtffllpjlghehiaaDoor
