/- The program's store: a slot is freed. -/
import Derived.Test.YtffllpjlghehiaaDoorStpA
namespace Go.Proofs.YtffllpjlghehiaaDoor
open Go.RowKit
set_option maxRecDepth 100000

set_option maxHeartbeats 1000000 in
theorem psfree_any {w : World} {q p g b c : Nat} {s : Dsk} {R n : Nat} {E : Nat → Ent} (h : SP w q p g b c s R n E false) {i : Nat} (hi : i < n) :
    Calls Tryd.prog 36 #[.pointer (some ⟨q, 0, none⟩), .int .i64 (i : Int)] w fun e w' => e = .returned (.int .i64 (s.code (n * (R + 1)) ((i * (R + 1) : Nat) : Int) 0)) ∧
      SP w' q p g b c (s.next (n * (R + 1)) ((i * (R + 1) : Nat) : Int) []) R n (updE E i none) (decide (s.code (n * (R + 1)) ((i * (R + 1) : Nat) : Int) 0 ≠ 0)) ∧ Chg (fourS q p g b) w w' := by
  have HS := Lib.hid (psstate_any h hi)
  have HW := Lib.hid (pswrite_any h ((i * (R + 1) : Nat) : Int) none 0 0 [] rfl (Rd.nil _ _ _))
  have hn := h.size
  have H := Lib.hid h
  clear h
  have hk := code_cases s (n * (R + 1)) ((i * (R + 1) : Nat) : Int) 0
  generalize s.code (n * (R + 1)) ((i * (R + 1) : Nat) : Int) 0 = K at *
  generalize ((i * (R + 1) : Nat) : Int) = at_ at *
  rcases hk with rfl | rfl | rfl
  · go_enter Tryd.func36, Tryd.ntmps36
    go_wp2_with fail
    with_reducible refine HS.out.mono ?_
    rintro e w' ⟨rfl, rfl⟩
    go_wp2_with fail
    with_reducible refine HW.out.mono ?_
    rintro e w1 ⟨rfl, S1, C1⟩
    have S1' : SP w1 q p g b c (s.next (n * (R + 1)) at_ []) R n E false := S1
    have S1 := Lib.hid S1'
    have C1 := Lib.hid C1
    obtain ⟨d0, d1, d2, d3⟩ := S1'.cells
    have d2' : w1.cell? ⟨q, 2, none⟩ = some (.slice (some ⟨b, 0, none⟩) n n) := d2
    obtain ⟨v0, e0⟩ : ∃ v, w1.cell? ⟨b, i * 3, none⟩ = some v := ⟨_, S1'.cell0 hi⟩
    obtain ⟨v1, e1⟩ : ∃ v, w1.cell? ⟨b, i * 3 + 1, none⟩ = some v := ⟨_, S1'.cellE hi (j := 1) (by omega)⟩
    obtain ⟨v2, e2⟩ : ∃ v, w1.cell? ⟨b, i * 3 + 2, none⟩ = some v := ⟨_, S1'.cellE hi (j := 2) (by omega)⟩
    have f0 := (S1'.ents rfl).frozen (i * 3)
    have f1 := (S1'.ents rfl).frozen (i * 3 + 1)
    have f2 := (S1'.ents rfl).frozen (i * 3 + 2)
    clear S1' d2 HS HW H
    go_wp2_with fail
    go_ret
    obtain ⟨S2, C2⟩ := S1.out.putE none hi rfl rfl
    exact ⟨rfl, S2, (C1.out.more three_four).trans (C2.more fun k e => .inr (.inr (.inr e)))⟩
  · go_enter Tryd.func36, Tryd.ntmps36
    go_wp2_with fail
    with_reducible refine HS.out.mono ?_
    rintro e w' ⟨rfl, rfl⟩
    go_wp2_with fail
    with_reducible refine HW.out.mono ?_
    rintro e w1 ⟨rfl, S1, C1⟩
    have S1 := Lib.hid (show SP w1 q p g b c (s.next (n * (R + 1)) at_ []) R n E true from S1)
    have C1 := Lib.hid C1
    go_wp2_with fail
    go_ret
    exact ⟨rfl, S1.out.congr (fun e => by cases e), C1.out.more three_four⟩
  · go_enter Tryd.func36, Tryd.ntmps36
    go_wp2_with fail
    with_reducible refine HS.out.mono ?_
    rintro e w' ⟨rfl, rfl⟩
    go_wp2_with fail
    with_reducible refine HW.out.mono ?_
    rintro e w1 ⟨rfl, S1, C1⟩
    have S1 := Lib.hid (show SP w1 q p g b c (s.next (n * (R + 1)) at_ []) R n E true from S1)
    have C1 := Lib.hid C1
    go_wp2_with fail
    go_ret
    exact ⟨rfl, S1.out.congr (fun e => by cases e), C1.out.more three_four⟩

/-! ### Looking for a slot -/
def idxE : Option Nat → Int
  | none => -1
  | some i => (i : Int)
/-- A closure that tells p of each entry. -/
def TellsE (f : Nat) (lb : Array Value) (p : Ent → Bool) (w : World) : Prop := ∀ (W : World) (x : Ent), Below w.heap.size w W → Calls Tryd.prog f (#[.agg (entV x).toArray] ++ lb) W fun e W' => e = .returned (.bool (p x)) ∧ Below W.heap.size W W'
end Go.Proofs.YtffllpjlghehiaaDoor
