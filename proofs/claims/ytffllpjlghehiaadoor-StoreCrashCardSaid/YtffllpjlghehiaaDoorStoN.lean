/- New disks, and the document's openings beside the program's. Mathematics alone. -/
import Derived.Test.YtffllpjlghehiaaDoorStoH
namespace Go.Proofs.YtffllpjlghehiaaDoor
open Go.RowKit

theorem new_used (N R i : Nat) : usedB (newD N).B R i = false := by
  unfold usedB newD
  apply decide_eq_false
  intro h
  rw [List.getElem?_replicate] at h
  split at h
  · cases h
  · cases h
theorem new_slot (N R i : Nat) : slotB (newD N).B R i = none := by
  unfold slotB
  rw [new_used]
  rfl
/-- On a new disk there is an empty store in good order, at once. -/
theorem new_good (R n : Nat) : Good ⟨[], false⟩ (newD (n * (R + 1))) R n 0 := by
  refine ⟨⟨List.length_replicate .., Nat.zero_le _⟩, fun _ => ⟨⟨⟨List.Pairwise.nil, fun x => ⟨fun h => (List.not_mem_nil h).elim, fun h => ?_⟩⟩, fun i r _ h => ?_⟩, fun i _ h => ?_⟩, fun i r h => ?_⟩
  · have := h.2.1
    rw [new_slot] at this
    cases this
  · rw [new_slot] at h; cases h
  · rw [new_used] at h; cases h
  · rw [new_slot] at h; cases h
theorem new_open (R n : Nat) : openK (newD (n * (R + 1))) R n = true ∧ openT (newD (n * (R + 1))) R n = ⟨[], false⟩ ∧ openD (newD (n * (R + 1))) R n = newD (n * (R + 1)) := open_again (new_good R n) rfl

/-! ### The document's opening -/
def ropenD (s : Dsk) (R n : Nat) : Dsk := (s.rall (n * (R + 1)) (freeW R (openS s.B R n))).1
def ropenK (s : Dsk) (R n : Nat) : Bool := (s.rall (n * (R + 1)) (freeW R (openS s.B R n))).2
theorem open_like {s r : Dsk} (h : Like s r) (hf : s.fine) (R n : Nat) : ropenK r R n = openK s R n ∧ openT r R n = openT s R n ∧ Like (openD s R n) (ropenD r R n) ∧ (openD s R n).fine := by
  unfold ropenK openK openT openD ropenD
  rw [← h.B]
  obtain ⟨a, b, c⟩ := rall_like (N := n * (R + 1)) (freeW R (openS s.B R n)) h hf
  exact ⟨b.symm, rfl, a, c⟩
theorem fine_new (N : Nat) : (newD N).fine := fun h => by cases h
theorem fine_stop (s : Dsk) (a k : Int) (h : a ≤ 9223372036854775807) : (s.stop a k).fine := fun _ => by
  show 0 ≤ max a 0 ∧ max a 0 ≤ _
  omega
theorem fine_start (s : Dsk) : s.start.fine := fun h => by cases h
/-- The writes of an opening, one pass behind the other: what has no form, then what doesn't count. -/
theorem rall_append (N : Nat) : ∀ (a b : List (Nat × List UInt8)) (s : Dsk), s.rall N (a ++ b) = if (s.rall N a).2 = true then (s.rall N a).1.rall N b else s.rall N a
  | [], b, s => by simp [Dsk.rall]
  | x :: a, b, s => by
    have e : ∀ (s : Dsk) (r : List (Nat × List UInt8)), s.rall N (x :: r) = if s.code N (x.1 : Int) x.2.length = 0 then (s.rnext N (x.1 : Int) x.2).rall N r else (s.rnext N (x.1 : Int) x.2, false) := fun _ _ => rfl
    rw [List.cons_append, e, e]
    by_cases h : s.code N (x.1 : Int) x.2.length = 0
    · rw [if_pos h, if_pos h]; exact rall_append N a b _
    · rw [if_neg h, if_neg h]; rfl
/-- Lists of slots grow by one: for loops over slots. -/
theorem junkS_succ (B : List UInt8) (R k : Nat) : junkS B R (k + 1) = if usedB B R k = true ∧ slotB B R k = none then junkS B R k ++ [k] else junkS B R k := by
  unfold junkS
  rw [List.range_succ, List.filter_append]
  by_cases h : usedB B R k = true ∧ slotB B R k = none
  · rw [if_pos h]
    congr 1
    rw [List.filter_cons_of_pos (by rw [h.1, h.2]; rfl), List.filter_nil]
  · rw [if_neg h, List.filter_cons_of_neg (by
      intro e
      rw [Bool.and_eq_true, Option.isNone_iff_eq_none] at e
      exact h e), List.filter_nil, List.append_nil]
theorem elderS_succ (V : Nat → Option Rec11) (n k : Nat) : elderS V n (k + 1) = if V k ≠ none ∧ entB V n k = none then elderS V n k ++ [k] else elderS V n k := by
  unfold elderS
  rw [List.range_succ, List.filter_append]
  by_cases h : V k ≠ none ∧ entB V n k = none
  · rw [if_pos h]
    congr 1
    rw [List.filter_cons_of_pos (by rw [h.2, Bool.and_eq_true]; exact ⟨Option.isSome_iff_ne_none.2 h.1, rfl⟩), List.filter_nil]
  · rw [if_neg h, List.filter_cons_of_neg (by
      intro e
      rw [Bool.and_eq_true, Option.isNone_iff_eq_none, Option.isSome_iff_ne_none] at e
      exact h e), List.filter_nil, List.append_nil]
theorem freeW_append (R : Nat) (a b : List Nat) : freeW R (a ++ b) = freeW R a ++ freeW R b := List.map_append ..
end Go.Proofs.YtffllpjlghehiaaDoor
