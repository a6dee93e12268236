/- A store in good order on a disk that lives and has no Stop ahead. Mathematics alone. -/
import Derived.Test.YtffllpjlghehiaaDoorStoN
namespace Go.Proofs.YtffllpjlghehiaaDoor
open Go.RowKit

structure Live (t : Sto) (s : Dsk) (R n m : Nat) : Prop where
  good : Good t s R n m
  up : t.died = false
  lives : s.dead = false
  none_ : s.ahead = false
theorem Live.clean {t : Sto} {s : Dsk} {R n m : Nat} (h : Live t s R n m) : Clean (slotB s.B R) n t.l ∧ Tidy s.B R n := h.good.clean h.up
theorem Live.rising {t : Sto} {s : Dsk} {R n m : Nat} (h : Live t s R n m) : Rising t.l := h.clean.1.1.1
theorem Live.slots {t : Sto} {s : Dsk} {R n m : Nat} (h : Live t s R n m) : Slots t.l n := h.clean.1.slots
theorem Live.le {t : Sto} {s : Dsk} {R n m : Nat} (h : Live t s R n m) : t.l.length ≤ n := by have := freeB_len h.slots; omega
theorem new_live (R n : Nat) : Live ⟨[], false⟩ (newD (n * (R + 1))) R n 0 := ⟨new_good R n, rfl, rfl, rfl⟩
theorem Reopened.live' {s : Dsk} {R n m : Nat} {L : List (Rec11 × Nat)} (h : Reopened s R n m L) : Live ⟨L, false⟩ (openD s R n) R n m := ⟨h.good, rfl, h.live.1, h.live.2⟩
/-- What a put writes are sectors that there are. -/
theorem put_fits {t : Sto} {s : Dsk} {R n m j : Nat} (h : Good t s R n m) (hd : t.died = false) {name data : List UInt8} (hf : fitsR R name data = true) (hj : j < n) :
    ∀ x ∈ putSt R j (recL (t.newR name data)) ((oldE t.l name).map (·.2)), x.1 < n * (R + 1) ∧ x.2.length ≤ 32 := by
  obtain ⟨_, _, f3⟩ := of_decide_eq_true hf
  have hc := (h.clean hd).1
  refine putSt_fits hj (Nat.le_trans (Nat.le_of_eq (recL_len name _ 1 data)) f3) (fun o ho => ?_)
  cases eo : oldE t.l name with
  | none => rw [eo] at ho; cases ho
  | some x =>
    rw [eo] at ho
    have e2 : x.2 = o := Option.some.inj ho
    rw [← e2]
    exact ((hc.1.2 x).1 (oldE_some eo).1).1
/-- A put there: done, or there is no room. -/
theorem put_live {t : Sto} {s : Dsk} {R n m : Nat} (h : Live t s R n m) (hm : m + 1 < 4294967296) {name data : List UInt8} (hf : fitsR R name data = true) :
    (t.l.length = n ∧ t.put s R n name data = (s, t, 3)) ∨
    (t.l.length < n ∧ ∃ s' j, freeSlot n t.l = some j ∧ t.put s R n name data = (s', ⟨putE t.l (t.newR name data, j), false⟩, 0) ∧ Live ⟨putE t.l (t.newR name data, j), false⟩ s' R n (m + 1)) := by
  have D := put_done h.good hm name data
  have hs := freeSlot_none h.slots
  have hle := h.le
  unfold Sto.put Sto.putL at D
  unfold Sto.put
  rw [if_neg (by simp [h.up]), if_neg (by simp [hf])] at D ⊢
  cases e : freeSlot n t.l with
  | none => exact .inl ⟨hs.1 e, rfl⟩
  | some j =>
    rw [e] at D
    have hne : t.l.length ≠ n := fun k => by have := hs.2 k; rw [e] at this; cases this
    obtain ⟨hj, _⟩ := freeSlot_some e
    have e' : (⟨name, ((oldE t.l name).map fun x => x.1.num + 1).getD 1, data⟩ : Rec11) = t.newR name data := rfl
    dsimp only at D ⊢
    rw [e'] at D ⊢
    obtain ⟨a, b, c⟩ := all_ok (N := n * (R + 1)) _ h.lives h.none_ (put_fits h.good h.up hf hj)
    rw [if_pos a] at D ⊢
    exact .inr ⟨by omega, _, j, rfl, rfl, ⟨D.good, rfl, b, c⟩⟩
/-- A drop there: done, or there is none. -/
theorem drop_live {t : Sto} {s : Dsk} {R n m : Nat} (h : Live t s R n m) (name : List UInt8) :
    (oldE t.l name = none ∧ t.drop s R n name = (s, t, 4)) ∨
    (∃ x s', oldE t.l name = some x ∧ t.drop s R n name = (s', ⟨t.dropL name, false⟩, 0) ∧ Live ⟨t.dropL name, false⟩ s' R n m) := by
  have D := drop_done h.good name
  unfold Sto.drop at D ⊢
  rw [if_neg (by simp [h.up])] at D ⊢
  cases e : oldE t.l name with
  | none => exact .inl ⟨rfl, rfl⟩
  | some x =>
    rw [e] at D
    obtain ⟨x1, x2⟩ := oldE_some e
    have hx := ((h.clean.1.1.2 x).1 x1).1
    have hlt := geo_lt (R := R) hx (Nat.zero_le _)
    obtain ⟨a, b, c⟩ := all_ok (N := n * (R + 1)) [(x.2 * (R + 1), [])] h.lives h.none_ (fun y hy => by
      rw [List.mem_singleton.1 hy]
      exact ⟨by show x.2 * (R + 1) < _; omega, by simp⟩)
    have el : (t.l.filter fun y => decide (y.1.name ≠ x.1.name)) = t.dropL name := by unfold Sto.dropL; rw [x2]
    dsimp only at D ⊢
    rw [if_pos a, el] at D
    rw [if_pos a, el]
    exact .inr ⟨x, _, rfl, rfl, ⟨D.good, rfl, b, c⟩⟩
/-- Opened once more, with nothing written. -/
theorem Live.again {t : Sto} {s : Dsk} {R n m : Nat} (h : Live t s R n m) : openK s R n = true ∧ openT s R n = t ∧ openD s R n = s := open_again h.good h.up
/-- A Stop at once, a put that would write, and a start: all is as it was. -/
theorem Live.stopped {t : Sto} {s : Dsk} {R n m : Nat} (h : Live t s R n m) {name data : List UInt8} (hf : fitsR R name data = true) (hl : t.l.length ≠ n) :
    (t.put (s.stop 0 0) R n name data).2 = (⟨t.l, true⟩, 8) ∧ Live t (t.put (s.stop 0 0) R n name data).1.start R n m := by
  obtain ⟨a, b, _⟩ := put_stop h.good h.up hf hl
  exact ⟨a, ⟨h.good.disk b (Nat.zero_le _), h.up, rfl, rfl⟩⟩
/-- Told of a name behind a put: the data. -/
theorem get_put_same {t : Sto} (h : Rising t.l) (name data : List UInt8) (j : Nat) : (oldE (putE t.l (t.newR name data, j)) name).map (·.1.data) = some data := by
  have := oldE_putE_same h (t.newR name data, j)
  rw [show (t.newR name data, j).1.name = name from rfl] at this
  rw [this]
  rfl
theorem get_put_other {t : Sto} (h : Rising t.l) (name data : List UInt8) (j : Nat) {nm : List UInt8} (hn : nm ≠ name) : oldE (putE t.l (t.newR name data, j)) nm = oldE t.l nm := oldE_putE_other h _ hn
end Go.Proofs.YtffllpjlghehiaaDoor
