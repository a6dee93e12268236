/- A store that is opened again behind a call that the disk cut short. Mathematics alone. -/
import Derived.Test.YtffllpjlghehiaaDoorStoG
namespace Go.Proofs.YtffllpjlghehiaaDoor
open Go.RowKit

/-- Only the bytes of a disk tell whether a store on it is in good order. -/
theorem Good.disk {t : Sto} {s s' : Dsk} {R n m : Nat} (h : Good t s R n m) (hB : s'.B = s.B) (hk : s'.keep ≤ 32) : Good t s' R n m :=
  ⟨⟨by rw [hB]; exact h.geo.len, hk⟩, by rw [hB]; exact h.clean, by rw [hB]; exact h.nums⟩
theorem Good.stop {t : Sto} {s : Dsk} {R n m : Nat} (h : Good t s R n m) (a k : Int) : Good t (s.stop a k) R n m := h.disk rfl (keepOf_le k)
theorem Good.start {t : Sto} {s : Dsk} {R n m : Nat} (h : Good t s R n m) : Good t s.start R n m := h.disk rfl (Nat.zero_le _)
/-- What a call that ended well, or was cut short, leaves to be opened. -/
theorem Done.shows {t t' : Sto} {s s' : Dsk} {R n m : Nat} {code : Int} {l' : List (Rec11 × Nat)} (h : Done t t' s s' R n m code l') (hd : t.died = false) (hc : code = 0 ∨ code = 8) :
    ∃ L, (L = l' ∨ (L = t.l ∧ code = 8)) ∧ Shows (slotB s'.B R) n L := by
  rcases hc with hc | hc
  · obtain ⟨a, _, c⟩ := h.yes hc
    exact ⟨l', .inl rfl, c ▸ (h.good.clean a).1.1⟩
  · obtain ⟨_, _, c⟩ := h.crash hc
    rcases (c hd).2 with c | c
    · exact ⟨t.l, .inr ⟨rfl, hc⟩, c⟩
    · exact ⟨l', .inl rfl, c⟩
/-- The store that is opened once the disk has been started, with the records L. -/
structure Reopened (s : Dsk) (R n m : Nat) (L : List (Rec11 × Nat)) : Prop where
  ok : openK s R n = true
  store : openT s R n = ⟨L, false⟩
  live : (openD s R n).dead = false ∧ (openD s R n).ahead = false
  good : Good ⟨L, false⟩ (openD s R n) R n m
theorem reopened {s : Dsk} {R n m : Nat} {L : List (Rec11 × Nat)} (h : Geo s R n) (hs : Shows (slotB s.B R) n L) (hm : ∀ i r, slotB s.B R i = some r → r.num ≤ m) : Reopened s.start R n m L := by
  obtain ⟨a, b, c, d, e⟩ := open_live (s := s.start) h.start hs hm rfl rfl
  exact ⟨a, b, ⟨c, d⟩, e⟩
/-- Behind a call: started, opened. -/
theorem Done.reopen {t t' : Sto} {s s' : Dsk} {R n m : Nat} {code : Int} {l' : List (Rec11 × Nat)} (h : Done t t' s s' R n m code l') (hd : t.died = false) (hc : code = 0 ∨ code = 8) :
    ∃ L, (L = l' ∨ (L = t.l ∧ code = 8)) ∧ Reopened s'.start R n m L := by
  obtain ⟨L, hL, hs⟩ := h.shows hd hc
  exact ⟨L, hL, reopened h.good.geo hs h.good.nums⟩
/-- Behind a call: started, opened while the disk stops once more, started, opened. -/
theorem Done.twice {t t' : Sto} {s s' : Dsk} {R n m : Nat} {code : Int} {l' : List (Rec11 × Nat)} (h : Done t t' s s' R n m code l') (hd : t.died = false) (hc : code = 0 ∨ code = 8) (a k : Int) :
    ∃ L, (L = l' ∨ (L = t.l ∧ code = 8)) ∧ Reopened (openD (s'.start.stop a k) R n).start R n m L := by
  obtain ⟨L, hL, hs⟩ := h.shows hd hc
  obtain ⟨c1, c2, c3⟩ := open_cut (s := s'.start.stop a k) (h.good.geo.start.stop a k) hs h.good.nums
  exact ⟨L, hL, reopened c1 c2 c3⟩
/-- A put answers that the disk stopped only where it did; it never answers anything else where there is room. -/
theorem put_code {t : Sto} {s : Dsk} {R n m : Nat} (h : Good t s R n m) (hd : t.died = false) {name data : List UInt8} (hf : fitsR R name data = true) : (t.put s R n name data).2.2 = if t.l.length = n then 3 else if (t.put s R n name data).2.1.died = true then 8 else 0 := by
  have hs := freeSlot_none (h.clean hd).1.slots
  unfold Sto.put
  rw [if_neg (by simp [hd]), if_neg (by simp [hf])]
  cases e : freeSlot n t.l with
  | none => rw [if_pos (hs.1 e)]
  | some j =>
    rw [if_neg (fun k => by have := hs.2 k; rw [e] at this; cases this)]
    dsimp only
    split
    · rfl
    · rfl
/-- A disk that stops at once: a put, a drop that would write is cut short, and nothing has changed. -/
theorem put_stop {t : Sto} {s : Dsk} {R n m : Nat} (h : Good t s R n m) (hd : t.died = false) {name data : List UInt8} (hf : fitsR R name data = true) (hl : t.l.length ≠ n) :
    (t.put (s.stop 0 0) R n name data).2 = (⟨t.l, true⟩, 8) ∧ (t.put (s.stop 0 0) R n name data).1.B = s.B ∧ (t.put (s.stop 0 0) R n name data).1.dead = true := by
  have hs := freeSlot_none (h.clean hd).1.slots
  unfold Sto.put
  rw [if_neg (by simp [hd]), if_neg (by simp [hf])]
  cases e : freeSlot n t.l with
  | none => exact absurd (hs.1 e) hl
  | some j =>
    obtain ⟨hj, _⟩ := freeSlot_some e
    obtain ⟨_, _, f3⟩ := of_decide_eq_true hf
    have hc := (h.clean hd).1
    have fits := putSt_fits (R := R) (n := n) (j := j) (t := recL (t.newR name data)) (old := (oldE t.l name).map (·.2)) hj (Nat.le_trans (Nat.le_of_eq (recL_len name _ 1 data)) f3) (fun o ho => by
      cases eo : oldE t.l name with
      | none => rw [eo] at ho; cases ho
      | some x =>
        rw [eo] at ho
        have e2 : x.2 = o := Option.some.inj ho
        rw [← e2]
        exact ((hc.1.2 x).1 (oldE_some eo).1).1)
    have e' : (⟨name, ((oldE t.l name).map fun x => x.1.num + 1).getD 1, data⟩ : Rec11) = t.newR name data := rfl
    dsimp only
    rw [e']
    generalize hW : putSt R j (recL (t.newR name data)) ((oldE t.l name).map (·.2)) = W at fits ⊢
    cases W with
    | nil =>
      exfalso
      unfold putSt at hW
      simp at hW
    | cons x W =>
      obtain ⟨a, b, c⟩ := all_stop (N := n * (R + 1)) (s := s.stop 0 0) rfl (by show max (0 : Int) 0 = 0; rfl) (by show keepOf 0 = 0; rfl) x W (fits x (List.mem_cons_self ..))
      rw [if_neg (by rw [a]; simp)]
      exact ⟨rfl, b, c⟩
end Go.Proofs.YtffllpjlghehiaaDoor
