/- What a store tells behind puts, drops, crashes and openings. Mathematics alone. -/
import Derived.Test.YtffllpjlghehiaaDoorStoK
namespace Go.Proofs.YtffllpjlghehiaaDoor
open Go.RowKit

theorem frees_src {R n : Nat} {is : List Nat} {s : Dsk} (h : Geo s R n) (hi : ∀ i ∈ is, i < n) : ∀ i q, slotB (s.all (n * (R + 1)) (freeW R is)).1.B R i = some q → slotB s.B R i = some q := fun i q hq => by
  obtain ⟨D, _, _, d3, _⟩ := frees_all is h hi
  rw [d3] at hq
  by_cases e : i ∈ D
  · rw [if_pos e] at hq; cases hq
  · rw [if_neg e] at hq; exact hq
/-- An opening: the disk behind it, the store, if it ended well. -/
def openD (s : Dsk) (R n : Nat) : Dsk := (s.all (n * (R + 1)) (freeW R (openS s.B R n))).1
def openK (s : Dsk) (R n : Nat) : Bool := (s.all (n * (R + 1)) (freeW R (openS s.B R n))).2
def openT (s : Dsk) (R n : Nat) : Sto := ⟨openL (slotB s.B R) n n, false⟩
/-- The store that an opening tells is in good order. -/
theorem open_good {s : Dsk} {R n m : Nat} (h : Geo s R n) (hm : ∀ i r, slotB s.B R i = some r → r.num ≤ m) (hk : openK s R n = true) : Good (openT s R n) (openD s R n) R n m := by
  have O := open_spec h
  obtain ⟨_, y2, y3⟩ := O.yes hk
  exact ⟨O.geo, fun _ => ⟨y2, y3⟩, fun i r hr => hm i r (frees_src h openS_lt i r hr)⟩
/-- On a disk that lives and has no Stop ahead: what is shown is opened. -/
theorem open_live {s : Dsk} {R n m : Nat} {l : List (Rec11 × Nat)} (h : Geo s R n) (hl : Shows (slotB s.B R) n l) (hm : ∀ i r, slotB s.B R i = some r → r.num ≤ m) (hd : s.dead = false) (ha : s.ahead = false) :
    openK s R n = true ∧ openT s R n = ⟨l, false⟩ ∧ (openD s R n).dead = false ∧ (openD s R n).ahead = false ∧ Good ⟨l, false⟩ (openD s R n) R n m := by
  obtain ⟨o1, o2, o3⟩ := open_ok (R := R) (n := n) hd ha
  have e : openT s R n = ⟨l, false⟩ := by unfold openT; rw [open_shows hl]
  exact ⟨o1, e, o2, o3, e ▸ open_good h hm o1⟩
/-- An opening that is cut short has lost nothing. -/
theorem open_cut {s : Dsk} {R n m : Nat} {l : List (Rec11 × Nat)} (h : Geo s R n) (hl : Shows (slotB s.B R) n l) (hm : ∀ i r, slotB s.B R i = some r → r.num ≤ m) :
    Geo (openD s R n) R n ∧ Shows (slotB (openD s R n).B R) n l ∧ ∀ i r, slotB (openD s R n).B R i = some r → r.num ≤ m := by
  have O := open_spec h
  have := O.shows_
  rw [open_shows hl] at this
  exact ⟨O.geo, this, fun i r hr => hm i r (frees_src h openS_lt i r hr)⟩
/-- A store in good order, opened again: no write, the same records. -/
theorem open_again {t : Sto} {s : Dsk} {R n m : Nat} (h : Good t s R n m) (hd : t.died = false) : openK s R n = true ∧ openT s R n = t ∧ openD s R n = s := by
  obtain ⟨c1, c2⟩ := h.clean hd
  obtain ⟨e1, e2⟩ := open_clean c1 c2
  unfold openK openT openD
  rw [e1, e2]
  refine ⟨rfl, ?_, rfl⟩
  cases t
  cases hd
  rfl

/-! ### Names and data -/
theorem Good.rising {t : Sto} {s : Dsk} {R n m : Nat} (h : Good t s R n m) (hd : t.died = false) : Rising t.l := (h.clean hd).1.1.1
theorem oldE_putE_same {l : List (Rec11 × Nat)} (h : Rising l) (x : Rec11 × Nat) : oldE (putE l x) x.1.name = some x := oldE_of (putE_rising x h) ((mem_putE x x h).2 (.inl rfl))
/-- Two rising lists that have the same entries of a name tell the same of it. -/
theorem oldE_congr {l k : List (Rec11 × Nat)} (hk : Rising k) (name : List UInt8) (h : ∀ x : Rec11 × Nat, x.1.name = name → (x ∈ l ↔ x ∈ k)) : oldE l name = oldE k name := by
  cases e : oldE l name with
  | none =>
    cases e' : oldE k name with
    | none => rfl
    | some x =>
      obtain ⟨h1, h2⟩ := oldE_some e'
      exact absurd h2 (oldE_none e x ((h x h2).2 h1))
  | some x =>
    obtain ⟨h1, h2⟩ := oldE_some e
    rw [← h2]
    exact (oldE_of hk ((h x h2).1 h1)).symm
theorem oldE_putE_other {l : List (Rec11 × Nat)} (h : Rising l) (x : Rec11 × Nat) {name : List UInt8} (hn : name ≠ x.1.name) : oldE (putE l x) name = oldE l name := oldE_congr h name fun y hy => by
  rw [mem_putE x y h]
  constructor
  · rintro (rfl | h1)
    · exact absurd hy.symm hn
    · exact h1.1
  · intro h1
    exact .inr ⟨h1, by rw [hy]; exact hn⟩
theorem dropL_rising {l : List (Rec11 × Nat)} (h : Rising l) (p : Rec11 × Nat → Bool) : Rising (l.filter p) := List.Pairwise.filter _ h
theorem oldE_drop_same (l : List (Rec11 × Nat)) (name : List UInt8) : oldE (l.filter fun y => decide (y.1.name ≠ name)) name = none := by
  apply List.find?_eq_none.2
  intro x hx
  have := of_decide_eq_true (List.mem_filter.1 hx).2
  simpa using this
theorem oldE_drop_other {l : List (Rec11 × Nat)} (h : Rising l) {name nm : List UInt8} (hn : nm ≠ name) : oldE (l.filter fun y => decide (y.1.name ≠ name)) nm = oldE l nm := oldE_congr h nm fun y hy => by
  rw [List.mem_filter]
  constructor
  · exact fun h => h.1
  · exact fun h => ⟨h, decide_eq_true (by rw [hy]; exact hn)⟩
/-- How many there are. -/
theorem putE_len_new : ∀ {l : List (Rec11 × Nat)} (x : Rec11 × Nat), (∀ y ∈ l, y.1.name ≠ x.1.name) → (putE l x).length = l.length + 1
  | [], _, _ => rfl
  | y :: l, x, h => by
    unfold putE
    by_cases h1 : y.1.name < x.1.name
    · rw [if_pos h1, List.length_cons, putE_len_new x (fun z hz => h z (List.mem_cons_of_mem _ hz)), List.length_cons]
    · rw [if_neg h1, if_neg (h y (List.mem_cons_self ..))]; rfl
theorem putE_names_old : ∀ {l : List (Rec11 × Nat)} (x : Rec11 × Nat), Rising l → (∃ y ∈ l, y.1.name = x.1.name) → (putE l x).map (·.1.name) = l.map (·.1.name)
  | [], _, _, ⟨_, h, _⟩ => (List.not_mem_nil h).elim
  | y :: l, x, hr, ⟨z, hz, e⟩ => by
    have hc := List.pairwise_cons.1 hr
    unfold putE
    by_cases h1 : y.1.name < x.1.name
    · rw [if_pos h1, List.map_cons, List.map_cons]
      congr 1
      refine putE_names_old x hc.2 ?_
      rcases List.mem_cons.1 hz with rfl | hz
      · rw [e] at h1; exact absurd h1 (name_irrefl _)
      · exact ⟨z, hz, e⟩
    · rw [if_neg h1]
      by_cases h2 : y.1.name = x.1.name
      · rw [if_pos h2, List.map_cons, List.map_cons, h2]
      · rcases List.mem_cons.1 hz with rfl | hz
        · exact absurd e h2
        · have := hc.1 z hz
          rw [e] at this
          exact absurd this h1

/-! ### Free slots -/
/-- Entries of unlike slots, all among the first n. -/
def Slots (l : List (Rec11 × Nat)) (n : Nat) : Prop := (l.Pairwise fun a b => a.2 ≠ b.2) ∧ ∀ x ∈ l, x.2 < n
theorem Clean.slots {V : Nat → Option Rec11} {n : Nat} {l : List (Rec11 × Nat)} (h : Clean V n l) : Slots l n := by
  refine ⟨?_, fun x hx => ((h.1.2 x).1 hx).1⟩
  have hr := h.1.1
  have : ∀ x ∈ l, V x.2 = some x.1 := fun x hx => ((h.1.2 x).1 hx).2.1
  clear h
  induction l with
  | nil => exact List.Pairwise.nil
  | cons x l ih =>
    have hc := List.pairwise_cons.1 hr
    refine List.pairwise_cons.2 ⟨fun y hy e => ?_, ih hc.2 fun y hy => this y (List.mem_cons_of_mem _ hy)⟩
    have h1 := this x (List.mem_cons_self ..)
    have h2 := this y (List.mem_cons_of_mem _ hy)
    rw [e, h2] at h1
    have := hc.1 y hy
    rw [Option.some.inj h1] at this
    exact name_irrefl _ this
/-- The slots that no entry has. -/
def freeB (l : List (Rec11 × Nat)) (n : Nat) : List Nat := (List.range n).filter fun i => l.all fun x => decide (x.2 ≠ i)
theorem freeB_nodup (l : List (Rec11 × Nat)) (n : Nat) : (freeB l n).Nodup := List.Pairwise.filter _ List.nodup_range
theorem freeB_len : ∀ {l : List (Rec11 × Nat)} {n : Nat}, Slots l n → (freeB l n).length + l.length = n
  | [], n, _ => by
    have : freeB [] n = List.range n := List.filter_eq_self.2 fun _ _ => rfl
    rw [this]
    simp
  | x :: l, n, ⟨h1, h2⟩ => by
    have hc := List.pairwise_cons.1 h1
    have ih := freeB_len (l := l) (n := n) ⟨hc.2, fun y hy => h2 y (List.mem_cons_of_mem _ hy)⟩
    have hx : x.2 ∈ freeB l n := by
      unfold freeB
      rw [List.mem_filter, List.mem_range, List.all_eq_true]
      exact ⟨h2 x (List.mem_cons_self ..), fun y hy => decide_eq_true (hc.1 y hy).symm⟩
    have e : freeB (x :: l) n = (freeB l n).erase x.2 := by
      rw [(freeB_nodup l n).erase_eq_filter]
      unfold freeB
      rw [List.filter_filter]
      apply List.filter_congr
      intro i _
      rw [List.all_cons]
      congr 1
      by_cases h : x.2 = i
      · subst h; simp
      · rw [decide_eq_true h]; symm; simpa using fun e => h e.symm
    rw [e, List.length_erase_of_mem hx, List.length_cons]
    have := List.length_pos_of_mem hx
    omega
theorem freeSlot_none {l : List (Rec11 × Nat)} {n : Nat} (h : Slots l n) : freeSlot n l = none ↔ l.length = n := by
  have hl := freeB_len h
  have : freeSlot n l = none ↔ freeB l n = [] := by
    unfold freeSlot freeB
    rw [List.find?_eq_none, List.filter_eq_nil_iff]
  rw [this]
  constructor
  · intro e; rw [e] at hl; simpa using hl
  · intro e; exact List.eq_nil_of_length_eq_zero (by omega)
end Go.Proofs.YtffllpjlghehiaaDoor
