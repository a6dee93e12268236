/- A store by its slots: which records count, by rising names; what a record that is put or dropped does to them, wherever the disk stops. Mathematics alone. -/
import Derived.Test.YtffllpjlghehiaaDoorStoM
namespace Go.Proofs.YtffllpjlghehiaaDoor
open Go.RowKit

/-- The record of slot i counts: of one name the greatest number, of equal numbers the first slot. -/
def Best (V : Nat → Option Rec11) (n i : Nat) (r : Rec11) : Prop :=
  i < n ∧ V i = some r ∧ ∀ k q, k < n → V k = some q → q.name = r.name → q.num < r.num ∨ (q.num = r.num ∧ i ≤ k)
theorem Best.one {V : Nat → Option Rec11} {n i k : Nat} {r q : Rec11} (h : Best V n i r) (h' : Best V n k q) (e : q.name = r.name) : k = i ∧ q = r := by
  obtain ⟨h1, h2, h3⟩ := h
  obtain ⟨g1, g2, g3⟩ := h'
  have a := h3 k q g1 g2 e
  have b := g3 i r h1 h2 e.symm
  have : k = i := by omega
  subst this
  rw [h2] at g2
  exact ⟨rfl, (Option.some.inj g2).symm⟩
/-- Where a name has a record, one of them counts. -/
theorem Best.ex {V : Nat → Option Rec11} (nm : List UInt8) : ∀ n, (∃ k q, k < n ∧ V k = some q ∧ q.name = nm) → ∃ i r, Best V n i r ∧ r.name = nm
  | 0, ⟨k, _, h, _⟩ => by omega
  | n + 1, h => by
    by_cases hn : ∃ k q, k < n ∧ V k = some q ∧ q.name = nm
    · obtain ⟨i, r, ⟨b1, b2, b3⟩, hr⟩ := Best.ex nm n hn
      cases hv : V n with
      | none =>
        refine ⟨i, r, ⟨by omega, b2, fun k q hk hq he => ?_⟩, hr⟩
        have : k ≠ n := fun e => by rw [e, hv] at hq; cases hq
        exact b3 k q (by omega) hq he
      | some q =>
        by_cases hq : q.name = nm ∧ r.num < q.num
        · refine ⟨n, q, ⟨by omega, hv, fun k p hk hp he => ?_⟩, hq.1⟩
          by_cases hkn : k = n
          · subst hkn
            rw [hv] at hp
            cases hp
            exact .inr ⟨rfl, Nat.le_refl _⟩
          · have := b3 k p (by omega) hp (by rw [he, hq.1, hr])
            exact .inl (by omega)
        · refine ⟨i, r, ⟨by omega, b2, fun k p hk hp he => ?_⟩, hr⟩
          by_cases hkn : k = n
          · subst hkn
            rw [hv] at hp
            cases hp
            have hnn : ¬ r.num < q.num := fun hlt => hq ⟨by rw [he, hr], hlt⟩
            by_cases hlt : q.num < r.num
            · exact .inl hlt
            · exact .inr ⟨by omega, by omega⟩
          · exact b3 k p (by omega) hp he
    · obtain ⟨k, q, hk, hq, he⟩ := h
      have hkn : k = n := by
        by_cases e : k = n
        · exact e
        · exact absurd ⟨k, q, by omega, hq, he⟩ hn
      subst hkn
      refine ⟨k, q, ⟨hk, hq, fun j p hj hp hje => ?_⟩, he⟩
      by_cases e : j = k
      · subst e
        rw [hq] at hp
        cases hp
        exact .inr ⟨rfl, Nat.le_refl _⟩
      · exact absurd ⟨j, p, by omega, hp, by rw [hje, he]⟩ hn

/-- Entries (a record, its slot) by rising names. -/
def Rising (l : List (Rec11 × Nat)) : Prop := l.Pairwise fun a b => a.1.name < b.1.name
/-- The entries are what counts in a view. -/
def Shows (V : Nat → Option Rec11) (n : Nat) (l : List (Rec11 × Nat)) : Prop := Rising l ∧ ∀ x, x ∈ l ↔ Best V n x.2 x.1
/-- .. and nothing else is there. -/
def Clean (V : Nat → Option Rec11) (n : Nat) (l : List (Rec11 × Nat)) : Prop := Shows V n l ∧ ∀ i r, i < n → V i = some r → (r, i) ∈ l
theorem name_irrefl (a : List UInt8) : ¬ a < a := List.lt_irrefl a
theorem name_trans {a b c : List UInt8} (h : a < b) (k : b < c) : a < c := List.lt_trans h k
theorem name_tri {a b : List UInt8} (h : ¬ a < b) (k : a ≠ b) : b < a := by
  have h1 : b ≤ a := List.not_lt.1 h
  by_cases h2 : b < a
  · exact h2
  · exact absurd (List.le_antisymm (List.not_lt.1 h2) h1) k
/-- Rising lists of the same entries are the same. -/
theorem Rising.ext : ∀ {l m : List (Rec11 × Nat)}, Rising l → Rising m → (∀ x, x ∈ l ↔ x ∈ m) → l = m
  | [], [], _, _, _ => rfl
  | [], y :: m, _, _, h => by have := (h y).2 (List.mem_cons_self ..); cases this
  | x :: l, [], _, _, h => by have := (h x).1 (List.mem_cons_self ..); cases this
  | x :: l, y :: m, hl, hm, h => by
    have hl' := List.pairwise_cons.1 hl
    have hm' := List.pairwise_cons.1 hm
    have hxy : x = y := by
      rcases List.mem_cons.1 ((h x).1 (List.mem_cons_self ..)) with e | hx
      · exact e
      · rcases List.mem_cons.1 ((h y).2 (List.mem_cons_self ..)) with e | hy
        · exact e.symm
        · exact absurd (name_trans (hm'.1 _ hx) (hl'.1 _ hy)) (name_irrefl _)
    subst hxy
    congr 1
    refine Rising.ext hl'.2 hm'.2 fun z => ⟨fun hz => ?_, fun hz => ?_⟩
    · rcases List.mem_cons.1 ((h z).1 (List.mem_cons_of_mem _ hz)) with e | hz'
      · subst e; exact absurd (hl'.1 _ hz) (name_irrefl _)
      · exact hz'
    · rcases List.mem_cons.1 ((h z).2 (List.mem_cons_of_mem _ hz)) with e | hz'
      · subst e; exact absurd (hm'.1 _ hz) (name_irrefl _)
      · exact hz'
theorem Shows.one {V : Nat → Option Rec11} {n : Nat} {l m : List (Rec11 × Nat)} (h : Shows V n l) (k : Shows V n m) : l = m := h.1.ext k.1 fun x => (h.2 x).trans (k.2 x).symm

/-- An entry in the place of that of its name. -/
def putE : List (Rec11 × Nat) → Rec11 × Nat → List (Rec11 × Nat)
  | [], x => [x]
  | y :: l, x => if y.1.name < x.1.name then y :: putE l x else if y.1.name = x.1.name then x :: l else x :: y :: l
theorem mem_putE : ∀ {l : List (Rec11 × Nat)} (x y : Rec11 × Nat), Rising l → (y ∈ putE l x ↔ y = x ∨ (y ∈ l ∧ y.1.name ≠ x.1.name))
  | [], x, y, _ => by simp [putE]
  | z :: l, x, y, h => by
    have hc := List.pairwise_cons.1 h
    unfold putE
    by_cases h1 : z.1.name < x.1.name
    · have hz : z.1.name ≠ x.1.name := fun e => name_irrefl _ (e ▸ h1)
      rw [if_pos h1, List.mem_cons, mem_putE x y hc.2, List.mem_cons]
      constructor
      · rintro (rfl | rfl | ⟨h2, h3⟩)
        · exact .inr ⟨.inl rfl, hz⟩
        · exact .inl rfl
        · exact .inr ⟨.inr h2, h3⟩
      · rintro (rfl | ⟨rfl | h2, h3⟩)
        · exact .inr (.inl rfl)
        · exact .inl rfl
        · exact .inr (.inr ⟨h2, h3⟩)
    · rw [if_neg h1]
      have far : ∀ u ∈ l, u.1.name ≠ x.1.name := fun u hu e => by
        have := hc.1 u hu
        rw [e] at this
        exact h1 this
      by_cases h2 : z.1.name = x.1.name
      · rw [if_pos h2, List.mem_cons, List.mem_cons]
        constructor
        · rintro (rfl | h3)
          · exact .inl rfl
          · exact .inr ⟨.inr h3, far _ h3⟩
        · rintro (rfl | ⟨rfl | h3, h4⟩)
          · exact .inl rfl
          · exact absurd h2 h4
          · exact .inr h3
      · rw [if_neg h2, List.mem_cons, List.mem_cons]
        constructor
        · rintro (rfl | rfl | h3)
          · exact .inl rfl
          · exact .inr ⟨.inl rfl, h2⟩
          · exact .inr ⟨.inr h3, far _ h3⟩
        · rintro (rfl | ⟨rfl | h3, h4⟩)
          · exact .inl rfl
          · exact .inr (.inl rfl)
          · exact .inr (.inr h3)
theorem putE_rising : ∀ {l : List (Rec11 × Nat)} (x : Rec11 × Nat), Rising l → Rising (putE l x)
  | [], x, _ => List.pairwise_cons.2 ⟨fun _ h => (List.not_mem_nil h).elim, List.Pairwise.nil⟩
  | z :: l, x, h => by
    have hc := List.pairwise_cons.1 h
    unfold putE
    by_cases h1 : z.1.name < x.1.name
    · rw [if_pos h1]
      refine List.pairwise_cons.2 ⟨fun y hy => ?_, putE_rising x hc.2⟩
      rcases (mem_putE x y hc.2).1 hy with rfl | ⟨h2, _⟩
      · exact h1
      · exact hc.1 y h2
    · rw [if_neg h1]
      by_cases h2 : z.1.name = x.1.name
      · rw [if_pos h2]
        refine List.pairwise_cons.2 ⟨fun y hy => ?_, hc.2⟩
        have := hc.1 y hy
        rwa [h2] at this
      · rw [if_neg h2]
        have hx := name_tri h1 h2
        refine List.pairwise_cons.2 ⟨fun y hy => ?_, h⟩
        rcases List.mem_cons.1 hy with rfl | h3
        · exact hx
        · exact name_trans hx (hc.1 y h3)

/-- A record of a greater number than its name's others, put into a free slot, counts; the others as before. -/
theorem Clean.put {V : Nat → Option Rec11} {n j : Nat} {l : List (Rec11 × Nat)} {r : Rec11} (h : Clean V n l) (hj : j < n) (hf : V j = none) (hr : ∀ x ∈ l, x.1.name = r.name → x.1.num < r.num) : Shows (putV V j (some r)) n (putE l (r, j)) := by
  refine ⟨putE_rising _ h.1.1, fun x => ?_⟩
  rw [mem_putE _ _ h.1.1]
  have hl : ∀ k q, k < n → k ≠ j → putV V j (some r) k = some q → (q, k) ∈ l := fun k q hk hkj hq => by
    unfold putV at hq
    rw [if_neg hkj] at hq
    exact h.2 k q hk hq
  constructor
  · rintro (rfl | ⟨h1, h2⟩)
    · refine ⟨hj, by unfold putV; rw [if_pos rfl], fun k q hk hq he => ?_⟩
      by_cases hkj : k = j
      · subst hkj
        unfold putV at hq
        rw [if_pos rfl] at hq
        cases hq
        exact .inr ⟨rfl, Nat.le_refl _⟩
      · exact .inl (hr _ (hl k q hk hkj hq) he)
    · obtain ⟨b1, b2, b3⟩ := (h.1.2 x).1 h1
      have hxj : x.2 ≠ j := fun e => by rw [e, hf] at b2; cases b2
      refine ⟨b1, by unfold putV; rw [if_neg hxj]; exact b2, fun k q hk hq he => ?_⟩
      by_cases hkj : k = j
      · subst hkj
        unfold putV at hq
        rw [if_pos rfl] at hq
        cases hq
        exact absurd he.symm h2
      · unfold putV at hq
        rw [if_neg hkj] at hq
        exact b3 k q hk hq he
  · intro hb
    by_cases hn : x.1.name = r.name
    · have hb' : Best (putV V j (some r)) n j r := ⟨hj, by unfold putV; rw [if_pos rfl], fun k q hk hq he => by
        by_cases hkj : k = j
        · subst hkj
          unfold putV at hq
          rw [if_pos rfl] at hq
          cases hq
          exact .inr ⟨rfl, Nat.le_refl _⟩
        · exact .inl (hr _ (hl k q hk hkj hq) he)⟩
      obtain ⟨e1, e2⟩ := hb'.one hb hn
      exact .inl (Prod.ext e2 e1)
    · obtain ⟨b1, b2, _⟩ := hb
      have hxj : x.2 ≠ j := fun e => by
        unfold putV at b2
        rw [if_pos e] at b2
        cases b2
        exact hn rfl
      exact .inr ⟨hl _ _ b1 hxj b2, hn⟩
/-- What doesn't count may be freed. -/
theorem Shows.free {V : Nat → Option Rec11} {n i : Nat} {l : List (Rec11 × Nat)} (h : Shows V n l) (hi : ∀ r, (r, i) ∉ l) : Shows (putV V i none) n l := by
  refine ⟨h.1, fun x => ?_⟩
  have key : ∀ k q, putV V i none k = some q → V k = some q ∧ k ≠ i := fun k q hq => by
    unfold putV at hq
    by_cases e : k = i
    · rw [if_pos e] at hq; cases hq
    · rw [if_neg e] at hq; exact ⟨hq, e⟩
  constructor
  · intro hx
    obtain ⟨b1, b2, b3⟩ := (h.2 x).1 hx
    have hxi : x.2 ≠ i := fun e => hi x.1 (by rw [← e]; exact hx)
    exact ⟨b1, by unfold putV; rw [if_neg hxi]; exact b2, fun k q hk hq he => b3 k q hk (key k q hq).1 he⟩
  · rintro ⟨b1, b2, b3⟩
    obtain ⟨c1, c2⟩ := key _ _ b2
    obtain ⟨k, q, hb, hq⟩ := Best.ex (V := V) x.1.name n ⟨x.2, x.1, b1, c1, rfl⟩
    have hm : (q, k) ∈ l := (h.2 (q, k)).2 hb
    have hki : k ≠ i := fun e => hi q (by rw [← e]; exact hm)
    have hb' : Best (putV V i none) n k q := ⟨hb.1, by unfold putV; rw [if_neg hki]; exact hb.2.1, fun m p hm' hp he => hb.2.2 m p hm' (key m p hp).1 he⟩
    obtain ⟨e1, e2⟩ := hb'.one ⟨b1, b2, b3⟩ hq.symm
    have : x = (q, k) := Prod.ext e2 e1
    rw [this]
    exact hm
/-- Behind a put whose elder record is freed nothing else is there. -/
theorem Clean.put_new {V : Nat → Option Rec11} {n j : Nat} {l : List (Rec11 × Nat)} {r : Rec11} (h : Clean V n l) (hj : j < n) (hf : V j = none) (hr : ∀ x ∈ l, x.1.name ≠ r.name) : Clean (putV V j (some r)) n (putE l (r, j)) := by
  refine ⟨h.put hj hf fun x hx e => absurd e (hr x hx), fun i q hi hq => ?_⟩
  rw [mem_putE _ _ h.1.1]
  unfold putV at hq
  by_cases e : i = j
  · rw [if_pos e] at hq
    cases hq
    rw [e]
    exact .inl rfl
  · rw [if_neg e] at hq
    have := h.2 i q hi hq
    exact .inr ⟨this, hr _ this⟩
theorem Clean.put_old {V : Nat → Option Rec11} {n j : Nat} {l : List (Rec11 × Nat)} {r : Rec11} {x : Rec11 × Nat} (h : Clean V n l) (hj : j < n) (hf : V j = none) (hx : x ∈ l) (hn : x.1.name = r.name) (hr : x.1.num < r.num) : Clean (putV (putV V j (some r)) x.2 none) n (putE l (r, j)) := by
  have bx := (h.1.2 x).1 hx
  have one : ∀ y ∈ l, y.1.name = r.name → y = x := fun y hy e => by
    obtain ⟨e1, e2⟩ := bx.one ((h.1.2 y).1 hy) (by rw [e, hn])
    exact Prod.ext e2 e1
  have hxj : x.2 ≠ j := fun e => by have := bx.2.1; rw [e, hf] at this; cases this
  have hs := h.put hj hf fun y hy e => by rw [one y hy e]; exact hr
  refine ⟨hs.free fun q hq => ?_, fun i q hi hq => ?_⟩
  · rcases (mem_putE _ _ h.1.1).1 hq with e | ⟨h1, h2⟩
    · exact hxj (congrArg Prod.snd e)
    · have b := ((h.1.2 _).1 h1).2.1
      have b' := bx.2.1
      rw [b'] at b
      exact h2 (by rw [← Option.some.inj b]; exact hn)
  · rw [mem_putE _ _ h.1.1]
    unfold putV at hq
    by_cases e1 : i = x.2
    · rw [if_pos e1] at hq; cases hq
    · rw [if_neg e1] at hq
      by_cases e : i = j
      · rw [if_pos e] at hq
        cases hq
        rw [e]
        exact .inl rfl
      · rw [if_neg e] at hq
        have := h.2 i q hi hq
        exact .inr ⟨this, fun e2 => e1 (congrArg Prod.snd (one _ this e2))⟩
/-- A record that counts is dropped. -/
theorem Clean.drop {V : Nat → Option Rec11} {n : Nat} {l : List (Rec11 × Nat)} {x : Rec11 × Nat} (h : Clean V n l) (hx : x ∈ l) : Clean (putV V x.2 none) n (l.filter fun y => decide (y.1.name ≠ x.1.name)) := by
  have bx := (h.1.2 x).1 hx
  have key : ∀ k q, putV V x.2 none k = some q → V k = some q ∧ k ≠ x.2 := fun k q hq => by
    unfold putV at hq
    by_cases e : k = x.2
    · rw [if_pos e] at hq; cases hq
    · rw [if_neg e] at hq; exact ⟨hq, e⟩
  have far : ∀ k q, k < n → V k = some q → k ≠ x.2 → q.name ≠ x.1.name := fun k q hk hq hne e => by
    obtain ⟨e1, _⟩ := bx.one ((h.1.2 (q, k)).1 (h.2 k q hk hq)) e
    exact hne e1
  have mem : ∀ y : Rec11 × Nat, y ∈ l.filter (fun y => decide (y.1.name ≠ x.1.name)) ↔ y ∈ l ∧ y.1.name ≠ x.1.name := fun y => by rw [List.mem_filter, decide_eq_true_iff]
  refine ⟨⟨List.Pairwise.filter _ h.1.1, fun y => ?_⟩, fun i q hi hq => ?_⟩
  · rw [mem]
    constructor
    · rintro ⟨h1, h2⟩
      obtain ⟨b1, b2, b3⟩ := (h.1.2 y).1 h1
      have hyx : y.2 ≠ x.2 := fun e => by
        have b := bx.2.1
        rw [← e, b2] at b
        exact h2 (by rw [Option.some.inj b])
      exact ⟨b1, by unfold putV; rw [if_neg hyx]; exact b2, fun k q hk hq he => b3 k q hk (key k q hq).1 he⟩
    · rintro ⟨b1, b2, _⟩
      obtain ⟨c1, c2⟩ := key _ _ b2
      exact ⟨h.2 _ _ b1 c1, far _ _ b1 c1 c2⟩
  · obtain ⟨c1, c2⟩ := key _ _ hq
    exact (mem _).2 ⟨h.2 i q hi c1, far i q hi c1 c2⟩
end Go.Proofs.YtffllpjlghehiaaDoor
