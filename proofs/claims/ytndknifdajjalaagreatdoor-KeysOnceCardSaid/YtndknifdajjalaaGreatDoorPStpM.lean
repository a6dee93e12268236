/- What the program has of each slot: a record's name and number, in memory by threes. Mathematics alone. -/
import Derived.Test.YtndknifdajjalaaGreatDoorPStoI
namespace Go.Proofs.YtndknifdajjalaaGreatDoor
open Go.RowKit

abbrev Ent := Option (List UInt8 × Nat)
/-- An entry's three cells. -/
def entV : Ent → List Value
  | none => [.bool false, .string ⟨#[]⟩, .int .i64 0]
  | some x => [.bool true, .string ⟨x.1.toArray⟩, .int .i64 (x.2 : Int)]
def entA (n : Nat) (E : Nat → Ent) : Array Value := ((List.range (n * 3)).map fun k => (entV (E (k / 3))).getD (k % 3) (.bool false)).toArray
theorem entA_size (n : Nat) (E : Nat → Ent) : (entA n E).size = n * 3 := by simp [entA]
theorem entA_get (n : Nat) (E : Nat → Ent) (k : Nat) : (entA n E)[k]? = if k < n * 3 then some ((entV (E (k / 3))).getD (k % 3) (.bool false)) else none := by
  unfold entA
  rw [List.getElem?_toArray, List.getElem?_map]
  by_cases h : k < n * 3
  · rw [if_pos h, List.getElem?_range h]; rfl
  · rw [if_neg h, List.getElem?_eq_none (by simp; omega)]; rfl
theorem entA_at {n : Nat} (E : Nat → Ent) {i j : Nat} (hi : i < n) (hj : j < 3) : (entA n E)[i * 3 + j]? = some ((entV (E i)).getD j (.bool false)) := by
  rw [entA_get, if_pos (by omega), show (i * 3 + j) / 3 = i by omega, show (i * 3 + j) % 3 = j by omega]
def updE (E : Nat → Ent) (i : Nat) (x : Ent) : Nat → Ent := fun k => if k = i then x else E k
theorem updE_at (E : Nat → Ent) (i : Nat) (x : Ent) : updE E i x i = x := if_pos rfl
theorem updE_other {E : Nat → Ent} {i k : Nat} (x : Ent) (h : k ≠ i) : updE E i x k = E k := if_neg h
/-- An entry's cells are written. -/
theorem entA_put {n i : Nat} (E : Nat → Ent) (x : Ent) {v0 v1 v2 : Value} (hi : i < n) (hx : entV x = [v0, v1, v2]) :
    (((entA n E).setIfInBounds (i * 3) v0).setIfInBounds (i * 3 + 1) v1).setIfInBounds (i * 3 + 2) v2 = entA n (updE E i x) := by
  apply Array.ext_getElem?
  intro k
  rw [Array.getElem?_setIfInBounds, Array.getElem?_setIfInBounds, Array.getElem?_setIfInBounds, entA_get, entA_get]
  simp only [Array.size_setIfInBounds, entA_size]
  by_cases h2 : i * 3 + 2 = k
  · subst h2
    rw [if_pos rfl, if_pos (by omega), if_pos (by omega), show (i * 3 + 2) / 3 = i by omega, show (i * 3 + 2) % 3 = 2 by omega, updE_at, hx]; rfl
  · rw [if_neg h2]
    by_cases h1 : i * 3 + 1 = k
    · subst h1
      rw [if_pos rfl, if_pos (by omega), if_pos (by omega), show (i * 3 + 1) / 3 = i by omega, show (i * 3 + 1) % 3 = 1 by omega, updE_at, hx]; rfl
    · rw [if_neg h1]
      by_cases h0 : i * 3 = k
      · subst h0
        rw [if_pos rfl, if_pos (by omega), if_pos (by omega), show (i * 3) / 3 = i by omega, show (i * 3) % 3 = 0 by omega, updE_at, hx]; rfl
      · rw [if_neg h0, updE_other x (by omega)]
theorem entA_congr {n : Nat} {E F : Nat → Ent} (h : ∀ i, i < n → E i = F i) : entA n E = entA n F := by
  apply Array.ext_getElem?
  intro k
  rw [entA_get, entA_get]
  by_cases hk : k < n * 3
  · rw [if_pos hk, if_pos hk, h _ (by omega)]
  · rw [if_neg hk, if_neg hk]

/-- The view that a disk gives. -/
def viewE (B : List UInt8) (R : Nat) : Nat → Ent := fun i => (slotB B R i).map fun r => (r.name, r.num)
def firstE (n : Nat) (p : Nat → Bool) : Option Nat := (List.range n).find? p
theorem firstE_only {n i : Nat} {p : Nat → Bool} (hi : i < n) (hp : p i = true) (hu : ∀ k, k < n → p k = true → k = i) : firstE n p = some i := by
  unfold firstE
  cases h : (List.range n).find? p with
  | none => have := List.find?_eq_none.1 h i (List.mem_range.2 hi); rw [hp] at this; exact absurd rfl this
  | some k => rw [hu k (List.mem_range.1 (List.mem_of_find?_eq_some h)) (List.find?_some h)]
theorem firstE_none {n : Nat} {p : Nat → Bool} (h : ∀ k, k < n → p k = false) : firstE n p = none := by
  unfold firstE
  rw [List.find?_eq_none]
  intro k hk
  rw [h k (List.mem_range.1 hk)]
  simp
theorem firstE_congr {n : Nat} {p q : Nat → Bool} (h : ∀ k, k < n → p k = q k) : firstE n p = firstE n q := by
  unfold firstE
  have : ∀ l : List Nat, (∀ k ∈ l, p k = q k) → l.find? p = l.find? q := by
    intro l
    induction l with
    | nil => intro _; rfl
    | cons a l ih =>
      intro hl
      rw [List.find?_cons, List.find?_cons, hl a (List.mem_cons_self ..), ih fun k hk => hl k (List.mem_cons_of_mem _ hk)]
  exact this _ fun k hk => h k (List.mem_range.1 hk)
theorem firstE_lt {n i : Nat} {p : Nat → Bool} (h : firstE n p = some i) : i < n ∧ p i = true := ⟨List.mem_range.1 (List.mem_of_find?_eq_some h), List.find?_some h⟩
def hasName (name : List UInt8) : Ent → Bool
  | none => false
  | some x => decide (x.1 = name)
theorem free_first {t : Sto} {s : Dsk} {R n m : Nat} (h : Good t s R n m) (hd : t.died = false) : firstE n (fun i => (viewE s.B R i).isNone) = freeSlot n t.l := by
  have hc := (h.clean hd).1
  refine firstE_congr fun i hi => ?_
  unfold viewE
  cases hs : slotB s.B R i with
  | none =>
    refine Eq.symm ?_
    show (t.l.all fun x => decide (x.2 ≠ i)) = true
    rw [List.all_eq_true]
    intro x hx
    refine decide_eq_true fun e => ?_
    have := ((hc.1.2 x).1 hx).2.1
    rw [e, hs] at this
    cases this
  | some r =>
    refine Eq.symm ?_
    show (t.l.all fun x => decide (x.2 ≠ i)) = false
    rw [List.all_eq_false]
    exact ⟨_, hc.2 i r hi hs, by simp⟩
theorem find_first {t : Sto} {s : Dsk} {R n m : Nat} (h : Good t s R n m) (hd : t.died = false) (name : List UInt8) : firstE n (fun i => hasName name (viewE s.B R i)) = (oldE t.l name).map (·.2) := by
  have hc := (h.clean hd).1
  have hv : ∀ k, k < n → hasName name (viewE s.B R k) = true → ∃ r, (r, k) ∈ t.l ∧ r.name = name := by
    intro k hk hp
    unfold viewE at hp
    cases hs : slotB s.B R k with
    | none => rw [hs] at hp; cases hp
    | some r => rw [hs] at hp; exact ⟨r, hc.2 k r hk hs, of_decide_eq_true hp⟩
  cases ho : oldE t.l name with
  | none =>
    refine firstE_none fun k hk => ?_
    cases hp : hasName name (viewE s.B R k) with
    | false => rfl
    | true => obtain ⟨r, hr, e⟩ := hv k hk hp; exact absurd e (oldE_none ho _ hr)
  | some x =>
    obtain ⟨h1, h2⟩ := oldE_some ho
    have hb := (hc.1.2 x).1 h1
    refine firstE_only hb.1 ?_ fun k hk hp => ?_
    · unfold viewE
      rw [hb.2.1]
      exact decide_eq_true h2
    · obtain ⟨r, hr, e⟩ := hv k hk hp
      have hb2 := (hc.1.2 _).1 hr
      exact (hb.one hb2 (e.trans h2.symm)).1

/-! ### Opening, slot by slot -/
def loadD (s : Dsk) (R n k : Nat) : Dsk := (s.all (n * (R + 1)) (freeW R (junkS s.B R k))).1
def loadK (s : Dsk) (R n k : Nat) : Bool := (s.all (n * (R + 1)) (freeW R (junkS s.B R k))).2
def loadE (s : Dsk) (R k : Nat) : Nat → Ent := fun i => if i < k then viewE s.B R i else none
theorem load_same {s : Dsk} {R n k : Nat} (h : Geo s R n) (hk : k ≤ n) (i : Nat) (hi : k ≤ i) : usedB (loadD s R n k).B R i = usedB s.B R i ∧ slotB (loadD s R n k).B R i = slotB s.B R i := by
  obtain ⟨D, d1, _, d3, d4, _⟩ := frees_all (junkS s.B R k) h (fun i hi => by have := (mem_junkS.1 hi).1; omega)
  have hn : i ∉ D := fun hi' => by have := (mem_junkS.1 (d1 i hi')).1; omega
  have e3 := d3 i
  have e4 := d4 i
  rw [if_neg hn] at e3 e4
  exact ⟨e4, e3⟩
theorem load_lives {s : Dsk} {R n k : Nat} (h : Geo s R n) (hk : k ≤ n) (hd : s.dead = false) (hK : loadK s R n k = true) : (loadD s R n k).dead = false := by
  obtain ⟨D, _, _, _, _, d5, _⟩ := frees_all (junkS s.B R k) h (fun i hi => by have := (mem_junkS.1 hi).1; omega)
  exact (d5 hK).2 hd
theorem load_keep {s : Dsk} {R n k : Nat} (h : ¬ (usedB s.B R k = true ∧ slotB s.B R k = none)) : loadD s R n (k + 1) = loadD s R n k ∧ loadK s R n (k + 1) = loadK s R n k := by
  unfold loadD loadK
  rw [junkS_succ, if_neg h]
  exact ⟨rfl, rfl⟩
theorem load_free {s : Dsk} {R n k : Nat} (h : usedB s.B R k = true ∧ slotB s.B R k = none) (hK : loadK s R n k = true) :
    loadD s R n (k + 1) = (loadD s R n k).next (n * (R + 1)) ((k * (R + 1) : Nat) : Int) [] ∧ loadK s R n (k + 1) = decide ((loadD s R n k).code (n * (R + 1)) ((k * (R + 1) : Nat) : Int) 0 = 0) := by
  unfold loadD loadK at *
  rw [junkS_succ, if_pos h, freeW_append, Dsk.all_append, if_pos hK]
  show (Dsk.all _ _ [(k * (R + 1), [])]).1 = _ ∧ (Dsk.all _ _ [(k * (R + 1), [])]).2 = _
  rw [Dsk.all_cons]
  by_cases hc : Dsk.code (s.all (n * (R + 1)) (freeW R (junkS s.B R k))).1 (n * (R + 1)) ((k * (R + 1) : Nat) : Int) ([] : List UInt8).length = 0
  · rw [if_pos hc]
    exact ⟨rfl, (decide_eq_true hc).symm⟩
  · rw [if_neg hc]
    exact ⟨rfl, (decide_eq_false hc).symm⟩
theorem loadE_succ (s : Dsk) (R k : Nat) : loadE s R (k + 1) = updE (loadE s R k) k (viewE s.B R k) := by
  funext i
  unfold loadE updE
  by_cases h : i = k
  · subst h; rw [if_pos (Nat.lt_succ_self _), if_pos rfl]
  · rw [if_neg h]
    show (if i < k + 1 then viewE s.B R i else none) = if i < k then viewE s.B R i else none
    by_cases h2 : i < k
    · rw [if_pos h2, if_pos (by omega)]
    · rw [if_neg h2, if_neg (by omega)]
theorem loadE_none {s : Dsk} {R k : Nat} (h : slotB s.B R k = none) : loadE s R (k + 1) = loadE s R k := by
  rw [loadE_succ]
  funext i
  unfold updE loadE viewE
  by_cases e : i = k
  · subst e; rw [if_pos rfl, if_neg (by omega), h]; rfl
  · rw [if_neg e]

/-! ### Which slot of a name stays -/
def stay (V : Nat → Option Rec11) : Nat → List UInt8 → Option Nat
  | 0, _ => none
  | k + 1, nm => match V k with
    | none => stay V k nm
    | some r => if r.name = nm then (match stay V k nm with
        | none => some k
        | some b => if ((V b).map (·.num)).getD 0 < r.num then some k else some b) else stay V k nm
theorem stay_spec (V : Nat → Option Rec11) (nm : List UInt8) : ∀ k, (stay V k nm = none ∧ ∀ j q, j < k → V j = some q → q.name ≠ nm) ∨ (∃ i r, stay V k nm = some i ∧ Best V k i r ∧ r.name = nm)
  | 0 => .inl ⟨rfl, fun j q hj => by omega⟩
  | k + 1 => by
    have ih := stay_spec V nm k
    unfold stay
    cases hv : V k with
    | none =>
      rcases ih with ⟨h1, h2⟩ | ⟨i, r, h1, h2, h3⟩
      · refine .inl ⟨h1, fun j q hj hq => ?_⟩
        by_cases e : j = k
        · subst e; rw [hv] at hq; cases hq
        · exact h2 j q (by omega) hq
      · refine .inr ⟨i, r, h1, ⟨by have := h2.1; omega, h2.2.1, fun j q hj hq e => ?_⟩, h3⟩
        by_cases e' : j = k
        · subst e'; rw [hv] at hq; cases hq
        · exact h2.2.2 j q (by omega) hq e
    | some r =>
      dsimp only
      by_cases hn : r.name = nm
      · rw [if_pos hn]
        rcases ih with ⟨h1, h2⟩ | ⟨i, r', h1, h2, h3⟩
        · rw [h1]
          refine .inr ⟨k, r, rfl, ⟨Nat.lt_succ_self _, hv, fun j q hj hq e => ?_⟩, hn⟩
          by_cases e' : j = k
          · subst e'; rw [hv] at hq; injection hq with hq; subst hq; exact .inr ⟨rfl, Nat.le_refl _⟩
          · exact absurd (e.trans hn) (h2 j q (by omega) hq)
        · rw [h1]
          dsimp only
          have h4 : ((V i).map (·.num)).getD 0 = r'.num := by rw [h2.2.1]; rfl
          rw [h4]
          by_cases hl : r'.num < r.num
          · rw [if_pos hl]
            refine .inr ⟨k, r, rfl, ⟨Nat.lt_succ_self _, hv, fun j q hj hq e => ?_⟩, hn⟩
            by_cases e' : j = k
            · subst e'; rw [hv] at hq; injection hq with hq; subst hq; exact .inr ⟨rfl, Nat.le_refl _⟩
            · have := h2.2.2 j q (by omega) hq (e.trans (hn.trans h3.symm)); omega
          · rw [if_neg hl]
            refine .inr ⟨i, r', rfl, ⟨by have := h2.1; omega, h2.2.1, fun j q hj hq e => ?_⟩, h3⟩
            by_cases e' : j = k
            · subst e'; rw [hv] at hq; injection hq with hq; subst hq; have := h2.1; omega
            · exact h2.2.2 j q (by omega) hq e
      · rw [if_neg hn]
        rcases ih with ⟨h1, h2⟩ | ⟨i, r', h1, h2, h3⟩
        · refine .inl ⟨h1, fun j q hj hq => ?_⟩
          by_cases e : j = k
          · subst e; rw [hv] at hq; injection hq with hq; subst hq; exact hn
          · exact h2 j q (by omega) hq
        · refine .inr ⟨i, r', h1, ⟨by have := h2.1; omega, h2.2.1, fun j q hj hq e => ?_⟩, h3⟩
          by_cases e' : j = k
          · subst e'; rw [hv] at hq; injection hq with hq; subst hq; exact absurd (e.trans h3) hn
          · exact h2.2.2 j q (by omega) hq e
theorem stay_lt {V : Nat → Option Rec11} {k i : Nat} {nm : List UInt8} (h : stay V k nm = some i) : i < k := by
  rcases stay_spec V nm k with ⟨h1, _⟩ | ⟨j, r, h1, h2, _⟩
  · rw [h1] at h; cases h
  · rw [h1] at h; injection h with h; subst h; exact h2.1
/-- The slot that stays is the one that counts. -/
theorem stay_ent {V : Nat → Option Rec11} {n i : Nat} {r : Rec11} (hi : i < n) (hv : V i = some r) : ∃ b, stay V n r.name = some b ∧ (b = i ↔ entB V n i ≠ none) := by
  rcases stay_spec V r.name n with ⟨_, h2⟩ | ⟨b, r', h1, h2, h3⟩
  · exact absurd rfl (h2 i r hi hv)
  · refine ⟨b, h1, ?_⟩
    unfold entB
    rw [hv]
    dsimp only
    by_cases hb : bestB V n i r = true
    · rw [if_pos hb]
      have hB := (bestB_iff hi hv).1 hb
      refine ⟨fun _ => by simp, fun _ => (hB.one h2 h3).1⟩
    · rw [if_neg hb]
      refine ⟨fun e => ?_, fun k => absurd rfl k⟩
      subst e
      have e2 : r' = r := by have := h2.2.1; rw [hv] at this; exact (Option.some.inj this).symm
      subst e2
      exact absurd ((bestB_iff hi hv).2 h2) hb

/-! ### The others are freed -/
def elderD (s : Dsk) (V : Nat → Option Rec11) (R n k : Nat) : Dsk := (s.all (n * (R + 1)) (freeW R (elderS V n k))).1
def elderK (s : Dsk) (V : Nat → Option Rec11) (R n k : Nat) : Bool := (s.all (n * (R + 1)) (freeW R (elderS V n k))).2
def elderE (E : Nat → Ent) (V : Nat → Option Rec11) (n k : Nat) : Nat → Ent := fun i => if i ∈ elderS V n k then none else E i
theorem elder_keep {s : Dsk} {V : Nat → Option Rec11} {R n k : Nat} (h : ¬ (V k ≠ none ∧ entB V n k = none)) : elderD s V R n (k + 1) = elderD s V R n k ∧ elderK s V R n (k + 1) = elderK s V R n k ∧ ∀ E, elderE E V n (k + 1) = elderE E V n k := by
  unfold elderD elderK elderE
  rw [elderS_succ, if_neg h]
  exact ⟨rfl, rfl, fun _ => rfl⟩
theorem elder_free {s : Dsk} {V : Nat → Option Rec11} {R n k : Nat} (h : V k ≠ none ∧ entB V n k = none) (hK : elderK s V R n k = true) :
    elderD s V R n (k + 1) = (elderD s V R n k).next (n * (R + 1)) ((k * (R + 1) : Nat) : Int) [] ∧ elderK s V R n (k + 1) = decide ((elderD s V R n k).code (n * (R + 1)) ((k * (R + 1) : Nat) : Int) 0 = 0) := by
  unfold elderD elderK at *
  rw [elderS_succ, if_pos h, freeW_append, Dsk.all_append, if_pos hK]
  show (Dsk.all _ _ [(k * (R + 1), [])]).1 = _ ∧ (Dsk.all _ _ [(k * (R + 1), [])]).2 = _
  rw [Dsk.all_cons]
  by_cases hc : Dsk.code (s.all (n * (R + 1)) (freeW R (elderS V n k))).1 (n * (R + 1)) ((k * (R + 1) : Nat) : Int) ([] : List UInt8).length = 0
  · rw [if_pos hc]
    exact ⟨rfl, (decide_eq_true hc).symm⟩
  · rw [if_neg hc]
    exact ⟨rfl, (decide_eq_false hc).symm⟩
theorem elderE_free {V : Nat → Option Rec11} {n k : Nat} (E : Nat → Ent) (h : V k ≠ none ∧ entB V n k = none) : elderE E V n (k + 1) = updE (elderE E V n k) k none := by
  funext i
  unfold elderE updE
  rw [elderS_succ, if_pos h]
  by_cases e : i = k
  · subst e; rw [if_pos rfl, if_pos (by simp)]
  · rw [if_neg e]
    have e2 : (i ∈ elderS V n k ++ [k]) = (i ∈ elderS V n k) := by simp [e]
    simp only [e2]
theorem elderE_at {V : Nat → Option Rec11} {n k : Nat} (E : Nat → Ent) : elderE E V n k k = E k := if_neg fun h => by have := (mem_elderS.1 h).1; omega
/-- Opening is both, one behind the other. -/
theorem open_parts (s : Dsk) (R n : Nat) : openD s R n = (if loadK s R n n = true then elderD (loadD s R n n) (slotB s.B R) R n n else loadD s R n n) ∧ openK s R n = (loadK s R n n && elderK (loadD s R n n) (slotB s.B R) R n n) := by
  unfold openD openK openS loadK loadD elderD elderK
  rw [freeW_append, Dsk.all_append]
  by_cases h : (s.all (n * (R + 1)) (freeW R (junkS s.B R n))).2 = true
  · rw [if_pos h, if_pos h, h]
    exact ⟨rfl, rfl⟩
  · rw [if_neg h, if_neg h]
    have : (s.all (n * (R + 1)) (freeW R (junkS s.B R n))).2 = false := by simpa using h
    exact ⟨rfl, by rw [this]; rfl⟩
theorem open_view {s : Dsk} {R n : Nat} (h : Geo s R n) (hK : openK s R n = true) : ∀ i, i < n → elderE (loadE s R n) (slotB s.B R) n n i = viewE (openD s R n).B R i := by
  intro i hi
  obtain ⟨D, d1, _, d3, _, d5, _⟩ := frees_all (openS s.B R n) h (fun i hi => openS_lt i hi)
  have hD := (d5 hK).1
  have e3 := d3 i
  unfold elderE loadE viewE
  show _ = (slotB (s.all (n * (R + 1)) (freeW R (openS s.B R n))).1.B R i).map _
  rw [e3, if_pos hi]
  by_cases hm : i ∈ elderS (slotB s.B R) n n
  · rw [if_pos hm, if_pos (hD i (List.mem_append.2 (.inr hm)))]; rfl
  · rw [if_neg hm]
    by_cases hj : i ∈ D
    · rw [if_pos hj]
      rcases List.mem_append.1 (d1 i hj) with hj' | hj'
      · rw [(mem_junkS.1 hj').2.2]
      · exact absurd hj' hm
    · rw [if_neg hj]
end Go.Proofs.YtndknifdajjalaaGreatDoor
