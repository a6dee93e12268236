/- What an opening finds, slot by slot; the store as plain functions of disk and records. Mathematics alone. -/
import Derived.Test.YtffllpjlghehiaaDoorStoO
namespace Go.Proofs.YtffllpjlghehiaaDoor
open Go.RowKit

/-- Does the record of a slot count? -/
def bestB (V : Nat → Option Rec11) (n i : Nat) (r : Rec11) : Bool :=
  (List.range n).all fun k => match V k with
    | none => true
    | some q => if q.name = r.name then decide (q.num < r.num ∨ (q.num = r.num ∧ i ≤ k)) else true
theorem bestB_iff {V : Nat → Option Rec11} {n i : Nat} {r : Rec11} (hi : i < n) (hv : V i = some r) : bestB V n i r = true ↔ Best V n i r := by
  unfold bestB
  rw [List.all_eq_true]
  constructor
  · intro h
    refine ⟨hi, hv, fun k q hk hq he => ?_⟩
    have := h k (List.mem_range.2 hk)
    rw [hq] at this
    dsimp only at this
    rw [if_pos he] at this
    exact of_decide_eq_true this
  · rintro ⟨_, _, h⟩ k hk
    cases hq : V k with
    | none => rfl
    | some q =>
      dsimp only
      by_cases he : q.name = r.name
      · rw [if_pos he]; exact decide_eq_true (h k q (List.mem_range.1 hk) hq he)
      · rw [if_neg he]
/-- The entry of a slot, if it counts. -/
def entB (V : Nat → Option Rec11) (n i : Nat) : Option (Rec11 × Nat) := match V i with
  | none => none
  | some r => if bestB V n i r = true then some (r, i) else none
theorem entB_some {V : Nat → Option Rec11} {n i : Nat} (hi : i < n) (x : Rec11 × Nat) : entB V n i = some x ↔ x.2 = i ∧ Best V n x.2 x.1 := by
  unfold entB
  cases hv : V i with
  | none =>
    dsimp only
    constructor
    · intro h; cases h
    · rintro ⟨rfl, _, h, _⟩; rw [hv] at h; cases h
  | some r =>
    dsimp only
    constructor
    · intro h
      by_cases hb : bestB V n i r = true
      · rw [if_pos hb] at h
        cases h
        exact ⟨rfl, (bestB_iff hi hv).1 hb⟩
      · rw [if_neg hb] at h; cases h
    · rintro ⟨rfl, hb⟩
      have e : x.1 = r := by have := hb.2.1; rw [hv] at this; exact (Option.some.inj this).symm
      rw [← e] at hv ⊢
      rw [if_pos ((bestB_iff hi hv).2 hb)]
/-- The records that count, each put where its name belongs. -/
def openL (V : Nat → Option Rec11) (n k : Nat) : List (Rec11 × Nat) := ((List.range k).filterMap (entB V n)).foldl putE []
theorem openL_succ (V : Nat → Option Rec11) (n k : Nat) : openL V n (k + 1) = match entB V n k with | none => openL V n k | some x => putE (openL V n k) x := by
  unfold openL
  rw [List.range_succ, List.filterMap_append, List.foldl_append]
  cases h : entB V n k with
  | none => rw [List.filterMap_cons_none h, List.filterMap_nil]; rfl
  | some x => rw [List.filterMap_cons_some h, List.filterMap_nil]; rfl
theorem openL_mem (V : Nat → Option Rec11) (n : Nat) : ∀ k, k ≤ n → Rising (openL V n k) ∧ ∀ x, x ∈ openL V n k ↔ x.2 < k ∧ Best V n x.2 x.1
  | 0, _ => ⟨List.Pairwise.nil, fun x => ⟨fun h => (List.not_mem_nil h).elim, fun h => by omega⟩⟩
  | k + 1, hk => by
    obtain ⟨h1, h2⟩ := openL_mem V n k (by omega)
    rw [openL_succ]
    cases h : entB V n k with
    | none =>
      refine ⟨h1, fun x => ?_⟩
      dsimp only
      rw [h2]
      constructor
      · rintro ⟨a, b⟩; exact ⟨by omega, b⟩
      · rintro ⟨a, b⟩
        refine ⟨?_, b⟩
        have : x.2 ≠ k := fun e => by
          have := (entB_some (V := V) (n := n) (i := k) (by omega) x).2 ⟨e, b⟩
          rw [h] at this
          cases this
        omega
    | some y =>
      obtain ⟨e, hb⟩ := (entB_some (V := V) (n := n) (i := k) (by omega) y).1 h
      refine ⟨putE_rising _ h1, fun x => ?_⟩
      dsimp only
      rw [mem_putE _ _ h1, h2]
      constructor
      · rintro (rfl | ⟨⟨a, b⟩, _⟩)
        · exact ⟨by omega, hb⟩
        · exact ⟨by omega, b⟩
      · rintro ⟨a, b⟩
        by_cases hxk : x.2 = k
        · have := (entB_some (V := V) (n := n) (i := k) (by omega) x).2 ⟨hxk, b⟩
          rw [h] at this
          exact .inl (Option.some.inj this).symm
        · refine .inr ⟨⟨by omega, b⟩, fun en => ?_⟩
          obtain ⟨e1, _⟩ := hb.one b en
          omega
/-- An opening's entries are what counts. -/
theorem openL_shows (V : Nat → Option Rec11) (n : Nat) : Shows V n (openL V n n) :=
  ⟨(openL_mem V n n (Nat.le_refl _)).1, fun x => by
    rw [(openL_mem V n n (Nat.le_refl _)).2]
    exact ⟨fun h => h.2, fun h => ⟨h.1, h⟩⟩⟩
/-- Slots that are said to be used and hold no record, among the first. -/
def junkS (B : List UInt8) (R k : Nat) : List Nat := (List.range k).filter fun i => usedB B R i && (slotB B R i).isNone
/-- Slots of records that don't count, among the first. -/
def elderS (V : Nat → Option Rec11) (n k : Nat) : List Nat := (List.range k).filter fun i => (V i).isSome && (entB V n i).isNone
theorem mem_junkS {B : List UInt8} {R k i : Nat} : i ∈ junkS B R k ↔ i < k ∧ usedB B R i = true ∧ slotB B R i = none := by
  unfold junkS
  rw [List.mem_filter, List.mem_range, Bool.and_eq_true, Option.isNone_iff_eq_none]
theorem mem_elderS {V : Nat → Option Rec11} {n k i : Nat} : i ∈ elderS V n k ↔ i < k ∧ V i ≠ none ∧ entB V n i = none := by
  unfold elderS
  rw [List.mem_filter, List.mem_range, Bool.and_eq_true, Option.isNone_iff_eq_none, Option.isSome_iff_ne_none]
/-- What an opening frees. -/
def openS (B : List UInt8) (R n : Nat) : List Nat := junkS B R n ++ elderS (slotB B R) n n
/-- An opening as a whole. -/
structure Opened (s s' : Dsk) (R n : Nat) (ok : Bool) (l : List (Rec11 × Nat)) : Prop where
  geo : Geo s' R n
  kept : Kept s s'
  shows_ : Shows (slotB s'.B R) n l
  yes : ok = true → (s.dead = false → s'.dead = false) ∧ Clean (slotB s'.B R) n l ∧ Tidy s'.B R n
  no : ok = false → s'.dead = true
theorem open_spec {s : Dsk} {R n : Nat} (h : Geo s R n) : Opened s (s.all (n * (R + 1)) (freeW R (openS s.B R n))).1 R n (s.all (n * (R + 1)) (freeW R (openS s.B R n))).2 (openL (slotB s.B R) n n) := by
  have hs := openL_shows (slotB s.B R) n
  have mem : ∀ i, i < n → ((∃ r, (r, i) ∈ openL (slotB s.B R) n n) ↔ entB (slotB s.B R) n i ≠ none) := fun i hi => by
    constructor
    · rintro ⟨r, hr⟩ e
      have := (entB_some (V := slotB s.B R) (n := n) hi (r, i)).2 ⟨rfl, (hs.2 _).1 hr⟩
      rw [e] at this
      cases this
    · intro e
      cases hx : entB (slotB s.B R) n i with
      | none => exact absurd hx e
      | some x =>
        obtain ⟨e1, hb⟩ := (entB_some (V := slotB s.B R) (n := n) hi x).1 hx
        exact ⟨x.1, by rw [← e1]; exact (hs.2 x).2 hb⟩
  obtain ⟨a, b, c, d, e⟩ := open_all h hs (openS s.B R n) (fun i hi => by
    rcases List.mem_append.1 hi with hi | hi
    · obtain ⟨h1, _, h3⟩ := mem_junkS.1 hi
      refine ⟨h1, fun r hr => ?_⟩
      have := ((hs.2 _).1 hr).2.1
      dsimp only at this
      rw [h3] at this
      cases this
    · obtain ⟨h1, _, h3⟩ := mem_elderS.1 hi
      exact ⟨h1, fun r hr => (mem i h1).1 ⟨r, hr⟩ h3⟩) (fun i hi hu hni => by
    refine (mem i hi).2 fun e => hni ?_
    cases hv : slotB s.B R i with
    | none => exact List.mem_append.2 (.inl (mem_junkS.2 ⟨hi, hu, hv⟩))
    | some q => exact List.mem_append.2 (.inr (mem_elderS.2 ⟨hi, by rw [hv]; simp, e⟩)))
  exact ⟨a, b, c, d, e⟩
/-- A store that is clean is opened with no write, and shows the same. -/
theorem open_clean {s : Dsk} {R n : Nat} {l : List (Rec11 × Nat)} (hc : Clean (slotB s.B R) n l) (ht : Tidy s.B R n) : openS s.B R n = [] ∧ openL (slotB s.B R) n n = l := by
  have hs := openL_shows (slotB s.B R) n
  refine ⟨?_, hs.one hc.1⟩
  apply List.eq_nil_iff_forall_not_mem.2
  intro i hi
  rcases List.mem_append.1 hi with hi | hi
  · obtain ⟨h1, h2, h3⟩ := mem_junkS.1 hi
    exact ht i h1 h2 h3
  · obtain ⟨h1, h2, h3⟩ := mem_elderS.1 hi
    cases hv : slotB s.B R i with
    | none => exact h2 hv
    | some q =>
      have := (entB_some (V := slotB s.B R) (n := n) h1 (q, i)).2 ⟨rfl, (hc.1.2 _).1 (hc.2 i q h1 hv)⟩
      rw [h3] at this
      cases this

/-! ### The store's answers -/
/-- A name's entry. -/
def oldE (l : List (Rec11 × Nat)) (name : List UInt8) : Option (Rec11 × Nat) := l.find? fun x => decide (x.1.name = name)
theorem oldE_some {l : List (Rec11 × Nat)} {name : List UInt8} {x : Rec11 × Nat} (h : oldE l name = some x) : x ∈ l ∧ x.1.name = name := ⟨List.mem_of_find?_eq_some h, of_decide_eq_true (List.find?_some (p := fun x : Rec11 × Nat => decide (x.1.name = name)) h)⟩
theorem oldE_none {l : List (Rec11 × Nat)} {name : List UInt8} (h : oldE l name = none) : ∀ x ∈ l, x.1.name ≠ name := fun x hx e => by
  have := List.find?_eq_none.1 h x hx
  exact this (decide_eq_true e)
theorem oldE_of {l : List (Rec11 × Nat)} (h : Rising l) {x : Rec11 × Nat} (hx : x ∈ l) : oldE l x.1.name = some x := by
  induction l with
  | nil => cases hx
  | cons y l ih =>
    have hc := List.pairwise_cons.1 h
    unfold oldE
    rcases List.mem_cons.1 hx with rfl | hx
    · rw [List.find?_cons_of_pos (by simp)]
    · rw [List.find?_cons_of_neg (by
        have := hc.1 _ hx
        intro e
        rw [of_decide_eq_true e] at this
        exact name_irrefl _ this)]
      exact ih hc.2 hx
/-- The first slot that no entry has. -/
def freeSlot (n : Nat) (l : List (Rec11 × Nat)) : Option Nat := (List.range n).find? fun i => l.all fun x => decide (x.2 ≠ i)
theorem freeSlot_some {n : Nat} {l : List (Rec11 × Nat)} {j : Nat} (h : freeSlot n l = some j) : j < n ∧ ∀ x ∈ l, x.2 ≠ j := by
  refine ⟨List.mem_range.1 (List.mem_of_find?_eq_some h), fun x hx => ?_⟩
  have := List.find?_some (p := fun i => l.all fun x : Rec11 × Nat => decide (x.2 ≠ i)) h
  exact of_decide_eq_true (List.all_eq_true.1 this x hx)
/-- Is a record short enough? -/
def fitsR (R : Nat) (name data : List UInt8) : Bool := decide (name.length ≤ 16384 ∧ data.length ≤ 16384 ∧ (recL ⟨name, 1, data⟩).length ≤ R * 32)
theorem recL_len (a : List UInt8) (m k : Nat) (d : List UInt8) : (recL ⟨a, m, d⟩).length = (recL ⟨a, k, d⟩).length := by
  unfold recL netsL
  simp [netL_eq, putL_length]
/-- A store: its records, whether it has died. -/
structure Sto where
  l : List (Rec11 × Nat)
  died : Bool
/-- A put: the disk, the store, the answer. -/
def Sto.put (t : Sto) (s : Dsk) (R n : Nat) (name data : List UInt8) : Dsk × Sto × Int :=
  if t.died = true then (s, t, 8) else if fitsR R name data = false then (s, t, 1) else match freeSlot n t.l with
  | none => (s, t, 3)
  | some j =>
    let r : Rec11 := ⟨name, ((oldE t.l name).map fun x => x.1.num + 1).getD 1, data⟩
    let q := s.all (n * (R + 1)) (putSt R j (recL r) ((oldE t.l name).map (·.2)))
    if q.2 = true then (q.1, ⟨putE t.l (r, j), false⟩, 0) else (q.1, ⟨t.l, true⟩, 8)
/-- A drop. -/
def Sto.drop (t : Sto) (s : Dsk) (R n : Nat) (name : List UInt8) : Dsk × Sto × Int :=
  if t.died = true then (s, t, 8) else match oldE t.l name with
  | none => (s, t, 4)
  | some x =>
    let q := s.all (n * (R + 1)) [(x.2 * (R + 1), [])]
    if q.2 = true then (q.1, ⟨t.l.filter fun y => decide (y.1.name ≠ x.1.name), false⟩, 0) else (q.1, ⟨t.l, true⟩, 8)
/-- What is told of a name. -/
def Sto.get (t : Sto) (name : List UInt8) : Option (List UInt8) := if t.died = true then none else (oldE t.l name).map (·.1.data)
def Sto.names (t : Sto) : List (List UInt8) := if t.died = true then [] else t.l.map (·.1.name)
def Sto.free (t : Sto) (n : Nat) : Nat := if t.died = true then 0 else n - t.l.length

/-- A store on a disk, in good order: its records are all that is there, as long as it has not died; no number is greater than m. -/
structure Good (t : Sto) (s : Dsk) (R n m : Nat) : Prop where
  geo : Geo s R n
  clean : t.died = false → Clean (slotB s.B R) n t.l ∧ Tidy s.B R n
  nums : ∀ i r, slotB s.B R i = some r → r.num ≤ m
/-- What a call has left: the store in good order, or dead, on a dead disk, with the elder records or the new ones. -/
structure Done (t t' : Sto) (s s' : Dsk) (R n m : Nat) (code : Int) (l' : List (Rec11 × Nat)) : Prop where
  good : Good t' s' R n m
  kept : Kept s s'
  yes : code = 0 → t'.died = false ∧ s'.dead = false ∧ t'.l = l'
  crash : code = 8 → t'.died = true ∧ t'.l = t.l ∧ (t.died = false → s'.dead = true ∧ (Shows (slotB s'.B R) n t.l ∨ Shows (slotB s'.B R) n l'))
  other : code ≠ 0 → code ≠ 8 → t' = t ∧ s' = s ∧ t.died = false
/-- The record that a put writes. -/
def Sto.newR (t : Sto) (name data : List UInt8) : Rec11 := ⟨name, ((oldE t.l name).map fun x => x.1.num + 1).getD 1, data⟩
/-- .. and the entries behind it. -/
def Sto.putL (t : Sto) (n : Nat) (name data : List UInt8) : List (Rec11 × Nat) := match freeSlot n t.l with | none => t.l | some j => putE t.l (t.newR name data, j)
theorem put_done {t : Sto} {s : Dsk} {R n m : Nat} (h : Good t s R n m) (hm : m + 1 < 4294967296) (name data : List UInt8) :
    Done t (t.put s R n name data).2.1 s (t.put s R n name data).1 R n (m + 1) (t.put s R n name data).2.2 (t.putL n name data) := by
  have more : Good t s R n (m + 1) := ⟨h.geo, h.clean, fun i r hr => Nat.le_succ_of_le (h.nums i r hr)⟩
  unfold Sto.put
  by_cases hd : t.died = true
  · rw [if_pos hd]
    exact ⟨more, .refl _, fun e => (by cases e), fun _ => ⟨hd, rfl, fun e => (by rw [hd] at e; cases e)⟩, fun _ e => (e rfl).elim⟩
  · have hd' : t.died = false := by simpa using hd
    rw [if_neg hd]
    by_cases hf : fitsR R name data = false
    · rw [if_pos hf]
      exact ⟨more, .refl _, fun e => (by cases e), fun e => (by cases e), fun _ _ => ⟨rfl, rfl, hd'⟩⟩
    · rw [if_neg hf]
      have hf' : fitsR R name data = true := by simpa using hf
      obtain ⟨f1, f2, f3⟩ := of_decide_eq_true hf'
      unfold Sto.putL
      cases hs : freeSlot n t.l with
      | none => exact ⟨more, .refl _, fun e => (by cases e), fun e => (by cases e), fun _ _ => ⟨rfl, rfl, hd'⟩⟩
      | some j =>
        obtain ⟨hj, hjl⟩ := freeSlot_some hs
        obtain ⟨hc, ht⟩ := h.clean hd'
        have hfree : usedB s.B R j = false := by
          rw [← used_none ht hj]
          cases hv : slotB s.B R j with
          | none => rfl
          | some q => exact absurd rfl (hjl _ (hc.2 j q hj hv))
        have hnum : ∀ x, oldE t.l name = some x → x ∈ t.l ∧ x.1.name = (t.newR name data).name ∧ x.1.num < (t.newR name data).num := fun x hx => by
          refine ⟨(oldE_some hx).1, (oldE_some hx).2, ?_⟩
          unfold Sto.newR
          rw [hx]
          exact Nat.lt_succ_self _
        have hle : (t.newR name data).num ≤ m + 1 := by
          unfold Sto.newR
          cases hx : oldE t.l name with
          | none => show 1 ≤ m + 1; omega
          | some x =>
            have b := ((hc.1.2 x).1 (oldE_some hx).1).2.1
            have := h.nums _ _ b
            show x.1.num + 1 ≤ m + 1
            omega
        have L := put_all (r := t.newR name data) h.geo hc ht hj hfree f1 f2 (by omega) (Nat.le_trans (Nat.le_of_eq (recL_len name _ 1 data)) f3) (oldE t.l name) hnum (fun e => oldE_none e)
        have e : t.newR name data = ⟨name, ((oldE t.l name).map fun x => x.1.num + 1).getD 1, data⟩ := rfl
        dsimp only
        rw [← e]
        generalize s.all (n * (R + 1)) (putSt R j (recL (t.newR name data)) ((oldE t.l name).map (·.2))) = q at L ⊢
        obtain ⟨s', ok⟩ := q
        dsimp only at L ⊢
        have hn' : ∀ i r, slotB s'.B R i = some r → r.num ≤ m + 1 := fun i r hr => by
          rcases L.src i r hr with h1 | h1
          · exact Nat.le_succ_of_le (h.nums i r h1)
          · rw [h1]; exact hle
        cases ok with
        | true =>
          rw [if_pos rfl]
          obtain ⟨y1, y2⟩ := L.yes rfl
          exact ⟨⟨L.geo, fun _ => ⟨y2, L.tidy⟩, hn'⟩, L.kept, fun _ => ⟨rfl, y1, rfl⟩, fun e => (by cases e), fun e => (e rfl).elim⟩
        | false =>
          rw [if_neg (by simp)]
          obtain ⟨y1, y2⟩ := L.no rfl
          exact ⟨⟨L.geo, fun e => (by cases e), hn'⟩, L.kept, fun e => (by cases e), fun _ => ⟨rfl, rfl, fun _ => ⟨y1, y2.imp (·.1) id⟩⟩, fun _ e => (e rfl).elim⟩
/-- .. and the entries behind a drop. -/
def Sto.dropL (t : Sto) (name : List UInt8) : List (Rec11 × Nat) := t.l.filter fun y => decide (y.1.name ≠ name)
theorem drop_done {t : Sto} {s : Dsk} {R n m : Nat} (h : Good t s R n m) (name : List UInt8) :
    Done t (t.drop s R n name).2.1 s (t.drop s R n name).1 R n m (t.drop s R n name).2.2 (t.dropL name) := by
  unfold Sto.drop
  by_cases hd : t.died = true
  · rw [if_pos hd]
    exact ⟨h, .refl _, fun e => (by cases e), fun _ => ⟨hd, rfl, fun e => (by rw [hd] at e; cases e)⟩, fun _ e => (e rfl).elim⟩
  · have hd' : t.died = false := by simpa using hd
    rw [if_neg hd]
    cases hx : oldE t.l name with
    | none => exact ⟨h, .refl _, fun e => (by cases e), fun e => (by cases e), fun _ _ => ⟨rfl, rfl, hd'⟩⟩
    | some x =>
      obtain ⟨hc, ht⟩ := h.clean hd'
      obtain ⟨x1, x2⟩ := oldE_some hx
      have L := drop_all h.geo hc ht x1
      have el : (t.l.filter fun y => decide (y.1.name ≠ x.1.name)) = t.dropL name := by unfold Sto.dropL; rw [x2]
      rw [el] at L
      dsimp only
      rw [el]
      generalize s.all (n * (R + 1)) [(x.2 * (R + 1), [])] = q at L ⊢
      obtain ⟨s', ok⟩ := q
      dsimp only at L ⊢
      have hn' : ∀ i r, slotB s'.B R i = some r → r.num ≤ m := fun i r hr => by
        rcases L.src i r hr with h1 | h1
        · exact h.nums i r h1
        · exact h1.elim
      cases ok with
      | true =>
        rw [if_pos rfl]
        obtain ⟨y1, y2⟩ := L.yes rfl
        exact ⟨⟨L.geo, fun _ => ⟨y2, L.tidy⟩, hn'⟩, L.kept, fun _ => ⟨rfl, y1, rfl⟩, fun e => (by cases e), fun e => (e rfl).elim⟩
      | false =>
        rw [if_neg (by simp)]
        obtain ⟨y1, y2⟩ := L.no rfl
        exact ⟨⟨L.geo, fun e => (by cases e), hn'⟩, L.kept, fun e => (by cases e), fun _ => ⟨rfl, rfl, fun _ => ⟨y1, y2.imp (·.1) (·.1)⟩⟩, fun _ e => (e rfl).elim⟩
end Go.Proofs.YtffllpjlghehiaaDoor
