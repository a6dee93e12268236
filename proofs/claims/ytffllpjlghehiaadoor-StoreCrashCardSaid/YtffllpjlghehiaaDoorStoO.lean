/- Puts, drops and openings of a store on a disk that may stop: P11.4's mathematics. -/
import Derived.Test.YtffllpjlghehiaaDoorStoD
namespace Go.Proofs.YtffllpjlghehiaaDoor
open Go.RowKit

/-- The writes of a put: the text, the head, and the elder record's head. -/
def putSt (R j : Nat) (t : List UInt8) (old : Option Nat) : List (Nat × List UInt8) :=
  textW R j t ((t.length + 31) / 32) ++ (j * (R + 1), [1]) :: (old.toList.map fun o => (o * (R + 1), []))
/-- What is left behind a call that may have stopped. -/
structure Left (s s' : Dsk) (R n : Nat) (ok : Bool) (yes no : (Nat → Option Rec11) → Prop) (new : Rec11 → Prop) : Prop where
  geo : Geo s' R n
  kept : Kept s s'
  tidy : Tidy s'.B R n
  yes : ok = true → s'.dead = false ∧ yes (slotB s'.B R)
  no : ok = false → s'.dead = true ∧ no (slotB s'.B R)
  src : ∀ i q, slotB s'.B R i = some q → slotB s.B R i = some q ∨ new q
theorem src_same {V W : Nat → Option Rec11} {new : Rec11 → Prop} (h : W = V) : ∀ i q, W i = some q → V i = some q ∨ new q := fun i q hq => .inl (by rw [← h]; exact hq)
theorem src_put {V W X : Nat → Option Rec11} {j : Nat} {o : Option Rec11} {new : Rec11 → Prop} (h : W = putV X j o) (hX : ∀ i q, X i = some q → V i = some q ∨ new q) (ho : ∀ q, o = some q → new q) : ∀ i q, W i = some q → V i = some q ∨ new q := fun i q hq => by
  rw [h] at hq
  unfold putV at hq
  by_cases e : i = j
  · rw [if_pos e] at hq; exact .inr (ho q hq)
  · rw [if_neg e] at hq; exact hX i q hq
theorem put_all {s : Dsk} {R n j : Nat} {l : List (Rec11 × Nat)} {r : Rec11} (h : Geo s R n) (hc : Clean (slotB s.B R) n l) (ht : Tidy s.B R n) (hj : j < n) (hf : usedB s.B R j = false)
    (s1 : r.name.length ≤ 16384) (s2 : r.data.length ≤ 16384) (s3 : r.num < 4294967296) (s4 : (recL r).length ≤ R * 32)
    (old : Option (Rec11 × Nat)) (ho : ∀ x, old = some x → x ∈ l ∧ x.1.name = r.name ∧ x.1.num < r.num) (hn : old = none → ∀ x ∈ l, x.1.name ≠ r.name) :
    Left s (s.all (n * (R + 1)) (putSt R j (recL r) (old.map (·.2)))).1 R n (s.all (n * (R + 1)) (putSt R j (recL r) (old.map (·.2)))).2
      (fun V => Clean V n (putE l (r, j))) (fun V => Clean V n l ∨ Shows V n (putE l (r, j))) (fun q => q = r) := by
  have hK : ((recL r).length + 31) / 32 ≤ R := by omega
  have T := text_all (recL r) h hj hf _ hK
  have hvn : slotB s.B R j = none := (used_none ht hj).2 hf
  have hle : ∀ x ∈ l, x.1.name = r.name → x.1.num < r.num := fun x hx e => by
    cases hold : old with
    | none => exact absurd e (hn hold x hx)
    | some y =>
      obtain ⟨h1, h2, h3⟩ := ho y hold
      obtain ⟨e1, e2⟩ := ((hc.1.2 y).1 h1).one ((hc.1.2 x).1 hx) (by rw [e, h2])
      rw [e2]
      exact h3
  unfold putSt
  rw [Dsk.all_append]
  generalize e : s.all (n * (R + 1)) (textW R j (recL r) (((recL r).length + 31) / 32)) = q at T ⊢
  obtain ⟨sa, ok⟩ := q
  dsimp only at T ⊢
  have hsl : slotB sa.B R = slotB s.B R := funext T.slot
  have hta : Tidy sa.B R n := fun i hi hu => by rw [T.slot]; exact ht i hi (by rw [← T.used]; exact hu)
  have ga := h.kept T.kept
  cases ok with
  | false =>
    rw [if_neg (by simp)]
    exact ⟨ga, T.kept, hta, fun h => (by cases h), fun _ => ⟨T.no rfl, .inl (by rw [hsl]; exact hc)⟩, src_same hsl⟩
  | true =>
    rw [if_pos rfl]
    have hrd : readR (roomB sa.B R j) = some r := by
      rw [(T.yes rfl).1.all (by omega)]
      exact readR_recL _ _ s1 s2 s3
    obtain ⟨sb, gb, kb, tb, H⟩ := head_all (b := [1]) ga hj (by simp) hta (fun _ => by rw [hrd]; simp) (old.toList.map fun o => (o.2 * (R + 1), []))
    rw [if_pos (c := [(1 : UInt8)].getD 0 0 = 1) rfl, hrd, hsl] at H
    have hmap : ((old.map (·.2)).toList.map fun o => (o * (R + 1), ([] : List UInt8))) = old.toList.map fun o => (o.2 * (R + 1), []) := by cases old <;> rfl
    rw [hmap]
    have hr1 : ∀ q : Rec11, some r = some q → q = r := fun q h => (Option.some.inj h).symm
    have hr0 : ∀ q : Rec11, none = some q → q = r := fun q h => (by cases h)
    have hself : ∀ i q, slotB s.B R i = some q → slotB s.B R i = some q ∨ q = r := fun _ _ h => .inl h
    rcases H with ⟨e1, e2, e3⟩ | ⟨e1, e2, e3⟩
    · rw [e1]
      cases hold : old with
      | none =>
        exact ⟨gb, T.kept.trans kb, tb, fun _ => ⟨e2, by show Clean (slotB sb.B R) _ _; rw [e3]; exact hc.put_new hj hvn (hn hold)⟩, fun h => (by cases h), src_put e3 hself hr1⟩
      | some x =>
        obtain ⟨h1, h2, h3⟩ := ho x hold
        have hx := ((hc.1.2 x).1 h1).1
        obtain ⟨sc, gc, kc, tc, H'⟩ := head_all (b := []) gb hx (by simp) tb (fun h => by simp at h) []
        rw [if_neg (by simp), e3] at H'
        have hcl := hc.put_old hj hvn h1 h2 h3
        have hsh := hc.put hj hvn hle
        show Left s (sb.all (n * (R + 1)) [(x.2 * (R + 1), [])]).1 R n (sb.all (n * (R + 1)) [(x.2 * (R + 1), [])]).2 _ _ _
        have hv1 : ∀ i q, putV (slotB s.B R) j (some r) i = some q → slotB s.B R i = some q ∨ q = r := src_put rfl hself hr1
        rcases H' with ⟨f1, f2, f3⟩ | ⟨f1, f2, f3⟩
        · rw [f1]
          exact ⟨gc, (T.kept.trans kb).trans kc, tc, fun _ => ⟨f2, by show Clean (slotB sc.B R) _ _; rw [f3]; exact hcl⟩, fun h => (by cases h), src_put f3 hv1 hr0⟩
        · rw [f1]
          refine ⟨gc, (T.kept.trans kb).trans kc, tc, fun h => (by cases h), fun _ => ⟨f2, .inr ?_⟩, ?_⟩
          · show Shows (slotB sc.B R) _ _
            rcases f3 with f3 | f3
            · rw [f3]; exact hsh
            · rw [f3]; exact hcl.1
          · rcases f3 with f3 | f3
            · intro i q hq; rw [f3] at hq; exact hv1 i q hq
            · exact src_put f3 hv1 hr0
    · rw [e1]
      refine ⟨gb, T.kept.trans kb, tb, fun h => (by cases h), fun _ => ⟨e2, ?_⟩, ?_⟩
      · show Clean (slotB sb.B R) _ _ ∨ Shows (slotB sb.B R) _ _
        rcases e3 with e3 | e3
        · rw [e3]; exact .inl hc
        · rw [e3]; exact .inr (hc.put hj hvn hle)
      · rcases e3 with e3 | e3
        · exact src_same e3
        · exact src_put e3 hself hr1
/-- A drop: it is done, or the record is there. -/
theorem drop_all {s : Dsk} {R n : Nat} {l : List (Rec11 × Nat)} {x : Rec11 × Nat} (h : Geo s R n) (hc : Clean (slotB s.B R) n l) (ht : Tidy s.B R n) (hx : x ∈ l) :
    Left s (s.all (n * (R + 1)) [(x.2 * (R + 1), [])]).1 R n (s.all (n * (R + 1)) [(x.2 * (R + 1), [])]).2
      (fun V => Clean V n (l.filter fun y => decide (y.1.name ≠ x.1.name))) (fun V => Clean V n l ∨ Clean V n (l.filter fun y => decide (y.1.name ≠ x.1.name))) (fun _ => False) := by
  obtain ⟨sc, gc, kc, tc, H'⟩ := head_all (b := []) h ((hc.1.2 x).1 hx).1 (by simp) ht (fun h => by simp at h) []
  rw [if_neg (by simp)] at H'
  have hcl := hc.drop hx
  rcases H' with ⟨f1, f2, f3⟩ | ⟨f1, f2, f3⟩
  · rw [f1]
    exact ⟨gc, kc, tc, fun _ => ⟨f2, by show Clean (slotB sc.B R) _ _; rw [f3]; exact hcl⟩, fun h => (by cases h), src_put f3 (fun _ _ h => .inl h) (fun q h => (by cases h))⟩
  · rw [f1]
    refine ⟨gc, kc, tc, fun h => (by cases h), fun _ => ⟨f2, ?_⟩, ?_⟩
    · show Clean (slotB sc.B R) _ _ ∨ Clean (slotB sc.B R) _ _
      rcases f3 with f3 | f3
      · rw [f3]; exact .inl hc
      · rw [f3]; exact .inr hcl
    · rcases f3 with f3 | f3
      · exact src_same f3
      · exact src_put f3 (fun _ _ h => .inl h) (fun q h => (by cases h))

/-! ### Opening -/
/-- Slots are freed: so many of them as the disk lives for. -/
def freeW (R : Nat) (is : List Nat) : List (Nat × List UInt8) := is.map fun i => (i * (R + 1), [])
theorem frees_all {R n : Nat} : ∀ (is : List Nat) {s : Dsk}, Geo s R n → (∀ i ∈ is, i < n) → ∃ D : List Nat, (∀ i ∈ D, i ∈ is) ∧
    Kept s (s.all (n * (R + 1)) (freeW R is)).1 ∧
    (∀ i, slotB (s.all (n * (R + 1)) (freeW R is)).1.B R i = if i ∈ D then none else slotB s.B R i) ∧
    (∀ i, usedB (s.all (n * (R + 1)) (freeW R is)).1.B R i = if i ∈ D then false else usedB s.B R i) ∧
    ((s.all (n * (R + 1)) (freeW R is)).2 = true → (∀ i ∈ is, i ∈ D) ∧ (s.dead = false → (s.all (n * (R + 1)) (freeW R is)).1.dead = false)) ∧
    ((s.all (n * (R + 1)) (freeW R is)).2 = false → (s.all (n * (R + 1)) (freeW R is)).1.dead = true)
  | [], s, h, _ => ⟨[], fun _ h => h, .refl _, fun i => by rw [if_neg (by simp)]; rfl, fun i => by rw [if_neg (by simp)]; rfl, fun _ => ⟨fun _ h => h, id⟩, fun h => (by cases h)⟩
  | j :: is, s, h, hi => by
    have hj : j < n := hi j (List.mem_cons_self ..)
    have hlt : j * (R + 1) < n * (R + 1) := by have := geo_lt (R := R) hj (Nat.zero_le _); omega
    have hB : j * (R + 1) * 32 + 32 ≤ s.B.length := by rw [h.len]; omega
    have hp : (padB 32 ([] : List UInt8)).length = 32 := padB_len (by simp)
    have view : ∀ m, m ≤ 32 → m ≠ 0 → (∀ i, slotB (layL s.B (j * (R + 1) * 32) ((padB 32 []).take m)) R i = if i = j then none else slotB s.B R i) ∧ (∀ i, usedB (layL s.B (j * (R + 1) * 32) ((padB 32 []).take m)) R i = if i = j then false else usedB s.B R i) := fun m hm h0 => by
      refine ⟨fun i => ?_, fun i => ?_⟩
      · rw [head_view (by simp) hm hB, if_neg h0]
        unfold putV
        rw [if_neg (c := ([] : List UInt8).getD 0 0 = 1) (by simp)]
      · rw [head_used (by simp) hm hB]
        by_cases e : i = j
        · rw [if_pos ⟨e, h0⟩, if_pos e]; simp
        · rw [if_neg (fun h => e h.1), if_neg e]
    show ∃ D : List Nat, (∀ i ∈ D, i ∈ j :: is) ∧ _
    have hfw : freeW R (j :: is) = (j * (R + 1), []) :: freeW R is := rfl
    rw [hfw, Dsk.all_cons]
    dsimp only
    rcases next_cases (s := s) (N := n * (R + 1)) (i := j * (R + 1)) (b := []) hlt (by simp) h.keep h.len with ⟨h1, h2, h3, h4, h5⟩ | ⟨h1, _, h3, h5, m, hm, h4⟩
    · rw [if_pos h1]
      have v := view 32 (Nat.le_refl _) (by omega)
      rw [List.take_of_length_le (by omega), ← h4] at v
      obtain ⟨D, d1, d2, d3, d4, d5, d6⟩ := frees_all is (h.kept h5) (fun i hi' => hi i (List.mem_cons_of_mem _ hi'))
      refine ⟨j :: D, fun i hd => ?_, h5.trans d2, fun i => ?_, fun i => ?_, fun ok => ⟨fun i hi' => ?_, fun _ => (d5 ok).2 h3⟩, d6⟩
      · rcases List.mem_cons.1 hd with e | hd
        · rw [e]; exact List.mem_cons_self ..
        · exact List.mem_cons_of_mem _ (d1 i hd)
      · rw [d3, v.1]
        by_cases e : i ∈ D
        · rw [if_pos e, if_pos (List.mem_cons_of_mem _ e)]
        · by_cases e' : i = j
          · rw [if_neg e, if_pos e', if_pos (by rw [e']; exact List.mem_cons_self ..)]
          · rw [if_neg e, if_neg e', if_neg (fun h => (List.mem_cons.1 h).elim e' e)]
      · rw [d4, v.2]
        by_cases e : i ∈ D
        · rw [if_pos e, if_pos (List.mem_cons_of_mem _ e)]
        · by_cases e' : i = j
          · rw [if_neg e, if_pos e', if_pos (by rw [e']; exact List.mem_cons_self ..)]
          · rw [if_neg e, if_neg e', if_neg (fun h => (List.mem_cons.1 h).elim e' e)]
      · rcases List.mem_cons.1 hi' with e | hi'
        · rw [e]; exact List.mem_cons_self ..
        · exact List.mem_cons_of_mem _ ((d5 ok).1 i hi')
    · rw [if_neg h1]
      by_cases h0 : m = 0
      · rw [h0, List.take_zero, layL_nil] at h4
        refine ⟨[], fun _ h => (List.not_mem_nil h).elim, h5, fun i => ?_, fun i => ?_, fun h => (by cases h), fun _ => h3⟩
        · rw [if_neg (by simp)]; show slotB (s.next _ _ _).B R i = _; rw [h4]
        · rw [if_neg (by simp)]; show usedB (s.next _ _ _).B R i = _; rw [h4]
      · have v := view m hm h0
        rw [← h4] at v
        refine ⟨[j], fun i hd => ?_, h5, fun i => ?_, fun i => ?_, fun h => (by cases h), fun _ => h3⟩
        · rw [List.mem_singleton.1 hd]; exact List.mem_cons_self ..
        · show slotB (s.next _ _ _).B R i = _
          rw [v.1]
          by_cases e' : i = j
          · rw [if_pos e', if_pos (List.mem_singleton.2 e')]
          · rw [if_neg e', if_neg (fun h => e' (List.mem_singleton.1 h))]
        · show usedB (s.next _ _ _).B R i = _
          rw [v.2]
          by_cases e' : i = j
          · rw [if_pos e', if_pos (List.mem_singleton.2 e')]
          · rw [if_neg e', if_neg (fun h => e' (List.mem_singleton.1 h))]
theorem Shows.frees {V : Nat → Option Rec11} {n : Nat} {l : List (Rec11 × Nat)} (h : Shows V n l) : ∀ D : List Nat, (∀ i ∈ D, ∀ r, (r, i) ∉ l) → Shows (fun i => if i ∈ D then none else V i) n l
  | [], _ => by
    have : (fun i => if i ∈ ([] : List Nat) then none else V i) = V := funext fun i => if_neg (by simp)
    rw [this]; exact h
  | d :: D, hd => by
    have ih := h.frees D fun i hi => hd i (List.mem_cons_of_mem _ hi)
    have : (fun i => if i ∈ d :: D then none else V i) = putV (fun i => if i ∈ D then none else V i) d none := funext fun i => by
      unfold putV
      by_cases e : i = d
      · rw [if_pos e, if_pos (by rw [e]; exact List.mem_cons_self ..)]
      · by_cases e' : i ∈ D
        · rw [if_neg e, if_pos (List.mem_cons_of_mem _ e')]; exact (if_pos e').symm
        · rw [if_neg e, if_neg (fun h => (List.mem_cons.1 h).elim e e')]; exact (if_neg e').symm
    rw [this]
    exact ih.free (hd d (List.mem_cons_self ..))
/-- A store is opened: what has no form is freed, then what doesn't count. -/
theorem open_all {s : Dsk} {R n : Nat} {l : List (Rec11 × Nat)} (h : Geo s R n) (hs : Shows (slotB s.B R) n l) (is : List Nat)
    (h1 : ∀ i ∈ is, i < n ∧ ∀ r, (r, i) ∉ l) (h2 : ∀ i, i < n → usedB s.B R i = true → i ∉ is → ∃ r, (r, i) ∈ l) :
    Geo (s.all (n * (R + 1)) (freeW R is)).1 R n ∧ Kept s (s.all (n * (R + 1)) (freeW R is)).1 ∧ Shows (slotB (s.all (n * (R + 1)) (freeW R is)).1.B R) n l ∧
    ((s.all (n * (R + 1)) (freeW R is)).2 = true → (s.dead = false → (s.all (n * (R + 1)) (freeW R is)).1.dead = false) ∧ Clean (slotB (s.all (n * (R + 1)) (freeW R is)).1.B R) n l ∧ Tidy (s.all (n * (R + 1)) (freeW R is)).1.B R n) ∧
    ((s.all (n * (R + 1)) (freeW R is)).2 = false → (s.all (n * (R + 1)) (freeW R is)).1.dead = true) := by
  obtain ⟨D, d1, d2, d3, d4, d5, d6⟩ := frees_all is h fun i hi => (h1 i hi).1
  have hsh : Shows (slotB (s.all (n * (R + 1)) (freeW R is)).1.B R) n l := by
    rw [show slotB (s.all (n * (R + 1)) (freeW R is)).1.B R = fun i => if i ∈ D then none else slotB s.B R i from funext d3]
    exact hs.frees D fun i hi => (h1 i (d1 i hi)).2
  have key : (∀ i ∈ is, i ∈ D) → ∀ i, i < n → usedB (s.all (n * (R + 1)) (freeW R is)).1.B R i = true → ∃ r, (r, i) ∈ l := fun hall i hi hu => by
    rw [d4] at hu
    by_cases e : i ∈ D
    · rw [if_pos e] at hu; cases hu
    · rw [if_neg e] at hu
      exact h2 i hi hu fun hm => e (hall i hm)
  refine ⟨h.kept d2, d2, hsh, fun ok => ⟨(d5 ok).2, ⟨hsh, fun i r hi hr => ?_⟩, fun i hi hu => ?_⟩, d6⟩
  · have hu : usedB (s.all (n * (R + 1)) (freeW R is)).1.B R i = true := by
      cases e : usedB (s.all (n * (R + 1)) (freeW R is)).1.B R i with
      | true => rfl
      | false => unfold slotB at hr; rw [e] at hr; cases hr
    obtain ⟨q, hq⟩ := key (d5 ok).1 i hi hu
    have b := ((hsh.2 _).1 hq).2.1
    dsimp only at b
    rw [hr] at b
    rw [Option.some.inj b]
    exact hq
  · obtain ⟨q, hq⟩ := key (d5 ok).1 i hi hu
    rw [((hsh.2 _).1 hq).2.1]
    simp
end Go.Proofs.YtffllpjlghehiaaDoor
