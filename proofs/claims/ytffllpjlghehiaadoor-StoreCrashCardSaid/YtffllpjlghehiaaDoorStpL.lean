/- The program's store: Drop and Put, whole. -/
import Derived.Test.YtffllpjlghehiaaDoorStpK
namespace Go.Proofs.YtffllpjlghehiaaDoor
open Go.RowKit
set_option maxRecDepth 100000

theorem clean_view {B : List UInt8} {R n : Nat} {l : List (Rec11 × Nat)} (hc : Clean (slotB B R) n l) {i : Nat} (hi : i < n) : (∃ r, (r, i) ∈ l ∧ viewE B R i = some (r.name, r.num)) ∨ ((∀ r, (r, i) ∉ l) ∧ viewE B R i = none) := by
  cases hs : slotB B R i with
  | none =>
    right
    refine ⟨fun r hr => ?_, by unfold viewE; rw [hs]; rfl⟩
    have := ((hc.1.2 _).1 hr).2.1
    rw [hs] at this
    cases this
  | some r => exact .inl ⟨r, hc.2 i r hi hs, by unfold viewE; rw [hs]; rfl⟩
theorem clean_one {B : List UInt8} {R n : Nat} {l : List (Rec11 × Nat)} (hc : Clean (slotB B R) n l) {x y : Rec11 × Nat} (hx : x ∈ l) (hy : y ∈ l) (e : x.2 = y.2) : x = y := by
  have h1 := ((hc.1.2 x).1 hx).2.1
  have h2 := ((hc.1.2 y).1 hy).2.1
  rw [e, h2] at h1
  exact Prod.ext (Option.some.inj h1).symm e
theorem view_in {B : List UInt8} {R n : Nat} {l : List (Rec11 × Nat)} (hc : Clean (slotB B R) n l) {r : Rec11} {i : Nat} (h : (r, i) ∈ l) : viewE B R i = some (r.name, r.num) := by
  have := ((hc.1.2 _).1 h).2.1
  unfold viewE
  rw [this]; rfl
theorem put_view {B B' : List UInt8} {R n j : Nat} {l : List (Rec11 × Nat)} {r : Rec11} (hc : Clean (slotB B R) n l) (hc' : Clean (slotB B' R) n (putE l (r, j))) (hj : freeSlot n l = some j) :
    ∀ i, i < n → (match oldE l r.name with | none => updE (viewE B R) j (some (r.name, r.num)) | some x => updE (updE (viewE B R) j (some (r.name, r.num))) x.2 none) i = viewE B' R i := by
  intro i hi
  obtain ⟨hjn, hjf⟩ := freeSlot_some hj
  have hr := hc.1.1
  have hmem := mem_putE (l := l) (r, j)
  have main : updE (viewE B R) j (some (r.name, r.num)) i = viewE B' R i ∨ (∃ q, (q, i) ∈ l ∧ q.name = r.name ∧ viewE B' R i = none ∧ i ≠ j) := by
    by_cases e : i = j
    · subst e
      rw [updE_at, view_in hc' ((hmem _ hr).2 (.inl rfl))]
      exact .inl rfl
    · rw [updE_other _ e]
      rcases clean_view hc hi with ⟨q, hq, hv⟩ | ⟨hq, hv⟩
      · by_cases en : q.name = r.name
        · right
          refine ⟨q, hq, en, ?_, e⟩
          rcases clean_view hc' hi with ⟨q', hq', _⟩ | ⟨_, hv'⟩
          · rcases (hmem _ hr).1 hq' with h | ⟨h, hn⟩
            · exact absurd (congrArg Prod.snd h) e
            · have := clean_one hc hq h rfl
              have e2 : q = q' := congrArg Prod.fst this
              exact absurd (e2 ▸ en) hn
          · exact hv'
        · left
          rw [hv, view_in hc' ((hmem _ hr).2 (.inr ⟨hq, en⟩))]
      · left
        rw [hv]
        rcases clean_view hc' hi with ⟨q', hq', _⟩ | ⟨_, hv'⟩
        · rcases (hmem _ hr).1 hq' with h | ⟨h, hn⟩
          · exact absurd (congrArg Prod.snd h) e
          · exact absurd h (hq q')
        · exact hv'.symm
  cases ho : oldE l r.name with
  | none =>
    dsimp only
    rcases main with h | ⟨q, hq, hn, _⟩
    · exact h
    · exact absurd hn (oldE_none ho _ hq)
  | some x =>
    dsimp only
    obtain ⟨h1, h2⟩ := oldE_some ho
    by_cases e : i = x.2
    · subst e
      rw [updE_at]
      have hxj : x.2 ≠ j := hjf x h1
      rcases clean_view hc' hi with ⟨q', hq', _⟩ | ⟨_, hv'⟩
      · rcases (hmem _ hr).1 hq' with h | ⟨h, hn⟩
        · exact absurd (congrArg Prod.snd h) hxj
        · have := clean_one hc h1 h rfl
          exact absurd (this ▸ h2) hn
      · exact hv'.symm
    · rw [updE_other _ e]
      rcases main with h | ⟨q, hq, hn, _, _⟩
      · exact h
      · have h3 := oldE_of hr hq
        have h4 : oldE l q.name = some x := by rw [hn]; exact ho
        have h3' : oldE l q.name = some (q, i) := h3
        rw [h4] at h3'
        exact absurd (congrArg Prod.snd (Option.some.inj h3')).symm e
theorem drop_view {B B' : List UInt8} {R n : Nat} {l : List (Rec11 × Nat)} {x : Rec11 × Nat} (hc : Clean (slotB B R) n l) (hx : x ∈ l) (hc' : Clean (slotB B' R) n (l.filter fun y => decide (y.1.name ≠ x.1.name))) :
    ∀ i, i < n → updE (viewE B R) x.2 none i = viewE B' R i := by
  intro i hi
  have hr := hc.1.1
  by_cases e : i = x.2
  · subst e
    rw [updE_at]
    rcases clean_view hc' hi with ⟨q', hq', _⟩ | ⟨_, hv'⟩
    · obtain ⟨h1, h2⟩ := List.mem_filter.1 hq'
      have := clean_one hc hx h1 rfl
      rw [this] at h2
      simp at h2
    · exact hv'.symm
  · rw [updE_other _ e]
    rcases clean_view hc hi with ⟨q, hq, hv⟩ | ⟨hq, hv⟩
    · have hne : q.name ≠ x.1.name := fun en => by
        have h1 := oldE_of hr hq
        have h2 := oldE_of hr hx
        have h1' : oldE l q.name = some (q, i) := h1
        rw [en, h2] at h1'
        exact e (congrArg Prod.snd (Option.some.inj h1')).symm
      rw [hv, view_in hc' (List.mem_filter.2 ⟨hq, decide_eq_true hne⟩)]
    · rw [hv]
      rcases clean_view hc' hi with ⟨q', hq', _⟩ | ⟨_, hv'⟩
      · exact absurd (List.mem_filter.1 hq').1 (hq q')
      · exact hv'.symm

/-- What a call leaves. -/
def CallPost (w : World) (q p g b c : Nat) (R n m : Nat) (X : Dsk × Sto × Int) (e : Ending) (w' : World) : Prop := e = .returned (.int .i64 X.2.2) ∧ ST w' q p g b c X.1 R n m X.2.1 ∧ Chg (fourS q p g b) w w'
theorem psdrop_any {w : World} {q p g b c : Nat} {s : Dsk} {R n m : Nat} {t : Sto} (h : ST w q p g b c s R n m t) (name : List UInt8) :
    Calls Tryd.prog 14 #[.pointer (some ⟨q, 0, none⟩), .string ⟨name.toArray⟩] w (CallPost w q p g b c R n m (t.drop s R n name)) := by
  have hD := drop_done h.good name
  unfold CallPost
  unfold Sto.drop at hD ⊢
  have hs := h.sp
  cases hd : t.died with
  | true =>
    rw [if_pos rfl]
    rw [hd] at hs
    refine (drop_dead hs _).mono ?_
    rintro e w' ⟨rfl, rfl⟩
    exact ⟨rfl, h, Chg.refl _ _⟩
  | false =>
    rw [hd, if_neg (by simp)] at hD
    rw [if_neg (by simp)]
    rw [hd] at hs
    have hf := psfind_live hs name
    rw [find_first h.good hd name] at hf
    have hc := (h.good.clean hd).1
    cases ho : oldE t.l name with
    | none =>
      rw [ho] at hf
      refine (drop_none hs name hf).mono ?_
      rintro e w' ⟨rfl, B⟩
      exact ⟨rfl, h.below B, .of_below B⟩
    | some x =>
      rw [ho] at hf hD
      obtain ⟨h1, h2⟩ := oldE_some ho
      have hx := (hc.1.2 x).1 h1
      refine (drop_some hs name hx.1 hf).mono ?_
      rintro e w' ⟨rfl, S, C⟩
      have hpl := (h.sp.place hx.1 (Nat.zero_le R)).1
      have hcode := code_fit (s := s) (N := n * (R + 1)) (i := x.2 * (R + 1)) (by omega) (m := 0) (by omega)
      have hbl : b < w'.heap.size := Nat.lt_of_lt_of_le h.bl C.size
      have hall : s.all (n * (R + 1)) [(x.2 * (R + 1), [])] = (s.next (n * (R + 1)) ((x.2 * (R + 1) : Nat) : Int) [], decide (s.code (n * (R + 1)) ((x.2 * (R + 1) : Nat) : Int) 0 = 0)) := all_snoc (a := []) rfl
      dsimp only at hD ⊢
      rw [hall] at hD ⊢
      rcases hcode with hk | hk
      · rw [hk] at S hD ⊢
        rw [if_pos (by simp)] at hD ⊢
        exact ⟨rfl, ⟨S.congr (fun _ => drop_view hc h1 (hD.good.clean rfl).1), hbl, hD.good, fun _ => (hD.yes rfl).2.1⟩, C⟩
      · rw [hk] at S hD ⊢
        rw [if_neg (by simp)] at hD ⊢
        exact ⟨rfl, ⟨S.congr (fun e => by cases e), hbl, hD.good, fun e => by cases e⟩, C⟩
end Go.Proofs.YtffllpjlghehiaaDoor
