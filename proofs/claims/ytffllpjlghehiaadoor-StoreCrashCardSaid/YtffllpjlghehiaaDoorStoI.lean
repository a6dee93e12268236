/- P11.4: what is told behind a put or a drop that the disk may have cut short. Mathematics alone. -/
import Derived.Test.YtffllpjlghehiaaDoorStoJ
namespace Go.Proofs.YtffllpjlghehiaaDoor
open Go.RowKit

/-- Entries of other names. -/
def others (l : List (Rec11 × Nat)) (name : List UInt8) : List (Rec11 × Nat) := l.filter fun y => decide (y.1.name ≠ name)
theorem mem_others {l : List (Rec11 × Nat)} {name : List UInt8} {y : Rec11 × Nat} : y ∈ others l name ↔ y ∈ l ∧ y.1.name ≠ name := by unfold others; rw [List.mem_filter, decide_eq_true_iff]
theorem others_rising {l : List (Rec11 × Nat)} (h : Rising l) (name : List UInt8) : Rising (others l name) := dropL_rising h _
theorem others_putE {l : List (Rec11 × Nat)} (h : Rising l) (x : Rec11 × Nat) : others (putE l x) x.1.name = others l x.1.name :=
  Rising.ext (others_rising (putE_rising x h) _) (others_rising h _) fun y => by
    rw [mem_others, mem_others, mem_putE x y h]
    constructor
    · rintro ⟨rfl | ⟨h1, _⟩, h2⟩
      · exact absurd rfl h2
      · exact ⟨h1, h2⟩
    · rintro ⟨h1, h2⟩
      exact ⟨.inr ⟨h1, h2⟩, h2⟩
theorem others_drop (l : List (Rec11 × Nat)) (name : List UInt8) : others (others l name) name = others l name := by
  unfold others
  rw [List.filter_filter]
  apply List.filter_congr
  intro y _
  rw [Bool.and_self]
/-- How many there are, with and without a name. -/
theorem others_len : ∀ {l : List (Rec11 × Nat)} (_ : Rising l) (name : List UInt8), (others l name).length + (if (oldE l name).isSome = true then 1 else 0) = l.length
  | [], _, _ => rfl
  | y :: l, h, name => by
    have hc := List.pairwise_cons.1 h
    have ih := others_len hc.2 name
    unfold others oldE at ih ⊢
    by_cases e : y.1.name = name
    · have far : ∀ z ∈ l, z.1.name ≠ name := fun z hz e' => by
        have := hc.1 z hz
        rw [e, e'] at this
        exact name_irrefl _ this
      rw [List.filter_cons_of_neg (by simpa using e), List.find?_cons_of_pos (by simpa using e), List.filter_eq_self.2 (fun z hz => decide_eq_true (far z hz)), List.length_cons]
      simp
    · rw [List.filter_cons_of_pos (by simpa using e), List.find?_cons_of_neg (by simpa using e), List.length_cons, List.length_cons]
      omega
/-- What is told behind a call: all other names as before; this one has what the call would have it have, or what it had. -/
structure Told (t : Sto) (L : List (Rec11 × Nat)) (name : List UInt8) (new : Option (List UInt8)) (c : Int) : Prop where
  rising : Rising L
  other : ∀ nm, nm ≠ name → oldE L nm = oldE t.l nm
  rest : others L name = others t.l name
  this : (oldE L name).map (·.1.data) = new ∨ (c = 8 ∧ oldE L name = oldE t.l name)
theorem told_put {t : Sto} {s : Dsk} {R n m j : Nat} (h : Good t s R n m) (hd : t.died = false) {name data : List UInt8} (hj : freeSlot n t.l = some j) {L : List (Rec11 × Nat)} {c : Int} (hL : L = t.putL n name data ∨ (L = t.l ∧ c = 8)) : Told t L name (some data) c := by
  have hr := h.rising hd
  rcases hL with rfl | ⟨rfl, hc⟩
  · unfold Sto.putL
    rw [hj]
    exact ⟨putE_rising _ hr, fun nm hn => get_put_other hr name data j hn, others_putE hr (t.newR name data, j), .inl (get_put_same hr name data j)⟩
  · exact ⟨hr, fun _ _ => rfl, rfl, .inr ⟨hc, rfl⟩⟩
theorem told_drop {t : Sto} {s : Dsk} {R n m : Nat} (h : Good t s R n m) (hd : t.died = false) {name : List UInt8} {L : List (Rec11 × Nat)} {c : Int} (hL : L = t.dropL name ∨ (L = t.l ∧ c = 8)) : Told t L name none c := by
  have hr := h.rising hd
  rcases hL with rfl | ⟨rfl, hc⟩
  · exact ⟨dropL_rising hr _, fun nm hn => oldE_drop_other hr hn, others_drop t.l name, .inl (by show Option.map _ (oldE (List.filter _ t.l) name) = none; rw [oldE_drop_same]; rfl)⟩
  · exact ⟨hr, fun _ _ => rfl, rfl, .inr ⟨hc, rfl⟩⟩
/-- A put where there is room, on a disk that may stop: it ends well, or the disk is dead; started and opened, it is told so. -/
theorem put_told {t : Sto} {s : Dsk} {R n m : Nat} (h : Good t s R n m) (hd : t.died = false) (hm : m + 1 < 4294967296) {name data : List UInt8} (hf : fitsR R name data = true) (hl : t.l.length < n) :
    ((t.put s R n name data).2.2 = 0 ∨ (t.put s R n name data).2.2 = 8) ∧
    ((t.put s R n name data).1.dead = true ↔ (t.put s R n name data).2.2 = 8) ∧
    (∃ L, Reopened (t.put s R n name data).1.start R n (m + 1) L ∧ Told t L name (some data) (t.put s R n name data).2.2) ∧
    (∀ a k, ∃ L, Reopened (openD ((t.put s R n name data).1.start.stop a k) R n).start R n (m + 1) L ∧ Told t L name (some data) (t.put s R n name data).2.2) := by
  have D := put_done h hm name data
  have hs := freeSlot_none (h.clean hd).1.slots
  have hc : (t.put s R n name data).2.2 = 0 ∨ (t.put s R n name data).2.2 = 8 := by
    rw [put_code h hd hf, if_neg (by omega)]
    split
    · exact .inr rfl
    · exact .inl rfl
  obtain ⟨j, hj⟩ : ∃ j, freeSlot n t.l = some j := by
    cases e : freeSlot n t.l with
    | none => have := hs.1 e; omega
    | some j => exact ⟨j, rfl⟩
  refine ⟨hc, ?_, ?_, fun a k => ?_⟩
  · constructor
    · intro hdd
      rcases hc with hc | hc
      · have := (D.yes hc).2.1
        rw [hdd] at this
        cases this
      · exact hc
    · intro e
      exact ((D.crash e).2.2 hd).1
  · obtain ⟨L, hL, hR⟩ := D.reopen hd hc
    exact ⟨L, hR, told_put h hd hj hL⟩
  · obtain ⟨L, hL, hR⟩ := D.twice hd hc a k
    exact ⟨L, hR, told_put h hd hj hL⟩
/-- A drop of what there is, on a disk that may stop. -/
theorem drop_told {t : Sto} {s : Dsk} {R n m : Nat} (h : Good t s R n m) (hd : t.died = false) {name : List UInt8} {x : Rec11 × Nat} (hx : oldE t.l name = some x) :
    ((t.drop s R n name).2.2 = 0 ∨ (t.drop s R n name).2.2 = 8) ∧
    ∃ L, Reopened (t.drop s R n name).1.start R n m L ∧ Told t L name none (t.drop s R n name).2.2 := by
  have D := drop_done h name
  have hc : (t.drop s R n name).2.2 = 0 ∨ (t.drop s R n name).2.2 = 8 := by
    unfold Sto.drop
    rw [if_neg (by simp [hd]), hx]
    dsimp only
    split
    · exact .inl rfl
    · exact .inr rfl
  obtain ⟨L, hL, hR⟩ := D.reopen hd hc
  exact ⟨hc, L, hR, told_drop h hd hL⟩
end Go.Proofs.YtffllpjlghehiaaDoor
