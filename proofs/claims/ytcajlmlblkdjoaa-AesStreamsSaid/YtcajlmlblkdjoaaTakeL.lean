/- The row at a list's beginning, as plain lists; a row that is written is taken again, with what is behind it. -/
import Derived.Test.YtcajlmlblkdjoaaNets
namespace Go.Proofs.Ytcajlmlblkdjoaa
open Go.RowKit

def isDig (x : UInt8) : Bool := decide (48 ≤ x.toNat ∧ x.toNat ≤ 57)

/-- The length that stands at the beginning, and how many digits it has; z: the first of them is a nought. -/
def lenFrom (z : Bool) (v d : Nat) : List UInt8 → Option (Nat × Nat)
  | [] => none
  | x :: r =>
    if isDig x = true then
      if 0 < d ∧ z = true then none
      else if 16384 < v * 10 + (x.toNat - 48) then none
      else lenFrom z (v * 10 + (x.toNat - 48)) (d + 1) r
    else if d = 0 ∨ x.toNat ≠ 58 then none
    else some (v, d)

def headNought (l : List UInt8) : Bool := decide (l.head? = some 48)
def rowLen (l : List UInt8) : Option (Nat × Nat) := lenFrom (headNought l) 0 0 l

/-- The row at the beginning, and what is behind it. -/
def takeL (l : List UInt8) : Option (List UInt8 × List UInt8) :=
  match rowLen l with
  | none => none
  | some (v, d) => if (l.drop (d + 1 + v)).head? = some 44 then some ((l.drop (d + 1)).take v, l.drop (d + 1 + v + 1)) else none

/-- What stands behind digits. -/
theorem lenFrom_digits (z : Bool) : ∀ (ds : List UInt8) (v d : Nat) (r : List UInt8), (∀ x ∈ ds, isDig x = true) → (z = false ∨ (d = 0 ∧ ds.length ≤ 1) ∨ ds = []) →
    (∀ k, k ≤ ds.length → (ds.take k).foldl (fun a x => a * 10 + (x.toNat - 48)) v ≤ 16384) → lenFrom z v d (ds ++ r) = lenFrom z (ds.foldl (fun a x => a * 10 + (x.toNat - 48)) v) (d + ds.length) r
  | [], v, d, r, _, _, _ => by simp
  | x :: ds, v, d, r, hd, hz, hb => by
    have h1 := hb 1 (by simp)
    simp at h1
    rw [List.cons_append, lenFrom, if_pos (hd x (List.mem_cons_self ..)), if_neg (by rintro ⟨h0, rfl⟩; rcases hz with h | ⟨h, _⟩ | h; cases h; omega; cases h), if_neg (by omega),
      lenFrom_digits z ds _ (d + 1) r (fun y hy => hd y (List.mem_cons_of_mem _ hy))
        (by
          rcases hz with h | ⟨_, h⟩ | h
          · exact .inl h
          · right; right; simp at h; exact h
          · cases h)
        (fun k hk => by have := hb (k + 1) (by simp; omega); simpa using this)]
    simp [Nat.add_assoc, Nat.add_comm 1]

theorem dec_all_digits (u : Nat) : ∀ x ∈ Lib.decDigits u, isDig x = true := by
  induction u using Nat.strongRecOn with
  | _ u ih =>
    intro x hx
    by_cases h : u < 10
    · rw [Lib.decDigits, dif_pos h] at hx
      rw [List.mem_singleton.1 hx]
      simp [isDig, UInt8.toNat_ofNat']; omega
    · rw [Lib.decDigits, dif_neg h] at hx
      rcases List.mem_append.1 hx with hx | hx
      · exact ih _ (by omega) x hx
      · rw [List.mem_singleton.1 hx]
        simp [isDig, UInt8.toNat_ofNat']; omega

theorem dec_fold (u : Nat) : (Lib.decDigits u).foldl (fun a x => a * 10 + (x.toNat - 48)) 0 = u := by
  induction u using Nat.strongRecOn with
  | _ u ih =>
    by_cases h : u < 10
    · rw [Lib.decDigits, dif_pos h]
      simp [UInt8.toNat_ofNat']; omega
    · rw [Lib.decDigits, dif_neg h, List.foldl_append, ih _ (by omega)]
      simp [UInt8.toNat_ofNat']; omega

theorem fold_mono (ds : List UInt8) : ∀ (v k : Nat), (ds.take k).foldl (fun a x => a * 10 + (x.toNat - 48)) v ≤ ds.foldl (fun a x => a * 10 + (x.toNat - 48)) v := by
  induction ds with
  | nil => intro v k; simp
  | cons x ds ih =>
    intro v k
    cases k with
    | zero =>
      simp only [List.take_zero, List.foldl_nil, List.foldl_cons]
      have h0 := ih (v * 10 + (x.toNat - 48)) 0
      simp only [List.take_zero, List.foldl_nil] at h0
      omega
    | succ k => simpa using ih _ k

theorem dec_head (u : Nat) (h : 10 ≤ u) : headNought (Lib.decDigits u) = false ∧ Lib.decDigits u ≠ [] := by
  induction u using Nat.strongRecOn with
  | _ u ih =>
    rw [Lib.decDigits, dif_neg (by omega)]
    by_cases h2 : u / 10 < 10
    · rw [Lib.decDigits, dif_pos h2]
      refine ⟨?_, by simp⟩
      simp only [headNought, List.cons_append, List.head?_cons, Option.some.injEq, decide_eq_false_iff_not]
      intro e
      have := congrArg UInt8.toNat e
      rw [UInt8.toNat_ofNat'] at this
      simp at this
      omega
    · obtain ⟨h3, h4⟩ := ih (u / 10) (by omega) (by omega)
      refine ⟨?_, by simp⟩
      cases hd : Lib.decDigits (u / 10) with
      | nil => exact absurd hd h4
      | cons a t => rw [hd] at h3; simpa [headNought] using h3

theorem dec_ne (u : Nat) : Lib.decDigits u ≠ [] := by
  by_cases h : u < 10
  · rw [Lib.decDigits, dif_pos h]; simp
  · exact (dec_head u (by omega)).2

theorem netL_eq (l : List UInt8) : netL l = Lib.decDigits l.length ++ 58 :: (l ++ [44]) := by
  unfold netL Lib.itoa
  rw [if_neg (by omega)]
  simp

theorem rowLen_net (l r : List UInt8) (h : l.length ≤ 16384) : rowLen (netL l ++ r) = some (l.length, (Lib.decDigits l.length).length) := by
  have hfold := dec_fold l.length
  have hdig := dec_all_digits l.length
  have hne := dec_ne l.length
  have hz : headNought (Lib.decDigits l.length ++ 58 :: (l ++ [44]) ++ r) = false ∨ ((0 : Nat) = 0 ∧ (Lib.decDigits l.length).length ≤ 1) ∨ Lib.decDigits l.length = [] := by
    by_cases h10 : l.length < 10
    · right; left
      rw [Lib.decDigits, dif_pos h10]
      exact ⟨rfl, by simp⟩
    · left
      obtain ⟨h1, h2⟩ := dec_head l.length (by omega)
      cases hd : Lib.decDigits l.length with
      | nil => exact absurd hd h2
      | cons a t => rw [hd] at h1; simpa [headNought] using h1
  unfold rowLen
  rw [netL_eq]
  rw [show Lib.decDigits l.length ++ 58 :: (l ++ [44]) ++ r = Lib.decDigits l.length ++ (58 :: (l ++ [44] ++ r)) from by simp] at hz ⊢
  rw [lenFrom_digits _ _ 0 0 _ hdig hz (fun k _ => Nat.le_trans (fold_mono _ 0 k) (by rw [hfold]; exact h)), hfold, lenFrom, if_neg (by decide), if_neg, Nat.zero_add]
  rintro (h0 | h0)
  · rw [Nat.zero_add] at h0
    exact hne (List.eq_nil_of_length_eq_zero h0)
  · exact h0 rfl

theorem takeL_net (l r : List UInt8) (h : l.length ≤ 16384) : takeL (netL l ++ r) = some (l, r) := by
  unfold takeL
  rw [rowLen_net l r h, netL_eq]
  simp only
  have e1 : (Lib.decDigits l.length ++ 58 :: (l ++ [44]) ++ r) = (Lib.decDigits l.length ++ [58]) ++ (l ++ (44 :: r)) := by simp
  have l1 : (Lib.decDigits l.length ++ [58]).length = (Lib.decDigits l.length).length + 1 := by simp
  have d1 : ((Lib.decDigits l.length ++ [58]) ++ (l ++ (44 :: r))).drop ((Lib.decDigits l.length).length + 1) = l ++ (44 :: r) := by
    rw [← l1]; exact List.drop_left
  have d2 : ((Lib.decDigits l.length ++ [58]) ++ (l ++ (44 :: r))).drop ((Lib.decDigits l.length).length + 1 + l.length) = 44 :: r := by
    rw [← List.drop_drop, d1]; exact List.drop_left
  have d3 : ((Lib.decDigits l.length ++ [58]) ++ (l ++ (44 :: r))).drop ((Lib.decDigits l.length).length + 1 + l.length + 1) = r := by
    rw [← List.drop_drop, d2]; rfl
  rw [e1, d2, d3, d1, List.take_left]
  simp

theorem netsL_cons (l : List UInt8) (ls : List (List UInt8)) : netsL (l :: ls) = netL l ++ netsL ls := by simp [netsL]

theorem netL_ne (l : List UInt8) : netL l ≠ [] := by rw [netL_eq]; simp

theorem netsL_inj : ∀ {a b : List (List UInt8)}, (∀ r ∈ a, r.length ≤ 1000) → (∀ r ∈ b, r.length ≤ 1000) → netsL a = netsL b → a = b
  | [], [], _, _, _ => rfl
  | [], y :: b, _, _, e => by
    rw [netsL_cons] at e
    have : netL y = [] := (List.append_eq_nil_iff.1 (show netL y ++ netsL b = [] from e.symm)).1
    exact absurd this (netL_ne y)
  | x :: a, [], _, _, e => by
    rw [netsL_cons] at e
    have : netL x = [] := (List.append_eq_nil_iff.1 (show netL x ++ netsL a = [] from e)).1
    exact absurd this (netL_ne x)
  | x :: a, y :: b, ha, hb, e => by
    rw [netsL_cons, netsL_cons] at e
    have h1 := takeL_net x (netsL a) (by have := ha x (List.mem_cons_self ..); omega)
    rw [e, takeL_net y (netsL b) (by have := hb y (List.mem_cons_self ..); omega)] at h1
    simp only [Option.some.injEq, Prod.mk.injEq] at h1
    rw [h1.1, netsL_inj (fun r hr => ha r (List.mem_cons_of_mem _ hr)) (fun r hr => hb r (List.mem_cons_of_mem _ hr)) h1.2.symm]
end Go.Proofs.Ytcajlmlblkdjoaa
