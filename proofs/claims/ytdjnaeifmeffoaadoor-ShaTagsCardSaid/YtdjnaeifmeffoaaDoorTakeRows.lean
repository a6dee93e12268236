/- Rows that are written are taken all at once; one more or fewer is none; cut anywhere they are none. -/
import Derived.Test.YtdjnaeifmeffoaaDoorCutNet
import Derived.Test.YtdjnaeifmeffoaaDoorTakeNets
namespace Go.Proofs.YtdjnaeifmeffoaaDoor
open Go.RowKit

theorem takeL_nil : takeL [] = none := rfl

theorem takesL_nets : ∀ (k : Nat) (ls : List (List UInt8)), (∀ r ∈ ls, r.length ≤ 1000) → takesL k (netsL ls) = if k = ls.length then some ls else none
  | 0, [], _ => rfl
  | 0, x :: ls, _ => by
    rw [takesL, if_neg, if_neg (by simp)]
    rw [netsL_cons]
    exact fun e => netL_ne x (List.append_eq_nil_iff.1 e).1
  | k + 1, [], _ => by
    rw [if_neg (by simp), takesL, show netsL [] = [] from rfl, takeL_nil]
  | k + 1, x :: ls, h => by
    rw [takesL, netsL_cons, takeL_net x _ (by have := h x (List.mem_cons_self ..); omega)]
    simp only
    rw [takesL_nets k ls (fun r hr => h r (List.mem_cons_of_mem _ hr))]
    by_cases hk : k = ls.length
    · rw [if_pos hk, if_pos (by simp [hk])]; rfl
    · rw [if_neg hk, if_neg (by simpa using hk)]; rfl

theorem headNought_app (u : Nat) (r : List UInt8) : headNought (Lib.decDigits u ++ r) = false ∨ (Lib.decDigits u).length ≤ 1 := by
  by_cases h10 : u < 10
  · right
    rw [Lib.decDigits, dif_pos h10]; simp
  · left
    obtain ⟨h1, h2⟩ := dec_head u (by omega)
    cases hd : Lib.decDigits u with
    | nil => exact absurd hd h2
    | cons a t => rw [hd] at h1; simpa [headNought] using h1

theorem rowLen_dec (u : Nat) (r : List UInt8) (h : u ≤ 16384) : rowLen (Lib.decDigits u ++ 58 :: r) = some (u, (Lib.decDigits u).length) := by
  have hfold := dec_fold u
  have hdig := dec_all_digits u
  have hne := dec_ne u
  unfold rowLen
  rw [lenFrom_digits _ _ 0 0 _ hdig (by rcases headNought_app u (58 :: r) with h | h; exact .inl h; exact .inr (.inl ⟨rfl, h⟩)) (fun k _ => Nat.le_trans (fold_mono _ 0 k) (by rw [hfold]; exact h)), hfold, lenFrom, if_neg (by decide), if_neg, Nat.zero_add]
  rintro (h0 | h0)
  · rw [Nat.zero_add] at h0
    exact hne (List.eq_nil_of_length_eq_zero h0)
  · exact h0 rfl

theorem rowLen_some_digits (u p : Nat) (h : u ≤ 16384) (hp : p ≤ (Lib.decDigits u).length) : rowLen ((Lib.decDigits u).take p) = none := by
  have hfold := dec_fold u
  have hdig := dec_all_digits u
  unfold rowLen
  rw [← List.append_nil ((Lib.decDigits u).take p)]
  have hz : headNought ((Lib.decDigits u).take p ++ []) = false ∨ ((0 : Nat) = 0 ∧ ((Lib.decDigits u).take p).length ≤ 1) ∨ (Lib.decDigits u).take p = [] := by
    rcases headNought_app u [] with h' | h'
    · rw [List.append_nil] at h' ⊢
      cases p with
      | zero => right; right; simp
      | succ p =>
        left
        cases hd : Lib.decDigits u with
        | nil => rfl
        | cons a t => rw [hd] at h'; simpa [headNought] using h'
    · right; left
      refine ⟨rfl, ?_⟩
      rw [List.length_take]; omega
  rw [lenFrom_digits _ ((Lib.decDigits u).take p) 0 0 [] (fun x hx => hdig x (List.mem_of_mem_take hx)) hz (fun k _ => ?_)]
  · rfl
  · rw [List.take_take]
    exact Nat.le_trans (fold_mono _ 0 _) (by rw [hfold]; exact h)

theorem takeL_cut (l : List UInt8) (p : Nat) (h : l.length ≤ 1000) (hp : p < (netL l).length) : takeL ((netL l).take p) = none := by
  rw [netL_eq] at hp ⊢
  by_cases h1 : p ≤ (Lib.decDigits l.length).length
  · rw [List.take_append_of_le_length h1]
    exact takeL_none (rowLen_some_digits _ _ (by omega) h1)
  · obtain ⟨q, rfl⟩ : ∃ q, p = (Lib.decDigits l.length).length + (q + 1) := ⟨p - (Lib.decDigits l.length).length - 1, by omega⟩
    rw [List.take_length_add_append, List.take_succ_cons]
    refine takeL_short (rowLen_dec l.length _ (by omega)) ?_
    simp only [List.length_append, List.length_cons, List.length_take, List.length_nil] at hp ⊢
    omega

theorem takesL_cut : ∀ (ls : List (List UInt8)) (p : Nat), (∀ r ∈ ls, r.length ≤ 1000) → p < (netsL ls).length → takesL ls.length ((netsL ls).take p) = none
  | [], p, _, h => by simp [netsL] at h
  | x :: ls, p, h, hp => by
    have hx := h x (List.mem_cons_self ..)
    rw [netsL_cons] at hp ⊢
    rw [List.length_cons, takesL]
    by_cases h1 : p < (netL x).length
    · rw [List.take_append_of_le_length (by omega), takeL_cut x p hx h1]
    · obtain ⟨q, rfl⟩ : ∃ q, p = (netL x).length + q := ⟨p - (netL x).length, by omega⟩
      rw [List.take_length_add_append, takeL_net x _ (by omega)]
      simp only
      rw [takesL_cut ls q (fun r hr => h r (List.mem_cons_of_mem _ hr)) (by rw [List.length_append] at hp; omega)]
      rfl

/-- What stands behind the first k rows. -/
theorem netsL_drop (ls : List (List UInt8)) (k : Nat) (h : k < ls.length) : netsL (ls.drop k) = netL ls[k] ++ netsL (ls.drop (k + 1)) := by
  rw [List.drop_eq_getElem_cons h, netsL_cons]

theorem takeL_drop (ls : List (List UInt8)) (k : Nat) (h : k < ls.length) (hr : ∀ r ∈ ls, r.length ≤ 1000) : takeL (netsL (ls.drop k)) = some (ls[k], netsL (ls.drop (k + 1))) := by
  rw [netsL_drop ls k h, takeL_net _ _ (by have := hr ls[k] (List.getElem_mem h); omega)]
theorem netsL_ne (ls : List (List UInt8)) (h : ls ≠ []) : 0 < (netsL ls).length := by
  cases ls with
  | nil => exact absurd rfl h
  | cons x ls => rw [netsL_cons, netL_eq]; simp; omega
end Go.Proofs.YtdjnaeifmeffoaaDoor
