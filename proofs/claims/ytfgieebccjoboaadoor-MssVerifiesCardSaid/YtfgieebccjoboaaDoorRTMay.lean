/- Where two unlike ways, two unlike rows have one root there is a break, and what is given is one. A leaf's own proof leads to the root; a root is its halves' node. -/
import Derived.Test.YtfgieebccjoboaaDoorRTUnlike
import Derived.Test.YtfgieebccjoboaaDoorNet
import Derived.Test.YtfgieebccjoboaaDoorTreeC
namespace Go.Proofs.YtfgieebccjoboaaDoor
open Go.RowKit

theorem colon_split : ∀ (ds es r s : List UInt8), (∀ x ∈ ds, isDig x = true) → (∀ x ∈ es, isDig x = true) → ds ++ 58 :: r = es ++ 58 :: s → ds = es ∧ r = s
  | [], [], r, s, _, _, e => by simp at e; exact ⟨rfl, e⟩
  | [], y :: es, r, s, _, he, e => by
    simp at e
    have := he y (List.mem_cons_self ..)
    rw [← e.1] at this
    exact absurd this (by decide)
  | x :: ds, [], r, s, hd, _, e => by
    simp at e
    have := hd x (List.mem_cons_self ..)
    rw [e.1] at this
    exact absurd this (by decide)
  | x :: ds, y :: es, r, s, hd, he, e => by
    simp at e
    obtain ⟨h1, h2⟩ := colon_split ds es r s (fun z hz => hd z (List.mem_cons_of_mem _ hz)) (fun z hz => he z (List.mem_cons_of_mem _ hz)) e.2
    exact ⟨by rw [e.1, h1], h2⟩
theorem netL_split {a b x y : List UInt8} (e : netL a ++ x = netL b ++ y) : a = b ∧ x = y := by
  rw [netL_eq, netL_eq] at e
  simp only [List.append_assoc, List.cons_append, List.nil_append] at e
  obtain ⟨h1, h2⟩ := colon_split _ _ _ _ (dec_all_digits _) (dec_all_digits _) e
  have hl : a.length = b.length := by
    have := congrArg (fun l : List UInt8 => l.foldl (fun a x => a * 10 + (x.toNat - 48)) 0) h1
    simpa only [dec_fold] using this
  obtain ⟨h3, h4⟩ := List.append_inj h2 hl
  refine ⟨h3, ?_⟩
  simpa using h4
theorem nodeT_inj (a b c e : List UInt8) (h : nodeT a b = nodeT c e) : a = c ∧ b = e := by
  unfold nodeT at h
  simp only [netsL_cons] at h
  obtain ⟨_, h⟩ := netL_split h
  obtain ⟨h1, h⟩ := netL_split h
  obtain ⟨h2, _⟩ := netL_split h
  exact ⟨h1, h2⟩
theorem isBr_of {s t : List UInt8} (h : s ≠ t) (h2 : shaL s = shaL t) : isBr (s, t) = true := by
  unfold isBr
  simp [h, h2]
theorem isBr_said {x : List UInt8 × List UInt8} (h : isBr x = true) : x.1 ≠ x.2 ∧ shaL x.1 = shaL x.2 := by
  unfold isBr at h
  simpa using h
theorem brkV_must {n i : Int} {a b : List UInt8} {p q : List (List UInt8)} (h : brkOK n i a b p q) : ∃ x, brkV n i a b p q = some x ∧ isBr x = true := by
  obtain ⟨k1, k2, k3, k4⟩ := id h
  have hc : climbH i.toNat a p = climbH i.toNat b q := by
    unfold climbV at k3
    rwa [if_pos k1, if_pos k2] at k3
  have hl : p.length = q.length := by
    have e1 := k1.2.2.2
    have e2 := k2.2.2.2
    omega
  obtain ⟨k, s, t, h1, h2, h3, h4⟩ := tree.way_break nodeT shaL nodeT_inj p q i.toNat a b hl hc k4
  have hm : (s, t) ∈ (wayH i.toNat a p).zip (wayH i.toNat b q) := List.mem_of_getElem? (List.getElem?_zip_eq_some.2 ⟨h1, h2⟩)
  have hs : (lastBr (wayH i.toNat a p) (wayH i.toNat b q)).isSome = true := by
    unfold lastBr
    rw [List.find?_isSome]
    exact ⟨(s, t), List.mem_reverse.2 hm, isBr_of h3 h4⟩
  obtain ⟨x, hx⟩ := Option.isSome_iff_exists.1 hs
  exact ⟨x, by unfold brkV; rw [if_pos h]; exact hx, List.find?_some hx⟩
theorem brkV_isSome (n i : Int) (a b : List UInt8) (p q : List (List UInt8)) : (brkV n i a b p q).isSome = decide (brkOK n i a b p q) := by
  by_cases h : brkOK n i a b p q
  · obtain ⟨x, hx, _⟩ := brkV_must h
    rw [hx, decide_eq_true h]; rfl
  · rw [decide_eq_false h]
    unfold brkV
    rw [if_neg h]; rfl
theorem seekBr_must (R S : List (List UInt8)) : ∀ (K j i : Nat) (s t : List UInt8), j < K → (textsH (upNH j R))[i]? = some s → (textsH (upNH j S))[i]? = some t → isBr (s, t) = true → ∃ x, seekBr K R S = some x ∧ isBr x = true
  | 0, j, _, _, _, h, _, _, _ => by omega
  | K + 1, j, i, s, t, hj, h1, h2, h3 => by
    cases hf : firstBr (textsH (upNH K R)) (textsH (upNH K S)) with
    | some x => exact ⟨x, by unfold seekBr; rw [hf]; rfl, List.find?_some hf⟩
    | none =>
      have hne : j ≠ K := by
        rintro rfl
        have hm : (s, t) ∈ (textsH (upNH j R)).zip (textsH (upNH j S)) := List.mem_of_getElem? (List.getElem?_zip_eq_some.2 ⟨h1, h2⟩)
        have := List.find?_eq_none.1 hf _ hm
        exact this h3
      obtain ⟨x, hx, hb⟩ := seekBr_must R S K j i s t (by omega) h1 h2 h3
      exact ⟨x, by unfold seekBr; rw [hf]; exact hx, hb⟩
theorem unlV_must {l k : List (List UInt8)} (h : unlOK l k) : ∃ x, unlV l k = some x ∧ isBr x = true := by
  obtain ⟨h1, h2, h3⟩ := id h
  have hne : rowH l ≠ rowH k := by
    intro e
    unfold rowH tree.row at e
    exact h2 (List.append_inj e h1).1
  unfold rootV at h3
  rw [← h1] at h3
  obtain ⟨j, hj, i, s, t, k1, k2, k3, k4⟩ := tree.rows_break nodeT shaL nodeT_inj [] (tree.high l.length) (rowH l) (rowH k) (rowH_len l) (by rw [rowH_len, h1]) h3 hne
  obtain ⟨x, hx, hb⟩ := seekBr_must (rowH l) (rowH k) (tree.high l.length) j i s t hj k1 k2 (isBr_of k3 k4)
  exact ⟨x, by unfold unlV; rw [if_pos h]; exact hx, hb⟩
theorem unlV_isSome (l k : List (List UInt8)) : (unlV l k).isSome = decide (unlOK l k) := by
  by_cases h : unlOK l k
  · obtain ⟨x, hx, _⟩ := unlV_must h
    rw [hx, decide_eq_true h]; rfl
  · rw [decide_eq_false h]
    unfold unlV
    rw [if_neg h]; rfl
end Go.Proofs.YtfgieebccjoboaaDoor
namespace Go.Proofs.YtfgieebccjoboaaDoor
open Go.RowKit

/-- The proof of leaf i. -/
def proofV (l : List (List UInt8)) (i : Nat) : List (List UInt8) := proofH (tree.high l.length) i (rowH l)
theorem proofV_len (l : List (List UInt8)) (i : Nat) : (proofV l i).length = tree.high l.length := proofH_len _ _ _
theorem rowH_at {l : List (List UInt8)} {i : Nat} (h : i < l.length) : (rowH l).getD i [] = l.getD i [] := by
  unfold rowH tree.row
  simp [List.getD_eq_getElem?_getD, List.getElem?_append_left h]
theorem own_way {l : List (List UInt8)} {i : Nat} (h : i < l.length) : climbH i (l.getD i []) (proofV l i) = rootV l := by
  have hi : i < 2 ^ tree.high l.length := Nat.lt_of_lt_of_le h (tree.high_le _)
  have := tree.climb_proof nodeT shaL [] (tree.high l.length) (rowH l) i (rowH_len l) hi
  rw [rowH_at h] at this
  exact this
theorem own_ok {l : List (List UInt8)} {i : Nat} (h : i < l.length) (h2 : l.length ≤ 256) : climbOK (l.length : Int) (i : Int) (proofV l i).length :=
  ⟨by omega, by omega, by omega, by rw [proofV_len, Int.toNat_natCast]⟩
theorem own_climb {l : List (List UInt8)} {i : Nat} (h : i < l.length) (h2 : l.length ≤ 256) : climbV (l.length : Int) (i : Int) (l.getD i []) (proofV l i) = rootV l := by
  unfold climbV
  rw [if_pos (own_ok h h2), Int.toNat_natCast]
  exact own_way h
theorem rowH_pow {l : List (List UInt8)} {k : Nat} (h : l.length = 2 ^ k) : rowH l = l := by
  unfold rowH tree.row tree.pad
  rw [h, tree.high_pow, Nat.sub_self, List.replicate_zero, List.append_nil]
theorem root_two {a b : List (List UInt8)} {k : Nat} (ha : a.length = 2 ^ k) (hb : b.length = 2 ^ k) : rootV (a ++ b) = nodeH (rootV a) (rootV b) := by
  have hab : (a ++ b).length = 2 ^ (k + 1) := by rw [List.length_append, ha, hb, Nat.pow_succ]; omega
  unfold rootV
  rw [rowH_pow hab, rowH_pow ha, rowH_pow hb, hab, ha, hb, tree.high_pow, tree.high_pow]
  exact tree.root_halves nodeT shaL [] k a b ha hb
theorem root_one (x : List UInt8) : rootV [x] = x := by
  have h : ([x] : List (List UInt8)).length = 2 ^ 0 := rfl
  unfold rootV
  rw [rowH_pow h, h, tree.high_pow]
  rfl
/-- Another leaf, other hashes on the way to the own root: a break. -/
theorem brk_own {l : List (List UInt8)} {i : Nat} (h : i < l.length) (h2 : l.length ≤ 256) {x : List UInt8} {q : List (List UInt8)} (hq : climbOK (l.length : Int) (i : Int) q.length) (hr : climbV (l.length : Int) (i : Int) x q = rootV l) (hne : ¬ (l.getD i [] = x ∧ proofV l i = q)) :
    brkOK (l.length : Int) (i : Int) (l.getD i []) x (proofV l i) q := ⟨own_ok h h2, hq, (own_climb h h2).trans hr.symm, hne⟩
end Go.Proofs.YtfgieebccjoboaaDoor
