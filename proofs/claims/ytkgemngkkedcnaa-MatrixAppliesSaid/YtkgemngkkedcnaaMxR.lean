/- The document's own answers on matrices, on values that read as rows. -/
import Derived.Test.YtkgemngkkedcnaaWakes5
import Derived.Test.YtkgemngkkedcnaaRMInv
import Derived.Test.YtkgemngkkedcnaaRMVan
import Derived.Test.YtkgemngkkedcnaaRMProd
namespace Go.Proofs.Ytkgemngkkedcnaa
open Go.RowKit

theorem mrinv {w : World} {x : Value} {N : Nat} {ls : List (List UInt8)} (hx : MV w x ls) (hs : SqL N ls) (h1 : 1 ≤ N) (h16 : N ≤ 16) :
    Calls Try.prog 29 #[x] w fun e w' => ∃ v ok rs, e = .returned (.tuple #[v, .bool ok]) ∧ ((ok = true ∧ SqL N rs ∧ IsInv N (entM ls) (entM rs)) ∨ (ok = false ∧ rs = [] ∧ ¬ Faithful N (entM ls))) ∧ MV w' v rs ∧ Below w.heap.size w w' := by
  obtain ⟨X, c, rfl, _, hX⟩ := hx
  obtain ⟨rfl, hr⟩ := hs
  refine (rminv_any X _ c ls w rfl hr h1 h16 hX).mono ?_
  rintro e w' ⟨⟨rs, q1, q2, q3, Y, d, rfl, q4, q5⟩ | ⟨rfl, q1⟩, hb⟩
  · exact ⟨_, true, rs, rfl, .inl ⟨rfl, ⟨q1, q2⟩, q3⟩, MV.mk q1 q4 q5, hb⟩
  · exact ⟨_, false, [], rfl, .inr ⟨rfl, rfl, q1⟩, MV.mk rfl (Nat.le_refl _) (.inl rfl), hb⟩
theorem msquare2 (A : Option Addr) (z c n m : Nat) (l : List UInt8) (w : World) (hl : l.length = z) (hz : z ≤ maxLen) (hn : n ≤ 16) (hm : m ≤ 16) (hr : Rd w w.heap.size A l) :
    Calls Try.prog 11 #[.slice A z c, .int .i64 (n : Int), .int .i64 (m : Int)] w fun e w' => ∃ v, e = .returned v ∧ MV w' v (rowsL (sqM l m) 0 m n) ∧ Below w.heap.size w w' :=
  (square_any A z c n m l w hl hz (by omega) (by omega) hr).mono fun _ _ ⟨_, _, he, hc, hR, hb⟩ => ⟨_, he, MV.mk (rowsL_len _ _ _ _) hc hR, hb⟩
theorem not_square {f : Mx} {n m : Nat} (h1 : 1 ≤ n) (hne : n ≠ m) : ¬ sqOK (rowsL f 0 m n) := fun h => by
  have h2 := h.2
  have hl : 0 < (rowsL f 0 m n).length := by rw [rowsL_len]; exact h1
  rw [rowsL_len, List.getD_eq_getElem?_getD, List.getElem?_eq_getElem hl] at h2
  have := rowsL_rows f 0 m n _ (List.getElem_mem hl)
  exact hne (h2.trans this)
theorem inv_not {ls rs : List (List UInt8)} {er : Int} (h : InvSpec ls er rs) (hn : ¬ sqOK ls) : er = 1 ∧ rs = [] := by
  rcases h with ⟨_, h⟩ | ⟨h, _⟩ | ⟨h, _⟩
  · exact h
  · exact absurd h hn
  · exact absurd h hn
theorem mrunit (n : Int) (w : World) : Calls Try.prog 20 #[.int .i64 n] w fun e w' => ∃ v, e = .returned v ∧ MV w' v (unitL n) ∧ Below w.heap.size w w' := by
  by_cases h : 1 ≤ n ∧ n ≤ 16
  · obtain ⟨N, rfl⟩ : ∃ N : Nat, n = (N : Int) := ⟨n.toNat, by omega⟩
    rw [unitL_nat (by omega) (by omega)]
    exact (runit_any N w (by omega)).mono fun _ _ ⟨_, _, he, hc, hR, hb⟩ => ⟨_, he, MV.mk (rowsL_len _ _ _ _) hc hR, hb⟩
  · rw [show unitL n = [] from if_neg h]
    exact (runit_no n w (by omega)).mono fun _ _ ⟨he, hw⟩ => ⟨_, he, MV.mk rfl (Nat.le_refl _) (.inl rfl), by rw [hw]; exact Below.refl _ _⟩
theorem mrvan (n k : Int) (w : World) : Calls Try.prog 22 #[.int .i64 n, .int .i64 k] w fun e w' => ∃ v, e = .returned v ∧ MV w' v (vanL n k) ∧ Below w.heap.size w w' := by
  by_cases h : 1 ≤ n ∧ n ≤ 16 ∧ 1 ≤ k ∧ k ≤ 16
  · obtain ⟨N, rfl⟩ : ∃ N : Nat, n = (N : Int) := ⟨n.toNat, by omega⟩
    obtain ⟨K, rfl⟩ : ∃ K : Nat, k = (K : Int) := ⟨k.toNat, by omega⟩
    rw [show vanL (N : Int) (K : Int) = rowsL vdM 0 K N by unfold vanL; rw [if_pos h, Int.toNat_natCast, Int.toNat_natCast]]
    exact (rvander_any N K w (by omega) (by omega) (by omega) (by omega)).mono fun _ _ ⟨_, _, he, hc, hR, hb⟩ => ⟨_, he, MV.mk (rowsL_len _ _ _ _) hc hR, hb⟩
  · rw [show vanL n k = [] from if_neg h]
    exact (rvander_no n k w h).mono fun _ _ ⟨he, hw⟩ => ⟨_, he, MV.mk rfl (Nat.le_refl _) (.inl rfl), by rw [hw]; exact Below.refl _ _⟩
theorem rowsL_small (f : Mx) (o m n : Nat) (hn : n ≤ 1000) (hm : m ≤ 1000) : (rowsL f o m n).length ≤ 1000 ∧ ∀ r ∈ rowsL f o m n, r.length ≤ 1000 := ⟨by rw [rowsL_len]; exact hn, fun r hr => by rw [rowsL_rows f o m n r hr]; exact hm⟩
theorem unitL_small (n : Int) : (unitL n).length ≤ 1000 ∧ ∀ r ∈ unitL n, r.length ≤ 1000 := by
  unfold unitL
  split
  · exact rowsL_small _ _ _ _ (by omega) (by omega)
  · exact ⟨by simp, fun r hr => by cases hr⟩
theorem vanL_small (n k : Int) : (vanL n k).length ≤ 1000 ∧ ∀ r ∈ vanL n k, r.length ≤ 1000 := by
  unfold vanL
  split
  · exact rowsL_small _ _ _ _ (by omega) (by omega)
  · exact ⟨by simp, fun r hr => by cases hr⟩
theorem samerows {w : World} {x y : Value} {ls : List (List UInt8)} (hs : ls.length ≤ 1000 ∧ ∀ r ∈ ls, r.length ≤ 1000) (hx : MV w x ls) (hy : MV w y ls) :
    Calls Try.prog 17 #[x, y] w fun e w' => e = .returned (.bool true) ∧ Below w.heap.size w w' := by
  have := mvrows hx hy hs.1 hs.2
  rwa [decide_eq_true rfl] at this
end Go.Proofs.Ytkgemngkkedcnaa
