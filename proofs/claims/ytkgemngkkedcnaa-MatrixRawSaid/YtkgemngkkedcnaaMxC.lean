/- Helps for MatrixRaw: numbers cut short; questions and answers on values. -/
import Derived.Test.YtkgemngkkedcnaaMxP
import Derived.Test.YtkgemngkkedcnaaRMCut
namespace Go.Proofs.Ytkgemngkkedcnaa
open Go.RowKit

set_option maxHeartbeats 400000 in
theorem cutI_any (A : Option Addr) (n c k : Nat) (w : World) (hc : n ≤ c) :
    Calls Try.prog 25 #[.slice A n c, .int .i64 (k : Int)] w fun e w' => e = .returned (.slice A (min n k) c) ∧ w = w' := by
  by_cases hle : n ≤ k
  · have HR := Lib.hid (show min n k = n from Nat.min_eq_left hle)
    rw [HR.out]
    have hmn : (min (n : Int) (k : Int)).toNat = n := by omega
    go_enter Try.func25, Try.ntmps25
    go_wp2
    go_ret
    exact ⟨rfl, rfl⟩
  · have HR := Lib.hid (show min n k = k from Nat.min_eq_right (by omega))
    rw [HR.out]
    have hmn : (min (n : Int) (k : Int)).toNat = k := by omega
    go_enter Try.func25, Try.ntmps25
    go_wp2
    go_ret
    exact ⟨rfl, rfl⟩
theorem IV.len {w : World} {X : Option Addr} {n c : Nat} {ns : List Int} (h : IV w (.slice X n c) ns) : n = ns.length := by
  obtain ⟨Y, d, e, _⟩ := h
  injection e
theorem RdI.take {w : World} {B : Nat} {A : Option Addr} {ns : List Int} (h : RdI w B A ns) (k : Nat) : RdI w B A (ns.take k) := by
  rcases h with rfl | ⟨b, off, hA, hb, hc⟩
  · exact .inl (by simp)
  · exact .inr ⟨b, off, hA, hb, fun i hi => by
      rw [List.length_take] at hi
      rw [List.getElem_take]
      exact hc i (by omega)⟩
theorem mmay {w : World} {x : Value} {ls : List (List UInt8)} (hx : MV w x ls) :
    Calls Try.prog 26 #[x] w fun e w' => e = .returned (.bool (decide (IsMx ls))) ∧ Below w.heap.size w w' := by
  obtain ⟨X, c, rfl, _, hX⟩ := hx
  exact (rmay_any X _ c ls w rfl hX).mono fun _ _ ⟨he, q, hq⟩ => ⟨he, by rw [hq]; exact below_drewN (Below.refl _ _) q⟩
/-- The first row of a matrix, in memory. -/
theorem MV.row {w : World} {X : Option Addr} {n c i : Nat} {ls : List (List UInt8)} (h : MV w (.slice X n c) ls) (hi : i < n) : ∃ b off A1 c1, X = some ⟨b, off, none⟩ ∧ b < w.heap.size ∧ w.cell? ⟨b, off + i, none⟩ = some (.slice A1 (ls.getD i []).length c1) ∧ (ls.getD i []).length ≤ c1 ∧ c1 ≤ maxLen ∧ Rd w w.heap.size A1 (ls.getD i []) := by
  obtain ⟨Y, d, e, _, hY⟩ := h
  injection e with e1 e2 e3
  subst e1 e2 e3
  obtain ⟨b, off, A1, c1, h1, h2, h3, h4, h5, h6⟩ := hY.at_ i hi
  have hg : ls.getD i [] = ls[i] := by simp [List.getD_eq_getElem?_getD, hi]
  rw [hg]
  exact ⟨b, off, A1, c1, h1, h2, h3, h4, h5, h6⟩
theorem mprod {w : World} {x y : Value} {ls ks : List (List UInt8)} (hx : MV w x ls) (hy : MV w y ks) (h : mulOK ls ks) :
    Calls Try.prog 27 #[x, y] w fun e w' => ∃ v, e = .returned v ∧ MV w' v (mulL ls ks) ∧ Below w.heap.size w w' := by
  obtain ⟨X, c, rfl, _, hX⟩ := hx
  obtain ⟨Y, d, rfl, _, hY⟩ := hy
  obtain ⟨h1, h2, h3⟩ := h
  have hl0 : 0 < ls.length := h1.1
  have hk0 : 0 < ks.length := h2.1
  have hrow : ∀ r ∈ ls, r.length = ks.length := fun r hr => by
    obtain ⟨i, hi, rfl⟩ := List.getElem_of_mem hr
    rw [← h3]; exact (h1.2.2 i hi).2.2
  have hrow2 : ∀ r ∈ ks, r.length = (ks.getD 0 []).length := fun r hr => by
    obtain ⟨i, hi, rfl⟩ := List.getElem_of_mem hr
    exact (h2.2.2 i hi).2.2
  have hm : (ks.getD 0 []).length ≤ 16 := by
    have := h2.2.2 0 hk0
    rw [← this.2.2]; exact this.2.1
  have hml : mulL ls ks = rowsL (mmN ks.length (entM ls) (entM ks)) 0 (ks.getD 0 []).length ls.length := if_pos ⟨h1, h2, h3⟩
  rw [hml]
  exact (rprod_any X Y _ _ _ c d ls ks w rfl hrow rfl hrow2 hk0 (Nat.le_trans h1.2.1 (by decide)) (Nat.le_trans h2.2.1 (by decide)) (Nat.le_trans hm (by decide)) hX hY).mono fun _ _ ⟨_, _, he, hc, hR, hb⟩ => ⟨_, he, MV.mk (rowsL_len _ _ _ _) hc hR, hb⟩
theorem mulL_small (ls ks : List (List UInt8)) : (mulL ls ks).length ≤ 1000 ∧ ∀ r ∈ mulL ls ks, r.length ≤ 1000 := by
  unfold mulL
  split
  · next h =>
    have h2 := h.2.1.2.2 0 h.2.1.1
    exact rowsL_small _ _ _ _ (Nat.le_trans h.1.2.1 (by decide)) (by rw [← h2.2.2]; exact Nat.le_trans h2.2.1 (by decide))
  · exact ⟨by simp, fun r hr => by cases hr⟩
theorem rowsS_small (ls : List (List UInt8)) (ns : List Int) (h : ns.length ≤ 8) : (rowsS ls ns).length ≤ 1000 ∧ ∀ r ∈ rowsS ls ns, r.length ≤ 1000 := by
  unfold rowsS
  split
  · next hk =>
    refine ⟨by rw [List.length_map]; omega, fun r hr => ?_⟩
    obtain ⟨n, hn, rfl⟩ := List.mem_map.1 hr
    obtain ⟨i, hi, rfl⟩ := List.getElem_of_mem hn
    have hb := hk.2.2 i hi
    have hl : ns[i].toNat < ls.length := by omega
    rw [List.getD_eq_getElem?_getD, List.getElem?_eq_getElem hl]
    have := (hk.1.2.2 _ hl).2.1
    show ls[ns[i].toNat].length ≤ 1000
    omega
  · exact ⟨by simp, fun r hr => by cases hr⟩
/-- The image's first i bytes. -/
def applyTo (ls : List (List UInt8)) (v : List UInt8) (i : Nat) : List UInt8 := (List.range i).map (mvN v.length (entM ls) fun j => v.getD j 0)
theorem applyTo_len (ls : List (List UInt8)) (v : List UInt8) (i : Nat) : (applyTo ls v i).length = i := by simp [applyTo]
theorem applyTo_succ (ls : List (List UInt8)) (v : List UInt8) (i : Nat) : applyTo ls v (i + 1) = applyTo ls v i ++ [mvN v.length (entM ls) (fun j => v.getD j 0) i] := by simp [applyTo, List.range_succ]
theorem row_dot {ls : List (List UInt8)} {v : List UInt8} {i : Nat} (h : (ls.getD i []).length = v.length) : dotU (ls.getD i []) v (min (ls.getD i []).length v.length) = mvN v.length (entM ls) (fun j => v.getD j 0) i := by
  rw [h, Nat.min_self, dotU_sum]
  rfl
end Go.Proofs.Ytkgemngkkedcnaa
