/- Values that read as rows, or as bytes, held against one another. -/
import Derived.Test.YtdaofffkbnkljaaMxL
import Derived.Test.YtdaofffkbnkljaaRowsCmp
import Derived.Test.YtdaofffkbnkljaaSame
namespace Go.Proofs.Ytdaofffkbnkljaa
open Go.RowKit

theorem mveq {w : World} {x y : Value} {ls ks : List (List UInt8)} (hx : MV w x ls) (hy : MV w y ks) (h1 : ls.length ≤ 1000) (h2 : ∀ r ∈ ls, r.length ≤ 100000) :
    Calls Try.prog 16 #[x, y] w fun e w' => e = .returned (.bool (decide (ls = ks))) ∧ Below w.heap.size w w' := by
  obtain ⟨X, c, rfl, _, hX⟩ := hx
  obtain ⟨Y, d, rfl, _, hY⟩ := hy
  exact (rows_any X Y _ _ c d _ _ ls ks w rfl rfl (Nat.le_trans h1 (by decide)) hX hY (fun r hr => Nat.le_trans (h2 r hr) (by decide))).mono fun _ _ ⟨he, q, hq⟩ => ⟨he, by rw [hq]; exact below_drewN (Below.refl _ _) q⟩
theorem mveq_yes {w : World} {x y : Value} {ls : List (List UInt8)} (hx : MV w x ls) (hy : MV w y ls) (h1 : ls.length ≤ 1000) (h2 : ∀ r ∈ ls, r.length ≤ 100000) :
    Calls Try.prog 16 #[x, y] w fun e w' => e = .returned (.bool true) ∧ Below w.heap.size w w' := by
  have := mveq hx hy h1 h2
  rwa [decide_eq_true rfl] at this
theorem bveq {w : World} {x y : Value} {l k : List UInt8} (hx : BV w x l) (hy : BV w y k) (h1 : l.length ≤ 100000) :
    Calls Try.prog 20 #[x, y] w fun e w' => e = .returned (.bool (decide (l = k))) ∧ Below w.heap.size w w' := by
  obtain ⟨X, c, rfl, _, hX⟩ := hx
  obtain ⟨Y, d, rfl, _, hY⟩ := hy
  exact (same_any X Y _ _ c d _ _ l k w rfl rfl (Nat.le_trans h1 (by decide)) hX hY).mono fun _ _ ⟨he, q, hq⟩ => ⟨he, by rw [hq]; exact below_drewN (Below.refl _ _) q⟩
theorem bveq_yes {w : World} {x y : Value} {l : List UInt8} (hx : BV w x l) (hy : BV w y l) (h1 : l.length ≤ 100000) :
    Calls Try.prog 20 #[x, y] w fun e w' => e = .returned (.bool true) ∧ Below w.heap.size w w' := by
  have := bveq hx hy h1
  rwa [decide_eq_true rfl] at this
/-- A row, in memory. -/
theorem MV.rowAt {w : World} {X : Option Addr} {n c i : Nat} {ls : List (List UInt8)} (h : MV w (.slice X n c) ls) (hi : i < n) : ∃ b off A1 c1, X = some ⟨b, off, none⟩ ∧ b < w.heap.size ∧ w.cell? ⟨b, off + i, none⟩ = some (.slice A1 (ls.getD i []).length c1) ∧ (ls.getD i []).length ≤ c1 ∧ c1 ≤ maxLen ∧ Rd w w.heap.size A1 (ls.getD i []) := by
  obtain ⟨Y, d, e, _, hY⟩ := h
  injection e with e1 e2 e3
  subst e1 e2 e3
  obtain ⟨b, off, A1, c1, h1, h2, h3, h4, h5, h6⟩ := hY.at_ i hi
  have hg : ls.getD i [] = ls[i] := by simp [List.getD_eq_getElem?_getD, hi]
  rw [hg]
  exact ⟨b, off, A1, c1, h1, h2, h3, h4, h5, h6⟩
theorem MV.form {w : World} {v : Value} {ls : List (List UInt8)} {n : Nat} (h : MV w v ls) (hn : ls.length = n) : ∃ X c, v = .slice X n c ∧ n ≤ c := by
  obtain ⟨X, c, h1, h2, _⟩ := h
  subst hn
  exact ⟨X, c, h1, h2⟩
theorem BV.form {w : World} {v : Value} {l : List UInt8} {n : Nat} (h : BV w v l) (hn : l.length = n) : ∃ X c, v = .slice X n c ∧ n ≤ c := by
  obtain ⟨X, c, h1, h2, _⟩ := h
  subst hn
  exact ⟨X, c, h1, h2⟩
theorem BV.rd {w : World} {X : Option Addr} {n c : Nat} {l : List UInt8} (h : BV w (.slice X n c) l) : l.length = n ∧ n ≤ c ∧ Rd w w.heap.size X l := by
  obtain ⟨Y, d, e, h1, h2⟩ := h
  injection e with e1 e2 e3
  subst e1 e2 e3
  exact ⟨rfl, h1, h2⟩
theorem BV.of {w : World} {X : Option Addr} {n c : Nat} {l : List UInt8} (hl : l.length = n) (hc : n ≤ c) (h : Rd w w.heap.size X l) : BV w (.slice X n c) l := by
  subst hl; exact ⟨X, c, rfl, hc, h⟩
end Go.Proofs.Ytdaofffkbnkljaa
