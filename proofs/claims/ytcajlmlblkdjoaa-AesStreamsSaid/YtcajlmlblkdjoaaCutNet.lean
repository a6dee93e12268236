/- The program cuts the row at the beginning off, within the bytes' own memory. -/
import Derived.Test.YtcajlmlblkdjoaaRowLen
namespace Go.Proofs.Ytcajlmlblkdjoaa
open Go.RowKit

def tItem : Option (List UInt8 × List UInt8) → List UInt8
  | none => []
  | some x => x.1
def tRest : Option (List UInt8 × List UInt8) → List UInt8
  | none => []
  | some x => x.2

theorem lenFrom_range (z : Bool) : ∀ (r : List UInt8) (v0 d0 v d : Nat), v0 ≤ 16384 → lenFrom z v0 d0 r = some (v, d) → d < d0 + r.length ∧ v ≤ 16384
  | [], _, _, _, _, _, e => by cases e
  | x :: r, v0, d0, v, d, h0, e => by
    rw [lenFrom] at e
    by_cases h1 : isDig x = true
    · rw [if_pos h1] at e
      by_cases h2 : 0 < d0 ∧ z = true
      · rw [if_pos h2] at e; cases e
      · rw [if_neg h2] at e
        by_cases h3 : 16384 < v0 * 10 + (x.toNat - 48)
        · rw [if_pos h3] at e; cases e
        · rw [if_neg h3] at e
          have := lenFrom_range z r _ _ _ _ (by omega) e
          simp only [List.length_cons]
          omega
    · rw [if_neg h1] at e
      by_cases h2 : d0 = 0 ∨ x.toNat ≠ 58
      · rw [if_pos h2] at e; cases e
      · rw [if_neg h2] at e
        simp only [Option.some.injEq, Prod.mk.injEq] at e
        simp only [List.length_cons]
        omega
theorem rowLen_range {l : List UInt8} {v d : Nat} (e : rowLen l = some (v, d)) : d < l.length ∧ v ≤ 16384 := by
  have := lenFrom_range _ _ _ _ _ _ (by omega) e
  omega

theorem takeL_none {l : List UInt8} (e : rowLen l = none) : takeL l = none := by unfold takeL; rw [e]
theorem takeL_short {l : List UInt8} {v d : Nat} (e : rowLen l = some (v, d)) (h : l.length ≤ d + 1 + v) : takeL l = none := by
  unfold takeL; rw [e]; simp only
  rw [List.drop_of_length_le h]; rfl
theorem takeL_other {l : List UInt8} {v d : Nat} (e : rowLen l = some (v, d)) (h : d + 1 + v < l.length) (hx : l[d + 1 + v].toNat ≠ 44) : takeL l = none := by
  unfold takeL; rw [e]; simp only
  rw [List.drop_eq_getElem_cons h, List.head?_cons, if_neg]
  intro he
  injection he with he
  exact hx (by rw [he]; rfl)
theorem takeL_some {l : List UInt8} {v d : Nat} (e : rowLen l = some (v, d)) (h : d + 1 + v < l.length) (hx : l[d + 1 + v].toNat = 44) : takeL l = some ((l.drop (d + 1)).take v, l.drop (d + 1 + v + 1)) := by
  unfold takeL; rw [e]; simp only
  rw [List.drop_eq_getElem_cons h, List.head?_cons, if_pos]
  congr 1
  exact UInt8.toNat_inj.1 hx

theorem ret_cut {A1 A2 : Option Addr} {c1 c2 n1 n2 m1 m2 : Nat} (h1 : n1 = m1) (h2 : n2 = m2) :
    Ending.returned (.tuple #[.slice A1 n1 c1, .slice A2 n2 c2, .bool true]) = Ending.returned (.tuple #[.slice A1 m1 c1, .slice A2 m2 c2, .bool true]) := by rw [h1, h2]

end Go.Proofs.Ytcajlmlblkdjoaa
