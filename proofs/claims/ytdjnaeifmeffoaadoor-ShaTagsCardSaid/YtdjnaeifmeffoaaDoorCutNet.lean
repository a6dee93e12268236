/- The program cuts the row at the beginning off, within the bytes' own memory. -/
import Derived.Test.YtdjnaeifmeffoaaDoorRowLen
namespace Go.Proofs.YtdjnaeifmeffoaaDoor
open Go.RowKit

def tItem : Option (List UInt8 × List UInt8) → List UInt8
  | none => []
  | some x => x.1
def tRest : Option (List UInt8 × List UInt8) → List UInt8
  | none => []
  | some x => x.2

theorem lenFrom_range (z : Bool) : ∀ (r : List UInt8) (v0 d0 v d : Nat), v0 ≤ 16384 → lenFrom z v0 d0 r = some (v, d) → d < d0 + r.length ∧ v ≤ 16384
  | [], _, _, _, _, _, e => by cases e
  | x :: r, v0, d0, v, d, h0, e => by
    rw [lenFrom] at e
    by_cases h1 : isDig x = true
    · rw [if_pos h1] at e
      by_cases h2 : 0 < d0 ∧ z = true
      · rw [if_pos h2] at e; cases e
      · rw [if_neg h2] at e
        by_cases h3 : 16384 < v0 * 10 + (x.toNat - 48)
        · rw [if_pos h3] at e; cases e
        · rw [if_neg h3] at e
          have := lenFrom_range z r _ _ _ _ (by omega) e
          simp only [List.length_cons]
          omega
    · rw [if_neg h1] at e
      by_cases h2 : d0 = 0 ∨ x.toNat ≠ 58
      · rw [if_pos h2] at e; cases e
      · rw [if_neg h2] at e
        simp only [Option.some.injEq, Prod.mk.injEq] at e
        simp only [List.length_cons]
        omega
theorem rowLen_range {l : List UInt8} {v d : Nat} (e : rowLen l = some (v, d)) : d < l.length ∧ v ≤ 16384 := by
  have := lenFrom_range _ _ _ _ _ _ (by omega) e
  omega

theorem takeL_none {l : List UInt8} (e : rowLen l = none) : takeL l = none := by unfold takeL; rw [e]
theorem takeL_short {l : List UInt8} {v d : Nat} (e : rowLen l = some (v, d)) (h : l.length ≤ d + 1 + v) : takeL l = none := by
  unfold takeL; rw [e]; simp only
  rw [List.drop_of_length_le h]; rfl
theorem takeL_other {l : List UInt8} {v d : Nat} (e : rowLen l = some (v, d)) (h : d + 1 + v < l.length) (hx : l[d + 1 + v].toNat ≠ 44) : takeL l = none := by
  unfold takeL; rw [e]; simp only
  rw [List.drop_eq_getElem_cons h, List.head?_cons, if_neg]
  intro he
  injection he with he
  exact hx (by rw [he]; rfl)
theorem takeL_some {l : List UInt8} {v d : Nat} (e : rowLen l = some (v, d)) (h : d + 1 + v < l.length) (hx : l[d + 1 + v].toNat = 44) : takeL l = some ((l.drop (d + 1)).take v, l.drop (d + 1 + v + 1)) := by
  unfold takeL; rw [e]; simp only
  rw [List.drop_eq_getElem_cons h, List.head?_cons, if_pos]
  congr 1
  exact UInt8.toNat_inj.1 hx

theorem ret_cut {A1 A2 : Option Addr} {c1 c2 n1 n2 m1 m2 : Nat} (h1 : n1 = m1) (h2 : n2 = m2) :
    Ending.returned (.tuple #[.slice A1 n1 c1, .slice A2 n2 c2, .bool true]) = Ending.returned (.tuple #[.slice A1 m1 c1, .slice A2 m2 c2, .bool true]) := by rw [h1, h2]

set_option maxHeartbeats 2000000 in
theorem cutNet_any (A : Option Addr) (n c B : Nat) (l : List UInt8) (w : World) (hl : l.length = n) (hnc : n ≤ c) (h1 : n ≤ 1000000) (ha : Rd w B A l) :
    Calls Tryd.prog 27 #[.slice A n c] w fun e w' => ∃ A1 c1 A2 c2, e = .returned (.tuple #[.slice A1 (tItem (takeL l)).length c1, .slice A2 (tRest (takeL l)).length c2, .bool (takeL l).isSome]) ∧
      (tItem (takeL l)).length ≤ c1 ∧ (tRest (takeL l)).length ≤ c2 ∧ Rd w B A1 (tItem (takeL l)) ∧ Rd w B A2 (tRest (takeL l)) ∧ ∃ q, w' = w.drewN q := by
  have HN := Lib.hid hl
  go_enter Tryd.func27, Tryd.ntmps27
  go_wp2_with fail
  refine (rowLength_any A n c B l _ hl h1 ha).mono ?_
  rintro e w' ⟨rfl, rfl⟩
  cases hrl : rowLen l with
  | none =>
    have HT := Lib.hid (takeL_none hrl)
    clear hl hrl
    go_wp2
    go_ret3
    refine ⟨none, 0, none, 0, ?_⟩
    rw [HT.out]
    exact ⟨rfl, Nat.le_refl _, Nat.le_refl _, Rd.nil _ _ _, Rd.nil _ _ _, 0, rfl⟩
  | some x =>
    obtain ⟨v, d⟩ := x
    obtain ⟨hd, hv⟩ := rowLen_range hrl
    have hs : (some (v, d) : Option (Nat × Nat)).isSome = true := rfl
    rw [show lenV (some (v, d)) = v from rfl, show lenS (some (v, d)) = d + 1 from rfl, hs]
    obtain ⟨S, hS⟩ : ∃ S, d + 1 = S := ⟨_, rfl⟩
    rw [hS]
    have hSn : S ≤ n := by omega
    clear hs
    by_cases hlt : S + v < n
    · have hl1 : d + 1 + v < l.length := by omega
      obtain ⟨b, off, rfl, hbB, hc⟩ := ha.at_ (d + 1 + v) hl1
      by_cases hx : l[d + 1 + v].toNat = 44
      · have HT := Lib.hid (takeL_some hrl hl1 hx)
        have hxb : (((l[d + 1 + v].toNat : Nat) : Int) != 44) = false := by rw [bne_eq_false_iff_eq]; omega
        generalize l[d + 1 + v] = x at *
        have hi0 : (0 : Int) ≤ (S : Int) := by omega
        have hi1 : (S : Int) ≤ (S : Int) + (v : Int) := by omega
        have hi2 : (S : Int) + (v : Int) < (n : Int) := by omega
        have hi3 : (n : Int) ≤ (c : Int) := by omega
        have hrI : Rd w B (some ⟨b, off + S, none⟩) ((l.drop S).take v) := (ha.drop S).take v
        have hrR : Rd w B (some ⟨b, off + (S + v + 1), none⟩) (l.drop (S + v + 1)) := ha.drop (S + v + 1)
        have hlI : ((l.drop S).take v).length = v := by rw [List.length_take, List.length_drop]; omega
        have hlR : (l.drop (S + v + 1)).length = n - (S + v + 1) := by rw [List.length_drop]; omega
        rw [hS] at hc HT
        have HRI := Lib.hid hrI
        have HRR := Lib.hid hrR
        have HLI := Lib.hid hlI
        have HLR := Lib.hid hlR
        have HHA := Lib.hid ha
        clear hrl hx hrI hrR hlI hlR hl hl1 ha hS
        by_cases hce : c = S + v + 1
        · have HCE := Lib.hid hce
          have hcn : c = n := by omega
          go_wp2
          go_quiet (fail)
          go_wp2
          go_ret3
          refine ⟨some ⟨b, off + S, none⟩, S + v + 1 - S, some ⟨b, off, none⟩, S + v + 1 - (S + v + 1), ?_⟩
          rw [HT.out]
          exact ⟨ret_cut (by rw [tItem, HLI.out]; omega) (by rw [tRest, HLR.out]), by rw [tItem, HLI.out]; omega, by rw [tRest, HLR.out]; omega, HRI.out, by
            have h0 : l.drop (S + v + 1) = [] := List.drop_of_length_le (by rw [HN.out]; omega)
            rw [tRest, h0]; exact Rd.nil _ _ _, _, rfl⟩
        · go_wp2
          go_quiet (fail)
          go_wp2
          go_ret3
          refine ⟨some ⟨b, off + S, none⟩, c - S, some ⟨b, off + (S + v + 1), none⟩, c - (S + v + 1), ?_⟩
          rw [HT.out]
          exact ⟨ret_cut (by rw [tItem, HLI.out]; omega) (by rw [tRest, HLR.out]), by rw [tItem, HLI.out]; omega, by rw [tRest, HLR.out]; omega, HRI.out, HRR.out, _, rfl⟩
      · have HT := Lib.hid (takeL_other hrl hl1 hx)
        have hxb : (((l[d + 1 + v].toNat : Nat) : Int) != 44) = true := by simp only [bne_iff_ne, ne_eq]; omega
        generalize l[d + 1 + v] = x at *
        rw [hS] at hc
        have hi2 : (S : Int) + (v : Int) < (n : Int) := by omega
        clear hrl hx hl hl1 ha hS
        go_wp2
        go_ret3
        refine ⟨none, 0, none, 0, ?_⟩
        rw [HT.out]
        exact ⟨rfl, Nat.le_refl _, Nat.le_refl _, Rd.nil _ _ _, Rd.nil _ _ _, 0, rfl⟩
    · have HT := Lib.hid (takeL_short hrl (by omega))
      have hi2 : ¬ (S : Int) + (v : Int) < (n : Int) := by omega
      clear hrl hl hS
      go_wp2
      go_ret3
      refine ⟨none, 0, none, 0, ?_⟩
      rw [HT.out]
      exact ⟨rfl, Nat.le_refl _, Nat.le_refl _, Rd.nil _ _ _, Rd.nil _ _ _, 0, rfl⟩
end Go.Proofs.YtdjnaeifmeffoaaDoor
