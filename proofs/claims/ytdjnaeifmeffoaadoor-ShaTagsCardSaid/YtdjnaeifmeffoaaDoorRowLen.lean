/- The program reads a row's length as the plain lists' law does. -/
import Derived.Test.YtdjnaeifmeffoaaDoorTakeL
import Derived.WalkLawsBesides
namespace Go.Proofs.YtdjnaeifmeffoaaDoor
open Go.RowKit

def lenV : Option (Nat × Nat) → Nat
  | none => 0
  | some x => x.1
def lenS : Option (Nat × Nat) → Nat
  | none => 0
  | some x => x.2 + 1

theorem lenFrom_first {z : Bool} {v d : Nat} {x : UInt8} {r : List UInt8} (h : isDig x = true) (h0 : 0 < d) (hz : z = true) : lenFrom z v d (x :: r) = none := by
  rw [lenFrom, if_pos h, if_pos ⟨h0, hz⟩]
theorem lenFrom_great {z : Bool} {v d : Nat} {x : UInt8} {r : List UInt8} (h : isDig x = true) (h0 : ¬ (0 < d ∧ z = true)) (hv : 16384 < v * 10 + (x.toNat - 48)) : lenFrom z v d (x :: r) = none := by
  rw [lenFrom, if_pos h, if_neg h0, if_pos hv]
theorem lenFrom_on {z : Bool} {v d : Nat} {x : UInt8} {r : List UInt8} (h : isDig x = true) (h0 : ¬ (0 < d ∧ z = true)) (hv : ¬ 16384 < v * 10 + (x.toNat - 48)) : lenFrom z v d (x :: r) = lenFrom z (v * 10 + (x.toNat - 48)) (d + 1) r := by
  rw [lenFrom, if_pos h, if_neg h0, if_neg hv]
theorem lenFrom_no {z : Bool} {v d : Nat} {x : UInt8} {r : List UInt8} (h : ¬ isDig x = true) (h0 : d = 0 ∨ x.toNat ≠ 58) : lenFrom z v d (x :: r) = none := by
  rw [lenFrom, if_neg h, if_pos h0]
theorem lenFrom_yes {z : Bool} {v d : Nat} {x : UInt8} {r : List UInt8} (h : ¬ isDig x = true) (h0 : ¬ (d = 0 ∨ x.toNat ≠ 58)) : lenFrom z v d (x :: r) = some (v, d) := by
  rw [lenFrom, if_neg h, if_neg h0]

set_option maxHeartbeats 2000000 in
theorem rowLength_any (A : Option Addr) (n c B : Nat) (l : List UInt8) (w : World) (hl : l.length = n) (h1 : n ≤ 1000000) (ha : Rd w B A l) :
    Calls Tryd.prog 38 #[.slice A n c] w fun e w' => e = .returned (.tuple #[.int .i64 (lenV (rowLen l) : Int), .int .i64 (lenS (rowLen l) : Int), .bool (rowLen l).isSome]) ∧ w = w' := by
  have HN := Lib.hid hl
  clear hl
  go_enter Tryd.func38, Tryd.ntmps38
  go_wp2
  go_loop [2, 5] (fun lv dv => ∃ v d : Nat, d ≤ n ∧ v ≤ 16384 ∧ lv = .int .i64 v ∧ dv = .int .i64 d ∧ Hid (lenFrom (headNought l) v d (l.drop d) = rowLen l)) (fun _ dv => n - (intOf dv).toNat)
  case atStart => exact ⟨0, 0, Nat.zero_le _, by omega, rfl, rfl, Lib.hid rfl⟩
  case round =>
    obtain ⟨v, d, hd, hv, rfl, rfl, HR⟩ := hrel
    by_cases hlt : d < n
    · have hl1 : d < l.length := by rw [HN.out]; exact hlt
      have hl0 : 0 < l.length := by omega
      obtain ⟨b, off, hA, _, hc⟩ := ha.at_ d hl1
      obtain ⟨b', off', hA', _, hc0⟩ := ha.at_ 0 hl0
      rw [hA] at hA'
      injection hA' with hA'
      injection hA' with hA1 hA2
      subst hA1 hA2
      subst hA
      rw [Nat.add_zero] at hc0
      have hr := HR.out
      rw [List.drop_eq_getElem_cons hl1] at hr
      have hz : headNought l = decide (l[0].toNat = 48) := by
        cases l with
        | nil => simp at hl0
        | cons a t =>
          simp only [headNought, List.head?_cons, Option.some.injEq, List.getElem_cons_zero]
          rw [decide_eq_decide]
          exact ⟨fun e => by rw [e]; rfl, fun e => UInt8.toNat_inj.1 e⟩
      have hx := l[d].toNat_lt
      have HRR := Lib.hid hr
      have HZ := Lib.hid hz
      generalize l[d] = x at *
      generalize l[0] = y at *
      clear hr hz HR hl1 hl0
      have hdi : (d : Int) < (n : Int) := by omega
      by_cases hdig : isDig x = true
      · have hd2 : 48 ≤ x.toNat ∧ x.toNat ≤ 57 := by simpa [isDig] using hdig
        have hx1 : (48 : Int) ≤ (x.toNat : Int) := by omega
        have hx2 : (x.toNat : Int) ≤ 57 := by omega
        by_cases hd0 : 0 < d
        · have hd0i : (0 : Int) < (d : Int) := by omega
          by_cases hy : y.toNat = 48
          · have HF := Lib.hid (HRR.out.symm.trans (lenFrom_first hdig hd0 (HZ.out.trans (decide_eq_true hy))))
            have hyb : (((y.toNat : Nat) : Int) == 48) = true := by rw [beq_iff_eq]; omega
            clear hdig hy hd2
            go_wp2
            go_ret3
            exact ⟨by rw [HF.out]; rfl, rfl⟩
          · have hnz : ¬ (0 < d ∧ headNought l = true) := by rw [HZ.out]; simp [hy]
            have hyb : (((y.toNat : Nat) : Int) == 48) = false := by rw [beq_eq_false_iff_ne]; omega
            by_cases hg : 16384 < v * 10 + (x.toNat - 48)
            · have HF := Lib.hid (HRR.out.symm.trans (lenFrom_great hdig hnz hg))
              have hgi : (16384 : Int) < (v : Int) * 10 + ((x.toNat : Int) - 48) := by omega
              clear hdig hy hd2 hg hnz
              go_wp2
              go_ret3
              exact ⟨by rw [HF.out]; rfl, rfl⟩
            · have HF := Lib.hid ((lenFrom_on hdig hnz hg).symm.trans HRR.out)
              have hgi : ¬ (16384 : Int) < (v : Int) * 10 + ((x.toNat : Int) - 48) := by omega
              clear hdig hy hnz
              go_wp2
              go_round
              case rel => exact ⟨v * 10 + (x.toNat - 48), d + 1, by omega, by omega, by go_num, by go_num, HF⟩
              case measure => simp [intOf]; omega
        · have hnz : ¬ (0 < d ∧ headNought l = true) := fun h => hd0 h.1
          have hd0i : ¬ (0 : Int) < (d : Int) := by omega
          by_cases hg : 16384 < v * 10 + (x.toNat - 48)
          · have HF := Lib.hid (HRR.out.symm.trans (lenFrom_great hdig hnz hg))
            have hgi : (16384 : Int) < (v : Int) * 10 + ((x.toNat : Int) - 48) := by omega
            clear hdig hd2 hg hnz
            go_wp2
            go_ret3
            exact ⟨by rw [HF.out]; rfl, rfl⟩
          · have HF := Lib.hid ((lenFrom_on hdig hnz hg).symm.trans HRR.out)
            have hgi : ¬ (16384 : Int) < (v : Int) * 10 + ((x.toNat : Int) - 48) := by omega
            clear hdig hnz
            go_wp2
            go_round
            case rel => exact ⟨v * 10 + (x.toNat - 48), d + 1, by omega, by omega, by go_num, by go_num, HF⟩
            case measure => simp [intOf]; omega
      · have hd2 : ¬ (48 ≤ x.toNat ∧ x.toNat ≤ 57) := by simpa [isDig] using hdig
        have hdn : (((d : Nat) : Int) == (n : Int)) = false := by rw [beq_eq_false_iff_ne]; omega
        by_cases h0 : d = 0 ∨ x.toNat ≠ 58
        · have HF := Lib.hid (HRR.out.symm.trans (lenFrom_no hdig h0))
          clear hdig
          by_cases hlow : x.toNat < 48
          · have hx1 : ¬ (48 : Int) ≤ (x.toNat : Int) := by omega
            have hx58 : (((x.toNat : Nat) : Int) != 58) = true := by simp only [bne_iff_ne, ne_eq]; omega
            by_cases hd0 : d = 0
            · have hd0i : (((d : Nat) : Int) == 0) = true := by rw [beq_iff_eq]; omega
              clear h0 hd2 hd0
              go_wp2
              go_ret3
              exact ⟨by rw [HF.out]; rfl, rfl⟩
            · have hd0i : (((d : Nat) : Int) == 0) = false := by rw [beq_eq_false_iff_ne]; omega
              clear h0 hd2 hd0
              go_wp2
              go_ret3
              exact ⟨by rw [HF.out]; rfl, rfl⟩
          · have hx1 : (48 : Int) ≤ (x.toNat : Int) := by omega
            have hx2 : ¬ (x.toNat : Int) ≤ 57 := by omega
            by_cases hd0 : d = 0
            · have hd0i : (((d : Nat) : Int) == 0) = true := by rw [beq_iff_eq]; omega
              clear h0 hd2 hd0
              go_wp2
              go_ret3
              exact ⟨by rw [HF.out]; rfl, rfl⟩
            · have hd0i : (((d : Nat) : Int) == 0) = false := by rw [beq_eq_false_iff_ne]; omega
              have hx58 : (((x.toNat : Nat) : Int) != 58) = true := by simp only [bne_iff_ne, ne_eq]; omega
              clear h0 hd2 hd0
              go_wp2
              go_ret3
              exact ⟨by rw [HF.out]; rfl, rfl⟩
        · have HF := Lib.hid (HRR.out.symm.trans (lenFrom_yes hdig h0))
          have hx1 : (48 : Int) ≤ (x.toNat : Int) := by omega
          have hx2 : ¬ (x.toNat : Int) ≤ 57 := by omega
          have hd0i : (((d : Nat) : Int) == 0) = false := by rw [beq_eq_false_iff_ne]; omega
          have hx58 : (((x.toNat : Nat) : Int) != 58) = false := by rw [bne_eq_false_iff_eq]; omega
          clear hdig h0 hd2
          go_wp2
          go_ret3
          exact ⟨by rw [HF.out]; rfl, rfl⟩
    · obtain rfl : d = n := by omega
      have hdr : l.drop d = [] := List.drop_of_length_le (by rw [HN.out]; exact Nat.le_refl _)
      have hr := HR.out
      rw [hdr] at hr
      have HF := Lib.hid (show rowLen l = none from hr.symm)
      have hdi : ¬ (d : Int) < (d : Int) := by omega
      clear hdr hr HR
      by_cases hd0 : d = 0
      · have hd0i : (((d : Nat) : Int) == 0) = true := by rw [beq_iff_eq]; omega
        clear hd0
        go_wp2
        go_ret3
        exact ⟨by rw [HF.out]; rfl, rfl⟩
      · have hd0i : (((d : Nat) : Int) == 0) = false := by rw [beq_eq_false_iff_ne]; omega
        clear hd0
        go_wp2
        go_ret3
        exact ⟨by rw [HF.out]; rfl, rfl⟩
end Go.Proofs.YtdjnaeifmeffoaaDoor
