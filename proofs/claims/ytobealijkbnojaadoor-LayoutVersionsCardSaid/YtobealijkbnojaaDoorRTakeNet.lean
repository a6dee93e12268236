/- TakeNet of the document takes the row at the beginning as the plain lists' law does. -/
import Derived.Test.YtobealijkbnojaaDoorNet
namespace Go.Proofs.YtobealijkbnojaaDoor
open Go.RowKit

def digFold (v : Nat) (ds : List UInt8) : Nat := ds.foldl (fun a x => a * 10 + (x.toNat - 48)) v

theorem digFold_snoc (v : Nat) (ds : List UInt8) (x : UInt8) : digFold v (ds ++ [x]) = digFold v ds * 10 + (x.toNat - 48) := by simp [digFold]

theorem digFold_low (ds : List UInt8) : ∀ v, v * 10 ^ ds.length ≤ digFold v ds := by
  induction ds with
  | nil => intro v; simp [digFold]
  | cons x ds ih =>
    intro v
    have h := ih (v * 10 + (x.toNat - 48))
    have e : digFold v (x :: ds) = digFold (v * 10 + (x.toNat - 48)) ds := rfl
    rw [e, List.length_cons, Nat.pow_succ]
    refine Nat.le_trans ?_ h
    rw [Nat.mul_comm (10 ^ ds.length) 10, ← Nat.mul_assoc]
    exact Nat.mul_le_mul_right _ (Nat.le_add_right _ _)

theorem lenFrom_scan (z : Bool) : ∀ (ds : List UInt8) (v d : Nat) (r : List UInt8), (∀ x ∈ ds, isDig x = true) → v ≤ 16384 →
    lenFrom z v d (ds ++ r) = none ∨ (lenFrom z v d (ds ++ r) = lenFrom z (digFold v ds) (d + ds.length) r ∧ digFold v ds ≤ 16384 ∧ (z = false ∨ d + ds.length ≤ 1 ∨ ds = []))
  | [], v, d, r, _, hv => .inr ⟨rfl, hv, .inr (.inr rfl)⟩
  | x :: ds, v, d, r, hd, hv => by
    have hx := hd x (List.mem_cons_self ..)
    rw [List.cons_append]
    by_cases h0 : 0 < d ∧ z = true
    · exact .inl (lenFrom_first hx h0.1 h0.2)
    · by_cases hg : 16384 < v * 10 + (x.toNat - 48)
      · exact .inl (lenFrom_great hx h0 hg)
      · rw [lenFrom_on hx h0 hg]
        rcases lenFrom_scan z ds (v * 10 + (x.toNat - 48)) (d + 1) r (fun y hy => hd y (List.mem_cons_of_mem _ hy)) (by omega) with h | ⟨h1, h2, h3⟩
        · exact .inl h
        · refine .inr ⟨by rw [h1]; simp only [List.length_cons]; rw [show d + 1 + ds.length = d + (ds.length + 1) from by omega]; rfl, h2, ?_⟩
          rcases h3 with h | h | h
          · exact .inl h
          · right; left; simp only [List.length_cons]; omega
          · subst h
            cases z
            · exact .inl rfl
            · right; left
              have : ¬ 0 < d := fun h' => h0 ⟨h', rfl⟩
              simp; omega

theorem rowLen_scan (l : List UInt8) (d : Nat) (hd : d ≤ l.length) (hdig : ∀ x ∈ l.take d, isDig x = true) :
    rowLen l = none ∨ (rowLen l = lenFrom (headNought l) (digFold 0 (l.take d)) d (l.drop d) ∧ digFold 0 (l.take d) ≤ 16384 ∧ (headNought l = false ∨ d ≤ 1)) := by
  have h := lenFrom_scan (headNought l) (l.take d) 0 0 (l.drop d) hdig (by omega)
  rw [List.take_append_drop, List.length_take, Nat.min_eq_left hd, Nat.zero_add] at h
  rcases h with h | ⟨h1, h2, h3⟩
  · exact .inl h
  · refine .inr ⟨h1, h2, ?_⟩
    rcases h3 with h | h | h
    · exact .inl h
    · exact .inr h
    · right
      have := congrArg List.length h
      rw [List.length_take, Nat.min_eq_left hd] at this
      simp at this
      omega

theorem scan_good (l : List UInt8) (d : Nat) (hd : d < l.length) (hdig : ∀ x ∈ l.take d, isDig x = true) (h0 : d ≠ 0) (hc : l[d].toNat = 58) (hz : headNought l = false ∨ d ≤ 1) (hv : digFold 0 (l.take d) ≤ 16384) : rowLen l = some (digFold 0 (l.take d), d) := by
  have h := lenFrom_digits (headNought l) (l.take d) 0 0 (l.drop d) hdig (by
    rcases hz with h | h
    · exact .inl h
    · right; left; exact ⟨rfl, by rw [List.length_take]; omega⟩) (fun k _ => Nat.le_trans (fold_mono _ 0 k) hv)
  rw [List.take_append_drop, List.length_take, Nat.min_eq_left (by omega), Nat.zero_add] at h
  unfold rowLen
  rw [h, List.drop_eq_getElem_cons hd]
  refine lenFrom_yes ?_ (by omega)
  unfold isDig
  rw [hc]
  decide

theorem scan_zero (l : List UInt8) (h : l = [] ∨ ∃ h : 0 < l.length, isDig l[0] = false) : takeL l = none := by
  refine takeL_none ?_
  rcases h with rfl | ⟨h, hx⟩
  · rfl
  · unfold rowLen
    cases l with
    | nil => simp at h
    | cons x r =>
      simp only [List.getElem_cons_zero] at hx
      exact lenFrom_no (by rw [hx]; simp) (.inl rfl)

theorem scan_end (l : List UInt8) (hdig : ∀ x ∈ l, isDig x = true) : takeL l = none := by
  refine takeL_none ?_
  have h := rowLen_scan l l.length (Nat.le_refl _) (by rw [List.take_length]; exact hdig)
  rcases h with h | ⟨h, _⟩
  · exact h
  · rw [h, List.drop_length]; rfl

theorem scan_other (l : List UInt8) (d : Nat) (hd : d < l.length) (hdig : ∀ x ∈ l.take d, isDig x = true) (hx : isDig l[d] = false) (hc : l[d].toNat ≠ 58) : takeL l = none := by
  refine takeL_none ?_
  rcases rowLen_scan l d (by omega) hdig with h | ⟨h, _⟩
  · exact h
  · rw [h, List.drop_eq_getElem_cons hd]
    exact lenFrom_no (by rw [hx]; simp) (.inr hc)

theorem scan_nought (l : List UInt8) (d : Nat) (hd : d ≤ l.length) (hdig : ∀ x ∈ l.take d, isDig x = true) (h1 : 1 < d) (hz : headNought l = true) : takeL l = none := by
  refine takeL_none ?_
  rcases rowLen_scan l d hd hdig with h | ⟨_, _, h⟩
  · exact h
  · rw [hz] at h; rcases h with h | h
    · cases h
    · omega

theorem scan_great (l : List UInt8) (d : Nat) (hd : d ≤ l.length) (hdig : ∀ x ∈ l.take d, isDig x = true) (hv : 16384 < digFold 0 (l.take d)) : takeL l = none := by
  refine takeL_none ?_
  rcases rowLen_scan l d hd hdig with h | ⟨_, h, _⟩
  · exact h
  · omega

theorem scan_six (l : List UInt8) (hd : 6 ≤ l.length) (hdig : ∀ x ∈ l.take 6, isDig x = true) : takeL l = none := by
  by_cases hz : headNought l = true
  · exact scan_nought l 6 hd hdig (by omega) hz
  · refine scan_great l 6 hd hdig ?_
    match l, hd with
    | x :: r, hd =>
      have hx := hdig x (by simp)
      have hne : x.toNat ≠ 48 := fun e => hz (by simp only [headNought, List.head?_cons, Option.some.injEq, decide_eq_true_eq]; exact UInt8.toNat_inj.1 e)
      have hx2 : 48 ≤ x.toNat ∧ x.toNat ≤ 57 := by simpa [isDig] using hx
      rw [List.take_succ_cons]
      have h := digFold_low (r.take 5) (0 * 10 + (x.toNat - 48))
      have e : digFold 0 (x :: r.take 5) = digFold (0 * 10 + (x.toNat - 48)) (r.take 5) := rfl
      rw [e]
      have hl : (r.take 5).length = 5 := by rw [List.length_take]; simp at hd; omega
      rw [hl] at h
      omega

set_option maxHeartbeats 2000000 in
theorem rtake_any (A : Option Addr) (n c B : Nat) (l : List UInt8) (w : World) (hl : l.length = n) (hnc : n ≤ c) (h1 : n ≤ 1000000) (ha : Rd w B A l) :
    Calls Tryd.prog 79 #[.slice A n c] w fun e w' => ∃ A1 c1 A2 c2, e = .returned (.tuple #[.slice A1 (tItem (takeL l)).length c1, .slice A2 (tRest (takeL l)).length c2, .bool (takeL l).isSome]) ∧
      (tItem (takeL l)).length ≤ c1 ∧ (tRest (takeL l)).length ≤ c2 ∧ Rd w B A1 (tItem (takeL l)) ∧ Rd w B A2 (tRest (takeL l)) ∧ (c1 ≤ c ∧ c2 ≤ c) ∧ ∃ q, w' = w.drewN q := by
  have HN := Lib.hid hl
  clear hl
  go_enter Tryd.func79, Tryd.ntmps79
  go_wp2
  go_loop [5, 6] (fun iv nv => ∃ d v : Nat, d ≤ n ∧ d ≤ 6 ∧ v ≤ 1000000 ∧ iv = .int .i64 d ∧ nv = .int .i64 v ∧ Hid (v < 10 ^ d) ∧ Hid (digFold 0 (l.take d) = v) ∧ Hid (∀ x ∈ l.take d, isDig x = true)) (fun iv _ => 6 - (intOf iv).toNat)
  case atStart => exact ⟨0, 0, Nat.zero_le _, by omega, by omega, rfl, rfl, Lib.hid (by decide), Lib.hid rfl, Lib.hid (by simp)⟩
  case round =>
    obtain ⟨d, v, hd, hd6, hv6, rfl, rfl, HP, HV, HD⟩ := hrel
    have none_ret : ∀ (q : Nat), Hid (takeL l = none) → ∃ A1 c1 A2 c2, Ending.returned (.tuple #[.slice none 0 0, .slice none 0 0, .bool false]) = Ending.returned (.tuple #[.slice A1 (tItem (takeL l)).length c1, .slice A2 (tRest (takeL l)).length c2, .bool (takeL l).isSome]) ∧
      (tItem (takeL l)).length ≤ c1 ∧ (tRest (takeL l)).length ≤ c2 ∧ Rd w B A1 (tItem (takeL l)) ∧ Rd w B A2 (tRest (takeL l)) ∧ (c1 ≤ c ∧ c2 ≤ c) ∧ ∃ q', w.drewN q = w.drewN q' := by
      intro q h
      rw [h.out]
      exact ⟨none, 0, none, 0, rfl, Nat.le_refl _, Nat.le_refl _, Rd.nil _ _ _, Rd.nil _ _ _, ⟨Nat.zero_le _, Nat.zero_le _⟩, q, rfl⟩
    have HNR := Lib.hid none_ret
    clear none_ret
    by_cases hlt : d < n
    · have hl1 : d < l.length := by rw [HN.out]; exact hlt
      obtain ⟨b, off, rfl, _, hc⟩ := ha.at_ d hl1
      have hdi : (d : Int) < (n : Int) := by omega
      have hx := l[d].toNat_lt
      by_cases hdig : isDig l[d] = true
      · have hd2 : 48 ≤ l[d].toNat ∧ l[d].toNat ≤ 57 := by simpa [isDig] using hdig
        by_cases h6 : d < 6
        · have HV2 := Lib.hid (show digFold 0 (l.take (d + 1)) = v * 10 + (l[d].toNat - 48) by rw [List.take_succ_eq_append_getElem hl1, digFold_snoc, HV.out])
          have HP2 := Lib.hid (show v * 10 + (l[d].toNat - 48) < 10 ^ (d + 1) by rw [Nat.pow_succ]; have := HP.out; omega)
          have HD2 := Lib.hid (show ∀ x ∈ l.take (d + 1), isDig x = true by
            rw [List.take_succ_eq_append_getElem hl1]
            intro x hx
            rcases List.mem_append.1 hx with h | h
            · exact HD.out x h
            · rw [List.mem_singleton.1 h]; exact hdig)
          have hb7 : v * 10 + (l[d].toNat - 48) ≤ 1000000 := by
            have h1 := HP2.out
            have h2 : 10 ^ (d + 1) ≤ 10 ^ 6 := Nat.pow_le_pow_right (by omega) (by omega)
            omega
          generalize l[d] = x at *
          have hx1 : (48 : Int) ≤ (x.toNat : Int) := by omega
          have hx2 : (x.toNat : Int) ≤ 57 := by omega
          have h6i : (d : Int) < 6 := by omega
          clear hdig hl1 HP HV HD
          go_wp2
          go_round
          case rel => exact ⟨d + 1, v * 10 + (x.toNat - 48), by omega, by omega, hb7, by go_num, by go_num, HP2, HV2, HD2⟩
          case measure => simp [intOf]; omega
        · obtain rfl : d = 6 := by omega
          have HT := Lib.hid (scan_six l (by omega) HD.out)
          generalize l[6] = x at *
          have hx1 : (48 : Int) ≤ (x.toNat : Int) := by omega
          have hx2 : (x.toNat : Int) ≤ 57 := by omega
          have hx3 : (((x.toNat : Nat) : Int) != 58) = true := by simp only [bne_iff_ne, ne_eq]; omega
          clear hdig hl1 HP HV HD
          go_wp2
          go_ret3
          exact HNR.out 0 HT
      · have hd2 : ¬ (48 ≤ l[d].toNat ∧ l[d].toNat ≤ 57) := by simpa [isDig] using hdig
        have hdf : isDig l[d] = false := by simpa using hdig
        clear hdig
        by_cases h0 : d = 0 ∨ l[d].toNat ≠ 58
        · have HT := Lib.hid (show takeL l = none by
            rcases h0 with h0 | h0
            · subst h0
              exact scan_zero l (.inr ⟨by omega, hdf⟩)
            · exact scan_other l d hl1 HD.out hdf h0)
          generalize l[d] = x at *
          clear HP HV HD hl1 hdf
          rcases (show (¬ (48 : Int) ≤ (x.toNat : Int)) ∨ ((48 : Int) ≤ (x.toNat : Int) ∧ ¬ (x.toNat : Int) ≤ 57) by omega) with hx1 | ⟨hx1, hx2⟩ <;>
          rcases (show ((d : Int) == 0) = true ∨ (((d : Int) == 0) = false ∧ ((x.toNat : Int) != 58) = true) by
            rcases h0 with h0 | h0
            · left; rw [beq_iff_eq]; omega
            · by_cases hd0 : d = 0
              · left; rw [beq_iff_eq]; omega
              · right; refine ⟨by rw [beq_eq_false_iff_ne]; omega, by simp only [bne_iff_ne, ne_eq]; omega⟩) with hd0i | ⟨hd0i, hx58⟩ <;> (
            clear h0 hd2
            go_wp2
            go_ret3
            exact HNR.out 0 HT)
        · have hd0 : d ≠ 0 := fun e => h0 (.inl e)
          have hx58 : l[d].toNat = 58 := by
            by_cases e : l[d].toNat = 58
            · exact e
            · exact absurd (.inr e) h0
          clear h0
          have hl0 : 0 < l.length := by omega
          obtain ⟨b', off', hA', _, hc0⟩ := ha.at_ 0 hl0
          injection hA' with hA'
          injection hA' with hA1 hA2
          subst hA1 hA2
          rw [Nat.add_zero] at hc0
          have hz : headNought l = decide (l[0].toNat = 48) := by
            cases l with
            | nil => simp at hl0
            | cons a t =>
              simp only [headNought, List.head?_cons, Option.some.injEq, List.getElem_cons_zero]
              rw [decide_eq_decide]
              exact ⟨fun e => by rw [e]; rfl, fun e => UInt8.toNat_inj.1 e⟩
          have hx1 : (48 : Int) ≤ (l[d].toNat : Int) := by omega
          have hx2 : ¬ (l[d].toNat : Int) ≤ 57 := by omega
          have hx3 : ((l[d].toNat : Int) != 58) = false := by rw [bne_eq_false_iff_eq]; omega
          have hd0i : ((d : Int) == 0) = false := by rw [beq_eq_false_iff_ne]; omega
          by_cases hnou : l[0].toNat = 48 ∧ 1 < d
          · obtain ⟨hy, hd1⟩ := hnou
            have HT := Lib.hid (scan_nought l d (by omega) HD.out hd1 (by rw [hz]; exact decide_eq_true hy))
            have hyb : ((l[0].toNat : Int) == 48) = true := by rw [beq_iff_eq]; omega
            have hd1i : (1 : Int) < (d : Int) := by omega
            generalize l[d] = x at *
            generalize l[0] = y at *
            clear HP HV HD hl1 hdf hz hy
            go_wp2
            go_ret3
            exact HNR.out 0 HT
          · have hzz : headNought l = false ∨ d ≤ 1 := by
              rw [hz]
              by_cases hy : l[0].toNat = 48
              · right; omega
              · left; exact decide_eq_false hy
            have hways : (((l[0].toNat : Int) == 48) = true ∧ ¬ (1 : Int) < (d : Int)) ∨ ((l[0].toNat : Int) == 48) = false := by
              by_cases hy : l[0].toNat = 48
              · left; exact ⟨by rw [beq_iff_eq]; omega, by omega⟩
              · right; rw [beq_eq_false_iff_ne]; omega
            clear hnou hz
            by_cases hv : 16384 < v
            · have HT := Lib.hid (scan_great l d (by omega) HD.out (by rw [HV.out]; exact hv))
              have hvi : (16384 : Int) < (v : Int) := by omega
              generalize l[d] = x at *
              generalize l[0] = y at *
              clear HP HV HD hl1 hdf hzz
              rcases hways with ⟨hyb, hd1i⟩ | hyb <;> (
                go_wp2
                go_ret3
                exact HNR.out 0 HT)
            · have hrl := scan_good l d hl1 HD.out hd0 hx58 hzz (by rw [HV.out]; omega)
              rw [HV.out] at hrl
              have hvi : ¬ (16384 : Int) < (v : Int) := by omega
              by_cases hsh : n < d + v + 2
              · have HT := Lib.hid (takeL_short hrl (by rw [HN.out]; omega))
                have hshi : (n : Int) < (d : Int) + (v : Int) + 2 := by omega
                generalize l[d] = x at *
                generalize l[0] = y at *
                clear HP HV HD hl1 hdf hzz hrl
                rcases hways with ⟨hyb, hd1i⟩ | hyb <;> (
                  go_wp2
                  go_ret3
                  exact HNR.out 0 HT)
              · have hl2 : d + 1 + v < l.length := by rw [HN.out]; omega
                obtain ⟨b', off', hA', _, hc2⟩ := ha.at_ (d + 1 + v) hl2
                injection hA' with hA'
                injection hA' with hA1 hA2
                subst hA1 hA2
                have hshi : ¬ (n : Int) < (d : Int) + (v : Int) + 2 := by omega
                by_cases h44 : l[d + 1 + v].toNat = 44
                · have HT := Lib.hid (takeL_some hrl hl2 h44)
                  have h44i : ((l[d + 1 + v].toNat : Int) != 44) = false := by rw [bne_eq_false_iff_eq]; omega
                  have hi1 : (d : Int) + 1 ≤ (d : Int) + 1 + (v : Int) := by omega
                  have hi2 : (d : Int) + 1 + (v : Int) ≤ (c : Int) := by omega
                  have hi3 : (n : Int) ≤ (c : Int) := by omega
                  have hi4 : (d : Int) + (v : Int) + 2 ≤ (n : Int) := by omega
                  have HRI := Lib.hid (show Rd w B (some ⟨b, off + (d + 1), none⟩) ((l.drop (d + 1)).take v) from (ha.drop (d + 1)).take v)
                  have HRR := Lib.hid (show Rd w B (some ⟨b, off + (d + v + 2), none⟩) (l.drop (d + 1 + v + 1)) by
                    rw [show d + 1 + v + 1 = d + v + 2 from by omega]; exact ha.drop (d + v + 2))
                  have HLI := Lib.hid (show ((l.drop (d + 1)).take v).length = v by rw [List.length_take, List.length_drop]; have := HN.out; omega)
                  have HLR := Lib.hid (show (l.drop (d + 1 + v + 1)).length = n - (d + v + 2) by rw [List.length_drop, HN.out]; omega)
                  generalize l[d] = x at *
                  generalize l[0] = y at *
                  generalize l[d + 1 + v] = y2 at *
                  clear HP HV HD hl1 hdf hzz hrl h44 ha
                  by_cases hce : c = d + v + 2
                  · rcases hways with ⟨hyb, hd1i⟩ | hyb <;> (
                      go_wp2
                      go_quiet (fail)
                      go_wp2
                      go_ret3
                      refine ⟨some ⟨b, off + (d + 1), none⟩, d + v + 1 - d, some ⟨b, off, none⟩, d + v + 2 - (d + v + 2), ?_⟩
                      rw [HT.out]
                      exact ⟨ret_cut (by rw [tItem, HLI.out]; omega) (by rw [tRest, HLR.out]), by rw [tItem, HLI.out]; omega, by rw [tRest, HLR.out]; omega, HRI.out, by
                        have h0 : l.drop (d + 1 + v + 1) = [] := List.drop_of_length_le (by rw [HN.out]; omega)
                        rw [tRest, h0]; exact Rd.nil _ _ _, ⟨by omega, by omega⟩, _, rfl⟩)
                  · rcases hways with ⟨hyb, hd1i⟩ | hyb <;> (
                      go_wp2
                      go_quiet (fail)
                      go_wp2
                      go_ret3
                      refine ⟨some ⟨b, off + (d + 1), none⟩, c - (d + 1), some ⟨b, off + (d + v + 2), none⟩, c - (d + v + 2), ?_⟩
                      rw [HT.out]
                      exact ⟨ret_cut (by rw [tItem, HLI.out]; omega) (by rw [tRest, HLR.out]), by rw [tItem, HLI.out]; omega, by rw [tRest, HLR.out]; omega, HRI.out, HRR.out, ⟨by omega, by omega⟩, _, rfl⟩)
                · have HT := Lib.hid (takeL_other hrl hl2 h44)
                  have h44i : ((l[d + 1 + v].toNat : Int) != 44) = true := by simp only [bne_iff_ne, ne_eq]; omega
                  generalize l[d] = x at *
                  generalize l[0] = y at *
                  generalize l[d + 1 + v] = y2 at *
                  clear HP HV HD hl1 hdf hzz hrl h44
                  rcases hways with ⟨hyb, hd1i⟩ | hyb <;> (
                    go_wp2
                    go_ret3
                    exact HNR.out 0 HT)
    · obtain rfl : d = n := by omega
      have hdi : ¬ (d : Int) < (d : Int) := by omega
      have HT := Lib.hid (scan_end l (by have h := HD.out; rwa [List.take_of_length_le (by rw [HN.out]; exact Nat.le_refl _)] at h))
      clear HP HV HD
      by_cases hd0 : d = 0
      · have hd0i : (((d : Nat) : Int) == 0) = true := by rw [beq_iff_eq]; omega
        clear hd0
        go_wp2
        go_ret3
        exact HNR.out 0 HT
      · have hd0i : (((d : Nat) : Int) == 0) = false := by rw [beq_eq_false_iff_ne]; omega
        clear hd0
        go_wp2
        go_ret3
        exact HNR.out 0 HT
end Go.Proofs.YtobealijkbnojaaDoor
