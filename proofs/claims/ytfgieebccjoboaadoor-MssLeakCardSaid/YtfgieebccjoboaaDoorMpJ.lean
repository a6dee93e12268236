/- Whether an explanation holds, as the program says. -/
import Derived.Test.YtfgieebccjoboaaDoorMpB
import Derived.Test.YtfgieebccjoboaaDoorMssH
import Derived.Test.YtfgieebccjoboaaDoorFreeS
namespace Go.Proofs.YtfgieebccjoboaaDoor
open Go.RowKit

/-- What a leaf signed, as far as there is that leaf. -/
def msgV (rows : List (List UInt8)) (h lf : Int) : List UInt8 := if lf < (cntN h : Int) then signedV rows lf else []
theorem msgV_in {rows : List (List UInt8)} {h lf : Int} (hl : lf < (cntN h : Int)) : msgV rows h lf = signedV rows lf := if_pos hl
theorem signedV_short {rows : List (List UInt8)} (h : ∀ r ∈ rows, r.length ≤ 1000) (lf : Int) : (signedV rows lf).length ≤ 1000 := by
  unfold signedV
  split
  · simp
  · rw [List.getD_eq_getElem?_getD]
    cases hq : rows[lf.toNat]? with
    | none => simp
    | some x => exact h _ (List.mem_of_getElem? hq)
theorem msgV_short {rows : List (List UInt8)} (h : ∀ r ∈ rows, r.length ≤ 1000) (hh lf : Int) : (msgV rows hh lf).length ≤ 1000 := by
  unfold msgV
  split
  · exact signedV_short h lf
  · simp
/-- The digits of what a leaf signed; none: it signed nothing. -/
def dgL (own : List UInt8) : List Nat := if own = [] then [] else digH (msgH own)
/-- The value is a slice that reads as the bytes. -/
def Spec.tb (l : List UInt8) : Spec := .any (fun v w => ∃ X c, v = .slice X l.length c ∧ l.length ≤ c ∧ c ≤ maxLen ∧ Rd w w.heap.size X l) (fun _ _ _ h hb => by
  obtain ⟨X, c, h1, h2, h3, h4⟩ := h
  exact ⟨X, c, h1, h2, h3, h4.on hb⟩)
set_option maxRecDepth 100000 in
set_option maxHeartbeats 2000000 in
theorem pbelow9_any (n e : Int) (w : World) :
    Calls Tryd.prog 51 #[.int .i64 n, .int .i64 e] w fun e' w' => e' = .returned (.bool (decide (0 ≤ n ∧ n < e))) ∧ w = w' := by
  by_cases h0 : n ≥ 0
  · by_cases h1 : n < e
    · have HD := Lib.hid (show decide (0 ≤ n ∧ n < e) = true from decide_eq_true ⟨h0, h1⟩)
      rw [HD.out]
      go_enter Tryd.func51, Tryd.ntmps51
      go_wp2_with fail
      go_ret
      exact ⟨rfl, rfl⟩
    · have HD := Lib.hid (show decide (0 ≤ n ∧ n < e) = false from decide_eq_false (fun h => h1 h.2))
      rw [HD.out]
      go_enter Tryd.func51, Tryd.ntmps51
      go_wp2_with fail
      go_ret
      exact ⟨rfl, rfl⟩
  · have HD := Lib.hid (show decide (0 ≤ n ∧ n < e) = false from decide_eq_false (fun h => h0 h.1))
    rw [HD.out]
    go_enter Tryd.func51, Tryd.ntmps51
    go_wp2_with fail
    go_ret
    exact ⟨rfl, rfl⟩
set_option maxRecDepth 100000 in
set_option maxHeartbeats 4000000 in
theorem pmessage9_any (A : Option Addr) (n c : Nat) (rs : List (List UInt8)) (h lf : Int) (w : World) (hn : rs.length = n) (h0 : 0 ≤ lf) (hr : RdR w w.heap.size A rs) :
    Calls Tryd.prog 44 #[.slice A n c, .int .i64 h, .int .i64 lf] w fun e w' => ∃ X c, e = .returned (.slice X (msgV rs h lf).length c) ∧ (msgV rs h lf).length ≤ c ∧ c ≤ maxLen ∧ Rd w' w'.heap.size X (msgV rs h lf) ∧ w = w' := by
  have HCT := Lib.hid (fun W => pcount9_any h W)
  have hN := cntN_le h
  by_cases hin : lf < (min (cntN h) n : Nat)
  · obtain ⟨k, hk⟩ : ∃ k : Nat, lf = (k : Int) := ⟨lf.toNat, by omega⟩
    subst hk
    have hkl : k < rs.length := by omega
    obtain ⟨b, off, A1, c1, rfl, hbs, hc, hlc, hcm, hrd⟩ := hr.at_ k hkl
    have HMV := Lib.hid (show msgV rs h (k : Int) = rs[k] by
      rw [msgV_in (by omega)]
      unfold signedV
      rw [if_neg (by omega), Int.toNat_natCast, List.getD_eq_getElem?_getD, List.getElem?_eq_getElem hkl]
      rfl)
    rw [HMV.out]
    generalize rs[k] = row at *
    obtain ⟨L, hL⟩ : ∃ L, row.length = L := ⟨_, rfl⟩
    rw [hL] at hc hlc ⊢
    generalize cntN h = N at *
    have hmn : min (N : Int) (n : Int) = ((min N n : Nat) : Int) := by omega
    obtain ⟨M, hM⟩ : ∃ M, min N n = M := ⟨_, rfl⟩
    rw [hM] at hmn hin
    have hki : ¬ (k : Int) ≥ (M : Int) := by omega
    have hkn : (k : Int) < (n : Int) := by omega
    have HL := Lib.hid hL
    have HRD := Lib.hid hrd
    have HLC := Lib.hid hlc
    have HCM := Lib.hid hcm
    clear hL hM HMV hrd hlc hcm hn hkl hr hbs
    go_enter Tryd.func44, Tryd.ntmps44
    go_wp2_with fail
    with_reducible refine (HCT.out _).mono ?_
    rintro e wx ⟨rfl, rfl⟩
    go_wp2_with fail
    go_ret
    exact ⟨A1, c1, rfl, HLC.out, HCM.out, HRD.out, rfl⟩
  · have HMV := Lib.hid (show msgV rs h lf = [] by
      unfold msgV
      split
      · unfold signedV
        rw [if_neg (by omega), List.getD_eq_getElem?_getD, List.getElem?_eq_none (by omega)]
        rfl
      · rfl)
    rw [HMV.out]
    generalize cntN h = N at *
    have hmn : min (N : Int) (n : Int) = ((min N n : Nat) : Int) := by omega
    obtain ⟨M, hM⟩ : ∃ M, min N n = M := ⟨_, rfl⟩
    rw [hM] at hmn hin
    have hki : lf ≥ (M : Int) := by omega
    clear hM HMV hn hr
    go_enter Tryd.func44, Tryd.ntmps44
    go_wp2_with fail
    with_reducible refine (HCT.out _).mono ?_
    rintro e wx ⟨rfl, rfl⟩
    go_wp2_with fail
    go_ret
    exact ⟨none, 0, rfl, Nat.le_refl _, by unfold maxLen; omega, .inl rfl, rfl⟩
set_option maxRecDepth 100000 in
set_option maxHeartbeats 4000000 in
theorem pdigitsof9_any (A : Option Addr) (n c : Nat) (m : List UInt8) (w : World) (hn : m.length = n) (h1 : n ≤ 1000) (hc : n ≤ c) (hcm : c ≤ maxLen) (hr : Rd w w.heap.size A m) (htab : Pow10 w.heap.size w) :
    Calls Tryd.prog 85 #[.slice A n c] w fun e w' => ∃ X c, e = .returned (.slice X (dgL m).length c) ∧ (dgL m).length ≤ c ∧ DV w' (.slice X (dgL m).length c) (dgL m) ∧ Below w.heap.size w w' := by
  by_cases h0 : n = 0
  · have HD := Lib.hid (show dgL m = [] from if_pos (List.eq_nil_of_length_eq_zero (by rw [hn, h0])))
    rw [HD.out]
    have hni : (n : Int) = 0 := by omega
    subst h0
    clear hn hr hni
    go_enter Tryd.func85, Tryd.ntmps85
    go_wp2_with fail
    go_ret
    exact ⟨none, 0, rfl, Nat.le_refl _, ⟨none, 0, rfl, Nat.le_refl _, .inl rfl⟩, Below.refl _ _⟩
  · have hd : dgL m = digH (msgH m) := if_neg (fun e => h0 (by rw [← hn, e]; rfl))
    have HDG := Lib.hid (pdigits_any A n c m w hn h1 hc hcm hr htab)
    rw [hd]
    have HDL := Lib.hid (digH_len (msgH_len m))
    generalize digH (msgH m) = DD at *
    have hni : ¬ (n : Int) = 0 := by omega
    clear hn hr hd htab
    go_enter Tryd.func85, Tryd.ntmps85
    go_wp2_with fail
    with_reducible refine (HDG.out).mono ?_
    rintro e w2 ⟨v, rfl, ho, hb⟩
    obtain ⟨X, x, rfl, hx, _⟩ := ho.form HDL.out
    have HO := Lib.hid ho.dv
    have HB := Lib.hid hb
    have HX := Lib.hid hx
    clear ho hb HDG hx
    go_wp2_with fail
    go_ret
    exact ⟨X, x, by rw [HDL.out]; rfl, by rw [HDL.out]; exact HX.out, by rw [HDL.out]; exact HO.out, HB.out⟩
end Go.Proofs.YtfgieebccjoboaaDoor
