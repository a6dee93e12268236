/- RsNews: which codes there are, and their matrices. For all numbers. -/
import Derived.Test.YtdaofffkbnkljaaLaw
import Derived.Test.YtdaofffkbnkljaaOpen
import Derived.Test.YtdaofffkbnkljaaWakes6
namespace Go.Proofs.Ytdaofffkbnkljaa.rsNews
open Go.ChangeShapes Go.WideShapes Go.ChangeAt Go.RowKit

set_option maxRecDepth 100000 in
set_option maxHeartbeats 4000000 in
theorem walk (a b : Int) (w : World) :
    Calls Try.prog 5 #[.int .i64 a, .int .i64 b] w fun e w' => e = .returned (.bool true) ∧ Below w.heap.size w w' := by
  by_cases h : a < 1 ∨ b < a ∨ 16 < b
  · have HN := Lib.hid (cnew_no a b w h)
    by_cases g1 : a < 1
    · have d1 : decide (a < 1) = true := decide_eq_true g1
      clear h g1
      go_enter Try.func5, Try.ntmps5
      go_wp2_with fail
      with_reducible refine (HN.out).mono ?_
      rintro e w1 ⟨rfl, hb⟩
      have HB := Lib.hid hb
      clear hb HN
      go_wp2_with fail
      with_reducible refine (wakes6_any w1).mono ?_
      rintro e w2 ⟨rfl, hb⟩
      have HB2 := Lib.hid (HB.out.trans (hb.mono HB.out.size))
      clear hb HB
      go_wp2_with fail
      go_ret
      exact ⟨rfl, HB2.out⟩
    · have d1 : decide (a < 1) = false := decide_eq_false g1
      by_cases g2 : b < a
      · have d2 : decide (b < a) = true := decide_eq_true g2
        clear h g1 g2
        go_enter Try.func5, Try.ntmps5
        go_wp2_with fail
        with_reducible refine (HN.out).mono ?_
        rintro e w1 ⟨rfl, hb⟩
        have HB := Lib.hid hb
        clear hb HN
        go_wp2_with fail
        with_reducible refine (wakes6_any w1).mono ?_
        rintro e w2 ⟨rfl, hb⟩
        have HB2 := Lib.hid (HB.out.trans (hb.mono HB.out.size))
        clear hb HB
        go_wp2_with fail
        go_ret
        exact ⟨rfl, HB2.out⟩
      · have d2 : decide (b < a) = false := decide_eq_false g2
        have d3 : decide (16 < b) = true := decide_eq_true (by omega)
        clear h g1 g2
        go_enter Try.func5, Try.ntmps5
        go_wp2_with fail
        with_reducible refine (HN.out).mono ?_
        rintro e w1 ⟨rfl, hb⟩
        have HB := Lib.hid hb
        clear hb HN
        go_wp2_with fail
        with_reducible refine (wakes6_any w1).mono ?_
        rintro e w2 ⟨rfl, hb⟩
        have HB2 := Lib.hid (HB.out.trans (hb.mono HB.out.size))
        clear hb HB
        go_wp2_with fail
        go_ret
        exact ⟨rfl, HB2.out⟩
  · obtain ⟨k, rfl⟩ : ∃ k : Nat, a = (k : Int) := ⟨a.toNat, by omega⟩
    obtain ⟨n, rfl⟩ : ∃ n : Nat, b = (n : Int) := ⟨b.toNat, by omega⟩
    have h1 : 1 ≤ k := by omega
    have h2 : k ≤ n := by omega
    have h3 : n ≤ 16 := by omega
    obtain ⟨G, hG⟩ := gen_is (k := k) (by omega)
    have HG := Lib.hid hG
    have HN := Lib.hid (cnew_yes k n w h1 h2 h3)
    have HM := Lib.hid (fun W => mrsmat W hG h1 h2 h3)
    have d1 : decide ((k : Int) < 1) = false := decide_eq_false (by omega)
    have d2 : decide ((n : Int) < (k : Int)) = false := decide_eq_false (by omega)
    have d2' : decide (n < k) = false := decide_eq_false (by omega)
    have d3 : decide ((16 : Int) < (n : Int)) = false := decide_eq_false (by omega)
    clear hG h
    go_enter Try.func5, Try.ntmps5
    go_wp2_with fail
    with_reducible refine (HN.out).mono ?_
    rintro e w1 ⟨g, rfl, hc, hb⟩
    have HC := Lib.hid hc
    have HB := Lib.hid hb
    clear hc hb HN
    go_wp2_with fail
    with_reducible refine (cmat_any HG.out HC.out).mono ?_
    rintro e w2 ⟨x, rfl, hx, hb⟩
    have HX := Lib.hid hx
    have HB2 := Lib.hid (HB.out.trans (hb.mono HB.out.size))
    clear hx hb HC HB
    go_wp2_with fail
    with_reducible refine (HM.out w2).mono ?_
    rintro e w3 ⟨y, rfl, hy, hb⟩
    have HY := Lib.hid hy
    have HX2 := Lib.hid (HX.out.on hb)
    have HB3 := Lib.hid (HB2.out.trans (hb.mono HB2.out.size))
    clear hy hb HX HB2 HM
    go_wp2_with fail
    with_reducible refine (mveq_yes HX2.out HY.out (by rw [rowsL_len]; omega) (fun r hr => by rw [rowsL_rows _ _ _ _ r hr]; omega)).mono ?_
    rintro e w4 ⟨rfl, hb⟩
    have HB4 := Lib.hid (HB3.out.trans (hb.mono HB3.out.size))
    clear hb HX2 HY HB3
    go_wp2_with fail
    with_reducible refine (wakes6_any w4).mono ?_
    rintro e w5 ⟨rfl, hb⟩
    have HB5 := Lib.hid (HB4.out.trans (hb.mono HB4.out.size))
    clear hb HB4
    go_wp2_with fail
    go_ret
    exact ⟨rfl, HB5.out⟩

set_option maxRecDepth 100000 in
theorem contract (H : Type) (enc : TypeId × Value → H) (W : World) (base : Nat) (args : Array Value) (ds gs : List (DataW H)) (before : List MemPlace)
    (hval : ∀ (j : Nat) t v, Try.f5.params[j]? = some t → args[j]? = some v → Value.okWide Try.prog W .any base t v)
    (hW : DataW.Whole enc Try.prog Try.f5.params.toList Rows.rsNewsSpec.vars false W args.toList ds gs before) :
    Calls Try.prog 5 args W fun e W' => ∃ v, e = .returned v ∧ Rows.rsNewsSpec.post enc Try.prog Try.f5 false true false false W args v W' := by
  have hW' := hW
  obtain ⟨p, q, hA0, hV, rfl, hfz, hnd⟩ := hW
  have hA : DataW.TrodAll enc Try.prog W 0 (fun _ => true) true Try.f5.params.toList args.toList ds p := hA0
  rw [Try.params5] at hA hval
  obtain ⟨v0, v1, d0, d1, p0, p1, rfl, rfl, rfl, h0, h1⟩ := trodAll_two hA
  obtain ⟨rfl, rfl⟩ := trodVars_none hV
  obtain ⟨n0, rfl, rfl, rfl, wf0⟩ := open_int Try.underlying3 (hval 0 3 v0 rfl rfl) h0
  have b0 := bounds_i64 wf0
  obtain ⟨n1, rfl, rfl, rfl, wf1⟩ := open_int Try.underlying3 (hval 1 3 v1 rfl rfl) h1
  have b1 := bounds_i64 wf1
  clear hA0
  refine (walk n0 n1 W).mono fun e W' ⟨he, hb⟩ => ?_
  exact ⟨_, he, law_post hW' rfl (by kernel_rfl) rfl (by kernel_rfl) hb⟩

set_option maxRecDepth 100000 in
theorem lifted (os : Os) (started : os.Started) (H : Type) (enc : TypeId × Value → H) :
    ReturnsInHanded {} Try.checked os 5 .any (Rows.rsNewsSpec.pre6 enc Try.prog Try.f5 Rows.rsNewsRow.domain false) (Rows.rsNewsSpec.post enc Try.prog Try.f5 false true false false) := by
  refine returnsInHanded_of_change (C := Try.checked) own started (by kernel_rfl) Try.func5
    (ChangeSpec.witness6 (enc := enc) (C := Try.checked) false ⟨#[], #[.int .i64 0, .int .i64 0], []⟩ 8 (by kernel_rfl) (by kernel_rfl) (by kernel_rfl) (by kernel_rfl)) ?_
  intro W base args ds gs before hval0 hW _ _
  have hval : ∀ (j : Nat) t v, Try.f5.params[j]? = some t → args[j]? = some v → Value.okWide Try.prog W .any base t v := hval0
  exact contract H enc W base args ds gs before hval hW

/-- The statement. -/
theorem card : Rows.RsNewsSaid :=
  OpenClaim.holds_of_wide 5 Try.f5 rfl rfl rfl rfl rfl rfl rfl ⟨rfl, rfl, rfl, rfl, rfl⟩ rfl rfl rfl rfl rfl (by kernel_rfl) Try.func5 (by kernel_rfl)
    (of_decide_eq_true (by kernel_rfl)) (by unfold Func.isWrapper; first | (rw [if_pos (by decide +kernel)]; kernel_rfl) | (rw [if_neg (by decide +kernel)]; exact ⟨rfl, rfl⟩))
    (fun os started H enc _ => lifted os started H enc)
end Go.Proofs.Ytdaofffkbnkljaa.rsNews
