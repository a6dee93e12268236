/- GfMuls: sum, product, inverse, quotient of any two bytes are the document's. For all bytes. -/
import Derived.Test.YtddfjodedmdojaaLaw
import Derived.Test.YtddfjodedmdojaaOpen
import Derived.Test.YtddfjodedmdojaaGfW
namespace Go.Proofs.Ytddfjodedmdojaa.gfMuls
open Go.ChangeShapes Go.WideShapes Go.ChangeAt Go.RowKit

set_option maxRecDepth 100000 in
set_option maxHeartbeats 4000000 in
theorem walk (a b : Int) (w : World) (ha0 : 0 ≤ a) (ha1 : a ≤ 255) (hb0 : 0 ≤ b) (hb1 : b ≤ 255) :
    Calls Try.prog 4 #[.int .u8 a, .int .u8 b] w fun e w' => e = .returned (.bool true) ∧ Below w.heap.size w w' := by
  obtain ⟨x, rfl⟩ := byte_of ha0 ha1
  obtain ⟨y, rfl⟩ := byte_of hb0 hb1
  clear ha0 ha1 hb0 hb1
  have hxor := xor_byte8 x y
  have HA := Lib.hid (fun W => add_any x y W)
  generalize x ^^^ y = s at *
  have HG := Lib.hid (fun W => gmul_any x y W)
  have HR := Lib.hid (fun W => rmul_any x y W)
  have HM := Lib.hid (fun W w g h => @lmul W w g h x y)
  generalize mulU x y = p at *
  have HI := Lib.hid (fun W w g h => @linv W w g h x)
  have HRI := Lib.hid (fun W => rinv_any x W)
  generalize ivU x = i at *
  have HD := Lib.hid (fun W w g h => @ldiv W w g h x y)
  have HRJ := Lib.hid (fun W => rinv_any y W)
  have HRQ := Lib.hid (fun W => rmul_any x (ivU y) W)
  have hxl := x.toNat_lt
  have hyl := y.toNat_lt
  by_cases hy : y = 0
  · have hz : (y.toNat : Int) = 0 := by rw [hy]; rfl
    have hq : mulU x (ivU y) = 0 := by rw [hy, ivU_zero, mulU_zero]
    have hd : divE y = 1 := by rw [hy]; rfl
    have hz0 : ((0 : UInt8).toNat : Int) = 0 := rfl
    rw [hq, hd, hz0, hz] at HD
    rw [hz] at HA HG HR HM hxor ⊢
    clear hy hq hd HRJ HRQ hz hyl hz0
    go_enter Try.func4, Try.ntmps4
    go_wp2_with fail
    with_reducible refine (lnew w).mono ?_
    rintro e w1 ⟨g, rfl, f1⟩
    go_wp2_with fail
    with_reducible refine (HR.out w1).mono ?_
    rintro e w2 ⟨rfl, rfl⟩
    go_wp2_with fail
    with_reducible refine (HD.out w w1 g f1).mono ?_
    rintro e w2 ⟨rfl, f2⟩
    go_wp2_with fail
    with_reducible refine (HA.out w2).mono ?_
    rintro e w3 ⟨rfl, rfl⟩
    go_wp2_with fail
    with_reducible refine (HG.out w2).mono ?_
    rintro e w3 ⟨rfl, rfl⟩
    go_wp2_with fail
    with_reducible refine (HM.out w w2 g f2).mono ?_
    rintro e w3 ⟨rfl, f3⟩
    go_wp2_with fail
    with_reducible refine (HI.out w w3 g f3).mono ?_
    rintro e w4 ⟨rfl, f4⟩
    go_wp2_with fail
    with_reducible refine (HRI.out w4).mono ?_
    rintro e w5 ⟨rfl, rfl⟩
    go_wp2_with fail
    with_reducible refine (wakes4_any w4).mono ?_
    rintro e w5 ⟨rfl, rfl⟩
    go_wp2_with fail
    go_ret
    exact ⟨rfl, f4.2⟩
  · have hy0 := pos8' hy
    have hbe : ((y.toNat : Int) == 0) = false := beq_eq_false_iff_ne.2 (by omega)
    rw [divE_else hy] at HD
    generalize mulU x (ivU y) = q at *
    generalize ivU y = j at *
    clear hy
    go_enter Try.func4, Try.ntmps4
    go_wp2_with fail
    with_reducible refine (lnew w).mono ?_
    rintro e w1 ⟨g, rfl, f1⟩
    go_wp2_with fail
    with_reducible refine (HR.out w1).mono ?_
    rintro e w2 ⟨rfl, rfl⟩
    go_wp2_with fail
    with_reducible refine (HD.out w w1 g f1).mono ?_
    rintro e w2 ⟨rfl, f2⟩
    go_wp2_with fail
    with_reducible refine (HA.out w2).mono ?_
    rintro e w3 ⟨rfl, rfl⟩
    go_wp2_with fail
    with_reducible refine (HG.out w2).mono ?_
    rintro e w3 ⟨rfl, rfl⟩
    go_wp2_with fail
    with_reducible refine (HM.out w w2 g f2).mono ?_
    rintro e w3 ⟨rfl, f3⟩
    go_wp2_with fail
    with_reducible refine (HI.out w w3 g f3).mono ?_
    rintro e w4 ⟨rfl, f4⟩
    go_wp2_with fail
    with_reducible refine (HRI.out w4).mono ?_
    rintro e w5 ⟨rfl, rfl⟩
    go_wp2_with fail
    with_reducible refine (HRJ.out w4).mono ?_
    rintro e w5 ⟨rfl, rfl⟩
    go_wp2_with fail
    with_reducible refine (HRQ.out w4).mono ?_
    rintro e w5 ⟨rfl, rfl⟩
    go_wp2_with fail
    with_reducible refine (wakes4_any w4).mono ?_
    rintro e w5 ⟨rfl, rfl⟩
    go_wp2_with fail
    go_ret
    exact ⟨rfl, f4.2⟩

theorem contract (H : Type) (enc : TypeId × Value → H) (W : World) (base : Nat) (args : Array Value) (ds gs : List (DataW H)) (before : List MemPlace)
    (hval : ∀ (j : Nat) t v, Try.f4.params[j]? = some t → args[j]? = some v → Value.okWide Try.prog W .any base t v)
    (hW : DataW.Whole enc Try.prog Try.f4.params.toList Rows.gfMulsSpec.vars false W args.toList ds gs before) :
    Calls Try.prog 4 args W fun e W' => ∃ v, e = .returned v ∧ Rows.gfMulsSpec.post enc Try.prog Try.f4 false true false false W args v W' := by
  have hW' := hW
  obtain ⟨p, q, hA0, hV, rfl, hfz, hnd⟩ := hW
  have hA : DataW.TrodAll enc Try.prog W 0 (fun _ => true) true Try.f4.params.toList args.toList ds p := hA0
  rw [Try.params4] at hA hval
  obtain ⟨v0, v1, d0, d1, p0, p1, rfl, rfl, rfl, h0, h1⟩ := trodAll_two hA
  obtain ⟨rfl, rfl⟩ := trodVars_none hV
  obtain ⟨n0, rfl, rfl, rfl, wf0⟩ := open_int Try.underlying5 (hval 0 5 v0 rfl rfl) h0
  have b0 := bounds_u8 wf0
  obtain ⟨n1, rfl, rfl, rfl, wf1⟩ := open_int Try.underlying5 (hval 1 5 v1 rfl rfl) h1
  have b1 := bounds_u8 wf1
  clear hA0
  refine (walk n0 n1 W b0.1 b0.2 b1.1 b1.2).mono fun e W' ⟨he, hb⟩ => ?_
  exact ⟨_, he, law_post hW' rfl (by kernel_rfl) rfl (by kernel_rfl) hb⟩

set_option maxRecDepth 100000 in
theorem lifted (os : Os) (started : os.Started) (H : Type) (enc : TypeId × Value → H) :
    ReturnsInHanded {} Try.checked os 4 .any (Rows.gfMulsSpec.pre6 enc Try.prog Try.f4 Rows.gfMulsRow.domain false) (Rows.gfMulsSpec.post enc Try.prog Try.f4 false true false false) := by
  refine returnsInHanded_of_change (C := Try.checked) own started (by kernel_rfl) Try.func4
    (ChangeSpec.witness6 (enc := enc) (C := Try.checked) false ⟨#[], #[.int .u8 0, .int .u8 0], []⟩ 8 (by kernel_rfl) (by kernel_rfl) (by kernel_rfl) (by kernel_rfl)) ?_
  intro W base args ds gs before hval0 hW _ _
  have hval : ∀ (j : Nat) t v, Try.f4.params[j]? = some t → args[j]? = some v → Value.okWide Try.prog W .any base t v := hval0
  exact contract H enc W base args ds gs before hval hW

/-- The statement. -/
theorem card : Rows.GfMulsSaid :=
  OpenClaim.holds_of_wide 4 Try.f4 rfl rfl rfl rfl rfl rfl rfl ⟨rfl, rfl, rfl, rfl, rfl⟩ rfl rfl rfl rfl rfl (by kernel_rfl) Try.func4 (by kernel_rfl)
    (of_decide_eq_true (by kernel_rfl)) (by unfold Func.isWrapper; first | (rw [if_pos (by decide +kernel)]; kernel_rfl) | (rw [if_neg (by decide +kernel)]; exact ⟨rfl, rfl⟩))
    (fun os started H enc _ => lifted os started H enc)
end Go.Proofs.Ytddfjodedmdojaa.gfMuls
