/- MatrixMade: which matrices there are from the first: that changes nothing, that of powers. For all sizes. -/
import Derived.Test.YtkgemngkkedcnaaLaw
import Derived.Test.YtkgemngkkedcnaaOpen
import Derived.Test.YtkgemngkkedcnaaMxR
namespace Go.Proofs.Ytkgemngkkedcnaa.matrixMade
open Go.ChangeShapes Go.WideShapes Go.ChangeAt Go.RowKit

set_option maxRecDepth 100000 in
set_option maxHeartbeats 8000000 in
theorem walk (n k : Int) (w : World) (h0 : -9223372036854775808 ≤ n) (h1 : n ≤ 9223372036854775807) :
    Calls Try.prog 5 #[.int .i64 n, .int .i64 k] w fun e w' => e = .returned (.bool true) ∧ Below w.heap.size w w' := by
  by_cases hn : 40 < n
  · have HW := Lib.hid (fun W => within_any n 40 W h0 h1 (by omega))
    generalize withinI n 40 = m at *
    go_enter Try.func5, Try.ntmps5
    go_wp2_with fail
    with_reducible refine (HW.out w).mono ?_
    rintro e wx ⟨rfl, rfl⟩
    go_wp2_with fail
    with_reducible refine (punit_any (m) w).mono ?_
    rintro e w1 ⟨x, rfl, hx, hb⟩
    have Lx1 := Lib.hid hx
    have HB1 := Lib.hid hb
    clear hb hx
    go_wp2_with fail
    with_reducible refine (mrunit (m) w1).mono ?_
    rintro e w2 ⟨y, rfl, hy, hb⟩
    have Lx2 := Lib.hid (Lx1.out.on hb)
    have Ly2 := Lib.hid hy
    have HB2 := Lib.hid (HB1.out.trans (hb.mono HB1.out.size))
    clear hb Lx1 hy HB1
    go_wp2_with fail
    with_reducible refine (samerows (unitL_small _) Lx2.out Ly2.out).mono ?_
    rintro e w3 ⟨rfl, hb⟩
    have Lx3 := Lib.hid (Lx2.out.on hb)
    have Ly3 := Lib.hid (Ly2.out.on hb)
    have HB3 := Lib.hid (HB2.out.trans (hb.mono HB2.out.size))
    clear hb Lx2 Ly2 HB2
    go_wp2_with fail
    clear Lx3
    clear Ly3
    with_reducible refine (pvan_any (m) k w3).mono ?_
    rintro e w4 ⟨u, rfl, hu, hb⟩
    have Lu4 := Lib.hid hu
    have HB4 := Lib.hid (HB3.out.trans (hb.mono HB3.out.size))
    clear hb hu HB3
    go_wp2_with fail
    with_reducible refine (mrvan (m) k w4).mono ?_
    rintro e w5 ⟨v, rfl, hv, hb⟩
    have Lu5 := Lib.hid (Lu4.out.on hb)
    have Lv5 := Lib.hid hv
    have HB5 := Lib.hid (HB4.out.trans (hb.mono HB4.out.size))
    clear hb Lu4 hv HB4
    go_wp2_with fail
    with_reducible refine (samerows (vanL_small _ _) Lu5.out Lv5.out).mono ?_
    rintro e w6 ⟨rfl, hb⟩
    have Lu6 := Lib.hid (Lu5.out.on hb)
    have Lv6 := Lib.hid (Lv5.out.on hb)
    have HB6 := Lib.hid (HB5.out.trans (hb.mono HB5.out.size))
    clear hb Lu5 Lv5 HB5
    go_wp2_with fail
    with_reducible refine (wakes5_any w6).mono ?_
    rintro e w7 ⟨rfl, hb⟩
    have Lu7 := Lib.hid (Lu6.out.on hb)
    have Lv7 := Lib.hid (Lv6.out.on hb)
    have HB7 := Lib.hid (HB6.out.trans (hb.mono HB6.out.size))
    clear hb Lu6 Lv6 HB6
    go_wp2_with fail
    go_ret
    exact ⟨rfl, HB7.out⟩
  · go_enter Try.func5, Try.ntmps5
    go_wp2_with fail
    with_reducible refine (punit_any (n) w).mono ?_
    rintro e w1 ⟨x, rfl, hx, hb⟩
    have Lx1 := Lib.hid hx
    have HB1 := Lib.hid hb
    clear hb hx
    go_wp2_with fail
    with_reducible refine (mrunit (n) w1).mono ?_
    rintro e w2 ⟨y, rfl, hy, hb⟩
    have Lx2 := Lib.hid (Lx1.out.on hb)
    have Ly2 := Lib.hid hy
    have HB2 := Lib.hid (HB1.out.trans (hb.mono HB1.out.size))
    clear hb Lx1 hy HB1
    go_wp2_with fail
    with_reducible refine (samerows (unitL_small _) Lx2.out Ly2.out).mono ?_
    rintro e w3 ⟨rfl, hb⟩
    have Lx3 := Lib.hid (Lx2.out.on hb)
    have Ly3 := Lib.hid (Ly2.out.on hb)
    have HB3 := Lib.hid (HB2.out.trans (hb.mono HB2.out.size))
    clear hb Lx2 Ly2 HB2
    go_wp2_with fail
    clear Lx3
    clear Ly3
    with_reducible refine (pvan_any (n) k w3).mono ?_
    rintro e w4 ⟨u, rfl, hu, hb⟩
    have Lu4 := Lib.hid hu
    have HB4 := Lib.hid (HB3.out.trans (hb.mono HB3.out.size))
    clear hb hu HB3
    go_wp2_with fail
    with_reducible refine (mrvan (n) k w4).mono ?_
    rintro e w5 ⟨v, rfl, hv, hb⟩
    have Lu5 := Lib.hid (Lu4.out.on hb)
    have Lv5 := Lib.hid hv
    have HB5 := Lib.hid (HB4.out.trans (hb.mono HB4.out.size))
    clear hb Lu4 hv HB4
    go_wp2_with fail
    with_reducible refine (samerows (vanL_small _ _) Lu5.out Lv5.out).mono ?_
    rintro e w6 ⟨rfl, hb⟩
    have Lu6 := Lib.hid (Lu5.out.on hb)
    have Lv6 := Lib.hid (Lv5.out.on hb)
    have HB6 := Lib.hid (HB5.out.trans (hb.mono HB5.out.size))
    clear hb Lu5 Lv5 HB5
    go_wp2_with fail
    with_reducible refine (wakes5_any w6).mono ?_
    rintro e w7 ⟨rfl, hb⟩
    have Lu7 := Lib.hid (Lu6.out.on hb)
    have Lv7 := Lib.hid (Lv6.out.on hb)
    have HB7 := Lib.hid (HB6.out.trans (hb.mono HB6.out.size))
    clear hb Lu6 Lv6 HB6
    go_wp2_with fail
    go_ret
    exact ⟨rfl, HB7.out⟩

theorem contract (H : Type) (enc : TypeId × Value → H) (W : World) (base : Nat) (args : Array Value) (ds gs : List (DataW H)) (before : List MemPlace)
    (hval : ∀ (j : Nat) t v, Try.f5.params[j]? = some t → args[j]? = some v → Value.okWide Try.prog W .any base t v)
    (hW : DataW.Whole enc Try.prog Try.f5.params.toList Rows.matrixMadeSpec.vars false W args.toList ds gs before) :
    Calls Try.prog 5 args W fun e W' => ∃ v, e = .returned v ∧ Rows.matrixMadeSpec.post enc Try.prog Try.f5 false true false false W args v W' := by
  have hW' := hW
  obtain ⟨p, q, hA0, hV, rfl, hfz, hnd⟩ := hW
  have hA : DataW.TrodAll enc Try.prog W 0 (fun _ => true) true Try.f5.params.toList args.toList ds p := hA0
  rw [Try.params5] at hA hval
  obtain ⟨v0, v1, d0, d1, p0, p1, rfl, rfl, rfl, h0, h1⟩ := trodAll_two hA
  obtain ⟨rfl, rfl⟩ := trodVars_none hV
  obtain ⟨n0, rfl, rfl, rfl, wf0⟩ := open_int Try.underlying3 (hval 0 3 v0 rfl rfl) h0
  have b0 := bounds_i64 wf0
  obtain ⟨n1, rfl, rfl, rfl, wf1⟩ := open_int Try.underlying3 (hval 1 3 v1 rfl rfl) h1
  have b1 := bounds_i64 wf1
  clear hA0
  refine (walk n0 n1 W b0.1 b0.2).mono fun e W' ⟨he, hb⟩ => ?_
  exact ⟨_, he, law_post hW' rfl (by kernel_rfl) rfl (by kernel_rfl) hb⟩

set_option maxRecDepth 100000 in
theorem lifted (os : Os) (started : os.Started) (H : Type) (enc : TypeId × Value → H) :
    ReturnsInHanded {} Try.checked os 5 .any (Rows.matrixMadeSpec.pre6 enc Try.prog Try.f5 Rows.matrixMadeRow.domain false) (Rows.matrixMadeSpec.post enc Try.prog Try.f5 false true false false) := by
  refine returnsInHanded_of_change (C := Try.checked) own started (by kernel_rfl) Try.func5
    (ChangeSpec.witness6 (enc := enc) (C := Try.checked) false ⟨#[], #[.int .i64 0, .int .i64 0], []⟩ 8 (by kernel_rfl) (by kernel_rfl) (by kernel_rfl) (by kernel_rfl)) ?_
  intro W base args ds gs before hval0 hW _ _
  have hval : ∀ (j : Nat) t v, Try.f5.params[j]? = some t → args[j]? = some v → Value.okWide Try.prog W .any base t v := hval0
  exact contract H enc W base args ds gs before hval hW

/-- The statement. -/
theorem card : Rows.MatrixMadeSaid :=
  OpenClaim.holds_of_wide 5 Try.f5 rfl rfl rfl rfl rfl rfl rfl ⟨rfl, rfl, rfl, rfl, rfl⟩ rfl rfl rfl rfl rfl (by kernel_rfl) Try.func5 (by kernel_rfl)
    (of_decide_eq_true (by kernel_rfl)) (by unfold Func.isWrapper; first | (rw [if_pos (by decide +kernel)]; kernel_rfl) | (rw [if_neg (by decide +kernel)]; exact ⟨rfl, rfl⟩))
    (fun os started H enc _ => lifted os started H enc)
end Go.Proofs.Ytkgemngkkedcnaa.matrixMade
