/- GfLaws: products ask for no order, go over sums, and come back by inverses; method values do what methods do. For all bytes. -/
import Derived.Test.YtddfjodedmdojaaLaw
import Derived.Test.YtddfjodedmdojaaOpen
import Derived.Test.YtddfjodedmdojaaGfW
namespace Go.Proofs.Ytddfjodedmdojaa.gfLaws
open Go.ChangeShapes Go.WideShapes Go.ChangeAt Go.RowKit

set_option maxRecDepth 100000 in
set_option maxHeartbeats 8000000 in
theorem walk (a b c : Int) (w : World) (ha0 : 0 ≤ a) (ha1 : a ≤ 255) (hb0 : 0 ≤ b) (hb1 : b ≤ 255) (hc0 : 0 ≤ c) (hc1 : c ≤ 255) :
    Calls Try.prog 7 #[.int .u8 a, .int .u8 b, .int .u8 c] w fun e w' => e = .returned (.bool true) ∧ Below w.heap.size w w' := by
  obtain ⟨x, rfl⟩ := byte_of ha0 ha1
  obtain ⟨y, rfl⟩ := byte_of hb0 hb1
  obtain ⟨z, rfl⟩ := byte_of hc0 hc1
  clear ha0 ha1 hb0 hb1 hc0 hc1
  obtain ⟨p, hp⟩ : ∃ k, mulU x y = k := ⟨_, rfl⟩
  obtain ⟨q, hq⟩ : ∃ k, mulU y z = k := ⟨_, rfl⟩
  obtain ⟨r, hr⟩ : ∃ k, mulU x q = k := ⟨_, rfl⟩
  obtain ⟨s, hs⟩ : ∃ k, y ^^^ z = k := ⟨_, rfl⟩
  obtain ⟨t, ht⟩ : ∃ k, mulU x s = k := ⟨_, rfl⟩
  obtain ⟨u, hu⟩ : ∃ k, mulU x z = k := ⟨_, rfl⟩
  obtain ⟨i, hi⟩ : ∃ k, ivU x = k := ⟨_, rfl⟩
  have C1 := Lib.hid (show ∀ W w g, Fdd W g w → Calls Try.prog 14 #[.pointer (some ⟨g, 0, none⟩), .int .u8 (x.toNat : Int), .int .u8 (y.toNat : Int)] w fun e w' => e = .returned (.int .u8 (p.toNat : Int)) ∧ Fdd W g w' from fun W w g h => by
    have := lmul h x y
    rw [hp] at this
    exact this)
  have C2 := Lib.hid (show ∀ W w g, Fdd W g w → Calls Try.prog 14 #[.pointer (some ⟨g, 0, none⟩), .int .u8 (y.toNat : Int), .int .u8 (x.toNat : Int)] w fun e w' => e = .returned (.int .u8 (p.toNat : Int)) ∧ Fdd W g w' from fun W w g h => by
    have := lmul h y x
    rw [mulU_comm, hp] at this
    exact this)
  have C3 := Lib.hid (show ∀ W w g, Fdd W g w → Calls Try.prog 14 #[.pointer (some ⟨g, 0, none⟩), .int .u8 (y.toNat : Int), .int .u8 (z.toNat : Int)] w fun e w' => e = .returned (.int .u8 (q.toNat : Int)) ∧ Fdd W g w' from fun W w g h => by
    have := lmul h y z
    rw [hq] at this
    exact this)
  have C4 := Lib.hid (show ∀ W w g, Fdd W g w → Calls Try.prog 14 #[.pointer (some ⟨g, 0, none⟩), .int .u8 (x.toNat : Int), .int .u8 (q.toNat : Int)] w fun e w' => e = .returned (.int .u8 (r.toNat : Int)) ∧ Fdd W g w' from fun W w g h => by
    have := lmul h x q
    rw [hr] at this
    exact this)
  have C5 := Lib.hid (show ∀ W w g, Fdd W g w → Calls Try.prog 14 #[.pointer (some ⟨g, 0, none⟩), .int .u8 (p.toNat : Int), .int .u8 (z.toNat : Int)] w fun e w' => e = .returned (.int .u8 (r.toNat : Int)) ∧ Fdd W g w' from fun W w g h => by
    have := lmul h p z
    rw [show mulU p z = r by rw [← hp, mulU_assoc, hq, hr]] at this
    exact this)
  have C6 := Lib.hid (show ∀ W, Calls Try.prog 13 #[.int .u8 (y.toNat : Int), .int .u8 (z.toNat : Int)] W fun e w' => e = .returned (.int .u8 (s.toNat : Int)) ∧ W = w' from fun W => by
    have := add_any y z W
    rw [hs] at this
    exact this)
  have C7 := Lib.hid (show ∀ W w g, Fdd W g w → Calls Try.prog 14 #[.pointer (some ⟨g, 0, none⟩), .int .u8 (x.toNat : Int), .int .u8 (s.toNat : Int)] w fun e w' => e = .returned (.int .u8 (t.toNat : Int)) ∧ Fdd W g w' from fun W w g h => by
    have := lmul h x s
    rw [ht] at this
    exact this)
  have C8 := Lib.hid (show ∀ W w g, Fdd W g w → Calls Try.prog 14 #[.pointer (some ⟨g, 0, none⟩), .int .u8 (x.toNat : Int), .int .u8 (z.toNat : Int)] w fun e w' => e = .returned (.int .u8 (u.toNat : Int)) ∧ Fdd W g w' from fun W w g h => by
    have := lmul h x z
    rw [hu] at this
    exact this)
  have C9 := Lib.hid (show ∀ W, Calls Try.prog 13 #[.int .u8 (p.toNat : Int), .int .u8 (u.toNat : Int)] W fun e w' => e = .returned (.int .u8 (t.toNat : Int)) ∧ W = w' from fun W => by
    have := add_any p u W
    rw [show p ^^^ u = t by rw [← hp, ← hu, ← ht, ← hs, mulU_xor]] at this
    exact this)
  have C10 := Lib.hid (show ∀ W w g, Fdd W g w → Calls Try.prog 14 #[.pointer (some ⟨g, 0, none⟩), .int .u8 (x.toNat : Int), .int .u8 1] w fun e w' => e = .returned (.int .u8 (x.toNat : Int)) ∧ Fdd W g w' from fun W w g h => by
    have := lmul h x 1
    rw [mulU_one] at this
    exact this)
  have C11 := Lib.hid (show ∀ W w g, Fdd W g w → Calls Try.prog 14 #[.pointer (some ⟨g, 0, none⟩), .int .u8 (x.toNat : Int), .int .u8 0] w fun e w' => e = .returned (.int .u8 0) ∧ Fdd W g w' from fun W w g h => by
    have := lmul h x 0
    rw [mulU_zero] at this
    exact this)
  have C12 := Lib.hid (show ∀ W, Calls Try.prog 19 #[.int .u8 (x.toNat : Int), .int .u8 (y.toNat : Int)] W fun e w' => e = .returned (.int .u8 (p.toNat : Int)) ∧ W = w' from fun W => by
    have := gmul_any x y W
    rw [hp] at this
    exact this)
  by_cases hx : x = 0
  · have hz : (x.toNat : Int) = 0 := by rw [hx]; rfl
    have C13 := Lib.hid (show ∀ W w g, Fdd W g w → Calls Try.prog 20 #[.pointer (some ⟨g, 0, none⟩), .int .u8 0] w fun e w' => e = .returned (.int .u8 0) ∧ Fdd W g w' from fun W w g h => by
      have := linv h 0
      rw [ivU_zero] at this
      exact this)
    clear hp hq hr hs ht hu hi hx
    rw [hz] at C1 C2 C4 C7 C8 C10 C11 C12 ⊢
    clear hz
    go_enter Try.func7, Try.ntmps7
    go_wp2_with fail
    with_reducible refine (lnew w).mono ?_
    rintro e w1 ⟨g, rfl, f1⟩
    go_wp2_with fail
    with_reducible refine (C1.out w w1 g f1).mono ?_
    rintro e w2 ⟨rfl, f2⟩
    clear f1
    go_wp2_with fail
    with_reducible refine (C2.out w w2 g f2).mono ?_
    rintro e w3 ⟨rfl, f3⟩
    clear f2
    go_wp2_with fail
    with_reducible refine (C3.out w w3 g f3).mono ?_
    rintro e w4 ⟨rfl, f4⟩
    clear f3
    go_wp2_with fail
    with_reducible refine (C4.out w w4 g f4).mono ?_
    rintro e w5 ⟨rfl, f5⟩
    clear f4
    go_wp2_with fail
    with_reducible refine (C1.out w w5 g f5).mono ?_
    rintro e w6 ⟨rfl, f6⟩
    clear f5
    go_wp2_with fail
    with_reducible refine (C5.out w w6 g f6).mono ?_
    rintro e w7 ⟨rfl, f7⟩
    clear f6
    go_wp2_with fail
    with_reducible refine (C6.out w7).mono ?_
    rintro e wx ⟨rfl, rfl⟩
    go_wp2_with fail
    with_reducible refine (C7.out w w7 g f7).mono ?_
    rintro e w8 ⟨rfl, f8⟩
    clear f7
    go_wp2_with fail
    with_reducible refine (C1.out w w8 g f8).mono ?_
    rintro e w9 ⟨rfl, f9⟩
    clear f8
    go_wp2_with fail
    with_reducible refine (C8.out w w9 g f9).mono ?_
    rintro e w10 ⟨rfl, f10⟩
    clear f9
    go_wp2_with fail
    with_reducible refine (C9.out w10).mono ?_
    rintro e wx ⟨rfl, rfl⟩
    go_wp2_with fail
    with_reducible refine (C10.out w w10 g f10).mono ?_
    rintro e w11 ⟨rfl, f11⟩
    clear f10
    go_wp2_with fail
    with_reducible refine (C11.out w w11 g f11).mono ?_
    rintro e w12 ⟨rfl, f12⟩
    clear f11
    go_wp2_with fail
    with_reducible refine (C12.out w12).mono ?_
    rintro e wx ⟨rfl, rfl⟩
    go_wp2_with fail
    with_reducible refine (C1.out w w12 g f12).mono ?_
    rintro e w13 ⟨rfl, f13⟩
    clear f12
    go_wp2_with fail
    with_reducible refine (C13.out w w13 g f13).mono ?_
    rintro e w14 ⟨rfl, f14⟩
    clear f13
    go_wp2_with fail
    with_reducible refine (wakes4_any w14).mono ?_
    rintro e wx ⟨rfl, rfl⟩
    go_wp2_with fail
    go_ret
    exact ⟨rfl, f14.2⟩
  · have hx0 := pos8' hx
    have hxe : ((x.toNat : Int) == 0) = false := beq_eq_false_iff_ne.2 (by omega)
    have C14 := Lib.hid (show ∀ W w g, Fdd W g w → Calls Try.prog 18 #[.pointer (some ⟨g, 0, none⟩), .int .u8 (p.toNat : Int), .int .u8 (x.toNat : Int)] w fun e w' => e = .returned (.tuple #[.int .u8 (y.toNat : Int), .int .i64 0]) ∧ Fdd W g w' from fun W w g h => by
      have := ldiv h p x
      rw [← hp, mulU_over hx, divE_else hx, hp] at this
      exact this)
    have C15 := Lib.hid (show ∀ W w g, Fdd W g w → Calls Try.prog 20 #[.pointer (some ⟨g, 0, none⟩), .int .u8 (x.toNat : Int)] w fun e w' => e = .returned (.int .u8 (i.toNat : Int)) ∧ Fdd W g w' from fun W w g h => by
      have := linv h x
      rw [hi] at this
      exact this)
    have C16 := Lib.hid (show ∀ W w g, Fdd W g w → Calls Try.prog 14 #[.pointer (some ⟨g, 0, none⟩), .int .u8 (x.toNat : Int), .int .u8 (i.toNat : Int)] w fun e w' => e = .returned (.int .u8 1) ∧ Fdd W g w' from fun W w g h => by
      have := lmul h x i
      rw [← hi, ivU_mul hx, hi] at this
      exact this)
    have C17 := Lib.hid (show ∀ W w g, Fdd W g w → Calls Try.prog 12 #[.pointer (some ⟨g, 0, none⟩), .int .u8 (x.toNat : Int), .int .i64 255] w fun e w' => e = .returned (.int .u8 1) ∧ Fdd W g w' from fun W w g h => by
      have := lpow h x 255 ⟨by omega, by omega⟩
      rw [show fpU x 255 = 1 from pwU_255 hx] at this
      exact this)
    have C18 := Lib.hid (show ∀ W w g, Fdd W g w → Calls Try.prog 20 #[.pointer (some ⟨g, 0, none⟩), .int .u8 (i.toNat : Int)] w fun e w' => e = .returned (.int .u8 (x.toNat : Int)) ∧ Fdd W g w' from fun W w g h => by
      have := linv h i
      rw [show ivU i = x by rw [← hi, ivU_ivU]] at this
      exact this)
    clear hp hq hr hs ht hu hi hx
    go_enter Try.func7, Try.ntmps7
    go_wp2_with fail
    with_reducible refine (lnew w).mono ?_
    rintro e w1 ⟨g, rfl, f1⟩
    go_wp2_with fail
    with_reducible refine (C1.out w w1 g f1).mono ?_
    rintro e w2 ⟨rfl, f2⟩
    clear f1
    go_wp2_with fail
    with_reducible refine (C2.out w w2 g f2).mono ?_
    rintro e w3 ⟨rfl, f3⟩
    clear f2
    go_wp2_with fail
    with_reducible refine (C3.out w w3 g f3).mono ?_
    rintro e w4 ⟨rfl, f4⟩
    clear f3
    go_wp2_with fail
    with_reducible refine (C4.out w w4 g f4).mono ?_
    rintro e w5 ⟨rfl, f5⟩
    clear f4
    go_wp2_with fail
    with_reducible refine (C1.out w w5 g f5).mono ?_
    rintro e w6 ⟨rfl, f6⟩
    clear f5
    go_wp2_with fail
    with_reducible refine (C5.out w w6 g f6).mono ?_
    rintro e w7 ⟨rfl, f7⟩
    clear f6
    go_wp2_with fail
    with_reducible refine (C6.out w7).mono ?_
    rintro e wx ⟨rfl, rfl⟩
    go_wp2_with fail
    with_reducible refine (C7.out w w7 g f7).mono ?_
    rintro e w8 ⟨rfl, f8⟩
    clear f7
    go_wp2_with fail
    with_reducible refine (C1.out w w8 g f8).mono ?_
    rintro e w9 ⟨rfl, f9⟩
    clear f8
    go_wp2_with fail
    with_reducible refine (C8.out w w9 g f9).mono ?_
    rintro e w10 ⟨rfl, f10⟩
    clear f9
    go_wp2_with fail
    with_reducible refine (C9.out w10).mono ?_
    rintro e wx ⟨rfl, rfl⟩
    go_wp2_with fail
    with_reducible refine (C10.out w w10 g f10).mono ?_
    rintro e w11 ⟨rfl, f11⟩
    clear f10
    go_wp2_with fail
    with_reducible refine (C11.out w w11 g f11).mono ?_
    rintro e w12 ⟨rfl, f12⟩
    clear f11
    go_wp2_with fail
    with_reducible refine (C12.out w12).mono ?_
    rintro e wx ⟨rfl, rfl⟩
    go_wp2_with fail
    with_reducible refine (C1.out w w12 g f12).mono ?_
    rintro e w13 ⟨rfl, f13⟩
    clear f12
    go_wp2_with fail
    with_reducible refine (C1.out w w13 g f13).mono ?_
    rintro e w14 ⟨rfl, f14⟩
    clear f13
    go_wp2_with fail
    with_reducible refine (C14.out w w14 g f14).mono ?_
    rintro e w15 ⟨rfl, f15⟩
    clear f14
    go_wp2_with fail
    with_reducible refine (C15.out w w15 g f15).mono ?_
    rintro e w16 ⟨rfl, f16⟩
    clear f15
    go_wp2_with fail
    with_reducible refine (C16.out w w16 g f16).mono ?_
    rintro e w17 ⟨rfl, f17⟩
    clear f16
    go_wp2_with fail
    with_reducible refine (C17.out w w17 g f17).mono ?_
    rintro e w18 ⟨rfl, f18⟩
    clear f17
    go_wp2_with fail
    with_reducible refine (C15.out w w18 g f18).mono ?_
    rintro e w19 ⟨rfl, f19⟩
    clear f18
    go_wp2_with fail
    with_reducible refine (C18.out w w19 g f19).mono ?_
    rintro e w20 ⟨rfl, f20⟩
    clear f19
    go_wp2_with fail
    with_reducible refine (wakes4_any w20).mono ?_
    rintro e wx ⟨rfl, rfl⟩
    go_wp2_with fail
    go_ret
    exact ⟨rfl, f20.2⟩

theorem contract (H : Type) (enc : TypeId × Value → H) (W : World) (base : Nat) (args : Array Value) (ds gs : List (DataW H)) (before : List MemPlace)
    (hval : ∀ (j : Nat) t v, Try.f7.params[j]? = some t → args[j]? = some v → Value.okWide Try.prog W .any base t v)
    (hW : DataW.Whole enc Try.prog Try.f7.params.toList Rows.gfLawsSpec.vars false W args.toList ds gs before) :
    Calls Try.prog 7 args W fun e W' => ∃ v, e = .returned v ∧ Rows.gfLawsSpec.post enc Try.prog Try.f7 false true false false W args v W' := by
  have hW' := hW
  obtain ⟨p, q, hA0, hV, rfl, hfz, hnd⟩ := hW
  have hA : DataW.TrodAll enc Try.prog W 0 (fun _ => true) true Try.f7.params.toList args.toList ds p := hA0
  rw [Try.params7] at hA hval
  obtain ⟨v0, v1, v2, d0, d1, d2, p0, p1, p2, rfl, rfl, rfl, h0, h1, h2⟩ := trodAll_three hA
  obtain ⟨rfl, rfl⟩ := trodVars_none hV
  obtain ⟨n0, rfl, rfl, rfl, wf0⟩ := open_int Try.underlying5 (hval 0 5 v0 rfl rfl) h0
  have b0 := bounds_u8 wf0
  obtain ⟨n1, rfl, rfl, rfl, wf1⟩ := open_int Try.underlying5 (hval 1 5 v1 rfl rfl) h1
  have b1 := bounds_u8 wf1
  obtain ⟨n2, rfl, rfl, rfl, wf2⟩ := open_int Try.underlying5 (hval 2 5 v2 rfl rfl) h2
  have b2 := bounds_u8 wf2
  clear hA0
  refine (walk n0 n1 n2 W b0.1 b0.2 b1.1 b1.2 b2.1 b2.2).mono fun e W' ⟨he, hb⟩ => ?_
  exact ⟨_, he, law_post hW' rfl (by kernel_rfl) rfl (by kernel_rfl) hb⟩

set_option maxRecDepth 100000 in
theorem lifted (os : Os) (started : os.Started) (H : Type) (enc : TypeId × Value → H) :
    ReturnsInHanded {} Try.checked os 7 .any (Rows.gfLawsSpec.pre6 enc Try.prog Try.f7 Rows.gfLawsRow.domain false) (Rows.gfLawsSpec.post enc Try.prog Try.f7 false true false false) := by
  refine returnsInHanded_of_change (C := Try.checked) own started (by kernel_rfl) Try.func7
    (ChangeSpec.witness6 (enc := enc) (C := Try.checked) false ⟨#[], #[.int .u8 0, .int .u8 0, .int .u8 0], []⟩ 8 (by kernel_rfl) (by kernel_rfl) (by kernel_rfl) (by kernel_rfl)) ?_
  intro W base args ds gs before hval0 hW _ _
  have hval : ∀ (j : Nat) t v, Try.f7.params[j]? = some t → args[j]? = some v → Value.okWide Try.prog W .any base t v := hval0
  exact contract H enc W base args ds gs before hval hW

/-- The statement. -/
theorem card : Rows.GfLawsSaid :=
  OpenClaim.holds_of_wide 7 Try.f7 rfl rfl rfl rfl rfl rfl rfl ⟨rfl, rfl, rfl, rfl, rfl⟩ rfl rfl rfl rfl rfl (by kernel_rfl) Try.func7 (by kernel_rfl)
    (of_decide_eq_true (by kernel_rfl)) (by unfold Func.isWrapper; first | (rw [if_pos (by decide +kernel)]; kernel_rfl) | (rw [if_neg (by decide +kernel)]; exact ⟨rfl, rfl⟩))
    (fun os started H enc _ => lifted os started H enc)
end Go.Proofs.Ytddfjodedmdojaa.gfLaws
