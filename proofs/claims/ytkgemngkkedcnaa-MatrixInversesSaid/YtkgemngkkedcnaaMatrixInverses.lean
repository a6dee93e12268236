/- MatrixInverses: the inverse of a square matrix, or that there is none. For all bytes and sizes. -/
import Derived.Test.YtkgemngkkedcnaaLaw
import Derived.Test.YtkgemngkkedcnaaOpen
import Derived.Test.YtkgemngkkedcnaaMxR
namespace Go.Proofs.Ytkgemngkkedcnaa.matrixInverses
open Go.ChangeShapes Go.WideShapes Go.ChangeAt Go.RowKit

set_option maxRecDepth 100000 in
set_option maxHeartbeats 8000000 in
theorem walk (A : Option Addr) (p c : Nat) (la : List UInt8) (a b : Int) (w : World) (hla : la.length = p) (hma : p ≤ maxLen) (hA : Rd w w.heap.size A la) (h0 : -9223372036854775808 ≤ a) (h1 : a ≤ 9223372036854775807) (h2 : -9223372036854775808 ≤ b) (h3 : b ≤ 9223372036854775807) :
    Calls Try.prog 7 #[.slice A p c, .int .i64 a, .int .i64 b] w fun e w' => e = .returned (.bool true) ∧ Below w.heap.size w w' := by
  have HW := Lib.hid (fun W => within_any a 6 W h0 h1 (by omega))
  have HV := Lib.hid (fun W => within_any b 6 W h2 h3 (by omega))
  obtain ⟨q1, q2⟩ := withinI_range a 6 (by omega)
  obtain ⟨q3, q4⟩ := withinI_range b 6 (by omega)
  obtain ⟨M, hM⟩ : ∃ M : Nat, withinI a 6 = (M : Int) := ⟨(withinI a 6).toNat, by omega⟩
  obtain ⟨J, hJ⟩ : ∃ J : Nat, withinI b 6 = (J : Int) := ⟨(withinI b 6).toNat, by omega⟩
  rw [hM] at HW
  rw [hJ] at HV
  obtain ⟨N, hN⟩ : ∃ N : Nat, 1 + M = N := ⟨_, rfl⟩
  obtain ⟨K, hK⟩ : ∃ K : Nat, 1 + J = K := ⟨_, rfl⟩
  have hNi : (1 : Int) + (M : Int) = (N : Int) := by omega
  have hKi : (1 : Int) + (J : Int) = (K : Int) := by omega
  have n1 : 1 ≤ N := by omega
  have n16 : N ≤ 16 := by omega
  have k1 : 1 ≤ K := by omega
  have k16 : K ≤ 16 := by omega
  have SA := Lib.hid (fun m (hm : m ≤ 16) W (h : Below w.heap.size w W) => msquare2 A p c N m la W hla hma n16 hm ((hA.below h (Nat.le_refl _)).more h.size))
  have SB := Lib.hid (fun W (h : Below w.heap.size w W) => msquare A p c N la W hla hma n16 ((hA.below h (Nat.le_refl _)).more h.size))
  clear hM hJ hN hK q1 q2 q3 q4 h0 h1 h2 h3 hA hla hma
  by_cases hev : K % 2 = 0
  · have hevi : ((K : Int) % 2 == 0) = true := beq_iff_eq.2 (by omega)
    have hnn : ((N : Int) != (N : Int)) = false := by simp
    clear hev
    go_enter Try.func7, Try.ntmps7
    go_wp2_with fail
    with_reducible refine (HW.out w).mono ?_
    rintro e wx ⟨rfl, rfl⟩
    go_wp2_with fail
    with_reducible refine (HV.out w).mono ?_
    rintro e wx ⟨rfl, rfl⟩
    have QX := Lib.hid (sqr_sq la N)
    generalize sqr la N = xs at *
    go_wp2_with fail
    with_reducible refine (SB.out w (Below.refl _ _)).mono ?_
    rintro e w1 ⟨x, rfl, hx, hb⟩
    have Lx1 := Lib.hid hx
    have HB1 := Lib.hid hb
    clear hb hx
    go_wp2_with fail
    with_reducible refine (pinv_any Lx1.out).mono ?_
    rintro e w2 ⟨v, er, rs, rfl, hs, hv, hb⟩
    have Lx2 := Lib.hid (Lx1.out.on hb)
    have Lv2 := Lib.hid hv
    have HB2 := Lib.hid (HB1.out.trans (hb.mono HB1.out.size))
    clear hb Lx1 hv HB1
    have HSP := Lib.hid (inv_cases QX.out n1 n16 hs)
    clear hs
    go_wp2_with fail
    with_reducible refine (mrinv Lx2.out QX.out n1 n16).mono ?_
    rintro e w3 ⟨y, ok, ys, rfl, hs, hv, hb⟩
    have Lx3 := Lib.hid (Lx2.out.on hb)
    have Lv3 := Lib.hid (Lv2.out.on hb)
    have Ly3 := Lib.hid hv
    have HB3 := Lib.hid (HB2.out.trans (hb.mono HB2.out.size))
    clear hb Lx2 Lv2 hv HB2
    rcases hs with ⟨rfl, QY, HY⟩ | ⟨rfl, rfl, HY⟩
    · rcases HSP.out with ⟨rfl, QV, HV⟩ | ⟨rfl, rfl, HV⟩
      · have ME := Lib.hid (sq_inv_only QY QV HY HV)
        have QV2 := Lib.hid QV
        clear HSP QY HY QV HV
        go_wp2_with fail
        with_reducible refine (sqrows QV2.out n16 ME.out Lv3.out Ly3.out).mono ?_
        rintro e w4 ⟨rfl, hb⟩
        have Lx4 := Lib.hid (Lx3.out.on hb)
        have Lv4 := Lib.hid (Lv3.out.on hb)
        have Ly4 := Lib.hid (Ly3.out.on hb)
        have HB4 := Lib.hid (HB3.out.trans (hb.mono HB3.out.size))
        clear hb Lx3 Lv3 Ly3 HB3
        go_wp2_with fail
        with_reducible refine (SB.out w4 HB4.out).mono ?_
        rintro e w5 ⟨z, rfl, hz, hb⟩
        have Lx5 := Lib.hid (Lx4.out.on hb)
        have Lv5 := Lib.hid (Lv4.out.on hb)
        have Ly5 := Lib.hid (Ly4.out.on hb)
        have Lz5 := Lib.hid hz
        have HB5 := Lib.hid (HB4.out.trans (hb.mono HB4.out.size))
        clear hb Lx4 Lv4 Ly4 hz HB4
        go_wp2_with fail
        with_reducible refine (sqrows QX.out n16 rfl Lx5.out Lz5.out).mono ?_
        rintro e w6 ⟨rfl, hb⟩
        have Lx6 := Lib.hid (Lx5.out.on hb)
        have Lv6 := Lib.hid (Lv5.out.on hb)
        have Ly6 := Lib.hid (Ly5.out.on hb)
        have Lz6 := Lib.hid (Lz5.out.on hb)
        have HB6 := Lib.hid (HB5.out.trans (hb.mono HB5.out.size))
        clear hb Lx5 Lv5 Ly5 Lz5 HB5
        go_wp2_with fail
        with_reducible refine (wakes5_any w6).mono ?_
        rintro e w7 ⟨rfl, hb⟩
        have Lx7 := Lib.hid (Lx6.out.on hb)
        have Lv7 := Lib.hid (Lv6.out.on hb)
        have Ly7 := Lib.hid (Ly6.out.on hb)
        have Lz7 := Lib.hid (Lz6.out.on hb)
        have HB7 := Lib.hid (HB6.out.trans (hb.mono HB6.out.size))
        clear hb Lx6 Lv6 Ly6 Lz6 HB6
        go_wp2_with fail
        go_ret
        exact ⟨rfl, HB7.out⟩
      · exact absurd HY.faithful HV
    · rcases HSP.out with ⟨rfl, QV, HV⟩ | ⟨rfl, rfl, HV⟩
      · exact absurd HV.faithful HY
      · obtain ⟨X, xc, rfl, _, _⟩ := Lv3.out
        clear HSP HY HV
        go_wp2_with fail
        with_reducible refine (wakes5_any w3).mono ?_
        rintro e w4 ⟨rfl, hb⟩
        have Lx4 := Lib.hid (Lx3.out.on hb)
        have Lv4 := Lib.hid (Lv3.out.on hb)
        have Ly4 := Lib.hid (Ly3.out.on hb)
        have HB4 := Lib.hid (HB3.out.trans (hb.mono HB3.out.size))
        clear hb Lx3 Lv3 Ly3 HB3
        go_wp2_with fail
        go_ret
        exact ⟨rfl, HB4.out⟩
  · have hevi : ((K : Int) % 2 == 0) = false := beq_eq_false_iff_ne.2 (by omega)
    by_cases hKN : N = K
    · subst hKN
      have hnn : ((N : Int) != (N : Int)) = false := by simp
      clear hev
      go_enter Try.func7, Try.ntmps7
      go_wp2_with fail
      with_reducible refine (HW.out w).mono ?_
      rintro e wx ⟨rfl, rfl⟩
      go_wp2_with fail
      with_reducible refine (HV.out w).mono ?_
      rintro e wx ⟨rfl, rfl⟩
      have QX := Lib.hid (sqr_sq la N)
      generalize sqr la N = xs at *
      go_wp2_with fail
      with_reducible refine (SB.out w (Below.refl _ _)).mono ?_
      rintro e w1 ⟨x, rfl, hx, hb⟩
      have Lx1 := Lib.hid hx
      have HB1 := Lib.hid hb
      clear hb hx
      go_wp2_with fail
      with_reducible refine (pinv_any Lx1.out).mono ?_
      rintro e w2 ⟨v, er, rs, rfl, hs, hv, hb⟩
      have Lx2 := Lib.hid (Lx1.out.on hb)
      have Lv2 := Lib.hid hv
      have HB2 := Lib.hid (HB1.out.trans (hb.mono HB1.out.size))
      clear hb Lx1 hv HB1
      have HSP := Lib.hid (inv_cases QX.out n1 n16 hs)
      clear hs
      go_wp2_with fail
      with_reducible refine (mrinv Lx2.out QX.out n1 n16).mono ?_
      rintro e w3 ⟨y, ok, ys, rfl, hs, hv, hb⟩
      have Lx3 := Lib.hid (Lx2.out.on hb)
      have Lv3 := Lib.hid (Lv2.out.on hb)
      have Ly3 := Lib.hid hv
      have HB3 := Lib.hid (HB2.out.trans (hb.mono HB2.out.size))
      clear hb Lx2 Lv2 hv HB2
      rcases hs with ⟨rfl, QY, HY⟩ | ⟨rfl, rfl, HY⟩
      · rcases HSP.out with ⟨rfl, QV, HV⟩ | ⟨rfl, rfl, HV⟩
        · have ME := Lib.hid (sq_inv_only QY QV HY HV)
          have QV2 := Lib.hid QV
          clear HSP QY HY QV HV
          go_wp2_with fail
          with_reducible refine (sqrows QV2.out n16 ME.out Lv3.out Ly3.out).mono ?_
          rintro e w4 ⟨rfl, hb⟩
          have Lx4 := Lib.hid (Lx3.out.on hb)
          have Lv4 := Lib.hid (Lv3.out.on hb)
          have Ly4 := Lib.hid (Ly3.out.on hb)
          have HB4 := Lib.hid (HB3.out.trans (hb.mono HB3.out.size))
          clear hb Lx3 Lv3 Ly3 HB3
          go_wp2_with fail
          with_reducible refine (SB.out w4 HB4.out).mono ?_
          rintro e w5 ⟨z, rfl, hz, hb⟩
          have Lx5 := Lib.hid (Lx4.out.on hb)
          have Lv5 := Lib.hid (Lv4.out.on hb)
          have Ly5 := Lib.hid (Ly4.out.on hb)
          have Lz5 := Lib.hid hz
          have HB5 := Lib.hid (HB4.out.trans (hb.mono HB4.out.size))
          clear hb Lx4 Lv4 Ly4 hz HB4
          go_wp2_with fail
          with_reducible refine (sqrows QX.out n16 rfl Lx5.out Lz5.out).mono ?_
          rintro e w6 ⟨rfl, hb⟩
          have Lx6 := Lib.hid (Lx5.out.on hb)
          have Lv6 := Lib.hid (Lv5.out.on hb)
          have Ly6 := Lib.hid (Ly5.out.on hb)
          have Lz6 := Lib.hid (Lz5.out.on hb)
          have HB6 := Lib.hid (HB5.out.trans (hb.mono HB5.out.size))
          clear hb Lx5 Lv5 Ly5 Lz5 HB5
          go_wp2_with fail
          with_reducible refine (wakes5_any w6).mono ?_
          rintro e w7 ⟨rfl, hb⟩
          have Lx7 := Lib.hid (Lx6.out.on hb)
          have Lv7 := Lib.hid (Lv6.out.on hb)
          have Ly7 := Lib.hid (Ly6.out.on hb)
          have Lz7 := Lib.hid (Lz6.out.on hb)
          have HB7 := Lib.hid (HB6.out.trans (hb.mono HB6.out.size))
          clear hb Lx6 Lv6 Ly6 Lz6 HB6
          go_wp2_with fail
          go_ret
          exact ⟨rfl, HB7.out⟩
        · exact absurd HY.faithful HV
      · rcases HSP.out with ⟨rfl, QV, HV⟩ | ⟨rfl, rfl, HV⟩
        · exact absurd HV.faithful HY
        · obtain ⟨X, xc, rfl, _, _⟩ := Lv3.out
          clear HSP HY HV
          go_wp2_with fail
          with_reducible refine (wakes5_any w3).mono ?_
          rintro e w4 ⟨rfl, hb⟩
          have Lx4 := Lib.hid (Lx3.out.on hb)
          have Lv4 := Lib.hid (Lv3.out.on hb)
          have Ly4 := Lib.hid (Ly3.out.on hb)
          have HB4 := Lib.hid (HB3.out.trans (hb.mono HB3.out.size))
          clear hb Lx3 Lv3 Ly3 HB3
          go_wp2_with fail
          go_ret
          exact ⟨rfl, HB4.out⟩
    · have hnn : ((N : Int) != (K : Int)) = true := by simp only [bne_iff_ne, ne_eq]; omega
      go_enter Try.func7, Try.ntmps7
      go_wp2_with fail
      with_reducible refine (HW.out w).mono ?_
      rintro e wx ⟨rfl, rfl⟩
      go_wp2_with fail
      with_reducible refine (HV.out w).mono ?_
      rintro e wx ⟨rfl, rfl⟩
      have NS := Lib.hid (not_square (f := sqM la K) n1 hKN)
      clear hev hKN
      go_wp2_with fail
      with_reducible refine (SA.out K k16 w (Below.refl _ _)).mono ?_
      rintro e w1 ⟨x, rfl, hx, hb⟩
      have Lx1 := Lib.hid hx
      have HB1 := Lib.hid hb
      clear hb hx
      go_wp2_with fail
      with_reducible refine (pinv_any Lx1.out).mono ?_
      rintro e w2 ⟨v, er, rs, rfl, hs, hv, hb⟩
      have Lx2 := Lib.hid (Lx1.out.on hb)
      have Lv2 := Lib.hid hv
      have HB2 := Lib.hid (HB1.out.trans (hb.mono HB1.out.size))
      clear hb Lx1 hv HB1
      obtain ⟨rfl, rfl⟩ := inv_not hs NS.out
      obtain ⟨X, xc, rfl, _, _⟩ := Lv2.out
      clear hs
      go_wp2_with fail
      with_reducible refine (wakes5_any w2).mono ?_
      rintro e w3 ⟨rfl, hb⟩
      have Lx3 := Lib.hid (Lx2.out.on hb)
      have Lv3 := Lib.hid (Lv2.out.on hb)
      have HB3 := Lib.hid (HB2.out.trans (hb.mono HB2.out.size))
      clear hb Lx2 Lv2 HB2
      go_wp2_with fail
      go_ret
      exact ⟨rfl, HB3.out⟩

theorem contract (H : Type) (enc : TypeId × Value → H) (W : World) (base : Nat) (args : Array Value) (ds gs : List (DataW H)) (before : List MemPlace)
    (hval : ∀ (j : Nat) t v, Try.f7.params[j]? = some t → args[j]? = some v → Value.okWide Try.prog W .any base t v)
    (hW : DataW.Whole enc Try.prog Try.f7.params.toList Rows.matrixInversesSpec.vars false W args.toList ds gs before) :
    Calls Try.prog 7 args W fun e W' => ∃ v, e = .returned v ∧ Rows.matrixInversesSpec.post enc Try.prog Try.f7 false true false false W args v W' := by
  have hW' := hW
  obtain ⟨p, q, hA0, hV, rfl, hfz, hnd⟩ := hW
  have hA : DataW.TrodAll enc Try.prog W 0 (fun _ => true) true Try.f7.params.toList args.toList ds p := hA0
  rw [Try.params7] at hA hval
  obtain ⟨v0, v1, v2, d0, d1, d2, p0, p1, p2, rfl, rfl, rfl, h0, h1, h2⟩ := trodAll_three hA
  obtain ⟨rfl, rfl⟩ := trodVars_none hV
  obtain ⟨A0, m0, c0, l0, rfl, hl0, hc0, hm0, hr0⟩ := open_bytes (hval 0 22 v0 rfl rfl) h0
  obtain ⟨n1, rfl, rfl, rfl, wf1⟩ := open_int Try.underlying3 (hval 1 3 v1 rfl rfl) h1
  have b1 := bounds_i64 wf1
  obtain ⟨n2, rfl, rfl, rfl, wf2⟩ := open_int Try.underlying3 (hval 2 3 v2 rfl rfl) h2
  have b2 := bounds_i64 wf2
  clear hA0
  refine (walk A0 m0 c0 l0 n1 n2 W hl0 (Nat.le_trans hc0 hm0) hr0 b1.1 b1.2 b2.1 b2.2).mono fun e W' ⟨he, hb⟩ => ?_
  exact ⟨_, he, law_post hW' rfl (by kernel_rfl) rfl (by kernel_rfl) hb⟩

set_option maxRecDepth 100000 in
theorem lifted (os : Os) (started : os.Started) (H : Type) (enc : TypeId × Value → H) :
    ReturnsInHanded {} Try.checked os 7 .any (Rows.matrixInversesSpec.pre6 enc Try.prog Try.f7 Rows.matrixInversesRow.domain false) (Rows.matrixInversesSpec.post enc Try.prog Try.f7 false true false false) := by
  refine returnsInHanded_of_change (C := Try.checked) own started (by kernel_rfl) Try.func7
    (ChangeSpec.witness6 (enc := enc) (C := Try.checked) false ⟨#[], #[.slice none 0 0, .int .i64 0, .int .i64 0], []⟩ 8 (by kernel_rfl) (by kernel_rfl) (by kernel_rfl) (by kernel_rfl)) ?_
  intro W base args ds gs before hval0 hW _ _
  have hval : ∀ (j : Nat) t v, Try.f7.params[j]? = some t → args[j]? = some v → Value.okWide Try.prog W .any base t v := hval0
  exact contract H enc W base args ds gs before hval hW

/-- The statement. -/
theorem card : Rows.MatrixInversesSaid :=
  OpenClaim.holds_of_wide 7 Try.f7 rfl rfl rfl rfl rfl rfl rfl ⟨rfl, rfl, rfl, rfl, rfl⟩ rfl rfl rfl rfl rfl (by kernel_rfl) Try.func7 (by kernel_rfl)
    (of_decide_eq_true (by kernel_rfl)) (by unfold Func.isWrapper; first | (rw [if_pos (by decide +kernel)]; kernel_rfl) | (rw [if_neg (by decide +kernel)]; exact ⟨rfl, rfl⟩))
    (fun os started H enc _ => lifted os started H enc)
end Go.Proofs.Ytkgemngkkedcnaa.matrixInverses
