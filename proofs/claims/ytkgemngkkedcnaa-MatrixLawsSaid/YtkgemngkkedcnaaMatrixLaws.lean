/- MatrixLaws: a matrix times its inverse changes nothing, on both sides; products ask for no brackets. For all bytes and sizes. -/
import Derived.Test.YtkgemngkkedcnaaLaw
import Derived.Test.YtkgemngkkedcnaaOpen
import Derived.Test.YtkgemngkkedcnaaWakes5
namespace Go.Proofs.Ytkgemngkkedcnaa.matrixLaws
open Go.ChangeShapes Go.WideShapes Go.ChangeAt Go.RowKit

set_option maxRecDepth 100000 in
set_option maxHeartbeats 8000000 in
theorem walk (A B C : Option Addr) (p q r c d f : Nat) (la lb lc : List UInt8) (a : Int) (w : World) (hla : la.length = p) (hlb : lb.length = q) (hlc : lc.length = r) (hma : p ≤ maxLen) (hmb : q ≤ maxLen) (hmc : r ≤ maxLen)
    (hA : Rd w w.heap.size A la) (hB : Rd w w.heap.size B lb) (hC : Rd w w.heap.size C lc) (h0 : -9223372036854775808 ≤ a) (h1 : a ≤ 9223372036854775807) :
    Calls Try.prog 8 #[.slice A p c, .slice B q d, .slice C r f, .int .i64 a] w fun e w' => e = .returned (.bool true) ∧ Below w.heap.size w w' := by
  have HW := Lib.hid (fun W => within_any a 5 W h0 h1 (by omega))
  obtain ⟨q1, q2⟩ := withinI_range a 5 (by omega)
  obtain ⟨M, hM⟩ : ∃ M : Nat, withinI a 5 = (M : Int) := ⟨(withinI a 5).toNat, by omega⟩
  rw [hM] at HW
  obtain ⟨N, hN⟩ : ∃ N : Nat, 1 + M = N := ⟨_, rfl⟩
  have hNi : (1 : Int) + (M : Int) = (N : Int) := by omega
  have n1 : 1 ≤ N := by omega
  have n16 : N ≤ 16 := by omega
  have SA := Lib.hid (fun W (h : Below w.heap.size w W) => msquare A p c N la W hla hma n16 ((hA.below h (Nat.le_refl _)).more h.size))
  have SB := Lib.hid (fun W (h : Below w.heap.size w W) => msquare B q d N lb W hlb hmb n16 ((hB.below h (Nat.le_refl _)).more h.size))
  have SC := Lib.hid (fun W (h : Below w.heap.size w W) => msquare C r f N lc W hlc hmc n16 ((hC.below h (Nat.le_refl _)).more h.size))
  have QX := Lib.hid (sqr_sq la N)
  have QY := Lib.hid (sqr_sq lb N)
  have QZ := Lib.hid (sqr_sq lc N)
  generalize sqr la N = xs at *
  generalize sqr lb N = ys at *
  generalize sqr lc N = zs at *
  have E1 := Lib.hid (sq_mulE QX.out QY.out n1 n16)
  have E4 := Lib.hid (sq_mulE QX.out (sq_mul_sq QY.out QZ.out n1 n16) n1 n16)
  have QA := Lib.hid (sq_assoc QX.out QY.out QZ.out n1 n16)
  have QQ := Lib.hid (sq_mul_sq (sq_mul_sq QX.out QY.out n1 n16) QZ.out n1 n16)
  clear hM hN q1 q2 h0 h1 hA hB hC hla hlb hlc hma hmb hmc
  go_enter Try.func8, Try.ntmps8
  go_wp2_with fail
  with_reducible refine (HW.out w).mono ?_
  rintro e wx ⟨rfl, rfl⟩
  go_wp2_with fail
  with_reducible refine (SA.out w (Below.refl _ _)).mono ?_
  rintro e w1 ⟨x, rfl, hx, hb⟩
  have Lx1 := Lib.hid hx
  have HB1 := Lib.hid hb
  clear hb hx
  go_wp2_with fail
  with_reducible refine (SB.out w1 HB1.out).mono ?_
  rintro e w2 ⟨y, rfl, hy, hb⟩
  have Lx2 := Lib.hid (Lx1.out.on hb)
  have Ly2 := Lib.hid hy
  have HB2 := Lib.hid (HB1.out.trans (hb.mono HB1.out.size))
  clear hb Lx1 hy HB1
  go_wp2_with fail
  with_reducible refine (SC.out w2 HB2.out).mono ?_
  rintro e w3 ⟨z, rfl, hz, hb⟩
  have Lx3 := Lib.hid (Lx2.out.on hb)
  have Ly3 := Lib.hid (Ly2.out.on hb)
  have Lz3 := Lib.hid hz
  have HB3 := Lib.hid (HB2.out.trans (hb.mono HB2.out.size))
  clear hb Lx2 Ly2 hz HB2
  go_wp2_with fail
  with_reducible refine (pmul_any Lx3.out Ly3.out).mono ?_
  rintro e w4 ⟨p1, rfl, hp1, hb⟩
  have Lx4 := Lib.hid (Lx3.out.on hb)
  have Ly4 := Lib.hid (Ly3.out.on hb)
  have Lz4 := Lib.hid (Lz3.out.on hb)
  have Lp14 := Lib.hid hp1
  have HB4 := Lib.hid (HB3.out.trans (hb.mono HB3.out.size))
  clear hb Lx3 Ly3 Lz3 hp1 HB3
  go_wp2_with fail
  with_reducible refine (pmul_any Lp14.out Lz4.out).mono ?_
  rintro e w5 ⟨q1, rfl, hq1, hb⟩
  have Lx5 := Lib.hid (Lx4.out.on hb)
  have Ly5 := Lib.hid (Ly4.out.on hb)
  have Lz5 := Lib.hid (Lz4.out.on hb)
  have Lp15 := Lib.hid (Lp14.out.on hb)
  have Lq15 := Lib.hid hq1
  have HB5 := Lib.hid (HB4.out.trans (hb.mono HB4.out.size))
  clear hb Lx4 Ly4 Lz4 Lp14 hq1 HB4
  go_wp2_with fail
  with_reducible refine (pmul_any Ly5.out Lz5.out).mono ?_
  rintro e w6 ⟨r1, rfl, hr1, hb⟩
  have Lx6 := Lib.hid (Lx5.out.on hb)
  have Ly6 := Lib.hid (Ly5.out.on hb)
  have Lz6 := Lib.hid (Lz5.out.on hb)
  have Lp16 := Lib.hid (Lp15.out.on hb)
  have Lq16 := Lib.hid (Lq15.out.on hb)
  have Lr16 := Lib.hid hr1
  have HB6 := Lib.hid (HB5.out.trans (hb.mono HB5.out.size))
  clear hb Lx5 Ly5 Lz5 Lp15 Lq15 hr1 HB5
  go_wp2_with fail
  with_reducible refine (pmul_any Lx6.out Lr16.out).mono ?_
  rintro e w7 ⟨s1, rfl, hs1, hb⟩
  have Lx7 := Lib.hid (Lx6.out.on hb)
  have Ly7 := Lib.hid (Ly6.out.on hb)
  have Lz7 := Lib.hid (Lz6.out.on hb)
  have Lp17 := Lib.hid (Lp16.out.on hb)
  have Lq17 := Lib.hid (Lq16.out.on hb)
  have Lr17 := Lib.hid (Lr16.out.on hb)
  have Ls17 := Lib.hid hs1
  have HB7 := Lib.hid (HB6.out.trans (hb.mono HB6.out.size))
  clear hb Lx6 Ly6 Lz6 Lp16 Lq16 Lr16 hs1 HB6
  rw [E4.out]
  go_wp2_with fail
  clear Lp17
  clear Lr17
  clear Ly7
  clear Lz7
  with_reducible refine (sqrows QQ.out n16 QA.out Lq17.out Ls17.out).mono ?_
  rintro e w8 ⟨rfl, hb⟩
  have Lx8 := Lib.hid (Lx7.out.on hb)
  have Lq18 := Lib.hid (Lq17.out.on hb)
  have Ls18 := Lib.hid (Ls17.out.on hb)
  have HB8 := Lib.hid (HB7.out.trans (hb.mono HB7.out.size))
  clear hb Lx7 Lq17 Ls17 HB7
  go_wp2_with fail
  clear Lq18
  clear Ls18
  with_reducible refine (pinv_any Lx8.out).mono ?_
  rintro e w9 ⟨v, er, rs, rfl, hs, hv, hb⟩
  have Lx9 := Lib.hid (Lx8.out.on hb)
  have Lv9 := Lib.hid hv
  have HB9 := Lib.hid (HB8.out.trans (hb.mono HB8.out.size))
  clear hb Lx8 hv HB8
  rcases inv_cases QX.out n1 n16 hs with ⟨rfl, QR, HI⟩ | ⟨rfl, rfl, _⟩
  · have MA := Lib.hid (sq_inv_mul QX.out QR n1 n16 HI)
    have MB := Lib.hid (sq_inv_mul QR QX.out n1 n16 HI.symm)
    have EA := Lib.hid (sq_mulE QX.out QR n1 n16)
    have EB := Lib.hid (sq_mulE QR QX.out n1 n16)
    have SU := Lib.hid (fun W => punit_any (N : Int) W)
    rw [unitL_nat n1 n16] at SU
    have QM := Lib.hid (sq_mul_sq QX.out QR n1 n16)
    have QN := Lib.hid (sq_mul_sq QR QX.out n1 n16)
    clear hs QR HI
    go_wp2_with fail
    with_reducible refine (pmul_any Lx9.out Lv9.out).mono ?_
    rintro e w10 ⟨l1, rfl, hl1, hb⟩
    have Lx10 := Lib.hid (Lx9.out.on hb)
    have Lv10 := Lib.hid (Lv9.out.on hb)
    have Ll110 := Lib.hid hl1
    have HB10 := Lib.hid (HB9.out.trans (hb.mono HB9.out.size))
    clear hb Lx9 Lv9 hl1 HB9
    rw [EA.out]
    go_wp2_with fail
    with_reducible refine (pmul_any Lv10.out Lx10.out).mono ?_
    rintro e w11 ⟨m1, rfl, hm1, hb⟩
    have Lx11 := Lib.hid (Lx10.out.on hb)
    have Lv11 := Lib.hid (Lv10.out.on hb)
    have Ll111 := Lib.hid (Ll110.out.on hb)
    have Lm111 := Lib.hid hm1
    have HB11 := Lib.hid (HB10.out.trans (hb.mono HB10.out.size))
    clear hb Lx10 Lv10 Ll110 hm1 HB10
    rw [EB.out]
    go_wp2_with fail
    with_reducible refine (SU.out w11).mono ?_
    rintro e w12 ⟨u, rfl, hu, hb⟩
    have Lx12 := Lib.hid (Lx11.out.on hb)
    have Lv12 := Lib.hid (Lv11.out.on hb)
    have Ll112 := Lib.hid (Ll111.out.on hb)
    have Lm112 := Lib.hid (Lm111.out.on hb)
    have Lu12 := Lib.hid hu
    have HB12 := Lib.hid (HB11.out.trans (hb.mono HB11.out.size))
    clear hb Lx11 Lv11 Ll111 Lm111 hu HB11
    go_wp2_with fail
    with_reducible refine (sqrows QM.out n16 MA.out Ll112.out Lu12.out).mono ?_
    rintro e w13 ⟨rfl, hb⟩
    have Lx13 := Lib.hid (Lx12.out.on hb)
    have Lv13 := Lib.hid (Lv12.out.on hb)
    have Ll113 := Lib.hid (Ll112.out.on hb)
    have Lm113 := Lib.hid (Lm112.out.on hb)
    have Lu13 := Lib.hid (Lu12.out.on hb)
    have HB13 := Lib.hid (HB12.out.trans (hb.mono HB12.out.size))
    clear hb Lx12 Lv12 Ll112 Lm112 Lu12 HB12
    go_wp2_with fail
    with_reducible refine (sqrows QN.out n16 MB.out Lm113.out Lu13.out).mono ?_
    rintro e w14 ⟨rfl, hb⟩
    have Lx14 := Lib.hid (Lx13.out.on hb)
    have Lv14 := Lib.hid (Lv13.out.on hb)
    have Ll114 := Lib.hid (Ll113.out.on hb)
    have Lm114 := Lib.hid (Lm113.out.on hb)
    have Lu14 := Lib.hid (Lu13.out.on hb)
    have HB14 := Lib.hid (HB13.out.trans (hb.mono HB13.out.size))
    clear hb Lx13 Lv13 Ll113 Lm113 Lu13 HB13
    go_wp2_with fail
    with_reducible refine (wakes5_any w14).mono ?_
    rintro e w15 ⟨rfl, hb⟩
    have Lx15 := Lib.hid (Lx14.out.on hb)
    have Lv15 := Lib.hid (Lv14.out.on hb)
    have Ll115 := Lib.hid (Ll114.out.on hb)
    have Lm115 := Lib.hid (Lm114.out.on hb)
    have Lu15 := Lib.hid (Lu14.out.on hb)
    have HB15 := Lib.hid (HB14.out.trans (hb.mono HB14.out.size))
    clear hb Lx14 Lv14 Ll114 Lm114 Lu14 HB14
    go_wp2_with fail
    go_ret
    exact ⟨rfl, HB15.out⟩
  · obtain ⟨X, xc, rfl, _, _⟩ := Lv9.out
    clear hs
    go_wp2_with fail
    with_reducible refine (wakes5_any w9).mono ?_
    rintro e w10 ⟨rfl, hb⟩
    have Lx10 := Lib.hid (Lx9.out.on hb)
    have Lv10 := Lib.hid (Lv9.out.on hb)
    have HB10 := Lib.hid (HB9.out.trans (hb.mono HB9.out.size))
    clear hb Lx9 Lv9 HB9
    go_wp2_with fail
    go_ret
    exact ⟨rfl, HB10.out⟩

theorem contract (H : Type) (enc : TypeId × Value → H) (W : World) (base : Nat) (args : Array Value) (ds gs : List (DataW H)) (before : List MemPlace)
    (hval : ∀ (j : Nat) t v, Try.f8.params[j]? = some t → args[j]? = some v → Value.okWide Try.prog W .any base t v)
    (hW : DataW.Whole enc Try.prog Try.f8.params.toList Rows.matrixLawsSpec.vars false W args.toList ds gs before) :
    Calls Try.prog 8 args W fun e W' => ∃ v, e = .returned v ∧ Rows.matrixLawsSpec.post enc Try.prog Try.f8 false true false false W args v W' := by
  have hW' := hW
  obtain ⟨p, q, hA0, hV, rfl, hfz, hnd⟩ := hW
  have hA : DataW.TrodAll enc Try.prog W 0 (fun _ => true) true Try.f8.params.toList args.toList ds p := hA0
  rw [Try.params8] at hA hval
  obtain ⟨v0, v1, v2, v3, d0, d1, d2, d3, p0, p1, p2, p3, rfl, rfl, rfl, h0, h1, h2, h3⟩ := trodAll_four hA
  obtain ⟨rfl, rfl⟩ := trodVars_none hV
  obtain ⟨A0, m0, c0, l0, rfl, hl0, hc0, hm0, hr0⟩ := open_bytes (hval 0 22 v0 rfl rfl) h0
  obtain ⟨A1, m1, c1, l1, rfl, hl1, hc1, hm1, hr1⟩ := open_bytes (hval 1 22 v1 rfl rfl) h1
  obtain ⟨A2, m2, c2, l2, rfl, hl2, hc2, hm2, hr2⟩ := open_bytes (hval 2 22 v2 rfl rfl) h2
  obtain ⟨n3, rfl, rfl, rfl, wf3⟩ := open_int Try.underlying3 (hval 3 3 v3 rfl rfl) h3
  have b3 := bounds_i64 wf3
  clear hA0
  refine (walk A0 A1 A2 m0 m1 m2 c0 c1 c2 l0 l1 l2 n3 W hl0 hl1 hl2 (Nat.le_trans hc0 hm0) (Nat.le_trans hc1 hm1) (Nat.le_trans hc2 hm2) hr0 hr1 hr2 b3.1 b3.2).mono fun e W' ⟨he, hb⟩ => ?_
  exact ⟨_, he, law_post hW' rfl (by kernel_rfl) rfl (by kernel_rfl) hb⟩

set_option maxRecDepth 100000 in
theorem lifted (os : Os) (started : os.Started) (H : Type) (enc : TypeId × Value → H) :
    ReturnsInHanded {} Try.checked os 8 .any (Rows.matrixLawsSpec.pre6 enc Try.prog Try.f8 Rows.matrixLawsRow.domain false) (Rows.matrixLawsSpec.post enc Try.prog Try.f8 false true false false) := by
  refine returnsInHanded_of_change (C := Try.checked) own started (by kernel_rfl) Try.func8
    (ChangeSpec.witness6 (enc := enc) (C := Try.checked) false ⟨#[], #[.slice none 0 0, .slice none 0 0, .slice none 0 0, .int .i64 0], []⟩ 8 (by kernel_rfl) (by kernel_rfl) (by kernel_rfl) (by kernel_rfl)) ?_
  intro W base args ds gs before hval0 hW _ _
  have hval : ∀ (j : Nat) t v, Try.f8.params[j]? = some t → args[j]? = some v → Value.okWide Try.prog W .any base t v := hval0
  exact contract H enc W base args ds gs before hval hW

/-- The statement. -/
theorem card : Rows.MatrixLawsSaid :=
  OpenClaim.holds_of_wide 8 Try.f8 rfl rfl rfl rfl rfl rfl rfl ⟨rfl, rfl, rfl, rfl, rfl⟩ rfl rfl rfl rfl rfl (by kernel_rfl) Try.func8 (by kernel_rfl)
    (of_decide_eq_true (by kernel_rfl)) (by unfold Func.isWrapper; first | (rw [if_pos (by decide +kernel)]; kernel_rfl) | (rw [if_neg (by decide +kernel)]; exact ⟨rfl, rfl⟩))
    (fun os started H enc _ => lifted os started H enc)
end Go.Proofs.Ytkgemngkkedcnaa.matrixLaws
