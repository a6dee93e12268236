/- MatrixTurned: the inverse of a product is the product of inverses, the other way round; the inverse of the inverse is the matrix. For all bytes and sizes. -/
import Derived.Test.YtkgemngkkedcnaaLaw
import Derived.Test.YtkgemngkkedcnaaOpen
import Derived.Test.YtkgemngkkedcnaaWakes5
namespace Go.Proofs.Ytkgemngkkedcnaa.matrixTurned
open Go.ChangeShapes Go.WideShapes Go.ChangeAt Go.RowKit

set_option maxRecDepth 100000 in
set_option maxHeartbeats 8000000 in
theorem walk (A B : Option Addr) (p q c d : Nat) (la lb : List UInt8) (a : Int) (w : World) (hla : la.length = p) (hlb : lb.length = q) (hma : p ≤ maxLen) (hmb : q ≤ maxLen)
    (hA : Rd w w.heap.size A la) (hB : Rd w w.heap.size B lb) (h0 : -9223372036854775808 ≤ a) (h1 : a ≤ 9223372036854775807) :
    Calls Try.prog 4 #[.slice A p c, .slice B q d, .int .i64 a] w fun e w' => e = .returned (.bool true) ∧ Below w.heap.size w w' := by
  have HW := Lib.hid (fun W => within_any a 5 W h0 h1 (by omega))
  obtain ⟨q1, q2⟩ := withinI_range a 5 (by omega)
  obtain ⟨M, hM⟩ : ∃ M : Nat, withinI a 5 = (M : Int) := ⟨(withinI a 5).toNat, by omega⟩
  rw [hM] at HW
  obtain ⟨N, hN⟩ : ∃ N : Nat, 1 + M = N := ⟨_, rfl⟩
  have hNi : (1 : Int) + (M : Int) = (N : Int) := by omega
  have n1 : 1 ≤ N := by omega
  have n16 : N ≤ 16 := by omega
  have SA := Lib.hid (fun W (h : Below w.heap.size w W) => msquare A p c N la W hla hma n16 ((hA.below h (Nat.le_refl _)).more h.size))
  have SB := Lib.hid (fun W (h : Below w.heap.size w W) => msquare B q d N lb W hlb hmb n16 ((hB.below h (Nat.le_refl _)).more h.size))
  have QX := Lib.hid (sqr_sq la N)
  have QY := Lib.hid (sqr_sq lb N)
  generalize sqr la N = xs at *
  generalize sqr lb N = ys at *
  have QP := Lib.hid (sq_mul_sq QX.out QY.out n1 n16)
  have FM := Lib.hid (faith_mul QX.out QY.out n1 n16)
  clear hM hN q1 q2 h0 h1 hA hB hla hlb hma hmb
  go_enter Try.func4, Try.ntmps4
  go_wp2_with fail
  with_reducible refine (HW.out w).mono ?_
  rintro e wx ⟨rfl, rfl⟩
  go_wp2_with fail
  with_reducible refine (SA.out w (Below.refl _ _)).mono ?_
  rintro e w1 ⟨x, rfl, hx, hb⟩
  have Lx1 := Lib.hid hx
  have HB1 := Lib.hid hb
  clear hb hx
  go_wp2_with fail
  with_reducible refine (SB.out w1 HB1.out).mono ?_
  rintro e w2 ⟨y, rfl, hy, hb⟩
  have Lx2 := Lib.hid (Lx1.out.on hb)
  have Ly2 := Lib.hid hy
  have HB2 := Lib.hid (HB1.out.trans (hb.mono HB1.out.size))
  clear hb Lx1 hy HB1
  go_wp2_with fail
  with_reducible refine (pmul_any Lx2.out Ly2.out).mono ?_
  rintro e w3 ⟨p1, rfl, hp1, hb⟩
  have Lx3 := Lib.hid (Lx2.out.on hb)
  have Ly3 := Lib.hid (Ly2.out.on hb)
  have Lp13 := Lib.hid hp1
  have HB3 := Lib.hid (HB2.out.trans (hb.mono HB2.out.size))
  clear hb Lx2 Ly2 hp1 HB2
  go_wp2_with fail
  with_reducible refine (pinv_any Lx3.out).mono ?_
  rintro e w4 ⟨i1, er1, rs1, rfl, hs1, hv, hb⟩
  have Lx4 := Lib.hid (Lx3.out.on hb)
  have Ly4 := Lib.hid (Ly3.out.on hb)
  have Lp14 := Lib.hid (Lp13.out.on hb)
  have Li14 := Lib.hid hv
  have HB4 := Lib.hid (HB3.out.trans (hb.mono HB3.out.size))
  clear hb Lx3 Ly3 Lp13 hv HB3
  go_wp2_with fail
  with_reducible refine (pinv_any Ly4.out).mono ?_
  rintro e w5 ⟨j1, er2, rs2, rfl, hs2, hv, hb⟩
  have Lx5 := Lib.hid (Lx4.out.on hb)
  have Ly5 := Lib.hid (Ly4.out.on hb)
  have Lp15 := Lib.hid (Lp14.out.on hb)
  have Li15 := Lib.hid (Li14.out.on hb)
  have Lj15 := Lib.hid hv
  have HB5 := Lib.hid (HB4.out.trans (hb.mono HB4.out.size))
  clear hb Lx4 Ly4 Lp14 Li14 hv HB4
  go_wp2_with fail
  with_reducible refine (pinv_any Lp15.out).mono ?_
  rintro e w6 ⟨q1, er3, rs3, rfl, hs3, hv, hb⟩
  have Lx6 := Lib.hid (Lx5.out.on hb)
  have Ly6 := Lib.hid (Ly5.out.on hb)
  have Lp16 := Lib.hid (Lp15.out.on hb)
  have Li16 := Lib.hid (Li15.out.on hb)
  have Lj16 := Lib.hid (Lj15.out.on hb)
  have Lq16 := Lib.hid hv
  have HB6 := Lib.hid (HB5.out.trans (hb.mono HB5.out.size))
  clear hb Lx5 Ly5 Lp15 Li15 Lj15 hv HB5
  clear Ly6
  clear Lp16
  rcases inv_cases QX.out n1 n16 hs1 with ⟨rfl, QI, HI⟩ | ⟨rfl, rfl, HI⟩
  · rcases inv_cases QY.out n1 n16 hs2 with ⟨rfl, QJ, HJ⟩ | ⟨rfl, rfl, HJ⟩
    · rcases inv_cases QP.out n1 n16 hs3 with ⟨rfl, QQ, HQ⟩ | ⟨rfl, rfl, HQ⟩
      · have MT := Lib.hid (sq_turned QX.out QY.out QI QJ QQ n1 n16 HI HJ HQ)
        have EM := Lib.hid (sq_mulE QJ QI n1 n16)
        have QI2 := Lib.hid QI
        have HI2 := Lib.hid HI
        have QQ2 := Lib.hid QQ
        clear hs1 hs2 hs3 QI HI QJ HJ QQ HQ FM
        go_wp2_with fail
        with_reducible refine (pmul_any Lj16.out Li16.out).mono ?_
        rintro e w7 ⟨r1, rfl, hr1, hb⟩
        have Lx7 := Lib.hid (Lx6.out.on hb)
        have Li17 := Lib.hid (Li16.out.on hb)
        have Lj17 := Lib.hid (Lj16.out.on hb)
        have Lq17 := Lib.hid (Lq16.out.on hb)
        have Lr17 := Lib.hid hr1
        have HB7 := Lib.hid (HB6.out.trans (hb.mono HB6.out.size))
        clear hb Lx6 Li16 Lj16 Lq16 hr1 HB6
        rw [EM.out]
        go_wp2_with fail
        with_reducible refine (pinv_any Li17.out).mono ?_
        rintro e w8 ⟨b1, er4, rs4, rfl, hs4, hv, hb⟩
        have Lx8 := Lib.hid (Lx7.out.on hb)
        have Li18 := Lib.hid (Li17.out.on hb)
        have Lj18 := Lib.hid (Lj17.out.on hb)
        have Lq18 := Lib.hid (Lq17.out.on hb)
        have Lr18 := Lib.hid (Lr17.out.on hb)
        have Lb18 := Lib.hid hv
        have HB8 := Lib.hid (HB7.out.trans (hb.mono HB7.out.size))
        clear hb Lx7 Li17 Lj17 Lq17 Lr17 hv HB7
        rcases inv_cases QI2.out n1 n16 hs4 with ⟨rfl, QB, HB⟩ | ⟨_, _, HB⟩
        · have MB := Lib.hid (sq_inv_only QX.out QB HI2.out.symm HB)
          have QB2 := Lib.hid QB
          clear hs4 QB HB
          go_wp2_with fail
          with_reducible refine (sqrows QQ2.out n16 MT.out Lq18.out Lr18.out).mono ?_
          rintro e w9 ⟨rfl, hb⟩
          have Lx9 := Lib.hid (Lx8.out.on hb)
          have Li19 := Lib.hid (Li18.out.on hb)
          have Lj19 := Lib.hid (Lj18.out.on hb)
          have Lq19 := Lib.hid (Lq18.out.on hb)
          have Lr19 := Lib.hid (Lr18.out.on hb)
          have Lb19 := Lib.hid (Lb18.out.on hb)
          have HB9 := Lib.hid (HB8.out.trans (hb.mono HB8.out.size))
          clear hb Lx8 Li18 Lj18 Lq18 Lr18 Lb18 HB8
          go_wp2_with fail
          with_reducible refine (sqrows QB2.out n16 MB.out Lb19.out Lx9.out).mono ?_
          rintro e w10 ⟨rfl, hb⟩
          have Lx10 := Lib.hid (Lx9.out.on hb)
          have Li110 := Lib.hid (Li19.out.on hb)
          have Lj110 := Lib.hid (Lj19.out.on hb)
          have Lq110 := Lib.hid (Lq19.out.on hb)
          have Lr110 := Lib.hid (Lr19.out.on hb)
          have Lb110 := Lib.hid (Lb19.out.on hb)
          have HB10 := Lib.hid (HB9.out.trans (hb.mono HB9.out.size))
          clear hb Lx9 Li19 Lj19 Lq19 Lr19 Lb19 HB9
          go_wp2_with fail
          with_reducible refine (wakes5_any w10).mono ?_
          rintro e w11 ⟨rfl, hb⟩
          have Lx11 := Lib.hid (Lx10.out.on hb)
          have Li111 := Lib.hid (Li110.out.on hb)
          have Lj111 := Lib.hid (Lj110.out.on hb)
          have Lq111 := Lib.hid (Lq110.out.on hb)
          have Lr111 := Lib.hid (Lr110.out.on hb)
          have Lb111 := Lib.hid (Lb110.out.on hb)
          have HB11 := Lib.hid (HB10.out.trans (hb.mono HB10.out.size))
          clear hb Lx10 Li110 Lj110 Lq110 Lr110 Lb110 HB10
          go_wp2_with fail
          go_ret
          exact ⟨rfl, HB11.out⟩
        · exact absurd HI2.out.symm.faithful HB
      · exact absurd (FM.out.2 ⟨HI.faithful, HJ.faithful⟩) HQ
    · rcases inv_cases QP.out n1 n16 hs3 with ⟨rfl, QQ, HQ⟩ | ⟨rfl, rfl, HQ⟩
      · exact absurd HQ.faithful (fun h => HJ (FM.out.1 h).2)
      · clear hs1 hs2 hs3
        go_wp2_with fail
        with_reducible refine (wakes5_any w6).mono ?_
        rintro e w7 ⟨rfl, hb⟩
        have Lx7 := Lib.hid (Lx6.out.on hb)
        have Li17 := Lib.hid (Li16.out.on hb)
        have Lj17 := Lib.hid (Lj16.out.on hb)
        have Lq17 := Lib.hid (Lq16.out.on hb)
        have HB7 := Lib.hid (HB6.out.trans (hb.mono HB6.out.size))
        clear hb Lx6 Li16 Lj16 Lq16 HB6
        go_wp2_with fail
        go_ret
        exact ⟨rfl, HB7.out⟩
  · rcases inv_cases QY.out n1 n16 hs2 with ⟨rfl, QJ, HJ⟩ | ⟨rfl, rfl, HJ⟩
    · rcases inv_cases QP.out n1 n16 hs3 with ⟨rfl, QQ, HQ⟩ | ⟨rfl, rfl, HQ⟩
      · exact absurd HQ.faithful (fun h => HI (FM.out.1 h).1)
      · clear hs1 hs2 hs3
        go_wp2_with fail
        with_reducible refine (wakes5_any w6).mono ?_
        rintro e w7 ⟨rfl, hb⟩
        have Lx7 := Lib.hid (Lx6.out.on hb)
        have Li17 := Lib.hid (Li16.out.on hb)
        have Lj17 := Lib.hid (Lj16.out.on hb)
        have Lq17 := Lib.hid (Lq16.out.on hb)
        have HB7 := Lib.hid (HB6.out.trans (hb.mono HB6.out.size))
        clear hb Lx6 Li16 Lj16 Lq16 HB6
        go_wp2_with fail
        go_ret
        exact ⟨rfl, HB7.out⟩
    · rcases inv_cases QP.out n1 n16 hs3 with ⟨rfl, QQ, HQ⟩ | ⟨rfl, rfl, HQ⟩
      · exact absurd HQ.faithful (fun h => HI (FM.out.1 h).1)
      · clear hs1 hs2 hs3
        go_wp2_with fail
        with_reducible refine (wakes5_any w6).mono ?_
        rintro e w7 ⟨rfl, hb⟩
        have Lx7 := Lib.hid (Lx6.out.on hb)
        have Li17 := Lib.hid (Li16.out.on hb)
        have Lj17 := Lib.hid (Lj16.out.on hb)
        have Lq17 := Lib.hid (Lq16.out.on hb)
        have HB7 := Lib.hid (HB6.out.trans (hb.mono HB6.out.size))
        clear hb Lx6 Li16 Lj16 Lq16 HB6
        go_wp2_with fail
        go_ret
        exact ⟨rfl, HB7.out⟩

theorem contract (H : Type) (enc : TypeId × Value → H) (W : World) (base : Nat) (args : Array Value) (ds gs : List (DataW H)) (before : List MemPlace)
    (hval : ∀ (j : Nat) t v, Try.f4.params[j]? = some t → args[j]? = some v → Value.okWide Try.prog W .any base t v)
    (hW : DataW.Whole enc Try.prog Try.f4.params.toList Rows.matrixTurnedSpec.vars false W args.toList ds gs before) :
    Calls Try.prog 4 args W fun e W' => ∃ v, e = .returned v ∧ Rows.matrixTurnedSpec.post enc Try.prog Try.f4 false true false false W args v W' := by
  have hW' := hW
  obtain ⟨p, q, hA0, hV, rfl, hfz, hnd⟩ := hW
  have hA : DataW.TrodAll enc Try.prog W 0 (fun _ => true) true Try.f4.params.toList args.toList ds p := hA0
  rw [Try.params4] at hA hval
  obtain ⟨v0, v1, v2, d0, d1, d2, p0, p1, p2, rfl, rfl, rfl, h0, h1, h2⟩ := trodAll_three hA
  obtain ⟨rfl, rfl⟩ := trodVars_none hV
  obtain ⟨A0, m0, c0, l0, rfl, hl0, hc0, hm0, hr0⟩ := open_bytes (hval 0 22 v0 rfl rfl) h0
  obtain ⟨A1, m1, c1, l1, rfl, hl1, hc1, hm1, hr1⟩ := open_bytes (hval 1 22 v1 rfl rfl) h1
  obtain ⟨n2, rfl, rfl, rfl, wf2⟩ := open_int Try.underlying3 (hval 2 3 v2 rfl rfl) h2
  have b2 := bounds_i64 wf2
  clear hA0
  refine (walk A0 A1 m0 m1 c0 c1 l0 l1 n2 W hl0 hl1 (Nat.le_trans hc0 hm0) (Nat.le_trans hc1 hm1) hr0 hr1 b2.1 b2.2).mono fun e W' ⟨he, hb⟩ => ?_
  exact ⟨_, he, law_post hW' rfl (by kernel_rfl) rfl (by kernel_rfl) hb⟩

set_option maxRecDepth 100000 in
theorem lifted (os : Os) (started : os.Started) (H : Type) (enc : TypeId × Value → H) :
    ReturnsInHanded {} Try.checked os 4 .any (Rows.matrixTurnedSpec.pre6 enc Try.prog Try.f4 Rows.matrixTurnedRow.domain false) (Rows.matrixTurnedSpec.post enc Try.prog Try.f4 false true false false) := by
  refine returnsInHanded_of_change (C := Try.checked) own started (by kernel_rfl) Try.func4
    (ChangeSpec.witness6 (enc := enc) (C := Try.checked) false ⟨#[], #[.slice none 0 0, .slice none 0 0, .int .i64 0], []⟩ 8 (by kernel_rfl) (by kernel_rfl) (by kernel_rfl) (by kernel_rfl)) ?_
  intro W base args ds gs before hval0 hW _ _
  have hval : ∀ (j : Nat) t v, Try.f4.params[j]? = some t → args[j]? = some v → Value.okWide Try.prog W .any base t v := hval0
  exact contract H enc W base args ds gs before hval hW

/-- The statement. -/
theorem card : Rows.MatrixTurnedSaid :=
  OpenClaim.holds_of_wide 4 Try.f4 rfl rfl rfl rfl rfl rfl rfl ⟨rfl, rfl, rfl, rfl, rfl⟩ rfl rfl rfl rfl rfl (by kernel_rfl) Try.func4 (by kernel_rfl)
    (of_decide_eq_true (by kernel_rfl)) (by unfold Func.isWrapper; first | (rw [if_pos (by decide +kernel)]; kernel_rfl) | (rw [if_neg (by decide +kernel)]; exact ⟨rfl, rfl⟩))
    (fun os started H enc _ => lifted os started H enc)
end Go.Proofs.Ytkgemngkkedcnaa.matrixTurned
