/- RsEncodes: all shares of any bytes, their lengths, the noughts behind. For all bytes and numbers. -/
import Derived.Test.YtdaofffkbnkljaaLaw
import Derived.Test.YtdaofffkbnkljaaOpen
import Derived.Test.YtdaofffkbnkljaaWakes6
import Derived.Test.YtdaofffkbnkljaaSpoil
import Derived.Test.YtdaofffkbnkljaaIntact
namespace Go.Proofs.Ytdaofffkbnkljaa.rsEncodes
open Go.ChangeShapes Go.WideShapes Go.ChangeAt Go.RowKit

set_option maxRecDepth 100000 in
set_option maxHeartbeats 16000000 in
theorem walk (A : Option Addr) (z c : Nat) (l : List UInt8) (k0 n0 size : Int) (w : World) (hl : l.length = z) (hc : z ≤ c) (hr : Rd w w.heap.size A l) (hk0 : -9223372036854775808 ≤ k0) (hk1 : k0 ≤ 9223372036854775807) (hn0 : -9223372036854775808 ≤ n0) (hn1 : n0 ≤ 9223372036854775807) (hs0 : -9223372036854775808 ≤ size) (hs1 : size ≤ 9223372036854775807) :
    Calls Try.prog 6 #[.slice A z c, .int .i64 k0, .int .i64 n0, .int .i64 size] w fun e w' => e = .returned (.bool true) ∧ Below w.heap.size w w' := by
  have HCUT := Lib.hid (show Calls Try.prog 11 #[.slice A z c, .int .i64 60] w fun e w' => e = .returned (.slice A (min z 60) c) ∧ w = w' from cut_any A z c 60 w hc)
  obtain ⟨zb, hzb⟩ : ∃ zb, min z 60 = zb := ⟨_, rfl⟩
  obtain ⟨b, hbt⟩ : ∃ b, l.take 60 = b := ⟨_, rfl⟩
  have HBL := Lib.hid (show b.length = zb by rw [← hbt, List.length_take, hl, Nat.min_comm]; exact hzb)
  have HBV := Lib.hid (show BV w (.slice A zb c) b from BV.of HBL.out (by omega) (by rw [← hbt]; exact hr.take 60))
  have hzb1 : zb ≤ 60 := by omega
  rw [hzb] at HCUT
  clear hbt hzb hr hl hc
  have HWN := Lib.hid (show ∀ W, Calls Try.prog 12 #[.int .i64 n0, .int .i64 8] W fun e w' => e = .returned (.int .i64 (withinI n0 8)) ∧ W = w' from fun W => within_any n0 8 W hn0 hn1 (by omega))
  obtain ⟨q1, q2⟩ := withinI_range n0 8 (by omega)
  obtain ⟨M, hM⟩ : ∃ M : Nat, withinI n0 8 = (M : Int) := ⟨(withinI n0 8).toNat, by omega⟩
  rw [hM] at HWN
  obtain ⟨N, hN⟩ : ∃ N : Nat, 1 + M = N := ⟨_, rfl⟩
  have hNi : (1 : Int) + (M : Int) = (N : Int) := by omega
  have hN16 : N ≤ 8 := by omega
  have hN1 : 1 ≤ N := by omega
  have HWK := Lib.hid (fun W => within_any k0 (N : Int) W hk0 hk1 (by omega))
  obtain ⟨q3, q4⟩ := withinI_range k0 (N : Int) (by omega)
  obtain ⟨J, hJ⟩ : ∃ J : Nat, withinI k0 (N : Int) = (J : Int) := ⟨(withinI k0 (N : Int)).toNat, by omega⟩
  rw [hJ] at HWK
  obtain ⟨K, hK⟩ : ∃ K : Nat, 1 + J = K := ⟨_, rfl⟩
  have hKi : (1 : Int) + (J : Int) = (K : Int) := by omega
  have hK1 : 1 ≤ K := by omega
  have hKN : K ≤ N := by omega
  obtain ⟨G, hG⟩ := gen_is (k := K) (by omega)
  have HG := Lib.hid hG
  have HNEW := Lib.hid (fun W => cnew_yes K N W hK1 hKN (by omega))
  clear hG hM hN hJ hK q1 q2 q3 q4 hn0 hn1 hk0 hk1
  have HSEG := Lib.hid (show segN b K ≤ 100 by
    have h4 := shN_lt b.length hK1
    have h5 := shL_len b K
    have h6 := seg_mul b hK1
    have h7 : segN b K ≤ K * segN b K := Nat.le_mul_of_pos_left _ hK1
    have := HBL.out
    omega)
  have HRM := Lib.hid (show ∃ m : Int, size.tmod 20 = m ∧ m ≤ 1000 ∧ -1000 ≤ m from ⟨_, rfl, by
    rcases (show size < 0 ∨ 0 ≤ size by omega) with h | h
    · have := tmod_neg (n := 20) (by omega) h; omega
    · have := Int.tmod_lt_of_pos size (show (0:Int) < 20 by omega); omega, by
    rcases (show size < 0 ∨ 0 ≤ size by omega) with h | h
    · have := tmod_neg (n := 20) (by omega) h; omega
    · have : 0 ≤ size.tmod 20 := Int.tmod_nonneg 20 h
      omega⟩)
  go_enter Try.func6, Try.ntmps6
  go_wp2_with fail
  with_reducible refine (HCUT.out).mono ?_
  rintro e wx ⟨rfl, rfl⟩
  go_wp2_with fail
  with_reducible refine (HWN.out _).mono ?_
  rintro e wx ⟨rfl, rfl⟩
  go_wp2_with fail
  with_reducible refine (HWK.out _).mono ?_
  rintro e wx ⟨rfl, rfl⟩
  go_wp2_with fail
  clear HWN HWK HCUT
  with_reducible refine (HNEW.out w).mono ?_
  rintro e w1 ⟨g, rfl, hcd, hb⟩
  have LB1 := Lib.hid (HBV.out.on hb)
  have LC1 := Lib.hid hcd
  have HB1 := Lib.hid hb
  clear hb HBV hcd
  go_wp2_with fail
  with_reducible refine ((show Calls Try.prog 23 #[.slice A zb c] w1 fun e w' => ∃ A', e = .returned (.slice A' zb (zb + 3)) ∧ Rd w' w'.heap.size A' (b ++ tail3) ∧ Below w1.heap.size w1 w' from lend_any A zb c b w1 HBL.out (by omega) LB1.out.rd.2.2)).mono ?_
  rintro e w2 ⟨AX, rfl, hx, hb⟩
  have LB2 := Lib.hid (LB1.out.on hb)
  have LC2 := Lib.hid (LC1.out.on hb)
  have LX2 := Lib.hid hx
  have HB2 := Lib.hid (HB1.out.trans (hb.mono HB1.out.size))
  clear hb LB1 LC1 hx HB1
  have HXV := Lib.hid (show BV w2 (.slice AX zb (zb + 3)) b from BV.of HBL.out (by omega) (by have := (LX2.out).take zb; rwa [List.take_left' HBL.out] at this))
  go_wp2_with fail
  have HB0 := Lib.hid HB2.out
  have KB := Lib.hid LB2.out
  have KX := Lib.hid LX2.out
  with_reducible refine (cenc_any HG.out LC2.out HXV.out (by rw [HBL.out]; omega)).mono ?_
  rintro e w3 ⟨v, rfl, hv, hb⟩
  have LB3 := Lib.hid (LB2.out.on hb)
  have LC3 := Lib.hid (LC2.out.on hb)
  have LX3 := Lib.hid (LX2.out.on hb)
  have HB3 := Lib.hid (HB2.out.trans (hb.mono HB2.out.size))
  have HVM := Lib.hid hv.mv
  obtain ⟨h, cv, rfl, hcv, hsp⟩ := hv.spoils (encL_len G b K N) (by omega) (encL_rows G b K N)
  have HSP := Lib.hid hsp
  have HSI := Lib.hid (show Since w2.heap.size w2 w3 from ⟨hb, hb.size⟩)
  clear hv hsp HXV
  clear hb LB2 LC2 LX2 HB2
  clear LX3
  have HEL := Lib.hid (show ∀ r ∈ encL G b K N, r.length ≤ 100000 from fun r hr => by rw [encL_rows G b K N r hr]; have := HSEG.out; omega)
  have HEN := Lib.hid (show (encL G b K N).length ≤ 1000 by rw [encL_len]; omega)
  generalize segN b K = sg at HSP
  have HBB := Lib.hid (Nat.le_refl w2.heap.size)
  clear HSEG
  go_wp2_with fail
  with_reducible refine (mrsenc HG.out hK1 hKN (by omega) LB3.out (by rw [HBL.out]; omega)).mono ?_
  rintro e w4 ⟨v2, rfl, hv, hb⟩
  have LB4 := Lib.hid (LB3.out.on hb)
  have LC4 := Lib.hid (LC3.out.on hb)
  have LV4 := Lib.hid (HVM.out.on hb)
  have LS4 := Lib.hid (HSP.out.on hb)
  have LI4 := Lib.hid (HSI.out.on hb)
  have LE4 := Lib.hid hv
  have HB4 := Lib.hid (HB3.out.trans (hb.mono HB3.out.size))
  clear hb LB3 LC3 HVM HSP HSI hv HB3
  go_wp2_with fail
  with_reducible refine (mveq_yes LV4.out LE4.out HEN.out HEL.out).mono ?_
  rintro e w5 ⟨rfl, hb⟩
  have LB5 := Lib.hid (LB4.out.on hb)
  have LC5 := Lib.hid (LC4.out.on hb)
  have LV5 := Lib.hid (LV4.out.on hb)
  have LS5 := Lib.hid (LS4.out.on hb)
  have LI5 := Lib.hid (LI4.out.on hb)
  have LE5 := Lib.hid (LE4.out.on hb)
  have HB5 := Lib.hid (HB4.out.trans (hb.mono HB4.out.size))
  clear hb LB4 LC4 LV4 LS4 LI4 LE4 HB4
  go_wp2_with fail
  clear LV5
  clear LE5
  with_reducible refine (clen_any size LC5.out hs0 hs1).mono ?_
  rintro e w6 ⟨rfl, hb⟩
  have LB6 := Lib.hid (LB5.out.on hb)
  have LC6 := Lib.hid (LC5.out.on hb)
  have LS6 := Lib.hid (LS5.out.on hb)
  have LI6 := Lib.hid (LI5.out.on hb)
  have HB6 := Lib.hid (HB5.out.trans (hb.mono HB5.out.size))
  clear hb LB5 LC5 LS5 LI5 HB5
  go_wp2_with fail
  with_reducible refine (rslen_any size K w6 hs0 hs1 hK1 (by omega)).mono ?_
  rintro e wx ⟨rfl, rfl⟩
  generalize lenI size K = LN
  clear LB6
  clear LC6
  go_wp2_with fail
  have HS6 := LS6
  have HI6 := LI6
  clear LS6 LI6 HB6
  go_loopw [58] (fun i wr => ∃ k : Nat, i = .int .i64 k ∧ Hid (Spoils wr w2.heap.size h N sg) ∧ Hid (Since w2.heap.size w2 wr)) (fun i _ => N - (intOf i).toNat)
  case atStart => exact ⟨0, rfl, HS6, HI6⟩
  case round =>
    clear HS6 HI6
    obtain ⟨k, rfl, HS, HI⟩ := hrel
    by_cases hlt : k < N
    · have hki : (k : Int) < (N : Int) := by omega
      obtain ⟨Av, cw, hcell, hfz, hA⟩ : ∃ Av cw, wr.cell? ⟨h, k, none⟩ = some (.slice Av sg cw) ∧ wr.frozen? ⟨h, k, none⟩ = false ∧ ((Av = none ∧ sg = 0 ∧ cw = 0) ∨ ∃ (g : Nat) (full : List UInt8), Av = some ⟨g, 0, none⟩ ∧ w2.heap.size ≤ g ∧ full.length = cw ∧ sg ≤ cw ∧ cw ≤ maxLen ∧ Blk wr g (u8A full) 5) := by
        obtain ⟨_, cs, h2, h3⟩ := HS.out
        obtain ⟨Av, cw, h4, h5⟩ := h3 k hlt
        exact ⟨Av, cw, (h2.cell k).trans h4, h2.frozen k, h5⟩
      rcases hA with ⟨rfl, hz, rfl⟩ | ⟨g', full, rfl, q1, q2, q3, q4, q5⟩
      · rw [hz] at hcell
        go_wp2_with fail
        with_reducible refine (spoil_none wr).mono ?_
        rintro e wz ⟨rfl, rfl⟩
        go_wp2_with fail
        go_roundw
        case rel => exact ⟨k + 1, by go_num, HS, HI⟩
        case measure => simp [intOf]; omega
      · have HF := Lib.hid q2
        have HG' := Lib.hid q5
        clear q2 q5
        go_wp2_with fail
        with_reducible refine (spoil_one g' sg cw w2.heap.size full wr HF.out q3 q4 HG'.out q1).mono ?_
        rintro e wz ⟨rfl, ht, hb⟩
        have HS2 := Lib.hid (HS.out.turned ht HG'.out HF.out)
        have HI2 := Lib.hid (show Since w2.heap.size w2 wz from ⟨HI.out.1.trans hb, Nat.le_trans HI.out.2 (Nat.le_of_eq ht.2.1.symm)⟩)
        clear ht hb HS HI
        go_wp2_with fail
        go_roundw
        case rel => exact ⟨k + 1, by go_num, HS2, HI2⟩
        case measure => simp [intOf]; omega
    · have hki : ¬ (k : Int) < (N : Int) := by omega
      obtain ⟨m, hm, hm1, hm2⟩ := HRM.out
      have HX2 := Lib.hid ((KX.out.below HI.out.1 (Nat.le_refl _)).more HI.out.2)
      have HV2 := Lib.hid (KB.out.on HI.out.1)
      have HBW := Lib.hid (HB0.out.trans (HI.out.1.mono HB0.out.size))
      clear HS HI KX KB HB0 HRM hlt
      have HPL := Lib.hid (show (shL b (max m 1).toNat).length ≤ 100000 by
        have h4 := shN_lt b.length (show 1 ≤ (max m 1).toNat by omega)
        have h3 := HBL.out
        rw [shL_len]
        omega)
      go_wp2_with fail
      with_reducible refine (intact_any AX A zb c wr.heap.size wr.heap.size b wr HBL.out (by omega) HX2.out HV2.out.rd.2.2).mono ?_
      rintro e w8 ⟨rfl, q, hq⟩
      have hb : Below wr.heap.size wr w8 := by rw [hq]; exact below_drewN (Below.refl _ _) q
      clear hq HX2
      have LB8 := Lib.hid (HV2.out.on hb)
      have HB8 := Lib.hid (HBW.out.trans (hb.mono HBW.out.size))
      clear hb HV2 HBW
      go_wp2_with fail
      with_reducible refine ((show Calls Try.prog 19 #[.slice A zb c, .int .i64 m] w8 fun e w9 => ∃ x, e = .returned x ∧ BV w9 x (shL b (max m 1).toNat) ∧ Below w8.heap.size w8 w9 from cpad_any m LB8.out (by rw [HBL.out]; omega) hm1)).mono ?_
      rintro e w9 ⟨p1, rfl, hp, hb⟩
      have LB9 := Lib.hid (LB8.out.on hb)
      have LP9 := Lib.hid hp
      have HB9 := Lib.hid (HB8.out.trans (hb.mono HB8.out.size))
      clear hb LB8 hp HB8
      go_wp2_with fail
      with_reducible refine ((show Calls Try.prog 29 #[.slice A zb c, .int .i64 m] w9 fun e wq => ∃ x, e = .returned x ∧ BV wq x (shL b (max m 1).toNat) ∧ Below w9.heap.size w9 wq from mrspad m LB9.out (by rw [HBL.out]; omega) hm1)).mono ?_
      rintro e w10 ⟨p2, rfl, hp, hb⟩
      have LB10 := Lib.hid (LB9.out.on hb)
      have LP10 := Lib.hid (LP9.out.on hb)
      have LQ10 := Lib.hid hp
      have HB10 := Lib.hid (HB9.out.trans (hb.mono HB9.out.size))
      clear hb LB9 LP9 hp HB9
      go_wp2_with fail
      with_reducible refine (bveq_yes LP10.out LQ10.out HPL.out).mono ?_
      rintro e w11 ⟨rfl, hb⟩
      have LB11 := Lib.hid (LB10.out.on hb)
      have LP11 := Lib.hid (LP10.out.on hb)
      have LQ11 := Lib.hid (LQ10.out.on hb)
      have HB11 := Lib.hid (HB10.out.trans (hb.mono HB10.out.size))
      clear hb LB10 LP10 LQ10 HB10
      go_wp2_with fail
      clear LP11
      clear LQ11
      clear LB11
      with_reducible refine (wakes6_any _).mono ?_
      rintro e w12 ⟨rfl, hb⟩
      have HB12 := Lib.hid (HB11.out.trans (hb.mono HB11.out.size))
      clear hb HB11
      go_wp2_with fail
      go_ret
      exact ⟨rfl, HB12.out⟩

set_option maxRecDepth 100000 in
theorem contract (H : Type) (enc : TypeId × Value → H) (W : World) (base : Nat) (args : Array Value) (ds gs : List (DataW H)) (before : List MemPlace)
    (hval : ∀ (j : Nat) t v, Try.f6.params[j]? = some t → args[j]? = some v → Value.okWide Try.prog W .any base t v)
    (hW : DataW.Whole enc Try.prog Try.f6.params.toList Rows.rsEncodesSpec.vars false W args.toList ds gs before) :
    Calls Try.prog 6 args W fun e W' => ∃ v, e = .returned v ∧ Rows.rsEncodesSpec.post enc Try.prog Try.f6 false true false false W args v W' := by
  have hW' := hW
  obtain ⟨p, q, hA0, hV, rfl, hfz, hnd⟩ := hW
  have hA : DataW.TrodAll enc Try.prog W 0 (fun _ => true) true Try.f6.params.toList args.toList ds p := hA0
  rw [Try.params6] at hA hval
  obtain ⟨v0, v1, v2, v3, d0, d1, d2, d3, p0, p1, p2, p3, rfl, rfl, rfl, h0, h1, h2, h3⟩ := trodAll_four hA
  obtain ⟨rfl, rfl⟩ := trodVars_none hV
  obtain ⟨A0, m0, c0, l0, rfl, hl0, hc0, hm0, hr0⟩ := open_bytes (hval 0 22 v0 rfl rfl) h0
  obtain ⟨n1, rfl, rfl, rfl, wf1⟩ := open_int Try.underlying3 (hval 1 3 v1 rfl rfl) h1
  have b1 := bounds_i64 wf1
  obtain ⟨n2, rfl, rfl, rfl, wf2⟩ := open_int Try.underlying3 (hval 2 3 v2 rfl rfl) h2
  have b2 := bounds_i64 wf2
  obtain ⟨n3, rfl, rfl, rfl, wf3⟩ := open_int Try.underlying3 (hval 3 3 v3 rfl rfl) h3
  have b3 := bounds_i64 wf3
  clear hA0
  refine (walk A0 m0 c0 l0 n1 n2 n3 W hl0 hc0 hr0 b1.1 b1.2 b2.1 b2.2 b3.1 b3.2).mono fun e W' ⟨he, hb⟩ => ?_
  exact ⟨_, he, law_post hW' rfl (by kernel_rfl) rfl (by kernel_rfl) hb⟩

set_option maxRecDepth 100000 in
theorem lifted (os : Os) (started : os.Started) (H : Type) (enc : TypeId × Value → H) :
    ReturnsInHanded {} Try.checked os 6 .any (Rows.rsEncodesSpec.pre6 enc Try.prog Try.f6 Rows.rsEncodesRow.domain false) (Rows.rsEncodesSpec.post enc Try.prog Try.f6 false true false false) := by
  refine returnsInHanded_of_change (C := Try.checked) own started (by kernel_rfl) Try.func6
    (ChangeSpec.witness6 (enc := enc) (C := Try.checked) false ⟨#[], #[.slice none 0 0, .int .i64 0, .int .i64 0, .int .i64 0], []⟩ 8 (by kernel_rfl) (by kernel_rfl) (by kernel_rfl) (by kernel_rfl)) ?_
  intro W base args ds gs before hval0 hW _ _
  have hval : ∀ (j : Nat) t v, Try.f6.params[j]? = some t → args[j]? = some v → Value.okWide Try.prog W .any base t v := hval0
  exact contract H enc W base args ds gs before hval hW

/-- The statement. -/
theorem card : Rows.RsEncodesSaid :=
  OpenClaim.holds_of_wide 6 Try.f6 rfl rfl rfl rfl rfl rfl rfl ⟨rfl, rfl, rfl, rfl, rfl⟩ rfl rfl rfl rfl rfl (by kernel_rfl) Try.func6 (by kernel_rfl)
    (of_decide_eq_true (by kernel_rfl)) (by unfold Func.isWrapper; first | (rw [if_pos (by decide +kernel)]; kernel_rfl) | (rw [if_neg (by decide +kernel)]; exact ⟨rfl, rfl⟩))
    (fun os started H enc _ => lifted os started H enc)
end Go.Proofs.Ytdaofffkbnkljaa.rsEncodes
