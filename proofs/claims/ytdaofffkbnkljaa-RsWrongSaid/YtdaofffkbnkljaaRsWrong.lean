/- RsWrong: with one byte of one share turned, other bytes come back, at most one a piece. For all bytes and numbers. -/
import Derived.Test.YtdaofffkbnkljaaLaw
import Derived.Test.YtdaofffkbnkljaaOpen
import Derived.Test.YtdaofffkbnkljaaWakes6
import Derived.Test.YtdaofffkbnkljaaSix
import Derived.Test.YtdaofffkbnkljaaWrong6
import Derived.Test.YtdaofffkbnkljaaRsV
import Derived.Test.YtdaofffkbnkljaaAesB
namespace Go.Proofs.Ytdaofffkbnkljaa.rsWrong
open Go.ChangeShapes Go.WideShapes Go.ChangeAt Go.RowKit

set_option maxRecDepth 100000 in
set_option maxHeartbeats 16000000 in
theorem walk (A : Option Addr) (z c : Nat) (l : List UInt8) (k0 n0 j0 a0 : Int) (t0 : Int) (w : World) (hl : l.length = z) (hc : z ≤ c) (hr : Rd w w.heap.size A l) (hk0 : -9223372036854775808 ≤ k0) (hk1 : k0 ≤ 9223372036854775807) (hn0 : -9223372036854775808 ≤ n0) (hn1 : n0 ≤ 9223372036854775807) (hj0 : -9223372036854775808 ≤ j0) (hj1 : j0 ≤ 9223372036854775807) (ha0 : -9223372036854775808 ≤ a0) (ha1 : a0 ≤ 9223372036854775807) (ht0 : 0 ≤ t0) (ht1 : t0 ≤ 255) :
    Calls Try.prog 4 #[.slice A z c, .int .i64 k0, .int .i64 n0, .int .i64 j0, .int .i64 a0, .int .u8 t0] w fun e w' => e = .returned (.bool true) ∧ Below w.heap.size w w' := by
  obtain ⟨tc, rfl⟩ : ∃ tc : UInt8, t0 = (tc.toNat : Int) := ⟨UInt8.ofNat t0.toNat, by rw [UInt8.toNat_ofNat']; omega⟩
  obtain ⟨i1, hi, hz0, hz1, hz2⟩ := info_parts infoBlob
  obtain ⟨i0, hi0, hi1, hi2, hi3⟩ := info_parts info5
  have HCUT := Lib.hid (show ∀ W, Calls Try.prog 11 #[.slice A z c, .int .i64 50] W fun e w' => e = .returned (.slice A (min z 50) c) ∧ W = w' from fun W => cut_any A z c 50 W hc)
  obtain ⟨zb, hzb⟩ : ∃ zb, min z 50 = zb := ⟨_, rfl⟩
  obtain ⟨b, hbt⟩ : ∃ b, l.take 50 = b := ⟨_, rfl⟩
  have HBL0 := Lib.hid (show b.length = zb by rw [← hbt, List.length_take, hl, Nat.min_comm]; exact hzb)
  have HBR := Lib.hid (show Rd w w.heap.size A b by rw [← hbt]; exact hr.take 50)
  have hzb1 : zb ≤ 50 := by omega
  rw [hzb] at HCUT
  clear hbt hzb hr hl hc
  have HWN := Lib.hid (show ∀ W, Calls Try.prog 12 #[.int .i64 n0, .int .i64 8] W fun e w' => e = .returned (.int .i64 (withinI n0 8)) ∧ W = w' from fun W => within_any n0 8 W hn0 hn1 (by omega))
  obtain ⟨q1, q2⟩ := withinI_range n0 8 (by omega)
  obtain ⟨M, hM⟩ : ∃ M : Nat, withinI n0 8 = (M : Int) := ⟨(withinI n0 8).toNat, by omega⟩
  rw [hM] at HWN
  obtain ⟨N, hN⟩ : ∃ N : Nat, 1 + M = N := ⟨_, rfl⟩
  have hNi : (1 : Int) + (M : Int) = (N : Int) := by omega
  have hN16 : N ≤ 8 := by omega
  have hN1 : 1 ≤ N := by omega
  have HWK := Lib.hid (fun W => within_any k0 (N : Int) W hk0 hk1 (by omega))
  obtain ⟨q3, q4⟩ := withinI_range k0 (N : Int) (by omega)
  obtain ⟨J, hJ⟩ : ∃ J : Nat, withinI k0 (N : Int) = (J : Int) := ⟨(withinI k0 (N : Int)).toNat, by omega⟩
  rw [hJ] at HWK
  obtain ⟨K, hK⟩ : ∃ K : Nat, 1 + J = K := ⟨_, rfl⟩
  have hKi : (1 : Int) + (J : Int) = (K : Int) := by omega
  have hK1 : 1 ≤ K := by omega
  have hKN : K ≤ N := by omega
  obtain ⟨G, hG⟩ := gen_is (k := K) (by omega)
  have HG := Lib.hid hG
  have HNEW := Lib.hid (fun W => cnew_yes K N W hK1 hKN (by omega))
  clear hG hM hN hJ hK q1 q2 q3 q4 hn0 hn1 hk0 hk1
  obtain ⟨b1, hb1⟩ : ∃ b1, 1 :: b = b1 := ⟨_, rfl⟩
  have HBL := Lib.hid (show b1.length = 1 + zb by rw [← hb1]; simp [HBL0.out]; omega)
  have HCE := Lib.hid (show Lib.byteCells b1 = Value.int .u8 1 :: Lib.byteCells b by rw [← hb1]; rfl)
  have HO1 := Lib.hid (⟨rfl, .inr ⟨w.heap.size, 1, #[.int .u8 1], rfl, Nat.le_refl _, heap_alloc_new _ _, Nat.le_refl _, by decide, rfl, rfl⟩⟩ : (w.alloc (.cells #[.int .u8 1] 5)).ownsRow w.heap.size 5 1 (.slice (some ⟨w.heap.size, 0, none⟩) 1 1) 1 [.int .u8 1])
  clear hb1
  go_enter Try.func4, Try.ntmps4
  go_wp2_with fail
  with_reducible refine (HCUT.out _).mono ?_
  rintro e wx ⟨rfl, rfl⟩
  clear HCUT
  have hal : Below w.heap.size w (w.alloc (.cells #[.int .u8 1] 5)) := (Below.refl _ _).alloc (Nat.le_refl _) _
  go_wp2_with (at_builtin; refine wpList_append_rd rfl _ _ 22 rfl w.heap.size 5 i0 Try.underlying22 hi0 hi1 hi2 hi3 _ 1 [.int .u8 1] rfl HO1.out w.heap.size A zb c b rfl HBL0.out (HBR.out.below hal (Nat.le_refl _)) (by omega) (by simp) ?_)
  intro v1 w1 hown1 hg1
  have hb2 : Below w.heap.size w w1 := hal.grown hg1 (by simp) (fun k hk => by simp [Value.ownBlock] at hk; omega)
  rw [← HCE.out] at hown1
  obtain ⟨A1, c1, rfl, hc1, _⟩ := own_caps hown1
  have LB1 := Lib.hid (show BV w1 (.slice A1 (1 + zb) c1) b1 from BV.of HBL.out hc1 (Rd.of_own hown1))
  have HB1 := Lib.hid hb2
  clear hown1 hg1 hb2 HO1 hal HCE HBR HBL0 hi0 hi1 hi2 hi3
  obtain ⟨za, hza⟩ : ∃ za, 1 + zb = za := ⟨_, rfl⟩
  rw [hza] at LB1 HBL ⊢
  have hza2 : za ≤ 51 := by omega
  have hza1 : 1 ≤ za := by omega
  clear hza
  go_wp2_with fail
  with_reducible refine (HWN.out _).mono ?_
  rintro e wx ⟨rfl, rfl⟩
  go_wp2_with fail
  with_reducible refine (HWK.out _).mono ?_
  rintro e wx ⟨rfl, rfl⟩
  clear HWN HWK
  go_wp2_with fail
  with_reducible refine (HNEW.out w1).mono ?_
  rintro e w2 ⟨g, rfl, hcd, hb⟩
  have LB2 := Lib.hid (LB1.out.on hb)
  have LC2 := Lib.hid hcd
  have HB2 := Lib.hid (HB1.out.trans (hb.mono HB1.out.size))
  clear hb LB1 hcd HB1
  by_cases h0 : tc = 0
  · subst h0
    rw [show (((0 : UInt8).toNat : Nat) : Int) = 0 from rfl]
    go_wp2_with fail
    with_reducible refine (wakes6_any _).mono ?_
    rintro e wx ⟨rfl, hb⟩
    have HBX := Lib.hid (HB2.out.trans (hb.mono HB2.out.size))
    clear hb
    go_wp2_with fail
    go_ret
    exact ⟨rfl, HBX.out⟩
  · have HC0 := Lib.hid h0
    have htc : ¬ (tc.toNat : Int) = 0 := fun e => h0 (by
      apply UInt8.toNat_inj.1
      show tc.toNat = 0
      omega)
    clear h0
    go_wp2_with fail
    with_reducible refine (cenc_any HG.out LC2.out LB2.out (by rw [HBL.out]; omega)).mono ?_
    rintro e w3 ⟨v, rfl, hv, hb⟩
    have LB3 := Lib.hid (LB2.out.on hb)
    have LC3 := Lib.hid (LC2.out.on hb)
    have HB3 := Lib.hid (HB2.out.trans (hb.mono HB2.out.size))
    have HVM := Lib.hid hv.mv
    clear hv
    obtain ⟨X, cX, rfl, hcX⟩ := HVM.out.form (encL_len G b1 K N)
    clear hb LB2 LC2 HB2
    obtain ⟨F, hF⟩ : ∃ F, N - K = F := ⟨_, rfl⟩
    have hFi : (N : Int) - (K : Int) = (F : Int) := by omega
    have hFK : F + K = N := by omega
    clear hF
    obtain ⟨sg, hsg⟩ : ∃ sg, segN b1 K = sg := ⟨_, rfl⟩
    have hmul := seg_mul b1 hK1
    have hpl := shL_len b1 K
    have hpad := shN_lt b1.length hK1
    have hbl := HBL.out
    have hsg2 : sg ≤ 100 := by
      have h7 : segN b1 K ≤ K * segN b1 K := Nat.le_mul_of_pos_left _ hK1
      omega
    have hsg1 : 0 < sg := by
      rcases Nat.eq_zero_or_pos (segN b1 K) with h9 | h9
      · rw [h9] at hmul; omega
      · omega
    obtain ⟨PL, hPL⟩ : ∃ PL, (shL b1 K).length = PL := ⟨_, rfl⟩
    have hPL2 : PL ≤ 100 := by omega
    rw [hsg, hPL] at hmul
    have hquo : (PL : Int) / (K : Int) = (sg : Int) := quo_nat hmul (by omega)
    have HPL := Lib.hid hPL
    obtain ⟨D, hD⟩ : ∃ D : Nat → List UInt8, (fun i => sumRow G (shL b1 K) K (segN b1 K) (F + i)) = D := ⟨_, rfl⟩
    have HDR := Lib.hid (show ∀ j i, i = F + j → j < K → (encL G b1 K N).getD i [] = D j from fun j i h1 h2 => by rw [encL_at _ _ _ (show i < N by omega), ← hD, h1])
    have HDL := Lib.hid (show ∀ j, (D j).length = sg from fun j => by rw [← hD, ← hsg]; exact sumRow_len _ _ _ _ _)
    have HWR := Lib.hid (fun (i0 a0 : Nat) er out (h1 : i0 < K) (h2 : a0 < sg) => wrong_dec (G := G) (b := b1) (k := K) (n := N) (i0 := i0) (a0 := a0) (c := tc) (nu := fun x => F + x) (er := er) (out := out) hK1 (fun i h => by show F + i < N; omega) (fun i j _ _ e => by have : F + i = F + j := e; omega) h1 (by rw [hsg]; exact h2) HC0.out)
    rw [hD, hsg] at HWR
    clear hsg hD hpl hpad hbl hmul hPL
    go_wp2_with fail
    go_loopw [16, 17] (fun v t wq => ∃ j i : Nat, j ≤ K ∧ t = .int .i64 i ∧ Hid (i = F + j) ∧ Hid (OwnBC wq w3.heap.size v j sg (fun x => F + x) D) ∧ Below w3.heap.size w3 wq) (fun _ t _ => N - (intOf t).toNat)
    case atStart => exact ⟨0, F, Nat.zero_le _, rfl, Lib.hid rfl, Lib.hid (OwnBC.nil _ _ _ _ _), Below.refl _ _⟩
    case round =>
      obtain ⟨j, i, hjK, rfl, HIJ, HO, hbel⟩ := hrel
      have hij := HIJ.out
      by_cases hlt : j < K
      · have hni : (i : Int) < (N : Int) := by omega
        have hiN : i < N := by omega
        clear hij
        have hle := hbel.size
        obtain ⟨bb, oo, A2, c2, rfl, hbs, hcx, hlc, hcm, hrd⟩ := HVM.out.rowAt (i := i) hiN
        rw [HDR.out j i HIJ.out hlt] at hcx hlc hrd
        rw [HDL.out j] at hcx hlc
        have hcy := (hbel.cell (p := ⟨bb, oo + i, none⟩) hbs).trans hcx
        have HRD := Lib.hid (hrd.below hbel (Nat.le_refl _))
        have HDJ := Lib.hid (HDL.out j)
        clear hcx hrd
        obtain ⟨wo, rfl⟩ : ∃ y : World, y = wr := ⟨_, rfl⟩
        go_wp2_with fail
        with_reducible refine (copy_any A2 sg c2 _ (D j) wo HDJ.out (by omega) HRD.out).mono ?_
        rintro e w5 ⟨A3, c3, rfl, hc3, hm3, hrow, hb5⟩
        have HROW := Lib.hid hrow
        have HB5 := Lib.hid hb5
        clear hrow hb5 hcy
        go_wp2_with (at_builtin; refine wpList_append_blobC rfl _ _ 31 rfl w3.heap.size i1 Try.underlying31 hi hz0 hz1 hz2 _ j sg (fun x => F + x) D rfl wo w5 A3 c3 (by rw [HIJ.out]) HO.out HB5.out HROW.out hsg1 rfl (by omega) hle ?_)
        intro v7 w7 hown7 hb7
        have HO7 := Lib.hid hown7
        have HB7 := Lib.hid (hbel.trans hb7)
        clear hown7 hb7 HO hbel HRD HROW HB5
        go_wp2_with fail
        go_roundw
        case rel => exact ⟨j + 1, i + 1, by omega, by go_num, Lib.hid (by have := HIJ.out; omega), HO7, HB7.out⟩
        case measure => simp [intOf]; omega
      · obtain rfl : K = j := by omega
        have hni : ¬ (i : Int) < (N : Int) := by omega
        clear hij
        have hle := hbel.size
        obtain ⟨AL, cL, rfl, hcL, _⟩ := HO.out.form
        have HIV := Lib.hid (within_any j0 (K : Int) wr hj0 hj1 (by omega))
        obtain ⟨q1, q2⟩ := withinI_range j0 (K : Int) (by omega)
        obtain ⟨I, hI⟩ : ∃ I : Nat, withinI j0 (K : Int) = (I : Int) := ⟨(withinI j0 (K : Int)).toNat, by omega⟩
        rw [hI] at HIV
        have hIK : I < K := by omega
        have hIKi : (I : Int) < (K : Int) := by omega
        have HAV := Lib.hid (within_any a0 (sg : Int) wr ha0 ha1 (by omega))
        obtain ⟨q3, q4⟩ := withinI_range a0 (sg : Int) (by omega)
        obtain ⟨T, hT⟩ : ∃ T : Nat, withinI a0 (sg : Int) = (T : Int) := ⟨(withinI a0 (sg : Int)).toNat, by omega⟩
        rw [hT] at HAV
        have hTs : T < sg := by omega
        have hTsi : (T : Int) < (sg : Int) := by omega
        have hsgz : ¬ (sg : Int) = 0 := by omega
        have hKz : ¬ (K : Int) = 0 := by omega
        have hKp : (0 : Int) < (K : Int) := by omega
        clear hI hT q1 q2 q3 q4 hj0 hj1 ha0 ha1
        obtain ⟨gl, hd, cp, rfl, hcl, hcp, hBh, hcd, hset⟩ := HO.out.at_ hIK
        obtain ⟨hct, hfz⟩ := hcd T hTs
        have HXR := Lib.hid (xor_byte8 ((D I).getD T 0) tc)
        have HST := Lib.hid (hset T ((D I).getD T 0 ^^^ tc) hTs)
        rw [turn_eq] at HST
        have HBS := Lib.hid (show ∀ y, Below w3.heap.size w3 (wr.setCell ⟨hd, T, none⟩ y) from fun y => hbel.setCell hBh _)
        have HBT := Lib.hid (show ∀ y, Below w3.heap.size wr (wr.setCell ⟨hd, T, none⟩ y) from fun y => (Below.refl _ _).setCell hBh _)
        rw [← HXR.out] at HST
        have HWD := Lib.hid (fun er out => HWR.out I T er out hIK hTs)
        have HSML := Lib.hid (show ∀ i, i < (blobsN (fun x => F + x) (turnD D I T tc) K).length → (daB (blobsN (fun x => F + x) (turnD D I T tc) K) i).length ≤ 1000 from fun i hi => by
          rw [blobsN_len] at hi
          rw [blobsN_da _ _ hi, turnD_len, HDL.out]
          omega)
        generalize (D I).getD T 0 = oldb at *
        clear HO hbel hset hcd HWR HVM hlt
        go_wp2_with fail
        with_reducible refine (HIV.out).mono ?_
        rintro e wx ⟨rfl, rfl⟩
        go_wp2_with fail
        with_reducible refine (HAV.out).mono ?_
        rintro e wx ⟨rfl, rfl⟩
        clear HIV HAV
        go_wp2_with fail
        have hbw := HBS.out (.int .u8 (bits .xor .u8 (oldb.toNat : Int) (tc.toNat : Int)))
        have LL4 := Lib.hid HST.out.blv
        have LC4 := Lib.hid (LC3.out.on hbw)
        have LB4 := Lib.hid (LB3.out.on hbw)
        have HB4 := Lib.hid (HB3.out.trans (hbw.mono HB3.out.size))
        clear hbw HST HBS HBT hcl hct hfz LC3 LB3 HB3
        generalize wr.setCell ⟨hd, T, none⟩ (.int .u8 (bits .xor .u8 (oldb.toNat : Int) (tc.toNat : Int))) = w4 at *
        with_reducible refine (cdec_any HG.out LC4.out LL4.out HSML.out).mono ?_
        rintro e w5 ⟨xv, er, out, rfl, hde, hx, hb⟩
        have LL5 := Lib.hid (LL4.out.on hb)
        have LC5 := Lib.hid (LC4.out.on hb)
        have LB5 := Lib.hid (LB4.out.on hb)
        have LX5 := Lib.hid hx
        have HB5 := Lib.hid (HB4.out.trans (hb.mono HB4.out.size))
        obtain ⟨rfl, ho1, ho2, ho3⟩ := HWD.out er out hde
        have HO2 := Lib.hid ho2
        have HO3 := Lib.hid ho3
        have HOL := Lib.hid (show out.length = PL from ho1.trans HPL.out)
        obtain ⟨X5, cX5, rfl, hcX5⟩ := hx.form HOL.out
        clear hde HWD ho1 ho2 ho3
        clear hb LL4 LC4 LB4 hx HB4
        clear LL5
        clear LC5
        go_wp2_with fail
        with_reducible refine ((show Calls Try.prog 19 #[.slice A1 za c1, .int .i64 (K : Int)] w5 fun e w6 => ∃ x, e = .returned x ∧ BV w6 x (shL b1 K) ∧ Below w5.heap.size w5 w6 by have := cpad_any (K : Int) LB5.out (by rw [HBL.out]; omega) (by omega); rwa [show (max (K : Int) 1).toNat = K by omega] at this)).mono ?_
        rintro e w6 ⟨pv, rfl, hp, hb⟩
        have LB6 := Lib.hid (LB5.out.on hb)
        have LX6 := Lib.hid (LX5.out.on hb)
        have LP6 := Lib.hid hp
        have HB6 := Lib.hid (HB5.out.trans (hb.mono HB5.out.size))
        obtain ⟨X6, cX6, rfl, hcX6⟩ := hp.form HPL.out
        clear hb LB5 LX5 hp HB5
        clear LB6
        go_wp2_with fail
        with_reducible refine (bveq LX6.out LP6.out (by rw [HOL.out]; omega)).mono ?_
        rintro e w7 ⟨rfl, hb⟩
        have LX7 := Lib.hid (LX6.out.on hb)
        have LP7 := Lib.hid (LP6.out.on hb)
        have HB7 := Lib.hid (HB6.out.trans (hb.mono HB6.out.size))
        rw [decide_eq_false HO2.out]
        clear hb LX6 LP6 HB6
        go_wp2_with fail
        obtain ⟨_, _, hrx⟩ := LX7.out.rd
        obtain ⟨_, _, hrp⟩ := LP7.out.rd
        have HRX := Lib.hid hrx
        have HRP := Lib.hid hrp
        clear hrx hrp LX7 LP7
        go_loopw [142] (fun t wq => ∃ q : Nat, q ≤ PL ∧ t = .int .i64 q ∧ Below w7.heap.size w7 wq) (fun t _ => PL - (intOf t).toNat)
        case atStart => exact ⟨0, Nat.zero_le _, rfl, Below.refl _ _⟩
        case round =>
          obtain ⟨q, hqP, rfl, hbel⟩ := hrel
          by_cases hlt : q < PL
          · have hqi : (q : Int) < (PL : Int) := by omega
            obtain ⟨bx, ox, rfl, hbx, dx⟩ := (HRX.out.below hbel (Nat.le_refl _)).at_ q (by rw [HOL.out]; exact hlt)
            obtain ⟨bp, op, rfl, hbp, dp⟩ := (HRP.out.below hbel (Nat.le_refl _)).at_ q (by rw [HPL.out]; exact hlt)
            rw [show out[q]'(by rw [HOL.out]; exact hlt) = out.getD q 0 by simp [List.getD_eq_getElem?_getD, HOL.out, hlt]] at dx
            rw [show (shL b1 K)[q]'(by rw [HPL.out]; exact hlt) = (shL b1 K).getD q 0 by simp [List.getD_eq_getElem?_getD, HPL.out, hlt]] at dp
            have h3 := HO3.out q (by rw [HOL.out]; exact hlt)
            generalize out.getD q 0 = xq at *
            generalize (shL b1 K).getD q 0 = pq at *
            by_cases he : xq = pq
            · subst he
              clear h3
              go_wp2_with fail
              go_quiet (fail)
              go_wp2_with fail
              go_roundw
              case rel => exact ⟨q + 1, by omega, by go_num, below_drewN hbel _⟩
              case measure => simp [intOf]; omega
            · have hne : ¬ (xq.toNat : Int) = (pq.toNat : Int) := fun h => he (UInt8.toNat_inj.1 (by omega))
              have hqt : q % sg = T := by
                by_cases h : q % sg = T
                · exact h
                · exact absurd (h3 h) he
              have hrem : (q : Int).tmod (sg : Int) = (T : Int) := by
                rw [Int.tmod_eq_emod_of_nonneg (by omega), ← hqt]; rfl
              have hb1 : ((xq.toNat : Int) == (pq.toNat : Int)) = false := beq_eq_false_iff_ne.2 hne
              have hb2 : ((xq.toNat : Int) != (pq.toNat : Int)) = true := bne_iff_ne.2 hne
              clear h3 hqt
              go_wp2_with fail
              go_quiet (fail)
              go_wp2_with fail
              go_roundw
              case rel => exact ⟨q + 1, by omega, by go_num, below_drewN hbel _⟩
              case measure => simp [intOf]; omega
          · have hqi : ¬ (q : Int) < (PL : Int) := by omega
            have HBW := Lib.hid (HB7.out.trans (hbel.mono HB7.out.size))
            go_wp2_with fail
            with_reducible refine (wakes6_any _).mono ?_
            rintro e wx ⟨rfl, hb⟩
            have HBX := Lib.hid (HBW.out.trans (hb.mono HBW.out.size))
            clear hb
            go_wp2_with fail
            go_ret
            exact ⟨rfl, HBX.out⟩

set_option maxRecDepth 100000 in
theorem contract (H : Type) (enc : TypeId × Value → H) (W : World) (base : Nat) (args : Array Value) (ds gs : List (DataW H)) (before : List MemPlace)
    (hval : ∀ (j : Nat) t v, Try.f4.params[j]? = some t → args[j]? = some v → Value.okWide Try.prog W .any base t v)
    (hW : DataW.Whole enc Try.prog Try.f4.params.toList Rows.rsWrongSpec.vars false W args.toList ds gs before) :
    Calls Try.prog 4 args W fun e W' => ∃ v, e = .returned v ∧ Rows.rsWrongSpec.post enc Try.prog Try.f4 false true false false W args v W' := by
  have hW' := hW
  obtain ⟨p, q, hA0, hV, rfl, hfz, hnd⟩ := hW
  have hA : DataW.TrodAll enc Try.prog W 0 (fun _ => true) true Try.f4.params.toList args.toList ds p := hA0
  rw [Try.params4] at hA hval
  obtain ⟨v0, v1, v2, v3, v4, v5, d0, d1, d2, d3, d4, d5, p0, p1, p2, p3, p4, p5, rfl, rfl, rfl, h0, h1, h2, h3, h4, h5⟩ := trodAll_six hA
  obtain ⟨rfl, rfl⟩ := trodVars_none hV
  obtain ⟨A0, m0, c0, l0, rfl, hl0, hc0, hm0, hr0⟩ := open_bytes (hval 0 22 v0 rfl rfl) h0
  obtain ⟨n1, rfl, rfl, rfl, wf1⟩ := open_int Try.underlying3 (hval 1 3 v1 rfl rfl) h1
  have b1 := bounds_i64 wf1
  obtain ⟨n2, rfl, rfl, rfl, wf2⟩ := open_int Try.underlying3 (hval 2 3 v2 rfl rfl) h2
  have b2 := bounds_i64 wf2
  obtain ⟨n3, rfl, rfl, rfl, wf3⟩ := open_int Try.underlying3 (hval 3 3 v3 rfl rfl) h3
  have b3 := bounds_i64 wf3
  obtain ⟨n4, rfl, rfl, rfl, wf4⟩ := open_int Try.underlying3 (hval 4 3 v4 rfl rfl) h4
  have b4 := bounds_i64 wf4
  obtain ⟨n5, rfl, rfl, rfl, wf5⟩ := open_int Try.underlying5 (hval 5 5 v5 rfl rfl) h5
  have b5 := bounds_u8 wf5
  clear hA0
  refine (walk A0 m0 c0 l0 n1 n2 n3 n4 n5 W hl0 hc0 hr0 b1.1 b1.2 b2.1 b2.2 b3.1 b3.2 b4.1 b4.2 b5.1 b5.2).mono fun e W' ⟨he, hb⟩ => ?_
  exact ⟨_, he, law_post hW' rfl (by kernel_rfl) rfl (by kernel_rfl) hb⟩

set_option maxRecDepth 100000 in
theorem lifted (os : Os) (started : os.Started) (H : Type) (enc : TypeId × Value → H) :
    ReturnsInHanded {} Try.checked os 4 .any (Rows.rsWrongSpec.pre6 enc Try.prog Try.f4 Rows.rsWrongRow.domain false) (Rows.rsWrongSpec.post enc Try.prog Try.f4 false true false false) := by
  refine returnsInHanded_of_change (C := Try.checked) own started (by kernel_rfl) Try.func4
    (ChangeSpec.witness6 (enc := enc) (C := Try.checked) false ⟨#[], #[.slice none 0 0, .int .i64 0, .int .i64 0, .int .i64 0, .int .i64 0, .int .u8 0], []⟩ 8 (by kernel_rfl) (by kernel_rfl) (by kernel_rfl) (by kernel_rfl)) ?_
  intro W base args ds gs before hval0 hW _ _
  have hval : ∀ (j : Nat) t v, Try.f4.params[j]? = some t → args[j]? = some v → Value.okWide Try.prog W .any base t v := hval0
  exact contract H enc W base args ds gs before hval hW

/-- The statement. -/
theorem card : Rows.RsWrongSaid :=
  OpenClaim.holds_of_wide 4 Try.f4 rfl rfl rfl rfl rfl rfl rfl ⟨rfl, rfl, rfl, rfl, rfl⟩ rfl rfl rfl rfl rfl (by kernel_rfl) Try.func4 (by kernel_rfl)
    (of_decide_eq_true (by kernel_rfl)) (by unfold Func.isWrapper; first | (rw [if_pos (by decide +kernel)]; kernel_rfl) | (rw [if_neg (by decide +kernel)]; exact ⟨rfl, rfl⟩))
    (fun os started H enc _ => lifted os started H enc)
end Go.Proofs.Ytdaofffkbnkljaa.rsWrong
