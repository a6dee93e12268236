/- MatrixApplies: a product's image is the image of the image; a row of the unit picks a row. For all bytes and sizes. -/
import Derived.Test.YtkgemngkkedcnaaLaw
import Derived.Test.YtkgemngkkedcnaaOpen
import Derived.Test.YtkgemngkkedcnaaSix
import Derived.Test.YtkgemngkkedcnaaMxV
namespace Go.Proofs.Ytkgemngkkedcnaa.matrixApplies
open Go.ChangeShapes Go.WideShapes Go.ChangeAt Go.RowKit

/-- The first n bytes of a list; noughts behind it. -/
def firstL (l : List UInt8) (n : Nat) : List UInt8 := (List.range n).map fun j => l.getD j 0
theorem firstL_len (l : List UInt8) (n : Nat) : (firstL l n).length = n := by simp [firstL]
theorem firstL_at (l : List UInt8) {n j : Nat} (h : j < n) : (firstL l n).getD j 0 = l.getD j 0 := map_getD _ n j h

set_option maxRecDepth 100000 in
set_option maxHeartbeats 8000000 in
theorem walk (A B C : Option Addr) (p q r c d f : Nat) (la lb lc : List UInt8) (a b : Int) (w : World) (hla : la.length = p) (hlb : lb.length = q) (hlc : lc.length = r) (hma : p ≤ maxLen) (hmb : q ≤ maxLen) (hmc : r ≤ maxLen)
    (hA : Rd w w.heap.size A la) (hB : Rd w w.heap.size B lb) (hC : Rd w w.heap.size C lc) (h0 : -9223372036854775808 ≤ a) (h1 : a ≤ 9223372036854775807) (h2 : -9223372036854775808 ≤ b) (h3 : b ≤ 9223372036854775807) :
    Calls Try.prog 3 #[.slice A p c, .slice B q d, .slice C r f, .int .i64 a, .int .i64 b] w fun e w' => e = .returned (.bool true) ∧ Below w.heap.size w w' := by
  obtain ⟨i0, hi, hz0, hz1, hz2⟩ := info_parts info5
  have HW := Lib.hid (fun W => within_any a 5 W h0 h1 (by omega))
  obtain ⟨q1, q2⟩ := withinI_range a 5 (by omega)
  obtain ⟨M, hM⟩ : ∃ M : Nat, withinI a 5 = (M : Int) := ⟨(withinI a 5).toNat, by omega⟩
  rw [hM] at HW
  obtain ⟨N, hN⟩ : ∃ N : Nat, 1 + M = N := ⟨_, rfl⟩
  have hNi : (1 : Int) + (M : Int) = (N : Int) := by omega
  have n1 : 1 ≤ N := by omega
  have n16 : N ≤ 16 := by omega
  have HV := Lib.hid (fun W => within_any b (N : Int) W h2 h3 (by omega))
  obtain ⟨q3, q4⟩ := withinI_range b (N : Int) (by omega)
  obtain ⟨I, hI⟩ : ∃ I : Nat, withinI b (N : Int) = (I : Int) := ⟨(withinI b (N : Int)).toNat, by omega⟩
  rw [hI] at HV
  have hIN : I < N := by omega
  have hmk := fun W => run_make (P := Try.prog) W 22 5 i0 (.int .u8 0) Try.underlying22 hi hz0 .i64 .i64 (N : Int) (N : Int) (by omega) (by omega) (by rw [hz2]; omega) (by omega)
  simp only [hz1, Nat.mul_one] at hmk
  have SA := Lib.hid (fun W (h : Below w.heap.size w W) => msquare A p c N la W hla hma n16 ((hA.below h (Nat.le_refl _)).more h.size))
  have SB := Lib.hid (fun W (h : Below w.heap.size w W) => msquare B q d N lb W hlb hmb n16 ((hB.below h (Nat.le_refl _)).more h.size))
  have HRC := Lib.hid (fun W (h : Below w.heap.size w W) => hC.below h (Nat.le_refl _))
  have HLC := Lib.hid hlc
  have QX := Lib.hid (sqr_sq la N)
  have QY := Lib.hid (sqr_sq lb N)
  generalize sqr la N = xs at *
  generalize sqr lb N = ys at *
  have HVL := Lib.hid (firstL_len lc N)
  have HVA := Lib.hid (fun j (h : j < N) => firstL_at lc h)
  generalize firstL lc N = vs at *
  unfold maxLen at hmc
  clear hM hI hN q1 q2 q3 q4 h0 h1 h2 h3 hA hB hC hla hlb hlc hma hmb hi hz0 hz1 hz2
  go_enter Try.func3, Try.ntmps3
  go_wp2_with fail
  with_reducible refine (HW.out w).mono ?_
  rintro e wx ⟨rfl, rfl⟩
  go_wp2_with fail
  with_reducible refine (HV.out w).mono ?_
  rintro e wx ⟨rfl, rfl⟩
  go_wp2_with fail
  with_reducible refine (SA.out w (Below.refl _ _)).mono ?_
  rintro e w1 ⟨x, rfl, hx, hb⟩
  have Lx1 := Lib.hid hx
  have HB1 := Lib.hid hb
  clear hb hx
  go_wp2_with fail
  with_reducible refine (SB.out w1 HB1.out).mono ?_
  rintro e w2 ⟨y, rfl, hy, hb⟩
  have Lx2 := Lib.hid (Lx1.out.on hb)
  have Ly2 := Lib.hid hy
  have HB2 := Lib.hid (HB1.out.trans (hb.mono HB1.out.size))
  clear hb Lx1 hy HB1
  have G := Lib.hid (show Blk (w2.alloc (.cells (madeCells #[.int .u8 0] N) 5)) w2.heap.size (u8A (part vs (List.replicate N 0) 0)) 5 by
    rw [part_zero, ← made_zeros]
    exact Blk.new _ _ _)
  have hal : Below w2.heap.size w2 (w2.alloc (.cells (madeCells #[.int .u8 0] N) 5)) := (Below.refl _ _).alloc (Nat.le_refl _) _
  go_wp2_with fail
  clear hmk
  generalize w2.alloc (.cells (madeCells #[.int .u8 0] N) 5) = wa at *
  obtain ⟨rb, hrb⟩ : ∃ z, w2.heap.size = z := ⟨_, rfl⟩
  have HRB := Lib.hid hrb
  rw [hrb] at G hal ⊢
  clear hrb
  go_loopw [47] (fun t wq => ∃ j : Nat, j ≤ N ∧ t = .int .i64 j ∧ Hid (Blk wq rb (u8A (part vs (List.replicate N 0) j)) 5) ∧ Below rb w2 wq) (fun t _ => N - (intOf t).toNat)
  case atStart => exact ⟨0, by omega, rfl, G, hal⟩
  case round =>
    clear G hal
    obtain ⟨j, hj, rfl, G, hbq⟩ := hrel
    by_cases hjm : j < N
    · have hji : (j : Int) < (N : Int) := by omega
      by_cases hqz : j < r
      · have hqi : (j : Int) < (r : Int) := by omega
        have hql : j < lc.length := by rw [HLC.out]; exact hqz
        have hbw : Below w.heap.size w wr := HB2.out.trans (hbq.mono (by rw [← HRB.out]; exact HB2.out.size))
        obtain ⟨b', off, rfl, _, hc⟩ := (HRC.out wr hbw).at_ j hql
        have HPS := Lib.hid (part_set HVL.out (List.length_replicate (n := N) (a := (0 : UInt8))) hjm)
        have hv : lc[j] = vs.getD j 0 := by
          rw [HVA.out j hjm, List.getD_eq_getElem?_getD, List.getElem?_eq_getElem hql]; rfl
        rw [hv] at hc
        have hfr := G.out.frozen j
        obtain ⟨o, ho⟩ : ∃ old, wr.cell? ⟨rb, j, none⟩ = some old := ⟨_, G.out.byteAt (i := j) (by rw [part_len HVL.out List.length_replicate (by omega)]; exact hjm)⟩
        have HG2 := Lib.hid (fun (k : Unit) => G.out.put j (y := vs.getD j 0) rfl)
        generalize vs.getD j 0 = x' at *
        have HG3 := Lib.hid (show Blk (wr.setCell ⟨rb, j, none⟩ (.int .u8 (x'.toNat : Int))) rb (u8A (part vs (List.replicate N 0) (j + 1))) 5 by rw [← HPS.out]; exact HG2.out ())
        have hb2 : Below rb w2 (wr.setCell ⟨rb, j, none⟩ (.int .u8 (x'.toNat : Int))) := hbq.setCell (Nat.le_refl _) _
        clear hv hql hbw hbq G HPS HG2
        go_wp2_with fail
        go_roundw
        case rel => exact ⟨j + 1, by omega, by go_num, HG3, hb2⟩
        case measure => simp [intOf]; omega
      · have hqi : ¬ (j : Int) < (r : Int) := by omega
        have HPK := Lib.hid (part_keep HVL.out (List.length_replicate (n := N) (a := (0 : UInt8))) hjm (by
          rw [HVA.out j hjm, List.getD_eq_getElem?_getD, List.getElem?_eq_none (by rw [HLC.out]; omega)]
          simp [List.getD_eq_getElem?_getD, hjm]))
        go_wp2_with fail
        go_roundw
        case rel => exact ⟨j + 1, by omega, by go_num, by rw [HPK.out]; exact G, hbq⟩
        case measure => simp [intOf]; omega
    · obtain rfl : j = N := by omega
      have hfull : Blk wr rb (u8A vs) 5 := by
        have := G.out
        rwa [part_full HVL.out List.length_replicate] at this
      obtain ⟨w3, rfl⟩ : ∃ y : World, y = wr := ⟨_, rfl⟩
      have hb : Below w2.heap.size w2 w3 := by rw [HRB.out]; exact hbq
      have hbv : BV w3 (.slice (some ⟨rb, 0, none⟩) j j) vs := by
        refine ⟨_, j, by rw [HVL.out], by rw [HVL.out]; exact Nat.le_refl _, .inr ⟨rb, 0, rfl, hfull.lt, fun i hi => ?_⟩⟩
        rw [Nat.zero_add, hfull.byteAt hi, List.getD_eq_getElem?_getD, List.getElem?_eq_getElem hi]; rfl
      have Lx3 := Lib.hid (Lx2.out.on hb)
      have Ly3 := Lib.hid (Ly2.out.on hb)
      have Lw3 := Lib.hid hbv
      have HB3 := Lib.hid (HB2.out.trans (hb.mono HB2.out.size))
      have EM := Lib.hid (sq_mulE QX.out QY.out n1 n16)
      have EA1 := Lib.hid (sq_applyE (sq_mul_sq QX.out QY.out n1 n16) HVL.out n1 n16)
      have EA2 := Lib.hid (sq_applyE QY.out HVL.out n1 n16)
      have EA3 := Lib.hid (sq_applyE QX.out (sq_apply_len QY.out HVL.out n1 n16) n1 n16)
      have AM := Lib.hid (sq_apply_mul QX.out QY.out HVL.out n1 n16)
      have AL := Lib.hid (sq_apply_len QX.out (sq_apply_len QY.out HVL.out n1 n16) n1 n16)
      have QU := Lib.hid (sqL_rows unitM 0 j)
      have SU := Lib.hid (fun W => punit_any (j : Int) W)
      rw [unitL_nat n1 n16] at SU
      have ER1 := Lib.hid (sq_rowsE QU.out n1 n16 hIN)
      have ER2 := Lib.hid (sq_rowsE QX.out n1 n16 hIN)
      have RS1 := Lib.hid (sq_rowsS QU.out n1 n16 hIN)
      have RS2 := Lib.hid (sq_rowsS QX.out n1 n16 hIN)
      have EP := Lib.hid (row_mulE (sq_row_len QU.out hIN) QX.out n1 n16)
      have RP := Lib.hid (row_pick QX.out n1 n16 hIN)
      have RL := Lib.hid (sq_row_len QX.out hIN)
      clear hb hbv hbq hfull G HRB hjm hj HRC HLC HVA Lx2 Ly2 HB2
      go_wp2_with fail
      with_reducible refine (pmul_any Lx3.out Ly3.out).mono ?_
      rintro e w4 ⟨p1, rfl, hp1, hb⟩
      have Lx4 := Lib.hid (Lx3.out.on hb)
      have Ly4 := Lib.hid (Ly3.out.on hb)
      have Lw4 := Lib.hid (Lw3.out.on hb)
      have Lp14 := Lib.hid hp1
      have HB4 := Lib.hid (HB3.out.trans (hb.mono HB3.out.size))
      clear hb Lx3 Ly3 Lw3 hp1 HB3
      rw [EM.out]
      go_wp2_with fail
      with_reducible refine (papply_any Lp14.out Lw4.out).mono ?_
      rintro e w5 ⟨s1, rfl, hs1, hb⟩
      have Lx5 := Lib.hid (Lx4.out.on hb)
      have Ly5 := Lib.hid (Ly4.out.on hb)
      have Lw5 := Lib.hid (Lw4.out.on hb)
      have Lp15 := Lib.hid (Lp14.out.on hb)
      have Ls15 := Lib.hid hs1
      have HB5 := Lib.hid (HB4.out.trans (hb.mono HB4.out.size))
      clear hb Lx4 Ly4 Lw4 Lp14 hs1 HB4
      rw [EA1.out]
      go_wp2_with fail
      with_reducible refine (papply_any Ly5.out Lw5.out).mono ?_
      rintro e w6 ⟨t1, rfl, ht1, hb⟩
      have Lx6 := Lib.hid (Lx5.out.on hb)
      have Ly6 := Lib.hid (Ly5.out.on hb)
      have Lw6 := Lib.hid (Lw5.out.on hb)
      have Lp16 := Lib.hid (Lp15.out.on hb)
      have Ls16 := Lib.hid (Ls15.out.on hb)
      have Lt16 := Lib.hid ht1
      have HB6 := Lib.hid (HB5.out.trans (hb.mono HB5.out.size))
      clear hb Lx5 Ly5 Lw5 Lp15 Ls15 ht1 HB5
      rw [EA2.out]
      go_wp2_with fail
      with_reducible refine (papply_any Lx6.out Lt16.out).mono ?_
      rintro e w7 ⟨u1, rfl, hu1, hb⟩
      have Lx7 := Lib.hid (Lx6.out.on hb)
      have Ly7 := Lib.hid (Ly6.out.on hb)
      have Lw7 := Lib.hid (Lw6.out.on hb)
      have Lp17 := Lib.hid (Lp16.out.on hb)
      have Ls17 := Lib.hid (Ls16.out.on hb)
      have Lt17 := Lib.hid (Lt16.out.on hb)
      have Lu17 := Lib.hid hu1
      have HB7 := Lib.hid (HB6.out.trans (hb.mono HB6.out.size))
      clear hb Lx6 Ly6 Lw6 Lp16 Ls16 Lt16 hu1 HB6
      rw [EA3.out]
      go_wp2_with fail
      clear Lp17
      clear Ly7
      clear Lw7
      clear Lt17
      with_reducible refine (SU.out w7).mono ?_
      rintro e w8 ⟨un, rfl, hun, hb⟩
      have Lx8 := Lib.hid (Lx7.out.on hb)
      have Ls18 := Lib.hid (Ls17.out.on hb)
      have Lu18 := Lib.hid (Lu17.out.on hb)
      have Lun8 := Lib.hid hun
      have HB8 := Lib.hid (HB7.out.trans (hb.mono HB7.out.size))
      clear hb Lx7 Ls17 Lu17 hun HB7
      go_wp2_with fail
      have hb : Below w8.heap.size w8 (w8.alloc (.cells #[.int .i64 (I : Int)] 3)) := (Below.refl _ _).alloc (Nat.le_refl _) _
      have Liv := Lib.hid (IV.one w8 3 (I : Int))
      have Lxa8 := Lib.hid (Lx8.out.on hb)
      have Ls1a8 := Lib.hid (Ls18.out.on hb)
      have Lu1a8 := Lib.hid (Lu18.out.on hb)
      have Luna8 := Lib.hid (Lun8.out.on hb)
      have HBa8 := Lib.hid (HB8.out.trans (hb.mono HB8.out.size))
      generalize w8.alloc (.cells #[.int .i64 (I : Int)] 3) = wz8 at *
      generalize w8.heap.size = bz8 at *
      clear hb Lx8 Ls18 Lu18 Lun8 HB8
      with_reducible refine (prows_any Luna8.out Liv.out (by simp)).mono ?_
      rintro e w9 ⟨r1, rfl, hr1, hb⟩
      have Lx9 := Lib.hid (Lxa8.out.on hb)
      have Ls19 := Lib.hid (Ls1a8.out.on hb)
      have Lu19 := Lib.hid (Lu1a8.out.on hb)
      have Lun9 := Lib.hid (Luna8.out.on hb)
      have Lr19 := Lib.hid hr1
      have HB9 := Lib.hid (HBa8.out.trans (hb.mono HBa8.out.size))
      clear hb Lxa8 Ls1a8 Lu1a8 Luna8 hr1 HBa8
      rw [ER1.out]
      go_wp2_with fail
      have Lr1z := Lib.hid (show MV w9 r1 [(rowsL unitM 0 j j).getD I []] by rw [← RS1.out]; exact Lr19.out)
      clear Liv RS1 Lr19
      clear Lun9
      with_reducible refine (pmul_any Lr1z.out Lx9.out).mono ?_
      rintro e w10 ⟨q1, rfl, hq1, hb⟩
      have Lx10 := Lib.hid (Lx9.out.on hb)
      have Ls110 := Lib.hid (Ls19.out.on hb)
      have Lu110 := Lib.hid (Lu19.out.on hb)
      have Lr110 := Lib.hid (Lr1z.out.on hb)
      have Lq110 := Lib.hid hq1
      have HB10 := Lib.hid (HB9.out.trans (hb.mono HB9.out.size))
      clear hb Lx9 Ls19 Lu19 Lr1z hq1 HB9
      rw [EP.out]
      go_wp2_with fail
      clear Lr110
      have hb : Below w10.heap.size w10 (w10.alloc (.cells #[.int .i64 (I : Int)] 3)) := (Below.refl _ _).alloc (Nat.le_refl _) _
      have Liv := Lib.hid (IV.one w10 3 (I : Int))
      have Lxa10 := Lib.hid (Lx10.out.on hb)
      have Ls1a10 := Lib.hid (Ls110.out.on hb)
      have Lu1a10 := Lib.hid (Lu110.out.on hb)
      have Lq1a10 := Lib.hid (Lq110.out.on hb)
      have HBa10 := Lib.hid (HB10.out.trans (hb.mono HB10.out.size))
      generalize w10.alloc (.cells #[.int .i64 (I : Int)] 3) = wz10 at *
      generalize w10.heap.size = bz10 at *
      clear hb Lx10 Ls110 Lu110 Lq110 HB10
      with_reducible refine (prows_any Lxa10.out Liv.out (by simp)).mono ?_
      rintro e w11 ⟨o1, rfl, ho1, hb⟩
      have Lx11 := Lib.hid (Lxa10.out.on hb)
      have Ls111 := Lib.hid (Ls1a10.out.on hb)
      have Lu111 := Lib.hid (Lu1a10.out.on hb)
      have Lq111 := Lib.hid (Lq1a10.out.on hb)
      have Lo111 := Lib.hid ho1
      have HB11 := Lib.hid (HBa10.out.trans (hb.mono HBa10.out.size))
      clear hb Lxa10 Ls1a10 Lu1a10 Lq1a10 ho1 HBa10
      rw [ER2.out]
      go_wp2_with fail
      clear Lx11
      have Ls1z := Lib.hid (show BV w11 s1 (applyL xs (applyL ys vs)) by rw [← AM.out]; exact Ls111.out)
      clear Ls111
      with_reducible refine (bvsame (by rw [AL.out]; omega) Ls1z.out Lu111.out).mono ?_
      rintro e w12 ⟨rfl, hb⟩
      have Ls112 := Lib.hid (Ls1z.out.on hb)
      have Lu112 := Lib.hid (Lu111.out.on hb)
      have Lq112 := Lib.hid (Lq111.out.on hb)
      have Lo112 := Lib.hid (Lo111.out.on hb)
      have HB12 := Lib.hid (HB11.out.trans (hb.mono HB11.out.size))
      clear hb Ls1z Lu111 Lq111 Lo111 HB11
      go_wp2_with fail
      clear Ls112
      clear Lu112
      have Lqz := Lib.hid (show MV w12 q1 [xs.getD I []] by rw [← RP.out]; exact Lq112.out)
      have Loz := Lib.hid (show MV w12 o1 [xs.getD I []] by rw [← RS2.out]; exact Lo112.out)
      clear Lq112 Lo112
      with_reducible refine (samerows ⟨by simp, fun r hr => by rw [List.mem_singleton.1 hr, RL.out]; omega⟩ Lqz.out Loz.out).mono ?_
      rintro e w13 ⟨rfl, hb⟩
      have Lq113 := Lib.hid (Lqz.out.on hb)
      have Lo113 := Lib.hid (Loz.out.on hb)
      have HB13 := Lib.hid (HB12.out.trans (hb.mono HB12.out.size))
      clear hb Lqz Loz HB12
      go_wp2_with fail
      with_reducible refine (wakes5_any w13).mono ?_
      rintro e w14 ⟨rfl, hb⟩
      have Lq114 := Lib.hid (Lq113.out.on hb)
      have Lo114 := Lib.hid (Lo113.out.on hb)
      have HB14 := Lib.hid (HB13.out.trans (hb.mono HB13.out.size))
      clear hb Lq113 Lo113 HB13
      go_wp2_with fail
      go_ret
      exact ⟨rfl, HB14.out⟩

theorem contract (H : Type) (enc : TypeId × Value → H) (W : World) (base : Nat) (args : Array Value) (ds gs : List (DataW H)) (before : List MemPlace)
    (hval : ∀ (j : Nat) t v, Try.f3.params[j]? = some t → args[j]? = some v → Value.okWide Try.prog W .any base t v)
    (hW : DataW.Whole enc Try.prog Try.f3.params.toList Rows.matrixAppliesSpec.vars false W args.toList ds gs before) :
    Calls Try.prog 3 args W fun e W' => ∃ v, e = .returned v ∧ Rows.matrixAppliesSpec.post enc Try.prog Try.f3 false true false false W args v W' := by
  have hW' := hW
  obtain ⟨p, q, hA0, hV, rfl, hfz, hnd⟩ := hW
  have hA : DataW.TrodAll enc Try.prog W 0 (fun _ => true) true Try.f3.params.toList args.toList ds p := hA0
  rw [Try.params3] at hA hval
  obtain ⟨v0, v1, v2, v3, v4, d0, d1, d2, d3, d4, p0, p1, p2, p3, p4, rfl, rfl, rfl, h0, h1, h2, h3, h4⟩ := trodAll_five hA
  obtain ⟨rfl, rfl⟩ := trodVars_none hV
  obtain ⟨A0, m0, c0, l0, rfl, hl0, hc0, hm0, hr0⟩ := open_bytes (hval 0 22 v0 rfl rfl) h0
  obtain ⟨A1, m1, c1, l1, rfl, hl1, hc1, hm1, hr1⟩ := open_bytes (hval 1 22 v1 rfl rfl) h1
  obtain ⟨A2, m2, c2, l2, rfl, hl2, hc2, hm2, hr2⟩ := open_bytes (hval 2 22 v2 rfl rfl) h2
  obtain ⟨n3, rfl, rfl, rfl, wf3⟩ := open_int Try.underlying3 (hval 3 3 v3 rfl rfl) h3
  have b3 := bounds_i64 wf3
  obtain ⟨n4, rfl, rfl, rfl, wf4⟩ := open_int Try.underlying3 (hval 4 3 v4 rfl rfl) h4
  have b4 := bounds_i64 wf4
  clear hA0
  refine (walk A0 A1 A2 m0 m1 m2 c0 c1 c2 l0 l1 l2 n3 n4 W hl0 hl1 hl2 (Nat.le_trans hc0 hm0) (Nat.le_trans hc1 hm1) (Nat.le_trans hc2 hm2) hr0 hr1 hr2 b3.1 b3.2 b4.1 b4.2).mono fun e W' ⟨he, hb⟩ => ?_
  exact ⟨_, he, law_post hW' rfl (by kernel_rfl) rfl (by kernel_rfl) hb⟩

set_option maxRecDepth 100000 in
theorem lifted (os : Os) (started : os.Started) (H : Type) (enc : TypeId × Value → H) :
    ReturnsInHanded {} Try.checked os 3 .any (Rows.matrixAppliesSpec.pre6 enc Try.prog Try.f3 Rows.matrixAppliesRow.domain false) (Rows.matrixAppliesSpec.post enc Try.prog Try.f3 false true false false) := by
  refine returnsInHanded_of_change (C := Try.checked) own started (by kernel_rfl) Try.func3
    (ChangeSpec.witness6 (enc := enc) (C := Try.checked) false ⟨#[], #[.slice none 0 0, .slice none 0 0, .slice none 0 0, .int .i64 0, .int .i64 0], []⟩ 8 (by kernel_rfl) (by kernel_rfl) (by kernel_rfl) (by kernel_rfl)) ?_
  intro W base args ds gs before hval0 hW _ _
  have hval : ∀ (j : Nat) t v, Try.f3.params[j]? = some t → args[j]? = some v → Value.okWide Try.prog W .any base t v := hval0
  exact contract H enc W base args ds gs before hval hW

/-- The statement. -/
theorem card : Rows.MatrixAppliesSaid :=
  OpenClaim.holds_of_wide 3 Try.f3 rfl rfl rfl rfl rfl rfl rfl ⟨rfl, rfl, rfl, rfl, rfl⟩ rfl rfl rfl rfl rfl (by kernel_rfl) Try.func3 (by kernel_rfl)
    (of_decide_eq_true (by kernel_rfl)) (by unfold Func.isWrapper; first | (rw [if_pos (by decide +kernel)]; kernel_rfl) | (rw [if_neg (by decide +kernel)]; exact ⟨rfl, rfl⟩))
    (fun os started H enc _ => lifted os started H enc)
end Go.Proofs.Ytkgemngkkedcnaa.matrixApplies
