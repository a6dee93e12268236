/- GfSquares: the square of a sum is the sum of squares; powers add up; a sum of products asks for no order. For all bytes, exponents and lists. -/
import Derived.Test.YtddfjodedmdojaaLaw
import Derived.Test.YtddfjodedmdojaaSix
import Derived.Test.YtddfjodedmdojaaOpen
import Derived.Test.YtddfjodedmdojaaKeep
import Derived.Test.YtddfjodedmdojaaGfV
import Derived.BigRegion
namespace Go.Proofs.Ytddfjodedmdojaa.gfSquares
open Go.ChangeShapes Go.WideShapes Go.ChangeAt Go.RowKit

set_option maxRecDepth 100000 in
set_option maxHeartbeats 8000000 in
theorem walk (a b n m : Int) (A B : Option Addr) (p q c d : Nat) (l r : List UInt8) (w : World) (ha0 : 0 ≤ a) (ha1 : a ≤ 255) (hb0 : 0 ≤ b) (hb1 : b ≤ 255) (hn0 : -9223372036854775808 ≤ n) (hn1 : n ≤ 9223372036854775807) (hm0 : -9223372036854775808 ≤ m) (hm1 : m ≤ 9223372036854775807)
    (hl : l.length = p) (hr : r.length = q) (hc : p ≤ c) (hd : q ≤ d) (hA : Rd w w.heap.size A l) (hB : Rd w w.heap.size B r) :
    Calls Try.prog 3 #[.int .u8 a, .int .u8 b, .int .i64 n, .int .i64 m, .slice A p c, .slice B q d] w fun e w' => e = .returned (.bool true) ∧ Below w.heap.size w w' := by
  obtain ⟨x, rfl⟩ := byte_of ha0 ha1
  obtain ⟨y, rfl⟩ := byte_of hb0 hb1
  clear ha0 ha1 hb0 hb1
  obtain ⟨i0, hi, hz0, hz1, hz2⟩ := info_parts info5
  have HWN := Lib.hid (fun W => within_any n 600 W hn0 hn1 (by omega))
  have HWM := Lib.hid (fun W => within_any m 600 W hm0 hm1 (by omega))
  obtain ⟨q1, q2⟩ := withinI_range n 600 (by omega)
  obtain ⟨q3, q4⟩ := withinI_range m 600 (by omega)
  generalize withinI n 600 = N at *
  generalize withinI m 600 = M at *
  have HCA := Lib.hid (show ∀ W, Calls Try.prog 11 #[.slice A p c, .int .i64 30] W fun e w' => e = .returned (.slice A (min p 30) c) ∧ W = w' from fun W => cut_any A p c 30 W hc)
  have HCB := Lib.hid (show ∀ W, Calls Try.prog 11 #[.slice B q d, .int .i64 30] W fun e w' => e = .returned (.slice B (min q 30) d) ∧ W = w' from fun W => cut_any B q d 30 W hd)
  have HA := Lib.hid (hA.take 30)
  have HB := Lib.hid (hB.take 30)
  have hl' : (l.take 30).length = min p 30 := by rw [List.length_take, hl, Nat.min_comm]
  have hr' : (r.take 30).length = min q 30 := by rw [List.length_take, hr, Nat.min_comm]
  have hs30 : min p 30 ≤ 30 := Nat.min_le_right _ _
  have ht30 : min q 30 ≤ 30 := Nat.min_le_right _ _
  generalize l.take 30 = ls at *
  generalize r.take 30 = rs at *
  generalize min p 30 = s at *
  generalize min q 30 = t at *
  have HL := Lib.hid hl'
  have HR := Lib.hid hr'
  clear hl hr hc hd hA hB hl' hr' hn0 hn1 hm0 hm1
  obtain ⟨k, hk⟩ : ∃ k, min s t = k := ⟨_, rfl⟩
  have hks : k ≤ s := by omega
  have hkt : k ≤ t := by omega
  have e2 : (if t < s then (t : Int) else (s : Int)) = (k : Int) := by split <;> omega
  have e3 : (if t < s then Value.int .i64 (t : Int) else Value.int .i64 (s : Int)) = Value.int .i64 (k : Int) := by split <;> (congr 1; omega)
  have hmk := fun W => run_make (P := Try.prog) W 22 5 i0 (.int .u8 0) Try.underlying22 hi hz0 .i64 .i64 (k : Int) (k : Int) (by omega) (by omega) (by rw [hz2]; omega) (by omega)
  simp only [hz1, Nat.mul_one] at hmk
  have HK := Lib.hid hk
  clear hk hi hz0 hz1 hz2
  go_enter Try.func3, Try.ntmps3
  go_wp2_with fail
  with_reducible refine (lnew w).mono ?_
  rintro e w1 ⟨g, rfl, f1⟩
  have F1 := Lib.hid f1
  clear f1
  go_wp2_with fail
  with_reducible refine (HWN.out w1).mono ?_
  rintro e wx ⟨rfl, rfl⟩
  go_wp2_with fail
  with_reducible refine (HWM.out w1).mono ?_
  rintro e wx ⟨rfl, rfl⟩
  go_wp2_with fail
  with_reducible refine (HCA.out w1).mono ?_
  rintro e wx ⟨rfl, rfl⟩
  go_wp2_with fail
  with_reducible refine (HCB.out w1).mono ?_
  rintro e wx ⟨rfl, rfl⟩
  clear HWN HWM HCA HCB
  go_wp2_with fail
  go_region
  · skip
    clear hmk e2 e3
    obtain ⟨g1, g2, hb2⟩ := two_new w1 (u8A (List.replicate k 0)) (u8A (List.replicate k 0)) 5 5
    have hgl := F1.out.1.lt
    have hw1 := F1.out.2.size
    have f2 : Fdd w g ((w1.alloc (.cells (u8A (List.replicate k 0)) 5)).alloc (.cells (u8A (List.replicate k 0)) 5)).drew := ⟨(F1.out.1.below hb2 hgl).drewN 1, (F1.out.2.trans (hb2.mono hw1)).drew⟩
    have g1' : Blk ((w1.alloc (.cells (u8A (List.replicate k 0)) 5)).alloc (.cells (u8A (List.replicate k 0)) 5)).drew w1.heap.size (u8A (List.replicate k 0)) 5 := g1.drewN 1
    have g2' : Blk ((w1.alloc (.cells (u8A (List.replicate k 0)) 5)).alloc (.cells (u8A (List.replicate k 0)) 5)).drew (w1.heap.size + 1) (u8A (List.replicate k 0)) 5 := g2.drewN 1
    rw [made_zero]
    generalize (World.alloc (World.alloc w1 _) _).drew = w2 at *
    obtain ⟨bu, hu⟩ : ∃ z, w1.heap.size = z := ⟨_, rfl⟩
    rw [hu] at g1' g2' hgl hw1 ⊢
    obtain ⟨bv, hv⟩ : ∃ z, bu + 1 = z := ⟨_, rfl⟩
    rw [hv] at g2' ⊢
    have hwv : w.heap.size ≤ bv := by omega
    have hgv : g < bv := by omega
    have hne1 : ¬ bu = bv := by omega
    have hne2 : ¬ bv = bu := by omega
    clear g1 g2 hb2 F1 hu hv w1
    have F := Lib.hid (show Sq w g bu bv (revTo ls k 0) (revTo rs k 0) w2 by rw [revTo_zero, revTo_zero]; exact ⟨f2, g1', g2'⟩)
    clear f2 g1' g2'
    go_wp2_with fail
    go_loopw [17] (fun t wr => ∃ i : Nat, i ≤ k ∧ t = .int .i64 i ∧ Hid (Sq w g bu bv (revTo ls k i) (revTo rs k i) wr)) (fun t _ => k - (intOf t).toNat)
    case atStart => exact ⟨0, by omega, rfl, F⟩
    case round =>
      clear F
      obtain ⟨i, hi, rfl, F⟩ := hrel
      by_cases hlt : i < k
      · obtain ⟨j, hj⟩ : ∃ j, k - 1 - i = j := ⟨_, rfl⟩
        have hls : j < ls.length := by rw [HL.out]; omega
        have hrs : j < rs.length := by rw [HR.out]; omega
        have hii : (i : Int) < (k : Int) := by omega
        obtain ⟨b1, off1, rfl, hb1, hc1⟩ := (HA.out.below F.out.1.2 (Nat.le_refl _)).at_ j hls
        obtain ⟨b2, off2, rfl, hb2, hc2⟩ := (HB.out.below F.out.1.2 (Nat.le_refl _)).at_ j hrs
        have V1 : (revTo ls k i).set i ls[j] = revTo ls k (i + 1) := by rw [← revTo_set ls hlt, hj, List.getD_eq_getElem?_getD, List.getElem?_eq_getElem hls]; rfl
        have V2 : (revTo rs k i).set i rs[j] = revTo rs k (i + 1) := by rw [← revTo_set rs hlt, hj, List.getD_eq_getElem?_getD, List.getElem?_eq_getElem hrs]; rfl
        have HST := Lib.hid (F.out.store (by omega) (by omega) (by omega) (by omega) (by omega) V1 V2)
        clear V1 V2
        generalize ls[j] = xv at *
        generalize rs[j] = yv at *
        have ej : (k : Int) - 1 - (i : Int) = (j : Int) := by omega
        have js : (j : Int) < (s : Int) := by omega
        have jt : (j : Int) < (t : Int) := by omega
        have hf1 := F.out.2.1.frozen i
        have hf2 := F.out.2.2.frozen i
        obtain ⟨o1, ho1⟩ : ∃ old, wr.cell? ⟨bu, i, none⟩ = some old := ⟨_, F.out.2.1.byteAt (i := i) (by rw [revTo_len]; exact hlt)⟩
        obtain ⟨o2, ho2⟩ : ∃ old, wr.cell? ⟨bv, i, none⟩ = some old := ⟨_, F.out.2.2.byteAt (i := i) (by rw [revTo_len]; exact hlt)⟩
        clear hls hrs hj
        go_wp2_with fail
        go_region
        generalize hw3 : World.drew _ = w3
        have HSQ := Lib.hid (show Sq w g bu bv (revTo ls k (i + 1)) (revTo rs k (i + 1)) w3 by rw [← hw3]; exact HST.out)
        clear hw3 HST F hf1 hf2 ho1 ho2 hc1 hc2
        go_wp2_with fail
        go_roundw
        case rel => exact ⟨i + 1, by omega, by go_num, HSQ⟩
        case measure => simp [intOf]; omega
      · obtain rfl : i = k := by omega
        have R1 := Lib.hid (fun w' (h : Sq w g bu bv (revTo ls i i) (revTo rs i i) w') => HA.out.below h.1.2 (Nat.le_refl _))
        have R2 := Lib.hid (fun w' (h : Sq w g bu bv (revTo ls i i) (revTo rs i i) w') => HB.out.below h.1.2 (Nat.le_refl _))
        obtain ⟨D, hD⟩ : ∃ D, dotU ls rs i = D := ⟨_, rfl⟩
        have D1 := Lib.hid (fun w' (h : Sq w g bu bv (revTo ls i i) (revTo rs i i) w') => (show Calls Try.prog 15 #[.pointer (some ⟨g, 0, none⟩), .slice A s c, .slice B t d] w' fun e w'' => e = .returned (.int .u8 (D.toNat : Int)) ∧ Sq w g bu bv (revTo ls i i) (revTo rs i i) w'' by
          have := qdot h A B s t c d _ _ ls rs HL.out HR.out hs30 ht30 (R1.out w' h) (R2.out w' h)
          rw [HK.out, hD] at this
          exact this))
        have D2 := Lib.hid (fun w' (h : Sq w g bu bv (revTo ls i i) (revTo rs i i) w') => (show Calls Try.prog 15 #[.pointer (some ⟨g, 0, none⟩), .slice B t d, .slice A s c] w' fun e w'' => e = .returned (.int .u8 (D.toNat : Int)) ∧ Sq w g bu bv (revTo ls i i) (revTo rs i i) w'' by
          have := qdot h B A t s d c _ _ rs ls HR.out HL.out ht30 hs30 (R2.out w' h) (R1.out w' h)
          rw [Nat.min_comm t s, HK.out, dotU_comm, hD] at this
          exact this))
        have D3 := Lib.hid (fun w' (h : Sq w g bu bv (revTo ls i i) (revTo rs i i) w') => (show Calls Try.prog 15 #[.pointer (some ⟨g, 0, none⟩), .slice (some ⟨bu, 0, none⟩) i i, .slice (some ⟨bv, 0, none⟩) i i] w' fun e w'' => e = .returned (.int .u8 (D.toNat : Int)) ∧ Sq w g bu bv (revTo ls i i) (revTo rs i i) w'' by
          have := qdot h (some ⟨bu, 0, none⟩) (some ⟨bv, 0, none⟩) i i i i _ _ _ _ (revTo_len ls i i) (revTo_len rs i i) (Nat.le_trans hks hs30) (Nat.le_trans hks hs30) (Rd.of_blk h.2.1 rfl) (Rd.of_blk h.2.2 rfl)
          rw [Nat.min_self, dotU_rev, hD] at this
          exact this))
        have D4 := Lib.hid (fun w' (h : Sq w g bu bv (revTo ls i i) (revTo rs i i) w') => (show Calls Try.prog 15 #[.pointer (some ⟨g, 0, none⟩), .slice none 0 0, .slice B t d] w' fun e w'' => e = .returned (.int .u8 0) ∧ Sq w g bu bv (revTo ls i i) (revTo rs i i) w'' by
          have := qdot h none B 0 t 0 d 0 _ [] rs rfl HR.out (by omega) ht30 (Rd.nil _ _ _) (R2.out w' h)
          rw [Nat.zero_min] at this
          exact this))
        obtain ⟨P0, hP0⟩ : ∃ z, x ^^^ y = z := ⟨_, rfl⟩
        obtain ⟨P1, hP1⟩ : ∃ z, fpU P0 2 = z := ⟨_, rfl⟩
        obtain ⟨P2, hP2⟩ : ∃ z, fpU x 2 = z := ⟨_, rfl⟩
        obtain ⟨P3, hP3⟩ : ∃ z, fpU y 2 = z := ⟨_, rfl⟩
        obtain ⟨Q1, hQ1⟩ : ∃ z, fpU x N = z := ⟨_, rfl⟩
        obtain ⟨Q2, hQ2⟩ : ∃ z, fpU x M = z := ⟨_, rfl⟩
        obtain ⟨Q3, hQ3⟩ : ∃ z, fpU x (N + M) = z := ⟨_, rfl⟩
        have hadd : P2 ^^^ P3 = P1 := by rw [← hP2, ← hP3, ← hP1, ← hP0]; exact (fpU_sq x y).symm
        have hmul : mulU Q1 Q2 = Q3 := by rw [← hQ1, ← hQ2, ← hQ3]; exact fpU_add x q1 q3
        have E1 := Lib.hid (fun w' (h : Sq w g bu bv (revTo ls i i) (revTo rs i i) w') => (show Calls Try.prog 12 #[.pointer (some ⟨g, 0, none⟩), .int .u8 (P0.toNat : Int), .int .i64 2] w' fun e w'' => e = .returned (.int .u8 (P1.toNat : Int)) ∧ Sq w g bu bv (revTo ls i i) (revTo rs i i) w'' by
          have := qpow h P0 2 ⟨by omega, by omega⟩
          rw [hP1] at this
          exact this))
        have E2 := Lib.hid (fun w' (h : Sq w g bu bv (revTo ls i i) (revTo rs i i) w') => (show Calls Try.prog 12 #[.pointer (some ⟨g, 0, none⟩), .int .u8 (x.toNat : Int), .int .i64 2] w' fun e w'' => e = .returned (.int .u8 (P2.toNat : Int)) ∧ Sq w g bu bv (revTo ls i i) (revTo rs i i) w'' by
          have := qpow h x 2 ⟨by omega, by omega⟩
          rw [hP2] at this
          exact this))
        have E3 := Lib.hid (fun w' (h : Sq w g bu bv (revTo ls i i) (revTo rs i i) w') => (show Calls Try.prog 12 #[.pointer (some ⟨g, 0, none⟩), .int .u8 (y.toNat : Int), .int .i64 2] w' fun e w'' => e = .returned (.int .u8 (P3.toNat : Int)) ∧ Sq w g bu bv (revTo ls i i) (revTo rs i i) w'' by
          have := qpow h y 2 ⟨by omega, by omega⟩
          rw [hP3] at this
          exact this))
        have E4 := Lib.hid (fun w' (h : Sq w g bu bv (revTo ls i i) (revTo rs i i) w') => (show Calls Try.prog 12 #[.pointer (some ⟨g, 0, none⟩), .int .u8 (x.toNat : Int), .int .i64 N] w' fun e w'' => e = .returned (.int .u8 (Q1.toNat : Int)) ∧ Sq w g bu bv (revTo ls i i) (revTo rs i i) w'' by
          have := qpow h x N ⟨by omega, by omega⟩
          rw [hQ1] at this
          exact this))
        have E5 := Lib.hid (fun w' (h : Sq w g bu bv (revTo ls i i) (revTo rs i i) w') => (show Calls Try.prog 12 #[.pointer (some ⟨g, 0, none⟩), .int .u8 (x.toNat : Int), .int .i64 M] w' fun e w'' => e = .returned (.int .u8 (Q2.toNat : Int)) ∧ Sq w g bu bv (revTo ls i i) (revTo rs i i) w'' by
          have := qpow h x M ⟨by omega, by omega⟩
          rw [hQ2] at this
          exact this))
        have E6 := Lib.hid (fun w' (h : Sq w g bu bv (revTo ls i i) (revTo rs i i) w') => (show Calls Try.prog 14 #[.pointer (some ⟨g, 0, none⟩), .int .u8 (Q1.toNat : Int), .int .u8 (Q2.toNat : Int)] w' fun e w'' => e = .returned (.int .u8 (Q3.toNat : Int)) ∧ Sq w g bu bv (revTo ls i i) (revTo rs i i) w'' by
          have := qmul h Q1 Q2
          rw [hmul] at this
          exact this))
        have E7 := Lib.hid (fun w' (h : Sq w g bu bv (revTo ls i i) (revTo rs i i) w') => (show Calls Try.prog 12 #[.pointer (some ⟨g, 0, none⟩), .int .u8 (x.toNat : Int), .int .i64 (N + M)] w' fun e w'' => e = .returned (.int .u8 (Q3.toNat : Int)) ∧ Sq w g bu bv (revTo ls i i) (revTo rs i i) w'' by
          have := qpow h x (N + M) ⟨by omega, by omega⟩
          rw [hQ3] at this
          exact this))
        have A1 := Lib.hid (fun w' => (show Calls Try.prog 13 #[.int .u8 (x.toNat : Int), .int .u8 (y.toNat : Int)] w' fun e w'' => e = .returned (.int .u8 (P0.toNat : Int)) ∧ w' = w'' by
          have := add_any x y w'
          rw [hP0] at this
          exact this))
        have A2 := Lib.hid (fun w' => (show Calls Try.prog 13 #[.int .u8 (P2.toNat : Int), .int .u8 (P3.toNat : Int)] w' fun e w'' => e = .returned (.int .u8 (P1.toNat : Int)) ∧ w' = w'' by
          have := add_any P2 P3 w'
          rw [hadd] at this
          exact this))
        have HEND := Lib.hid (fun w' (h : Sq w g bu bv (revTo ls i i) (revTo rs i i) w') => h.1.2)
        clear hP0 hP1 hP2 hP3 hQ1 hQ2 hQ3 hadd hmul hD R1 R2 HA HB HL HR HK hlt hi
        generalize revTo ls i i = xs at *
        generalize revTo rs i i = ys at *
        go_wp2_with fail
        with_reducible refine (A1.out _).mono ?_
        rintro e wx ⟨rfl, rfl⟩
        go_wp2_with fail
        with_reducible refine (E1.out _ F.out).mono ?_
        rintro e wx ⟨rfl, f1⟩
        have F1 := Lib.hid f1
        clear f1 F
        go_wp2_with fail
        with_reducible refine (E2.out _ F1.out).mono ?_
        rintro e wx ⟨rfl, f2⟩
        have F2 := Lib.hid f2
        clear f2 F1
        go_wp2_with fail
        with_reducible refine (E3.out _ F2.out).mono ?_
        rintro e wx ⟨rfl, f3⟩
        have F3 := Lib.hid f3
        clear f3 F2
        go_wp2_with fail
        with_reducible refine (A2.out _).mono ?_
        rintro e wx ⟨rfl, rfl⟩
        go_wp2_with fail
        with_reducible refine (E4.out _ F3.out).mono ?_
        rintro e wx ⟨rfl, f4⟩
        have F4 := Lib.hid f4
        clear f4 F3
        go_wp2_with fail
        with_reducible refine (E5.out _ F4.out).mono ?_
        rintro e wx ⟨rfl, f5⟩
        have F5 := Lib.hid f5
        clear f5 F4
        go_wp2_with fail
        with_reducible refine (E6.out _ F5.out).mono ?_
        rintro e wx ⟨rfl, f6⟩
        have F6 := Lib.hid f6
        clear f6 F5
        go_wp2_with fail
        with_reducible refine (E7.out _ F6.out).mono ?_
        rintro e wx ⟨rfl, f7⟩
        have F7 := Lib.hid f7
        clear f7 F6
        go_wp2_with fail
        with_reducible refine (D1.out _ F7.out).mono ?_
        rintro e wx ⟨rfl, f8⟩
        have F8 := Lib.hid f8
        clear f8 F7
        go_wp2_with fail
        with_reducible refine (D2.out _ F8.out).mono ?_
        rintro e wx ⟨rfl, f9⟩
        have F9 := Lib.hid f9
        clear f9 F8
        go_wp2_with fail
        with_reducible refine (D3.out _ F9.out).mono ?_
        rintro e wx ⟨rfl, f10⟩
        have F10 := Lib.hid f10
        clear f10 F9
        go_wp2_with fail
        with_reducible refine (D1.out _ F10.out).mono ?_
        rintro e wx ⟨rfl, f11⟩
        have F11 := Lib.hid f11
        clear f11 F10
        go_wp2_with fail
        with_reducible refine (D4.out _ F11.out).mono ?_
        rintro e wx ⟨rfl, f12⟩
        have F12 := Lib.hid f12
        clear f12 F11
        go_wp2_with fail
        with_reducible refine (wakes4_any _).mono ?_
        rintro e wx ⟨rfl, rfl⟩
        go_wp2_with fail
        go_ret
        exact ⟨rfl, HEND.out _ F12.out⟩
  · skip
    clear hmk e2 e3
    obtain ⟨g1, g2, hb2⟩ := two_new w1 (u8A (List.replicate k 0)) (u8A (List.replicate k 0)) 5 5
    have hgl := F1.out.1.lt
    have hw1 := F1.out.2.size
    have f2 : Fdd w g ((w1.alloc (.cells (u8A (List.replicate k 0)) 5)).alloc (.cells (u8A (List.replicate k 0)) 5)).drew := ⟨(F1.out.1.below hb2 hgl).drewN 1, (F1.out.2.trans (hb2.mono hw1)).drew⟩
    have g1' : Blk ((w1.alloc (.cells (u8A (List.replicate k 0)) 5)).alloc (.cells (u8A (List.replicate k 0)) 5)).drew w1.heap.size (u8A (List.replicate k 0)) 5 := g1.drewN 1
    have g2' : Blk ((w1.alloc (.cells (u8A (List.replicate k 0)) 5)).alloc (.cells (u8A (List.replicate k 0)) 5)).drew (w1.heap.size + 1) (u8A (List.replicate k 0)) 5 := g2.drewN 1
    rw [made_zero]
    generalize (World.alloc (World.alloc w1 _) _).drew = w2 at *
    obtain ⟨bu, hu⟩ : ∃ z, w1.heap.size = z := ⟨_, rfl⟩
    rw [hu] at g1' g2' hgl hw1 ⊢
    obtain ⟨bv, hv⟩ : ∃ z, bu + 1 = z := ⟨_, rfl⟩
    rw [hv] at g2' ⊢
    have hwv : w.heap.size ≤ bv := by omega
    have hgv : g < bv := by omega
    have hne1 : ¬ bu = bv := by omega
    have hne2 : ¬ bv = bu := by omega
    clear g1 g2 hb2 F1 hu hv w1
    have F := Lib.hid (show Sq w g bv bu (revTo ls k 0) (revTo rs k 0) w2 by rw [revTo_zero, revTo_zero]; exact ⟨f2, g2', g1'⟩)
    clear f2 g1' g2'
    go_wp2_with fail
    go_loopw [17] (fun t wr => ∃ i : Nat, i ≤ k ∧ t = .int .i64 i ∧ Hid (Sq w g bv bu (revTo ls k i) (revTo rs k i) wr)) (fun t _ => k - (intOf t).toNat)
    case atStart => exact ⟨0, by omega, rfl, F⟩
    case round =>
      clear F
      obtain ⟨i, hi, rfl, F⟩ := hrel
      by_cases hlt : i < k
      · obtain ⟨j, hj⟩ : ∃ j, k - 1 - i = j := ⟨_, rfl⟩
        have hls : j < ls.length := by rw [HL.out]; omega
        have hrs : j < rs.length := by rw [HR.out]; omega
        have hii : (i : Int) < (k : Int) := by omega
        obtain ⟨b1, off1, rfl, hb1, hc1⟩ := (HA.out.below F.out.1.2 (Nat.le_refl _)).at_ j hls
        obtain ⟨b2, off2, rfl, hb2, hc2⟩ := (HB.out.below F.out.1.2 (Nat.le_refl _)).at_ j hrs
        have V1 : (revTo ls k i).set i ls[j] = revTo ls k (i + 1) := by rw [← revTo_set ls hlt, hj, List.getD_eq_getElem?_getD, List.getElem?_eq_getElem hls]; rfl
        have V2 : (revTo rs k i).set i rs[j] = revTo rs k (i + 1) := by rw [← revTo_set rs hlt, hj, List.getD_eq_getElem?_getD, List.getElem?_eq_getElem hrs]; rfl
        have HST := Lib.hid (F.out.store (by omega) (by omega) (by omega) (by omega) (by omega) V1 V2)
        clear V1 V2
        generalize ls[j] = xv at *
        generalize rs[j] = yv at *
        have ej : (k : Int) - 1 - (i : Int) = (j : Int) := by omega
        have js : (j : Int) < (s : Int) := by omega
        have jt : (j : Int) < (t : Int) := by omega
        have hf1 := F.out.2.1.frozen i
        have hf2 := F.out.2.2.frozen i
        obtain ⟨o1, ho1⟩ : ∃ old, wr.cell? ⟨bv, i, none⟩ = some old := ⟨_, F.out.2.1.byteAt (i := i) (by rw [revTo_len]; exact hlt)⟩
        obtain ⟨o2, ho2⟩ : ∃ old, wr.cell? ⟨bu, i, none⟩ = some old := ⟨_, F.out.2.2.byteAt (i := i) (by rw [revTo_len]; exact hlt)⟩
        clear hls hrs hj
        go_wp2_with fail
        go_region
        generalize hw3 : World.drew _ = w3
        have HSQ := Lib.hid (show Sq w g bv bu (revTo ls k (i + 1)) (revTo rs k (i + 1)) w3 by rw [← hw3]; exact HST.out)
        clear hw3 HST F hf1 hf2 ho1 ho2 hc1 hc2
        go_wp2_with fail
        go_roundw
        case rel => exact ⟨i + 1, by omega, by go_num, HSQ⟩
        case measure => simp [intOf]; omega
      · obtain rfl : i = k := by omega
        have R1 := Lib.hid (fun w' (h : Sq w g bv bu (revTo ls i i) (revTo rs i i) w') => HA.out.below h.1.2 (Nat.le_refl _))
        have R2 := Lib.hid (fun w' (h : Sq w g bv bu (revTo ls i i) (revTo rs i i) w') => HB.out.below h.1.2 (Nat.le_refl _))
        obtain ⟨D, hD⟩ : ∃ D, dotU ls rs i = D := ⟨_, rfl⟩
        have D1 := Lib.hid (fun w' (h : Sq w g bv bu (revTo ls i i) (revTo rs i i) w') => (show Calls Try.prog 15 #[.pointer (some ⟨g, 0, none⟩), .slice A s c, .slice B t d] w' fun e w'' => e = .returned (.int .u8 (D.toNat : Int)) ∧ Sq w g bv bu (revTo ls i i) (revTo rs i i) w'' by
          have := qdot h A B s t c d _ _ ls rs HL.out HR.out hs30 ht30 (R1.out w' h) (R2.out w' h)
          rw [HK.out, hD] at this
          exact this))
        have D2 := Lib.hid (fun w' (h : Sq w g bv bu (revTo ls i i) (revTo rs i i) w') => (show Calls Try.prog 15 #[.pointer (some ⟨g, 0, none⟩), .slice B t d, .slice A s c] w' fun e w'' => e = .returned (.int .u8 (D.toNat : Int)) ∧ Sq w g bv bu (revTo ls i i) (revTo rs i i) w'' by
          have := qdot h B A t s d c _ _ rs ls HR.out HL.out ht30 hs30 (R2.out w' h) (R1.out w' h)
          rw [Nat.min_comm t s, HK.out, dotU_comm, hD] at this
          exact this))
        have D3 := Lib.hid (fun w' (h : Sq w g bv bu (revTo ls i i) (revTo rs i i) w') => (show Calls Try.prog 15 #[.pointer (some ⟨g, 0, none⟩), .slice (some ⟨bv, 0, none⟩) i i, .slice (some ⟨bu, 0, none⟩) i i] w' fun e w'' => e = .returned (.int .u8 (D.toNat : Int)) ∧ Sq w g bv bu (revTo ls i i) (revTo rs i i) w'' by
          have := qdot h (some ⟨bv, 0, none⟩) (some ⟨bu, 0, none⟩) i i i i _ _ _ _ (revTo_len ls i i) (revTo_len rs i i) (Nat.le_trans hks hs30) (Nat.le_trans hks hs30) (Rd.of_blk h.2.1 rfl) (Rd.of_blk h.2.2 rfl)
          rw [Nat.min_self, dotU_rev, hD] at this
          exact this))
        have D4 := Lib.hid (fun w' (h : Sq w g bv bu (revTo ls i i) (revTo rs i i) w') => (show Calls Try.prog 15 #[.pointer (some ⟨g, 0, none⟩), .slice none 0 0, .slice B t d] w' fun e w'' => e = .returned (.int .u8 0) ∧ Sq w g bv bu (revTo ls i i) (revTo rs i i) w'' by
          have := qdot h none B 0 t 0 d 0 _ [] rs rfl HR.out (by omega) ht30 (Rd.nil _ _ _) (R2.out w' h)
          rw [Nat.zero_min] at this
          exact this))
        obtain ⟨P0, hP0⟩ : ∃ z, x ^^^ y = z := ⟨_, rfl⟩
        obtain ⟨P1, hP1⟩ : ∃ z, fpU P0 2 = z := ⟨_, rfl⟩
        obtain ⟨P2, hP2⟩ : ∃ z, fpU x 2 = z := ⟨_, rfl⟩
        obtain ⟨P3, hP3⟩ : ∃ z, fpU y 2 = z := ⟨_, rfl⟩
        obtain ⟨Q1, hQ1⟩ : ∃ z, fpU x N = z := ⟨_, rfl⟩
        obtain ⟨Q2, hQ2⟩ : ∃ z, fpU x M = z := ⟨_, rfl⟩
        obtain ⟨Q3, hQ3⟩ : ∃ z, fpU x (N + M) = z := ⟨_, rfl⟩
        have hadd : P2 ^^^ P3 = P1 := by rw [← hP2, ← hP3, ← hP1, ← hP0]; exact (fpU_sq x y).symm
        have hmul : mulU Q1 Q2 = Q3 := by rw [← hQ1, ← hQ2, ← hQ3]; exact fpU_add x q1 q3
        have E1 := Lib.hid (fun w' (h : Sq w g bv bu (revTo ls i i) (revTo rs i i) w') => (show Calls Try.prog 12 #[.pointer (some ⟨g, 0, none⟩), .int .u8 (P0.toNat : Int), .int .i64 2] w' fun e w'' => e = .returned (.int .u8 (P1.toNat : Int)) ∧ Sq w g bv bu (revTo ls i i) (revTo rs i i) w'' by
          have := qpow h P0 2 ⟨by omega, by omega⟩
          rw [hP1] at this
          exact this))
        have E2 := Lib.hid (fun w' (h : Sq w g bv bu (revTo ls i i) (revTo rs i i) w') => (show Calls Try.prog 12 #[.pointer (some ⟨g, 0, none⟩), .int .u8 (x.toNat : Int), .int .i64 2] w' fun e w'' => e = .returned (.int .u8 (P2.toNat : Int)) ∧ Sq w g bv bu (revTo ls i i) (revTo rs i i) w'' by
          have := qpow h x 2 ⟨by omega, by omega⟩
          rw [hP2] at this
          exact this))
        have E3 := Lib.hid (fun w' (h : Sq w g bv bu (revTo ls i i) (revTo rs i i) w') => (show Calls Try.prog 12 #[.pointer (some ⟨g, 0, none⟩), .int .u8 (y.toNat : Int), .int .i64 2] w' fun e w'' => e = .returned (.int .u8 (P3.toNat : Int)) ∧ Sq w g bv bu (revTo ls i i) (revTo rs i i) w'' by
          have := qpow h y 2 ⟨by omega, by omega⟩
          rw [hP3] at this
          exact this))
        have E4 := Lib.hid (fun w' (h : Sq w g bv bu (revTo ls i i) (revTo rs i i) w') => (show Calls Try.prog 12 #[.pointer (some ⟨g, 0, none⟩), .int .u8 (x.toNat : Int), .int .i64 N] w' fun e w'' => e = .returned (.int .u8 (Q1.toNat : Int)) ∧ Sq w g bv bu (revTo ls i i) (revTo rs i i) w'' by
          have := qpow h x N ⟨by omega, by omega⟩
          rw [hQ1] at this
          exact this))
        have E5 := Lib.hid (fun w' (h : Sq w g bv bu (revTo ls i i) (revTo rs i i) w') => (show Calls Try.prog 12 #[.pointer (some ⟨g, 0, none⟩), .int .u8 (x.toNat : Int), .int .i64 M] w' fun e w'' => e = .returned (.int .u8 (Q2.toNat : Int)) ∧ Sq w g bv bu (revTo ls i i) (revTo rs i i) w'' by
          have := qpow h x M ⟨by omega, by omega⟩
          rw [hQ2] at this
          exact this))
        have E6 := Lib.hid (fun w' (h : Sq w g bv bu (revTo ls i i) (revTo rs i i) w') => (show Calls Try.prog 14 #[.pointer (some ⟨g, 0, none⟩), .int .u8 (Q1.toNat : Int), .int .u8 (Q2.toNat : Int)] w' fun e w'' => e = .returned (.int .u8 (Q3.toNat : Int)) ∧ Sq w g bv bu (revTo ls i i) (revTo rs i i) w'' by
          have := qmul h Q1 Q2
          rw [hmul] at this
          exact this))
        have E7 := Lib.hid (fun w' (h : Sq w g bv bu (revTo ls i i) (revTo rs i i) w') => (show Calls Try.prog 12 #[.pointer (some ⟨g, 0, none⟩), .int .u8 (x.toNat : Int), .int .i64 (N + M)] w' fun e w'' => e = .returned (.int .u8 (Q3.toNat : Int)) ∧ Sq w g bv bu (revTo ls i i) (revTo rs i i) w'' by
          have := qpow h x (N + M) ⟨by omega, by omega⟩
          rw [hQ3] at this
          exact this))
        have A1 := Lib.hid (fun w' => (show Calls Try.prog 13 #[.int .u8 (x.toNat : Int), .int .u8 (y.toNat : Int)] w' fun e w'' => e = .returned (.int .u8 (P0.toNat : Int)) ∧ w' = w'' by
          have := add_any x y w'
          rw [hP0] at this
          exact this))
        have A2 := Lib.hid (fun w' => (show Calls Try.prog 13 #[.int .u8 (P2.toNat : Int), .int .u8 (P3.toNat : Int)] w' fun e w'' => e = .returned (.int .u8 (P1.toNat : Int)) ∧ w' = w'' by
          have := add_any P2 P3 w'
          rw [hadd] at this
          exact this))
        have HEND := Lib.hid (fun w' (h : Sq w g bv bu (revTo ls i i) (revTo rs i i) w') => h.1.2)
        clear hP0 hP1 hP2 hP3 hQ1 hQ2 hQ3 hadd hmul hD R1 R2 HA HB HL HR HK hlt hi
        generalize revTo ls i i = xs at *
        generalize revTo rs i i = ys at *
        go_wp2_with fail
        with_reducible refine (A1.out _).mono ?_
        rintro e wx ⟨rfl, rfl⟩
        go_wp2_with fail
        with_reducible refine (E1.out _ F.out).mono ?_
        rintro e wx ⟨rfl, f1⟩
        have F1 := Lib.hid f1
        clear f1 F
        go_wp2_with fail
        with_reducible refine (E2.out _ F1.out).mono ?_
        rintro e wx ⟨rfl, f2⟩
        have F2 := Lib.hid f2
        clear f2 F1
        go_wp2_with fail
        with_reducible refine (E3.out _ F2.out).mono ?_
        rintro e wx ⟨rfl, f3⟩
        have F3 := Lib.hid f3
        clear f3 F2
        go_wp2_with fail
        with_reducible refine (A2.out _).mono ?_
        rintro e wx ⟨rfl, rfl⟩
        go_wp2_with fail
        with_reducible refine (E4.out _ F3.out).mono ?_
        rintro e wx ⟨rfl, f4⟩
        have F4 := Lib.hid f4
        clear f4 F3
        go_wp2_with fail
        with_reducible refine (E5.out _ F4.out).mono ?_
        rintro e wx ⟨rfl, f5⟩
        have F5 := Lib.hid f5
        clear f5 F4
        go_wp2_with fail
        with_reducible refine (E6.out _ F5.out).mono ?_
        rintro e wx ⟨rfl, f6⟩
        have F6 := Lib.hid f6
        clear f6 F5
        go_wp2_with fail
        with_reducible refine (E7.out _ F6.out).mono ?_
        rintro e wx ⟨rfl, f7⟩
        have F7 := Lib.hid f7
        clear f7 F6
        go_wp2_with fail
        with_reducible refine (D1.out _ F7.out).mono ?_
        rintro e wx ⟨rfl, f8⟩
        have F8 := Lib.hid f8
        clear f8 F7
        go_wp2_with fail
        with_reducible refine (D2.out _ F8.out).mono ?_
        rintro e wx ⟨rfl, f9⟩
        have F9 := Lib.hid f9
        clear f9 F8
        go_wp2_with fail
        with_reducible refine (D3.out _ F9.out).mono ?_
        rintro e wx ⟨rfl, f10⟩
        have F10 := Lib.hid f10
        clear f10 F9
        go_wp2_with fail
        with_reducible refine (D1.out _ F10.out).mono ?_
        rintro e wx ⟨rfl, f11⟩
        have F11 := Lib.hid f11
        clear f11 F10
        go_wp2_with fail
        with_reducible refine (D4.out _ F11.out).mono ?_
        rintro e wx ⟨rfl, f12⟩
        have F12 := Lib.hid f12
        clear f12 F11
        go_wp2_with fail
        with_reducible refine (wakes4_any _).mono ?_
        rintro e wx ⟨rfl, rfl⟩
        go_wp2_with fail
        go_ret
        exact ⟨rfl, HEND.out _ F12.out⟩

theorem contract (H : Type) (enc : TypeId × Value → H) (W : World) (base : Nat) (args : Array Value) (ds gs : List (DataW H)) (before : List MemPlace)
    (hval : ∀ (j : Nat) t v, Try.f3.params[j]? = some t → args[j]? = some v → Value.okWide Try.prog W .any base t v)
    (hW : DataW.Whole enc Try.prog Try.f3.params.toList Rows.gfSquaresSpec.vars false W args.toList ds gs before) :
    Calls Try.prog 3 args W fun e W' => ∃ v, e = .returned v ∧ Rows.gfSquaresSpec.post enc Try.prog Try.f3 false true false false W args v W' := by
  have hW' := hW
  obtain ⟨p, q, hA0, hV, rfl, hfz, hnd⟩ := hW
  have hA : DataW.TrodAll enc Try.prog W 0 (fun _ => true) true Try.f3.params.toList args.toList ds p := hA0
  rw [Try.params3] at hA hval
  obtain ⟨v0, v1, v2, v3, v4, v5, d0, d1, d2, d3, d4, d5, p0, p1, p2, p3, p4, p5, rfl, rfl, rfl, h0, h1, h2, h3, h4, h5⟩ := trodAll_six hA
  obtain ⟨rfl, rfl⟩ := trodVars_none hV
  obtain ⟨n0, rfl, rfl, rfl, wf0⟩ := open_int Try.underlying5 (hval 0 5 v0 rfl rfl) h0
  have b0 := bounds_u8 wf0
  obtain ⟨n1, rfl, rfl, rfl, wf1⟩ := open_int Try.underlying5 (hval 1 5 v1 rfl rfl) h1
  have b1 := bounds_u8 wf1
  obtain ⟨n2, rfl, rfl, rfl, wf2⟩ := open_int Try.underlying3 (hval 2 3 v2 rfl rfl) h2
  have b2 := bounds_i64 wf2
  obtain ⟨n3, rfl, rfl, rfl, wf3⟩ := open_int Try.underlying3 (hval 3 3 v3 rfl rfl) h3
  have b3 := bounds_i64 wf3
  obtain ⟨A4, m4, c4, l4, rfl, hl4, hc4, hm4, hr4⟩ := open_bytes (hval 4 22 v4 rfl rfl) h4
  obtain ⟨A5, m5, c5, l5, rfl, hl5, hc5, hm5, hr5⟩ := open_bytes (hval 5 22 v5 rfl rfl) h5
  clear hA0
  refine (walk n0 n1 n2 n3 A4 A5 m4 m5 c4 c5 l4 l5 W b0.1 b0.2 b1.1 b1.2 b2.1 b2.2 b3.1 b3.2 hl4 hl5 hc4 hc5 hr4 hr5).mono fun e W' ⟨he, hb⟩ => ?_
  exact ⟨_, he, law_post hW' rfl (by kernel_rfl) rfl (by kernel_rfl) hb⟩

set_option maxRecDepth 100000 in
theorem lifted (os : Os) (started : os.Started) (H : Type) (enc : TypeId × Value → H) :
    ReturnsInHanded {} Try.checked os 3 .any (Rows.gfSquaresSpec.pre6 enc Try.prog Try.f3 Rows.gfSquaresRow.domain false) (Rows.gfSquaresSpec.post enc Try.prog Try.f3 false true false false) := by
  refine returnsInHanded_of_change (C := Try.checked) own started (by kernel_rfl) Try.func3
    (ChangeSpec.witness6 (enc := enc) (C := Try.checked) false ⟨#[], #[.int .u8 0, .int .u8 0, .int .i64 0, .int .i64 0, .slice none 0 0, .slice none 0 0], []⟩ 8 (by kernel_rfl) (by kernel_rfl) (by kernel_rfl) (by kernel_rfl)) ?_
  intro W base args ds gs before hval0 hW _ _
  have hval : ∀ (j : Nat) t v, Try.f3.params[j]? = some t → args[j]? = some v → Value.okWide Try.prog W .any base t v := hval0
  exact contract H enc W base args ds gs before hval hW

/-- The statement. -/
theorem card : Rows.GfSquaresSaid :=
  OpenClaim.holds_of_wide 3 Try.f3 rfl rfl rfl rfl rfl rfl rfl ⟨rfl, rfl, rfl, rfl, rfl⟩ rfl rfl rfl rfl rfl (by kernel_rfl) Try.func3 (by kernel_rfl)
    (of_decide_eq_true (by kernel_rfl)) (by unfold Func.isWrapper; first | (rw [if_pos (by decide +kernel)]; kernel_rfl) | (rw [if_neg (by decide +kernel)]; exact ⟨rfl, rfl⟩))
    (fun os started H enc _ => lifted os started H enc)
end Go.Proofs.Ytddfjodedmdojaa.gfSquares
