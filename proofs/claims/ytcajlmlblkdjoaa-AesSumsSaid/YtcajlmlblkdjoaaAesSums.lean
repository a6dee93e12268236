/- AesSums: what is added to bytes is added to what they are streamed to; noughts tell the stream itself. For all keys, places and bytes. -/
import Derived.Test.YtcajlmlblkdjoaaLaw
import Derived.Test.YtcajlmlblkdjoaaOpenA
import Derived.Test.YtcajlmlblkdjoaaMakeB
import Derived.Test.YtcajlmlblkdjoaaFreeL
import Derived.Test.YtcajlmlblkdjoaaSub
import Derived.Test.YtcajlmlblkdjoaaKeep
import Derived.Test.YtcajlmlblkdjoaaPStream
import Derived.Test.YtcajlmlblkdjoaaWakes3
namespace Go.Proofs.Ytcajlmlblkdjoaa.aesSums
open Go.ChangeShapes Go.WideShapes Go.ChangeAt Go.RowKit

theorem clampN_of {N : Nat} (h : N ≤ 1073741824) : clampN (N : Int) = N := by
  unfold clampN
  split
  · omega
  · rw [if_pos (by omega)]; omega
def sumL (a b : List UInt8) (p : Nat) : List UInt8 := (List.range p).map fun i => a.getD i 0 ^^^ b.getD i 0
theorem sumL_len (a b : List UInt8) (p : Nat) : (sumL a b p).length = p := by simp [sumL]
theorem sumL_at (a b : List UInt8) (p : Nat) {i : Nat} (h : i < p) : (sumL a b p).getD i 0 = a.getD i 0 ^^^ b.getD i 0 := map_getD _ p i h
theorem getD_at {l : List UInt8} {i : Nat} (h : i < l.length) : l.getD i 0 = l[i] := by simp [List.getD_eq_getElem?_getD, List.getElem?_eq_getElem h]
theorem ne_false {x y : Int} (h : x = y) : (x != y) = false := by rw [h]; simp

set_option maxRecDepth 100000 in
set_option maxHeartbeats 8000000 in
theorem walk (k : List UInt8) (at_ : Int) (A B : Option Addr) (n m c d : Nat) (al0 bl0 : List UInt8) (w0 : World) (hk : k.length = 16) (ha0 : -9223372036854775808 ≤ at_) (ha1 : at_ ≤ 9223372036854775807)
    (hal : al0.length = n) (hbl : bl0.length = m) (hc : n ≤ c) (hd : m ≤ d) (hA : Rd w0 w0.heap.size A al0) (hB : Rd w0 w0.heap.size B bl0) :
    Calls Try.prog 3 #[.agg (u8A k), .int .i64 at_, .slice A n c, .slice B m d] w0 fun e w' => e = .returned (.bool true) ∧ Below w0.heap.size w0 w' := by
  obtain ⟨N, hN, hNl⟩ : ∃ N : Nat, withinI at_ 500 = (N : Int) ∧ N < 500 := by
    have := withinI_range at_ 500 (by omega)
    exact ⟨(withinI at_ 500).toNat, by omega, by omega⟩
  have HWN := Lib.hid (fun W => (show Calls Try.prog 9 #[.int .i64 at_, .int .i64 500] W fun e w' => e = .returned (.int .i64 (N : Int)) ∧ W = w' by rw [← hN]; exact within_any at_ 500 W ha0 ha1 (by omega)))
  obtain ⟨q1, hq1⟩ : ∃ q, min n m = q := ⟨_, rfl⟩
  obtain ⟨p, hp⟩ : ∃ q, min q1 100 = q := ⟨_, rfl⟩
  have hm1 : (if (m : Int) < (n : Int) then (m : Int) else (n : Int)) = (q1 : Int) := by split <;> omega
  have hm2 : (if (100 : Int) < (q1 : Int) then (100 : Int) else (q1 : Int)) = (p : Int) := by split <;> omega
  have hm3 : (if m < n then (m : Int) else (n : Int)) = (q1 : Int) := by split <;> omega
  have hm4 : (if 100 < q1 then (100 : Int) else (q1 : Int)) = (p : Int) := by split <;> omega
  have hpn : p ≤ n := by omega
  have hpm : p ≤ m := by omega
  have hp100 : p ≤ 100 := by omega
  have har := hA.take p
  have hbr := hB.take p
  have HAL := Lib.hid (show (al0.take p).length = p by rw [List.length_take]; omega)
  have HBL := Lib.hid (show (bl0.take p).length = p by rw [List.length_take]; omega)
  generalize al0.take p = al at *
  generalize bl0.take p = bl at *
  have hst := fun (l : List UInt8) (hl : l.length = p) => (fun (X : Option Addr) (xc : Nat) (W : World) (hr : Rd W W.heap.size X l) => (show Calls Try.prog 10 #[.agg (u8A k), .int .i64 (N : Int), .slice X p xc] W fun e w' => ∃ A' c', e = .returned (.slice A' p c') ∧ p ≤ c' ∧ OwnB w' W.heap.size 5 (.slice A' p c') p (streamL (keysTo k 11) N l) ∧ Below W.heap.size W w' by
    have := pStream_any k (N : Int) X p xc l W hk hl (by omega) hr
    rwa [clampN_of (by omega)] at this))
  have HPA := Lib.hid (hst al HAL.out)
  have HPS := Lib.hid (hst (sumL al bl p) (sumL_len _ _ _))
  have HPZ := Lib.hid (hst (List.replicate p 0) (List.length_replicate ..))
  have HXL := Lib.hid ((streamL_len (keysTo k 11) N al).trans HAL.out)
  have HYL := Lib.hid ((streamL_len (keysTo k 11) N (sumL al bl p)).trans (sumL_len _ _ _))
  have HZL := Lib.hid ((streamL_len (keysTo k 11) N (List.replicate p 0)).trans (List.length_replicate ..))
  have HSLL := Lib.hid (sumL_len al bl p)
  have HSL := Lib.hid (fun i (hi : i < p) => (show bits .xor .u8 ((al.getD i 0).toNat : Int) ((bl.getD i 0).toNat : Int) = (((sumL al bl p).getD i 0).toNat : Int) by rw [xor_byte8, sumL_at al bl p hi]))
  have HNE1 := Lib.hid (fun i (hi : i < p) => (show (bits .xor .u8 (((streamL (keysTo k 11) N al).getD i 0).toNat : Int) ((bl.getD i 0).toNat : Int) != (((streamL (keysTo k 11) N (sumL al bl p)).getD i 0).toNat : Int)) = false from
    ne_false (by rw [xor_byte8, streamL_sum (keysTo k 11) N al (sumL al bl p) (by rw [HAL.out]; exact hi) (by rw [sumL_len]; exact hi) (bl.getD i 0) (sumL_at al bl p hi)])))
  have HNE2 := Lib.hid (fun i (hi : i < p) => (show (bits .xor .u8 (((streamL (keysTo k 11) N (List.replicate p 0)).getD i 0).toNat : Int) ((al.getD i 0).toNat : Int) != (((streamL (keysTo k 11) N al).getD i 0).toNat : Int)) = false from
    ne_false (by rw [xor_byte8, streamL_noughts (keysTo k 11) N p hi, streamL_at (keysTo k 11) N al (by rw [HAL.out]; exact hi), UInt8.xor_comm])))
  obtain ⟨xs, hxs⟩ : ∃ z, streamL (keysTo k 11) N al = z := ⟨_, rfl⟩
  obtain ⟨ys, hys⟩ : ∃ z, streamL (keysTo k 11) N (sumL al bl p) = z := ⟨_, rfl⟩
  obtain ⟨zs, hzs⟩ : ∃ z, streamL (keysTo k 11) N (List.replicate p 0) = z := ⟨_, rfl⟩
  obtain ⟨sl, hsl⟩ : ∃ z, sumL al bl p = z := ⟨_, rfl⟩
  simp only [hxs] at HPA HXL HNE1 HNE2
  simp only [hys] at HPS HYL HNE1
  simp only [hzs] at HPZ HZL HNE2
  simp only [hsl] at HPS HSLL HSL
  have hkz : (u8A k).size = 16 := by rw [u8A_size, hk]
  obtain ⟨kA, hke⟩ : ∃ K, u8A k = K := ⟨_, rfl⟩
  rw [hke] at hkz HPA HPS HPZ ⊢
  have HKZ := Lib.hid hkz
  have HSA := Lib.hid (fun W => run_part_h A n c p W (by omega))
  have HSB := Lib.hid (fun W => run_part_h B m d p W (by omega))
  clear hA hB hal hbl hst hk hxs hys hzs hsl hkz hke hN hq1 hp
  have hb1 : Below w0.heap.size w0 (w0.alloc (.cells kA 23)) := (Below.refl _ _).alloc (Nat.le_refl _) _
  have hkb1 := Blk.new w0 kA 23
  have HA0 := Lib.hid (har.on hb1)
  have HB0 := Lib.hid (hbr.on hb1)
  have hs1 := hb1.size
  clear har hbr
  go_enter Try.func3, Try.ntmps3
  go_wp2_with fail
  generalize w0.alloc (.cells kA 23) = w1 at *
  obtain ⟨kb, hkbe⟩ : ∃ z, w0.heap.size = z := ⟨_, rfl⟩
  rw [hkbe] at hkb1 hb1 hs1 ⊢
  have HW := Lib.hid hkbe
  have HK1 := Lib.hid (fun W (h : Below w1.heap.size w1 W) => hkb1.below h hkb1.lt)
  clear hkb1 hkbe hm1 hm2 hm3 hm4
  refine wp_region_loose 11 0 (fun i => false) (promises [.is (.slice A n c), .is (.int .i64 (p : Int)), .is (.slice A p c), .is (.slice B m d), .is (.int .i64 (p : Int)), .is (.slice B p d), .is (.int .i64 at_), .is (.int .i64 (N : Int)), .is (.slice A p c), .is (.slice B p d), .is (.int .i64 (N : Int))]) (by kernel_rfl) rfl (by kernel_rfl) (fun i v w w' h hb => Spec.keep h hb) ⟨?_, ?_, ?_, ?_, ?_, ?_, ?_, ?_, ?_, ?_, ?_, trivial⟩ ?_
  · refine StepOKl.of ?_
    intro ac w hb hu hk
    refine ⟨wanted_none rfl, ?_⟩
    have e2 : ac.eval (.tmp 2) = .slice A n c := hu.is (t := 2) (by kernel_rfl)
    exact step_value (BigFrame.run_move (.tmp 2) rfl w) (Below.refl _ _) e2
  · refine StepOKl.of ?_
    intro ac w hb hu hk
    refine ⟨wanted_none rfl, ?_⟩
    have e9 : ac.eval (.tmp 9) = .int .i64 (p : Int) := hu.is (t := 9) (by kernel_rfl)
    exact step_value (BigFrame.run_move (.tmp 9) rfl w) (Below.refl _ _) e9
  · refine StepOKl.of ?_
    intro ac w hb hu hk
    refine ⟨wanted_none rfl, ?_⟩
    have e21 : ac.eval (.tmp 21) = (.slice A n c) := (hk ⟨0, .data⟩ (by simp) rfl).is rfl rfl
    have e22 : ac.eval (.tmp 22) = (.int .i64 (p : Int)) := (hk ⟨1, .data⟩ (by simp) rfl).is rfl rfl
    refine step_value (w' := w) (v := .slice A p c) ?_ (Below.refl _ _) rfl
    have hrun := HSA.out w
    generalize ac.eval = ρ at e21 e22 ⊢
    go_simp
  · refine StepOKl.of ?_
    intro ac w hb hu hk
    refine ⟨wanted_none rfl, ?_⟩
    have e3 : ac.eval (.tmp 3) = .slice B m d := hu.is (t := 3) (by kernel_rfl)
    exact step_value (BigFrame.run_move (.tmp 3) rfl w) (Below.refl _ _) e3
  · refine StepOKl.of ?_
    intro ac w hb hu hk
    refine ⟨wanted_none rfl, ?_⟩
    have e9 : ac.eval (.tmp 9) = .int .i64 (p : Int) := hu.is (t := 9) (by kernel_rfl)
    exact step_value (BigFrame.run_move (.tmp 9) rfl w) (Below.refl _ _) e9
  · refine StepOKl.of ?_
    intro ac w hb hu hk
    refine ⟨wanted_none rfl, ?_⟩
    have e24 : ac.eval (.tmp 24) = (.slice B m d) := (hk ⟨3, .data⟩ (by simp) rfl).is rfl rfl
    have e25 : ac.eval (.tmp 25) = (.int .i64 (p : Int)) := (hk ⟨4, .data⟩ (by simp) rfl).is rfl rfl
    refine step_value (w' := w) (v := .slice B p d) ?_ (Below.refl _ _) rfl
    have hrun := HSB.out w
    generalize ac.eval = ρ at e24 e25 ⊢
    go_simp
  · refine StepOKl.of ?_
    intro ac w hb hu hk
    refine ⟨wanted_none rfl, ?_⟩
    have e1 : ac.eval (.tmp 1) = .int .i64 at_ := hu.is (t := 1) (by kernel_rfl)
    exact step_value (BigFrame.run_move (.tmp 1) rfl w) (Below.refl _ _) e1
  · refine StepOKl.of ?_
    intro ac w hb hu hk
    refine ⟨wanted_none rfl, ?_⟩
    have e27 : ac.eval (.tmp 27) = (.int .i64 at_) := (hk ⟨6, .data⟩ (by simp) rfl).is rfl rfl
    have ef : ac.eval (.func 9) = .func (.func 9) #[] #[] := rfl
    have ec : ac.eval (.const (.int .i64 500)) = .int .i64 500 := rfl
    refine step_enter (f := 9) (args := #[.int .i64 at_, .int .i64 500]) ?_ ?_
    · generalize ac.eval = ρ at e27 ef ec ⊢
      go_simp
    · exact (HWN.out w).mono fun e w' ⟨he, hq⟩ => ⟨_, he, rfl, hq ▸ Below.refl _ _⟩
  · refine StepOKl.of ?_
    intro ac w hb hu hk
    refine ⟨wanted_none rfl, ?_⟩
    have e23 : ac.eval (.tmp 23) = (.slice A p c) := (hk ⟨2, .data⟩ (by simp) rfl).is rfl rfl
    exact step_value (BigFrame.run_assign (.tmp 23) rfl w) (Below.refl _ _) e23
  · refine StepOKl.of ?_
    intro ac w hb hu hk
    refine ⟨wanted_none rfl, ?_⟩
    have e26 : ac.eval (.tmp 26) = (.slice B p d) := (hk ⟨5, .data⟩ (by simp) rfl).is rfl rfl
    exact step_value (BigFrame.run_assign (.tmp 26) rfl w) (Below.refl _ _) e26
  · refine StepOKl.of ?_
    intro ac w hb hu hk
    refine ⟨wanted_none rfl, ?_⟩
    have e28 : ac.eval (.tmp 28) = (.int .i64 (N : Int)) := (hk ⟨7, .data⟩ (by simp) rfl).is rfl rfl
    exact step_value (BigFrame.run_assign (.tmp 28) rfl w) (Below.refl _ _) e28
  · intro ac w' hb hu hk hap
    obtain ⟨_, h1, rfl⟩ := (hk 10 (by decide)).put rfl rfl
    obtain ⟨_, h2, rfl⟩ := (hk 8 (by decide)).put rfl rfl
    obtain ⟨_, h3, rfl⟩ := (hk 9 (by decide)).put rfl rfl
    obtain ⟨_, h21, rfl⟩ := (hk 0 (by decide)).put rfl rfl
    obtain ⟨_, h22, rfl⟩ := (hk 1 (by decide)).put rfl rfl
    obtain ⟨_, h23, rfl⟩ := (hk 2 (by decide)).put rfl rfl
    obtain ⟨_, h24, rfl⟩ := (hk 3 (by decide)).put rfl rfl
    obtain ⟨_, h25, rfl⟩ := (hk 4 (by decide)).put rfl rfl
    obtain ⟨_, h26, rfl⟩ := (hk 5 (by decide)).put rfl rfl
    obtain ⟨_, h27, rfl⟩ := (hk 6 (by decide)).put rfl rfl
    obtain ⟨_, h28, rfl⟩ := (hk 7 (by decide)).put rfl rfl
    clear hap
    have hF : AllPuts ac.tmps ((1, _) :: (2, _) :: (3, _) :: (21, _) :: (22, _) :: (23, _) :: (24, _) :: (25, _) :: (26, _) :: (27, _) :: (28, _) :: []) := ⟨h1, h2, h3, h21, h22, h23, h24, h25, h26, h27, h28, trivial⟩
    obtain rfl := frame_puts hu (by kernel_rfl) hF
    simp only [puts, Act.put, List.setIfInBounds_toArray, List.set_cons_zero, List.set_cons_succ, List.drop_succ_cons, List.drop_nil]
    clear hk hu hF h1 h2 h3 h21 h22 h23 h24 h25 h26 h27 h28
    obtain ⟨i0, hi, hz0, hz1, hz2⟩ := info_parts info5
    have hbel2 := hb1.trans (hb.mono hs1)
    have hsw2 := hb.size
    have hkb2 := HK1.out w' hb
    have HA2 := Lib.hid ((HA0.out.on hb))
    have HB2 := Lib.hid ((HB0.out.on hb))
    clear hb HK1 HA0 HB0 hb1
    go_wp2_with (at_make; refine wpList_make_full _ rfl _ _ 24 rfl w'.heap.size 5 i0 (.int .u8 0) 1 Try.underlying24 hi hz0 hz1 _ _ _ _ p rfl rfl rfl rfl (by rw [hz2]; omega) (by unfold maxLen; omega) (Nat.le_refl _) ?_; intro w3 hown3 hg3)
    obtain ⟨hblk3, hgb⟩ := blk_of_made hown3
    have hb23 : Below w'.heap.size w' w3 := (Below.refl _ _).grown hg3 (Nat.le_refl _) (fun k hk => by cases hk)
    have hkb3 := hkb2.below hb23 hkb2.lt
    have hkg : kb < w'.heap.size := hkb2.lt
    have hbel3 := hbel2.trans (hb23.mono (by omega))
    obtain ⟨g, hg⟩ : ∃ z, w'.heap.size = z := ⟨_, rfl⟩
    have HA3 := Lib.hid (HA2.out.below hb23 (Nat.le_refl _))
    have HB3 := Lib.hid (HB2.out.below hb23 (Nat.le_refl _))
    rw [hg] at hblk3 hkg HA3 HB3 ⊢
    have G1 := Lib.hid (show Blk w3 g (u8A (part sl (List.replicate p 0) 0)) 5 by rw [part_zero]; exact hblk3)
    have G2 := Lib.hid hkb3
    have hgl := hblk3.lt
    have hkw : kb ≤ w'.heap.size := by omega
    clear hown3 hg3 hblk3 hkb3 hkb2 hb23 hbel2 hgb hg hsw2 hi hz0 hz1 hz2 HA2 HB2 hkw
    go_wp2_with fail
    go_loopw [33] (fun t wr => ∃ i : Nat, i ≤ p ∧ t = .int .i64 i ∧ Below kb w0 wr ∧ Hid (Blk wr g (u8A (part sl (List.replicate p 0) i)) 5) ∧ Hid (Blk wr kb kA 23) ∧ Hid (Rd wr g A al) ∧ Hid (Rd wr g B bl)) (fun t _ => p - (intOf t).toNat)
    case atStart => exact ⟨0, Nat.zero_le _, rfl, hbel3, G1, G2, HA3, HB3⟩
    case round =>
      clear hbel3 G1 G2 HA3 HB3 hgl
      obtain ⟨i, hi, rfl, hbel, G1, G2, HA, HB⟩ := hrel
      have hzl : (List.replicate p (0 : UInt8)).length = p := List.length_replicate ..
      have HZLL := Lib.hid hzl
      by_cases hlt : i < p
      · have hii : (i : Int) < (p : Int) := by omega
        obtain ⟨ab, ao, rfl, hab, ca⟩ := HA.out.at_ i (by rw [HAL.out]; exact hlt)
        obtain ⟨bb, bo, rfl, hbb, cb⟩ := HB.out.at_ i (by rw [HBL.out]; exact hlt)
        have hf := G1.out.frozen i
        obtain ⟨o, ho⟩ : ∃ old, wr.cell? ⟨g, i, none⟩ = some old := ⟨_, G1.out.byteAt (i := i) (by rw [part_len HSLL.out HZLL.out (by omega)]; exact hlt)⟩
        have HV := Lib.hid (HSL.out i hlt)
        have HPS2 := Lib.hid (part_set HSLL.out HZLL.out hlt)
        rw [← getD_at (by rw [HAL.out]; exact hlt)] at ca
        rw [← getD_at (by rw [HBL.out]; exact hlt)] at cb
        generalize al.getD i 0 = ai at *
        generalize bl.getD i 0 = bi at *
        clear hzl
        go_wp2_with fail
        refine wp_region_noPanic ?_
        go_region
        refine NoPanic.normal ?_
        go_wp2_with fail
        go_roundw
        case rel =>
          have hbs : Below g wr (wr.setCell ⟨g, i, none⟩ (.int .u8 (bits .xor .u8 (ai.toNat : Int) (bi.toNat : Int)))).drew := ((Below.refl g wr).setCell (by simp) _).drew
          refine ⟨i + 1, by omega, by go_num, (hbel.setCell (by simp; omega) _).drew, Lib.hid ?_, Lib.hid (G2.out.other (by simp; omega) _), Lib.hid (HA.out.below hbs (Nat.le_refl _)), Lib.hid (HB.out.below hbs (Nat.le_refl _))⟩
          rw [← HPS2.out]
          exact G1.out.put _ HV.out
        case measure => simp [intOf]; omega
      · obtain rfl : p = i := by omega
        have hge : ¬ (p : Int) < (p : Int) := by omega
        have hgs := G1.out.lt
        have hsw : kb ≤ wr.heap.size := by omega
        have hful : Blk wr g (u8A sl) 5 := by
          have := G1.out
          rwa [part_full HSLL.out HZLL.out] at this
        have HK9 := Lib.hid (fun W (h : Below wr.heap.size wr W) => G2.out.below h G2.out.lt)
        have HA9 := Lib.hid (fun W (h : Below wr.heap.size wr W) => (HA.out.more (Nat.le_of_lt hgs)).on h)
        have HB9 := Lib.hid (fun W (h : Below wr.heap.size wr W) => (HB.out.more (Nat.le_of_lt hgs)).on h)
        have HS9 := Lib.hid (fun W (h : Below wr.heap.size wr W) => (show Rd W W.heap.size (some ⟨g, 0, none⟩) sl by
          have hB := hful.below h hful.lt
          refine .inr ⟨g, 0, rfl, hB.lt, fun i hi => ?_⟩
          rw [Nat.zero_add, hB.byteAt hi]
          simp [List.getD_eq_getElem?_getD, List.getElem?_eq_getElem hi]))
        clear G1 G2 HA HB hful hgs hzl
        go_wp2_with fail
        refine wp_region_free_chain 13 2 (promises [.is (.agg kA), .is (.int .i64 (N : Int)), .is (.slice A p c), .bytes p xs, .is (.agg kA), .is (.int .i64 (N : Int)), .is (.slice (some ⟨g, 0, none⟩) p p), .bytes p ys, .is (.agg kA), .is (.int .i64 (N : Int)), .is (.int .i64 (p : Int)), .bytes p (List.replicate p 0), .bytes p zs]) (by kernel_rfl) rfl (by kernel_rfl) (by kernel_rfl) (fun i v w w' h hb => Spec.keep h hb) ⟨?_, ?_, ?_, ?_, ?_, ?_, ?_, ?_, ?_, ?_, ?_, ?_, ?_, trivial⟩ ?_
        · intro ac w hb hu hk
          refine ⟨wanted_none rfl, ?_⟩
          have e4 : ac.eval (.tmp 4) = .pointer (some ⟨kb, 0, none⟩) := hu.is (t := 4) (by kernel_rfl)
          exact wp_load_row 23 (.tmp 4) rfl kb e4 23 kA (0, 0) _ (HK9.out w hb) Try.underlying23 rfl (by rw [HKZ.out]; kernel_rfl) ⟨_, rfl, rfl, Below.refl _ _⟩
        · intro ac w hb hu hk
          refine ⟨wanted_none rfl, ?_⟩
          have e1 : ac.eval (.tmp 1) = .int .i64 (N : Int) := hu.is (t := 1) (by kernel_rfl)
          exact step_value (BigFrame.run_move (.tmp 1) rfl w) (Below.refl _ _) e1
        · intro ac w hb hu hk
          refine ⟨wanted_none rfl, ?_⟩
          have e2 : ac.eval (.tmp 2) = .slice A p c := hu.is (t := 2) (by kernel_rfl)
          exact step_value (BigFrame.run_move (.tmp 2) rfl w) (Below.refl _ _) e2
        · intro ac w hb hu hk
          refine ⟨wanted_none rfl, ?_⟩
          have e49 : ac.eval (.tmp 49) = (.agg kA) := (hk ⟨0, .data⟩ (by simp) rfl).is rfl rfl
          have e50 : ac.eval (.tmp 50) = (.int .i64 (N : Int)) := (hk ⟨1, .data⟩ (by simp) rfl).is rfl rfl
          have e51 : ac.eval (.tmp 51) = (.slice A p c) := (hk ⟨2, .data⟩ (by simp) rfl).is rfl rfl
          have ef : ac.eval (.func 10) = .func (.func 10) #[] #[] := rfl
          refine step_enter (f := 10) (args := #[.agg kA, .int .i64 (N : Int), .slice A p c]) ?_ ?_
          · generalize ac.eval = ρ at e49 e50 e51 ef ⊢
            go_simp
          · exact (HPA.out A c w ((HA9.out w hb))).mono fun e w' ⟨Y, yc, he, hy, ho, hq⟩ => ⟨_, he, ⟨Y, yc, rfl, hy, ho.rd⟩, hq⟩
        · intro ac w hb hu hk
          refine ⟨wanted_none rfl, ?_⟩
          have e4 : ac.eval (.tmp 4) = .pointer (some ⟨kb, 0, none⟩) := hu.is (t := 4) (by kernel_rfl)
          exact wp_load_row 23 (.tmp 4) rfl kb e4 23 kA (0, 0) _ (HK9.out w hb) Try.underlying23 rfl (by rw [HKZ.out]; kernel_rfl) ⟨_, rfl, rfl, Below.refl _ _⟩
        · intro ac w hb hu hk
          refine ⟨wanted_none rfl, ?_⟩
          have e1 : ac.eval (.tmp 1) = .int .i64 (N : Int) := hu.is (t := 1) (by kernel_rfl)
          exact step_value (BigFrame.run_move (.tmp 1) rfl w) (Below.refl _ _) e1
        · intro ac w hb hu hk
          refine ⟨wanted_none rfl, ?_⟩
          have e10 : ac.eval (.tmp 10) = .slice (some ⟨g, 0, none⟩) p p := hu.is (t := 10) (by kernel_rfl)
          exact step_value (BigFrame.run_move (.tmp 10) rfl w) (Below.refl _ _) e10
        · intro ac w hb hu hk
          refine ⟨wanted_none rfl, ?_⟩
          have e53 : ac.eval (.tmp 53) = (.agg kA) := (hk ⟨4, .data⟩ (by simp) rfl).is rfl rfl
          have e54 : ac.eval (.tmp 54) = (.int .i64 (N : Int)) := (hk ⟨5, .data⟩ (by simp) rfl).is rfl rfl
          have e55 : ac.eval (.tmp 55) = (.slice (some ⟨g, 0, none⟩) p p) := (hk ⟨6, .data⟩ (by simp) rfl).is rfl rfl
          have ef : ac.eval (.func 10) = .func (.func 10) #[] #[] := rfl
          refine step_enter (f := 10) (args := #[.agg kA, .int .i64 (N : Int), .slice (some ⟨g, 0, none⟩) p p]) ?_ ?_
          · generalize ac.eval = ρ at e53 e54 e55 ef ⊢
            go_simp
          · exact (HPS.out _ p w ((HS9.out w hb))).mono fun e w' ⟨Y, yc, he, hy, ho, hq⟩ => ⟨_, he, ⟨Y, yc, rfl, hy, ho.rd⟩, hq⟩
        · intro ac w hb hu hk
          refine ⟨wanted_none rfl, ?_⟩
          have e4 : ac.eval (.tmp 4) = .pointer (some ⟨kb, 0, none⟩) := hu.is (t := 4) (by kernel_rfl)
          exact wp_load_row 23 (.tmp 4) rfl kb e4 23 kA (0, 0) _ (HK9.out w hb) Try.underlying23 rfl (by rw [HKZ.out]; kernel_rfl) ⟨_, rfl, rfl, Below.refl _ _⟩
        · intro ac w hb hu hk
          refine ⟨wanted_none rfl, ?_⟩
          have e1 : ac.eval (.tmp 1) = .int .i64 (N : Int) := hu.is (t := 1) (by kernel_rfl)
          exact step_value (BigFrame.run_move (.tmp 1) rfl w) (Below.refl _ _) e1
        · intro ac w hb hu hk
          refine ⟨wanted_none rfl, ?_⟩
          have e9 : ac.eval (.tmp 9) = .int .i64 (p : Int) := hu.is (t := 9) (by kernel_rfl)
          exact step_value (BigFrame.run_move (.tmp 9) rfl w) (Below.refl _ _) e9
        · intro ac w hb hu hk
          refine ⟨wanted_none rfl, ?_⟩
          have e59 : ac.eval (.tmp 59) = (.int .i64 (p : Int)) := (hk ⟨10, .data⟩ (by simp) rfl).is rfl rfl
          exact step_make rfl p e59 e59 (by omega)
        · intro ac w hb hu hk
          refine ⟨wanted_none rfl, ?_⟩
          have e57 : ac.eval (.tmp 57) = (.agg kA) := (hk ⟨8, .data⟩ (by simp) rfl).is rfl rfl
          have e58 : ac.eval (.tmp 58) = (.int .i64 (N : Int)) := (hk ⟨9, .data⟩ (by simp) rfl).is rfl rfl
          have e60 : ∃ X c, ac.eval (.tmp 60) = .slice X p c ∧ p ≤ c ∧ Rd w w.heap.size X (List.replicate p 0) := (hk ⟨11, .data⟩ (by simp) rfl).is rfl rfl
          obtain ⟨X, xc, eX, hxc, hX⟩ := e60
          have ef : ac.eval (.func 10) = .func (.func 10) #[] #[] := rfl
          refine step_enter (f := 10) (args := #[.agg kA, .int .i64 (N : Int), .slice X p xc]) ?_ ?_
          · generalize ac.eval = ρ at e57 e58 eX ef ⊢
            go_simp
          · exact (HPZ.out X xc w hX).mono fun e w' ⟨Y, yc, he, hy, ho, hq⟩ => ⟨_, he, ⟨Y, yc, rfl, hy, ho.rd⟩, hq⟩
        · intro ac w' hb hu hk
          obtain ⟨_, h49, rfl⟩ := (hk 0 (by decide)).put rfl rfl
          obtain ⟨_, h50, rfl⟩ := (hk 1 (by decide)).put rfl rfl
          obtain ⟨_, h51, rfl⟩ := (hk 2 (by decide)).put rfl rfl
          obtain ⟨_, h52, ⟨X52, xc52, rfl, hxc52, hX52⟩⟩ := (hk 3 (by decide)).put rfl rfl
          obtain ⟨_, h53, rfl⟩ := (hk 4 (by decide)).put rfl rfl
          obtain ⟨_, h54, rfl⟩ := (hk 5 (by decide)).put rfl rfl
          obtain ⟨_, h55, rfl⟩ := (hk 6 (by decide)).put rfl rfl
          obtain ⟨_, h56, ⟨X56, xc56, rfl, hxc56, hX56⟩⟩ := (hk 7 (by decide)).put rfl rfl
          obtain ⟨_, h57, rfl⟩ := (hk 8 (by decide)).put rfl rfl
          obtain ⟨_, h58, rfl⟩ := (hk 9 (by decide)).put rfl rfl
          obtain ⟨_, h59, rfl⟩ := (hk 10 (by decide)).put rfl rfl
          obtain ⟨_, h60, ⟨X60, xc60, rfl, hxc60, hX60⟩⟩ := (hk 11 (by decide)).put rfl rfl
          obtain ⟨_, h61, ⟨X61, xc61, rfl, hxc61, hX61⟩⟩ := (hk 12 (by decide)).put rfl rfl
          have hF : AllPuts ac.tmps ((49, _) :: (50, _) :: (51, _) :: (52, _) :: (53, _) :: (54, _) :: (55, _) :: (56, _) :: (57, _) :: (58, _) :: (59, _) :: (60, _) :: (61, _) :: []) := ⟨h49, h50, h51, h52, h53, h54, h55, h56, h57, h58, h59, h60, h61, trivial⟩
          obtain rfl := frame_puts hu (by kernel_rfl) hF
          simp only [puts, Act.put, List.setIfInBounds_toArray, List.set_cons_zero, List.set_cons_succ, List.drop_succ_cons, List.drop_zero]
          clear hk hu hF h49 h50 h51 h52 h53 h54 h55 h56 h57 h58 h59 h60 h61
          have hbel9 := hbel.trans (hb.mono hsw)
          have hs9 := hb.size
          have HA9 := Lib.hid (HA9.out w' hb)
          have HB9 := Lib.hid (HB9.out w' hb)
          have HX9 := Lib.hid hX52
          have HY9 := Lib.hid hX56
          have HZ9 := Lib.hid hX61
          have hle0 : ((p : Int) != (p : Int)) = false := by simp
          clear hb hX60 hxc60 HK9 HS9 hbel hX52 hX56 hX61
          go_wp2_with fail
          go_loopw [80] (fun t wr => ∃ i j : Nat, i ≤ p ∧ t = .int .i64 i ∧ wr = w'.drewN j) (fun t _ => p - (intOf t).toNat)
          case atStart => exact ⟨0, 0, Nat.zero_le _, rfl, rfl⟩
          case round =>
            obtain ⟨i, j, hi, rfl, rfl⟩ := hrel
            by_cases hlt : i < p
            · have hii : (i : Int) < (p : Int) := by omega
              obtain ⟨xb, xo, rfl, _, cx⟩ := (HX9.out).at_ i (by rw [HXL.out]; exact hlt)
              obtain ⟨yb, yo, rfl, _, cy⟩ := (HY9.out).at_ i (by rw [HYL.out]; exact hlt)
              obtain ⟨zb, zo, rfl, _, cz⟩ := (HZ9.out).at_ i (by rw [HZL.out]; exact hlt)
              obtain ⟨ab, ao, rfl, _, ca⟩ := (HA9.out).at_ i (by rw [HAL.out]; exact hlt)
              obtain ⟨bb, bo, rfl, _, cb⟩ := (HB9.out).at_ i (by rw [HBL.out]; exact hlt)
              have h1 := HNE1.out i hlt
              have h2 := HNE2.out i hlt
              rw [← getD_at (by rw [HXL.out]; exact hlt)] at cx
              rw [← getD_at (by rw [HYL.out]; exact hlt)] at cy
              rw [← getD_at (by rw [HZL.out]; exact hlt)] at cz
              rw [← getD_at (by rw [HAL.out]; exact hlt)] at ca
              rw [← getD_at (by rw [HBL.out]; exact hlt)] at cb
              generalize xs.getD i 0 = xi at *
              generalize ys.getD i 0 = yi at *
              generalize zs.getD i 0 = zi at *
              generalize al.getD i 0 = ai at *
              generalize bl.getD i 0 = bi at *
              go_wp2_with fail
              go_quiet (fail)
              go_wp2_with fail
              go_roundw
              case rel => exact ⟨i + 1, j + nq, by omega, by go_num, rfl⟩
              case measure => simp [intOf]; omega
            · obtain rfl : p = i := by omega
              have hge : ¬ (p : Int) < (p : Int) := by omega
              have hbd := below_drewN hbel9 j
              go_wp2_with fail
              with_reducible refine (wakes3_any _).mono ?_
              rintro e w12 ⟨rfl, hb12⟩
              have hfin := hbd.trans (hb12.mono (by have : (w'.drewN j).heap.size = w'.heap.size := rfl; omega))
              clear hb12 hbd
              go_wp2_with fail
              go_ret
              exact ⟨rfl, by rw [HW.out]; exact hfin⟩

theorem contract (H : Type) (enc : TypeId × Value → H) (W : World) (base : Nat) (args : Array Value) (ds gs : List (DataW H)) (before : List MemPlace)
    (hval : ∀ (j : Nat) t v, Try.f3.params[j]? = some t → args[j]? = some v → Value.okWide Try.prog W .any base t v)
    (hW : DataW.Whole enc Try.prog Try.f3.params.toList Rows.aesSumsSpec.vars false W args.toList ds gs before) :
    Calls Try.prog 3 args W fun e W' => ∃ v, e = .returned v ∧ Rows.aesSumsSpec.post enc Try.prog Try.f3 false true false false W args v W' := by
  have hW' := hW
  obtain ⟨p, q, hA0, hV, rfl, hfz, hnd⟩ := hW
  have hA : DataW.TrodAll enc Try.prog W 0 (fun _ => true) true Try.f3.params.toList args.toList ds p := hA0
  rw [Try.params3] at hA hval
  obtain ⟨v0, v1, v2, v3, d0, d1, d2, d3, p0, p1, p2, p3, rfl, rfl, rfl, h0, h1, h2, h3⟩ := trodAll_four hA
  obtain ⟨rfl, rfl⟩ := trodVars_none hV
  obtain ⟨k0, rfl, hk0⟩ := open_array Try.underlying23 (by kernel_rfl) (hval 0 23 v0 rfl rfl) h0
  obtain ⟨n1, rfl, rfl, rfl, wf1⟩ := open_int Try.underlying3 (hval 1 3 v1 rfl rfl) h1
  have b1 := bounds_i64 wf1
  obtain ⟨A2, m2, c2, l2, rfl, hl2, hc2, hm2, hr2⟩ := open_bytes (hval 2 24 v2 rfl rfl) h2
  obtain ⟨A3, m3, c3, l3, rfl, hl3, hc3, hm3, hr3⟩ := open_bytes (hval 3 24 v3 rfl rfl) h3
  clear hA0
  refine (walk k0 n1 A2 A3 m2 m3 c2 c3 l2 l3 W hk0 b1.1 b1.2 hl2 hl3 hc2 hc3 hr2 hr3).mono fun e W' ⟨he, hb⟩ => ?_
  exact ⟨_, he, law_post hW' rfl (by kernel_rfl) rfl (by kernel_rfl) hb⟩

set_option maxRecDepth 100000 in
theorem lifted (os : Os) (started : os.Started) (H : Type) (enc : TypeId × Value → H) :
    ReturnsInHanded {} Try.checked os 3 .any (Rows.aesSumsSpec.pre6 enc Try.prog Try.f3 Rows.aesSumsRow.domain false) (Rows.aesSumsSpec.post enc Try.prog Try.f3 false true false false) := by
  refine returnsInHanded_of_change (C := Try.checked) own started (by kernel_rfl) Try.func3
    (ChangeSpec.witness6 (enc := enc) (C := Try.checked) false ⟨#[], #[.agg #[.int .u8 0, .int .u8 0, .int .u8 0, .int .u8 0, .int .u8 0, .int .u8 0, .int .u8 0, .int .u8 0, .int .u8 0, .int .u8 0, .int .u8 0, .int .u8 0, .int .u8 0, .int .u8 0, .int .u8 0, .int .u8 0], .int .i64 0, .slice none 0 0, .slice none 0 0], []⟩ 8 (by kernel_rfl) (by kernel_rfl) (by kernel_rfl) (by kernel_rfl)) ?_
  intro W base args ds gs before hval0 hW _ _
  have hval : ∀ (j : Nat) t v, Try.f3.params[j]? = some t → args[j]? = some v → Value.okWide Try.prog W .any base t v := hval0
  exact contract H enc W base args ds gs before hval hW

/-- The statement. -/
theorem card : Rows.AesSumsSaid :=
  OpenClaim.holds_of_wide 3 Try.f3 rfl rfl rfl rfl rfl rfl rfl ⟨rfl, rfl, rfl, rfl, rfl⟩ rfl rfl rfl rfl rfl (by kernel_rfl) Try.func3 (by kernel_rfl)
    (of_decide_eq_true (by kernel_rfl)) (by unfold Func.isWrapper; first | (rw [if_pos (by decide +kernel)]; kernel_rfl) | (rw [if_neg (by decide +kernel)]; exact ⟨rfl, rfl⟩))
    (fun os started H enc _ => lifted os started H enc)
end Go.Proofs.Ytcajlmlblkdjoaa.aesSums
