/- AesCounts: the stream of noughts is AES of 0, 1, 2, .. For all keys and places. -/
import Derived.Test.YtcajlmlblkdjoaaLaw
import Derived.Test.YtcajlmlblkdjoaaOpenA
import Derived.Test.YtcajlmlblkdjoaaMakeB
import Derived.Test.YtcajlmlblkdjoaaFreeA
import Derived.Test.YtcajlmlblkdjoaaKeep
import Derived.Test.YtcajlmlblkdjoaaSame
import Derived.Test.YtcajlmlblkdjoaaPStream
import Derived.Test.YtcajlmlblkdjoaaWakes3
namespace Go.Proofs.Ytcajlmlblkdjoaa.aesCounts
open Go.ChangeShapes Go.WideShapes Go.ChangeAt Go.RowKit

theorem clampN_of {N : Nat} (h : N ≤ 1073741824) : clampN (N : Int) = N := by
  unfold clampN
  split
  · omega
  · rw [if_pos (by omega)]; omega
theorem byte_of (q i : Nat) : ((q : Nat) : Int) / 2 ^ (8 * i) % 256 = ((UInt8.ofNat (q / 256 ^ i)).toNat : Int) := by
  rw [UInt8.toNat_ofNat', show (256 : Nat) ^ i = 2 ^ (8 * i) by rw [Nat.pow_mul]]
  simp
set_option maxRecDepth 100000 in
set_option maxHeartbeats 4000000 in
theorem walk (k : List UInt8) (n : Int) (w0 : World) (hk : k.length = 16) (hn0 : -9223372036854775808 ≤ n) (hn1 : n ≤ 9223372036854775807) :
    Calls Try.prog 7 #[.agg (u8A k), .int .i64 n] w0 fun e w' => e = .returned (.bool true) ∧ Below w0.heap.size w0 w' := by
  obtain ⟨q, hq, hql⟩ : ∃ q : Nat, withinI n 70000 = (q : Int) ∧ q < 70000 := by
    have := withinI_range n 70000 (by omega)
    exact ⟨(withinI n 70000).toNat, by omega, by omega⟩
  have HWN := Lib.hid (fun W => (show Calls Try.prog 9 #[.int .i64 n, .int .i64 70000] W fun e w' => e = .returned (.int .i64 (q : Int)) ∧ W = w' by rw [← hq]; exact within_any n 70000 W hn0 hn1 (by omega)))
  have HST := Lib.hid (fun (X : Option Addr) (xc : Nat) (W : World) (hr : Rd W W.heap.size X (List.replicate 32 0)) => (show Calls Try.prog 10 #[.agg (u8A k), .int .i64 (16 * (q : Int)), .slice X 32 xc] W fun e w' => ∃ A' c', e = .returned (.slice A' 32 c') ∧ 32 ≤ c' ∧ OwnB w' W.heap.size 5 (.slice A' 32 c') 32 (blockL (keysTo k 11) (ctrL q) ++ blockL (keysTo k 11) (ctrL (q + 1))) ∧ Below W.heap.size W w' by
    have := pStream_any k ((16 * q : Nat) : Int) X 32 xc _ W hk (List.length_replicate ..) (by omega) hr
    rwa [clampN_of (by omega), streamL_blocks] at this))
  have HPB := Lib.hid (fun W => pBlock_any k (ctrL q) W hk (ctrL_len q))
  have HPC := Lib.hid (fun W => pBlock_any k (ctrL (q + 1)) W hk (ctrL_len (q + 1)))
  have HBL := Lib.hid (show (blockL (keysTo k 11) (ctrL q)).length = 16 from stU_len _ _ _)
  have HCL := Lib.hid (show (blockL (keysTo k 11) (ctrL (q + 1))).length = 16 from stU_len _ _ _)
  obtain ⟨lb, hlb⟩ : ∃ z, blockL (keysTo k 11) (ctrL q) = z := ⟨_, rfl⟩
  obtain ⟨lc, hlc⟩ : ∃ z, blockL (keysTo k 11) (ctrL (q + 1)) = z := ⟨_, rfl⟩
  rw [hlb] at HST HPB HBL
  rw [hlc] at HST HPC HCL
  obtain ⟨sl, hsl⟩ : ∃ z, lb ++ lc = z := ⟨_, rfl⟩
  rw [hsl] at HST
  have HCAT := Lib.hid hsl.symm
  have HSL := Lib.hid (show sl.length = 32 by rw [← hsl, List.length_append, HBL.out, HCL.out])
  have HX4 := Lib.hid (show numL q 4 = ctrL q from numL_ctr q 4 (by omega) (Nat.div_eq_of_lt (by omega)))
  have HY4 := Lib.hid (show numL (q + 1) 4 = ctrL (q + 1) from numL_ctr (q + 1) 4 (by omega) (Nat.div_eq_of_lt (by omega)))
  have hkz : (u8A k).size = 16 := by rw [u8A_size, hk]
  obtain ⟨kA, hke⟩ : ∃ K, u8A k = K := ⟨_, rfl⟩
  rw [hke] at hkz HST HPB HPC ⊢
  have HKZ := Lib.hid hkz
  have HXZ := Lib.hid (show (u8A (ctrL q)).size = 16 by rw [u8A_size, ctrL_len])
  have HYZ := Lib.hid (show (u8A (ctrL (q + 1))).size = 16 by rw [u8A_size, ctrL_len])
  obtain ⟨xA, hxA⟩ : ∃ z, u8A (ctrL q) = z := ⟨_, rfl⟩
  obtain ⟨yA, hyA⟩ : ∃ z, u8A (ctrL (q + 1)) = z := ⟨_, rfl⟩
  rw [hxA] at HPB HXZ
  rw [hyA] at HPC HYZ
  have HXA := Lib.hid hxA
  have HYA := Lib.hid hyA
  have HBZ := Lib.hid (show (u8A lb).size = 16 by rw [u8A_size, HBL.out])
  have HCZ := Lib.hid (show (u8A lc).size = 16 by rw [u8A_size, HCL.out])
  have HBO := Lib.hid (u8A_one lb)
  have HCO := Lib.hid (u8A_one lc)
  obtain ⟨bA, hbA⟩ : ∃ z, u8A lb = z := ⟨_, rfl⟩
  obtain ⟨cA, hcA⟩ : ∃ z, u8A lc = z := ⟨_, rfl⟩
  rw [hbA] at HPB HBZ HBO
  rw [hcA] at HPC HCZ HCO
  have HBA := Lib.hid hbA
  have HCA := Lib.hid hcA
  obtain ⟨Z, hZ⟩ : ∃ Z, u8A (List.replicate 16 0) = Z := ⟨_, rfl⟩
  have HZE := Lib.hid hZ
  have HZZ := Lib.hid (show Z.size = 16 by rw [← hZ, u8A_size]; exact List.length_replicate ..)
  have HZV := Lib.hid (fun W => (qzero16 W).trans (by rw [hZ]))
  have HMUL := Lib.hid (show IntKind.i64.wrap (16 * (q : Int)) = 16 * (q : Int) from IntWalk.i64_in _ (by omega))
  clear hk hkz hke hlb hlc hsl hq hxA hyA hbA hcA hZ
  go_enter Try.func7, Try.ntmps7
  go_wp2_with fail
  with_reducible refine (HWN.out _).mono ?_
  rintro e w' ⟨rfl, rfl⟩
  clear HWN
  go_wp2_with fail
  have hst : Blk (w0.alloc (.cells kA 23)) w0.heap.size kA 23 ∧ Below w0.heap.size w0 (w0.alloc (.cells kA 23)) := ⟨Blk.new w0 _ _, (Below.refl _ _).alloc (Nat.le_refl _) _⟩
  generalize w0.alloc (.cells kA 23) = w1 at hst ⊢
  obtain ⟨hkb1, hb1⟩ := hst
  obtain ⟨kb, hkbe⟩ : ∃ z, w0.heap.size = z := ⟨_, rfl⟩
  have HW := Lib.hid hkbe
  have hs1 := hb1.size
  rw [hkbe] at hkb1 hb1 hs1 ⊢
  have HK1 := Lib.hid (fun W (h : Below w1.heap.size w1 W) => hkb1.below h hkb1.lt)
  clear hkb1 hkbe
  refine wp_region_free (promises [.is (.agg kA), .is (.int .i64 (q : Int)), .is (.int .i64 (16 * (q : Int))), .bytes 32 (List.replicate 32 0), .bytes 32 sl, .bytes 32 sl]) (by kernel_rfl) (by kernel_rfl) (fun i v w w' h hb => Spec.keep h hb) ⟨?_, ?_, ?_, ?_, ?_, ?_, trivial⟩ ?_
  · intro ac w hb hu hk
    refine ⟨wanted_none rfl, ?_⟩
    have e2 : ac.eval (.tmp 2) = .pointer (some ⟨kb, 0, none⟩) := hu.is (t := 2) (by kernel_rfl)
    exact wp_load_row 23 (.tmp 2) rfl kb e2 23 kA (0, 0) _ (HK1.out w hb) Try.underlying23 rfl (by rw [HKZ.out]; kernel_rfl) ⟨_, rfl, rfl, Below.refl _ _⟩
  · intro ac w hb hu hk
    refine ⟨wanted_none rfl, ?_⟩
    have e1 : ac.eval (.tmp 1) = .int .i64 (q : Int) := hu.is (t := 1) (by kernel_rfl)
    exact step_value (BigFrame.run_move (.tmp 1) rfl w) (Below.refl _ _) e1
  · intro ac w hb hu hk
    refine ⟨wanted_none rfl, ?_⟩
    have e14 : ac.eval (.tmp 14) = (.int .i64 (q : Int)) := (hk ⟨1, .data⟩ (by simp) rfl).is rfl rfl
    refine step_value (w' := w) (v := .int .i64 (16 * (q : Int))) ?_ (Below.refl _ _) rfl
    have hwr := HMUL.out
    have ec : ac.eval (.const (.int .i64 16)) = .int .i64 16 := rfl
    generalize ac.eval = ρ at e14 ec ⊢
    go_simp
  · intro ac w hb hu hk
    refine ⟨wanted_none rfl, ?_⟩
    exact step_make rfl 32 rfl rfl (by omega)
  · intro ac w hb hu hk
    refine ⟨wanted_none rfl, ?_⟩
    have e13 : ac.eval (.tmp 13) = (.agg kA) := (hk ⟨0, .data⟩ (by simp) rfl).is rfl rfl
    have e15 : ac.eval (.tmp 15) = (.int .i64 (16 * (q : Int))) := (hk ⟨2, .data⟩ (by simp) rfl).is rfl rfl
    have e16 : ∃ X c, ac.eval (.tmp 16) = .slice X 32 c ∧ 32 ≤ c ∧ Rd w w.heap.size X (List.replicate 32 0) := (hk ⟨3, .data⟩ (by simp) rfl).is rfl rfl
    obtain ⟨X, xc, eX, hxc, hX⟩ := e16
    have ef : ac.eval (.func 10) = .func (.func 10) #[] #[] := rfl
    refine step_enter (f := 10) (args := #[.agg kA, .int .i64 (16 * (q : Int)), .slice X 32 xc]) ?_ ?_
    · generalize ac.eval = ρ at e13 e15 eX ef ⊢
      go_simp
    · exact (HST.out X xc w hX).mono fun e w' ⟨Y, yc, he, hy, ho, hq⟩ => ⟨_, he, ⟨Y, yc, rfl, hy, ho.rd⟩, hq⟩
  · intro ac w hb hu hk
    refine ⟨wanted_none rfl, ?_⟩
    have e17 : ∃ X c, ac.eval (.tmp 17) = .slice X 32 c ∧ 32 ≤ c ∧ Rd w w.heap.size X sl := (hk ⟨4, .data⟩ (by simp) rfl).is rfl rfl
    obtain ⟨X, xc, eX, hxc, hX⟩ := e17
    exact step_value (BigFrame.run_assign (.tmp 17) rfl w) (Below.refl _ _) ⟨X, xc, eX, hxc, hX⟩
  · intro ac w' hb hu hk
    obtain ⟨_, h5, ⟨X5, xc5, rfl, hxc5, hX5⟩⟩ := (hk 5 (by decide)).put rfl rfl
    obtain ⟨_, h13, rfl⟩ := (hk 0 (by decide)).put rfl rfl
    obtain ⟨_, h14, rfl⟩ := (hk 1 (by decide)).put rfl rfl
    obtain ⟨_, h15, rfl⟩ := (hk 2 (by decide)).put rfl rfl
    obtain ⟨_, h16, ⟨X16, xc16, rfl, hxc16, hX16⟩⟩ := (hk 3 (by decide)).put rfl rfl
    obtain ⟨_, h17, ⟨X17, xc17, rfl, hxc17, hX17⟩⟩ := (hk 4 (by decide)).put rfl rfl
    have hF : AllPuts ac.tmps ((5, _) :: (13, _) :: (14, _) :: (15, _) :: (16, _) :: (17, _) :: []) := ⟨h5, h13, h14, h15, h16, h17, trivial⟩
    obtain rfl := frame_puts hu (by kernel_rfl) hF
    simp only [puts, Act.put, List.setIfInBounds_toArray, List.set_cons_zero, List.set_cons_succ]
    clear hk hu hF h5 h13 h14 h15 h16 h17
    have hbel2 := hb1.trans (hb.mono hs1)
    have hs2 := hb.size
    have hkb2 := HK1.out w' hb
    obtain ⟨A5, hA5⟩ : ∃ z, X5 = z := ⟨_, rfl⟩
    obtain ⟨c5, hc5e⟩ : ∃ z, xc5 = z := ⟨_, rfl⟩
    rw [hA5] at hX5 ⊢
    rw [hc5e] at hxc5 ⊢
    have hc5 := hxc5
    have HS2 := Lib.hid hX5
    have hz := HZV.out
    clear hb hX16 hxc16 hX17 hxc17 hX5 hxc5 hA5 hc5e hb1 HK1
    go_wp2_with fail
    have hzl : w'.heap.size + 1 = w'.heap.size + 1 := rfl
    obtain ⟨g1, g2, hbel3⟩ := alloc2 w' Z Z 22 22
    have hkb3 := hkb2.below hbel3 hkb2.lt
    have HS3 := Lib.hid (HS2.out.below hbel3 (Nat.le_refl _))
    have hbel03 := hbel2.trans (hbel3.mono (by omega))
    have hs3 := hbel3.size
    generalize World.alloc (World.alloc w' _) _ = w3 at *
    obtain ⟨xb, hxb⟩ : ∃ z, w'.heap.size = z := ⟨_, rfl⟩
    rw [hxb] at g1 g2 HS3 hs2 hs3 ⊢
    obtain ⟨yb, hyb⟩ : ∃ z, xb + 1 = z := ⟨_, rfl⟩
    rw [hyb] at g2 ⊢
    have hkx : kb < xb := by rw [← hxb]; exact hkb2.lt
    have hxy : xb < yb := by omega
    have G1 := Lib.hid (show Blk w3 xb (u8A (numL q 0)) 22 by show Blk w3 xb (u8A (List.replicate 16 0)) _; rw [HZE.out]; exact g1)
    have G2 := Lib.hid (show Blk w3 yb (u8A (numL (q + 1) 0)) 22 by show Blk w3 yb (u8A (List.replicate 16 0)) _; rw [HZE.out]; exact g2)
    have G3 := Lib.hid hkb3
    have G4 := Lib.hid HS3.out
    clear g1 g2 hkb3 HS3 hkb2 hxb hyb hbel3 hz hzl HS2 hbel2
    go_loopw [8] (fun t wr => ∃ i : Nat, i ≤ 4 ∧ t = .int .i64 i ∧ Below kb w0 wr ∧ yb < wr.heap.size ∧ Hid (Blk wr xb (u8A (numL q i)) 22) ∧ Hid (Blk wr yb (u8A (numL (q + 1) i)) 22) ∧ Hid (Blk wr kb kA 23) ∧ Hid (Rd wr xb A5 sl)) (fun t _ => 4 - (intOf t).toNat)
    case atStart => exact ⟨0, by omega, rfl, hbel03, G2.out.lt, G1, G2, G3, G4⟩
    case round =>
      clear hbel03 G1 G2 G3 G4 hs3
      obtain ⟨i, hi, rfl, hbel, hyl, G1, G2, G3, G4⟩ := hrel
      by_cases hlt : i < 4
      · have hii : (i : Int) < 4 := by omega
        have p0 : (0 : Int) ≤ 15 - (i : Int) := by omega
        have p1 : 15 - (i : Int) < 16 := by omega
        have p2 : (15 - (i : Int)).toNat = 15 - i := by omega
        have hf1 := G1.out.frozen (15 - i)
        have hf2 := G2.out.frozen (15 - i)
        obtain ⟨o1, ho1⟩ : ∃ old, wr.cell? ⟨xb, 15 - i, none⟩ = some old := ⟨_, G1.out.byteAt (i := 15 - i) (by rw [numL_len]; omega)⟩
        obtain ⟨o2, ho2⟩ : ∃ old, wr.cell? ⟨yb, 15 - i, none⟩ = some old := ⟨_, G2.out.byteAt (i := 15 - i) (by rw [numL_len]; omega)⟩
        have HN1 := Lib.hid (show numL q (i + 1) = (numL q i).set (15 - i) (UInt8.ofNat (q / 256 ^ i)) from rfl)
        have HN2 := Lib.hid (show numL (q + 1) (i + 1) = (numL (q + 1) i).set (15 - i) (UInt8.ofNat ((q + 1) / 256 ^ i)) from rfl)
        have HV1 := Lib.hid (byte_of q i)
        have HV2 := Lib.hid (byte_of (q + 1) i)
        go_wp2_with fail
        go_roundw
        case rel =>
          have hv2 := HV2.out
          refine ⟨i + 1, by omega, by go_num, (hbel.setCell (by simp; omega) _).setCell (by simp; omega) _, by simpa using hyl, Lib.hid ?_, Lib.hid ?_, Lib.hid ((G3.out.other (by simp; omega) _).other (by simp; omega) _), Lib.hid ?_⟩
          · rw [HN1.out]
            exact (G1.out.put _ HV1.out).other (by simp; omega) _
          · rw [HN2.out]
            exact (G2.out.other (by simp; omega) _).put _ (by rw [← hv2]; rfl)
          · exact G4.out.below (((Below.refl xb wr).setCell (by simp) _).setCell (by simp; omega) _) (Nat.le_refl _)
        case measure => simp [intOf]; omega
      · obtain rfl : i = 4 := by omega
        have hge : ¬ ((4 : Nat) : Int) < 4 := by omega
        have hs : kb ≤ wr.heap.size := by have := G3.out.lt; omega
        have hsr : kb ≤ wr.heap.size := hs
        have HK8 := Lib.hid (fun W (h : Below wr.heap.size wr W) => G3.out.below h G3.out.lt)
        have HX8 := Lib.hid (fun W (h : Below wr.heap.size wr W) => (show Blk W xb xA 22 by rw [← HXA.out, ← HX4.out]; exact G1.out.below h G1.out.lt))
        have HY8 := Lib.hid (fun W (h : Below wr.heap.size wr W) => (show Blk W yb yA 22 by rw [← HYA.out, ← HY4.out]; exact G2.out.below h G2.out.lt))
        have HS8 := Lib.hid (G4.out.more (by omega : xb ≤ wr.heap.size))
        clear G1 G2 G3 G4 hs
        go_wp2_with fail
        refine wp_region_free_apart 8 1 (fun i => Nat.beq i 6 || Nat.beq i 7) (promises [.is (.agg kA), .is (.agg xA), .is (.agg bA), .is (.agg kA), .is (.agg yA), .is (.agg cA), .blk wr.heap.size Z 22, .blk wr.heap.size Z 22]) (by kernel_rfl) rfl (by kernel_rfl) (by kernel_rfl) (fun i v w w' h hb => Spec.keep h hb) ⟨?_, ?_, ?_, ?_, ?_, ?_, ?_, ?_, trivial⟩ ?_
        · refine StepOKf.of ?_
          intro ac w hb hu hk
          refine ⟨wanted_none rfl, ?_⟩
          have e2 : ac.eval (.tmp 2) = .pointer (some ⟨kb, 0, none⟩) := hu.is (t := 2) (by kernel_rfl)
          exact wp_load_row 23 (.tmp 2) rfl kb e2 23 kA (0, 0) _ (HK8.out w hb) Try.underlying23 rfl (by rw [HKZ.out]; kernel_rfl) ⟨_, rfl, rfl, Below.refl _ _⟩
        · refine StepOKf.of ?_
          intro ac w hb hu hk
          refine ⟨wanted_none rfl, ?_⟩
          have e6 : ac.eval (.tmp 6) = .pointer (some ⟨xb, 0, none⟩) := hu.is (t := 6) (by kernel_rfl)
          exact wp_load_row 22 (.tmp 6) rfl xb e6 22 xA (0, 0) _ (HX8.out w hb) Try.underlying22 rfl (by rw [HXZ.out]; kernel_rfl) ⟨_, rfl, rfl, Below.refl _ _⟩
        · refine StepOKf.of ?_
          intro ac w hb hu hk
          refine ⟨wanted_none rfl, ?_⟩
          have e41 : ac.eval (.tmp 41) = (.agg kA) := (hk ⟨0, .data⟩ (by simp) rfl).is rfl rfl
          have e42 : ac.eval (.tmp 42) = (.agg xA) := (hk ⟨1, .data⟩ (by simp) rfl).is rfl rfl
          have ef : ac.eval (.func 12) = .func (.func 12) #[] #[] := rfl
          refine step_enter (f := 12) (args := #[.agg kA, .agg xA]) ?_ ?_
          · generalize ac.eval = ρ at e41 e42 ef ⊢
            go_simp
          · exact (HPB.out w).mono fun e w' ⟨he, hq⟩ => ⟨_, he, rfl, hq⟩
        · refine StepOKf.of ?_
          intro ac w hb hu hk
          refine ⟨wanted_none rfl, ?_⟩
          have e2 : ac.eval (.tmp 2) = .pointer (some ⟨kb, 0, none⟩) := hu.is (t := 2) (by kernel_rfl)
          exact wp_load_row 23 (.tmp 2) rfl kb e2 23 kA (0, 0) _ (HK8.out w hb) Try.underlying23 rfl (by rw [HKZ.out]; kernel_rfl) ⟨_, rfl, rfl, Below.refl _ _⟩
        · refine StepOKf.of ?_
          intro ac w hb hu hk
          refine ⟨wanted_none rfl, ?_⟩
          have e7 : ac.eval (.tmp 7) = .pointer (some ⟨yb, 0, none⟩) := hu.is (t := 7) (by kernel_rfl)
          exact wp_load_row 22 (.tmp 7) rfl yb e7 22 yA (0, 0) _ (HY8.out w hb) Try.underlying22 rfl (by rw [HYZ.out]; kernel_rfl) ⟨_, rfl, rfl, Below.refl _ _⟩
        · refine StepOKf.of ?_
          intro ac w hb hu hk
          refine ⟨wanted_none rfl, ?_⟩
          have e44 : ac.eval (.tmp 44) = (.agg kA) := (hk ⟨3, .data⟩ (by simp) rfl).is rfl rfl
          have e45 : ac.eval (.tmp 45) = (.agg yA) := (hk ⟨4, .data⟩ (by simp) rfl).is rfl rfl
          have ef : ac.eval (.func 12) = .func (.func 12) #[] #[] := rfl
          refine step_enter (f := 12) (args := #[.agg kA, .agg yA]) ?_ ?_
          · generalize ac.eval = ρ at e44 e45 ef ⊢
            go_simp
          · exact (HPC.out w).mono fun e w' ⟨he, hq⟩ => ⟨_, he, rfl, hq⟩
        · intro ac w hb hu hk
          refine ⟨wanted_none rfl, ?_⟩
          exact step_alloc_new rfl (HZV.out w) ⟨w.heap.size, rfl, hb.size, Blk.new w Z _⟩
        · intro ac w hb hu hk
          refine ⟨wanted_none rfl, ?_⟩
          exact step_alloc_new rfl (HZV.out w) ⟨w.heap.size, rfl, hb.size, Blk.new w Z _⟩
        · intro ac w' hb hu hk hap
          obtain ⟨_, h9, ⟨g9, rfl, hg9, hG9⟩⟩ := (hk 6 (by decide)).put rfl rfl
          obtain ⟨_, h10, ⟨g10, rfl, hg10, hG10⟩⟩ := (hk 7 (by decide)).put rfl rfl
          obtain ⟨_, h41, rfl⟩ := (hk 0 (by decide)).put rfl rfl
          obtain ⟨_, h42, rfl⟩ := (hk 1 (by decide)).put rfl rfl
          obtain ⟨_, h43, rfl⟩ := (hk 2 (by decide)).put rfl rfl
          obtain ⟨_, h44, rfl⟩ := (hk 3 (by decide)).put rfl rfl
          obtain ⟨_, h45, rfl⟩ := (hk 4 (by decide)).put rfl rfl
          obtain ⟨_, h46, rfl⟩ := (hk 5 (by decide)).put rfl rfl
          have hne9_10 : g9 ≠ g10 := fun e => hap 6 7 _ _ 9 10 (by decide) (by decide) (by decide) rfl rfl rfl rfl rfl rfl (by rw [h9, h10, e])
          clear hap
          have hF : AllPuts ac.tmps ((9, _) :: (10, _) :: (41, _) :: (42, _) :: (43, _) :: (44, _) :: (45, _) :: (46, _) :: []) := ⟨h9, h10, h41, h42, h43, h44, h45, h46, trivial⟩
          obtain rfl := frame_puts hu (by kernel_rfl) hF
          simp only [puts, Act.put, List.setIfInBounds_toArray, List.set_cons_zero, List.set_cons_succ, List.drop_succ_cons, List.drop_zero]
          clear hk hu hF h9 h10 h41 h42 h43 h44 h45 h46
          have hG9 : Blk w' g9 Z 22 := hG9
          have hG10 : Blk w' g10 Z 22 := hG10
          have hs8 := hb.size
          have hlt9 := hG9.lt
          have hlt10 := hG10.lt
          have HST8 := Lib.hid (show ∀ w2, (w'.setRow g9 bA).setRow g10 cA = w2 → Blk w2 g9 bA 22 ∧ Blk w2 g10 cA 22 ∧ Below wr.heap.size wr w2 by
            rintro w2 rfl
            refine ⟨(Blk.row hG9 _).rowOther (by omega) _, Blk.row (Blk.rowOther hG10 (by omega) _) _, below_row (below_row hb hs8 hg9 _) (by simp; omega) hg10 _⟩)
          go_wp2_with (first
            | (with_reducible refine wpList_store_blkTo rfl 22 (.tmp 9) (.tmp 43) rfl rfl g9 bA rfl rfl 22 Z hG9 (by rw [HBZ.out]; kernel_rfl) (by rw [HZZ.out, HBZ.out]) HBO.out ?_)
            | (with_reducible refine wpList_store_blkTo rfl 22 (.tmp 10) (.tmp 46) rfl rfl g10 cA rfl rfl 22 Z (Blk.rowOther hG10 (by omega) _) (by rw [HCZ.out]; kernel_rfl) (by rw [HZZ.out, HCZ.out]) HCO.out ?_
               generalize hw2 : World.setRow _ _ _ = w2
               obtain ⟨p9, p10, hb8⟩ := HST8.out _ hw2
               clear hw2))
          have hbel9 := hbel.trans (hb8.mono hsr)
          have hs9 := hbel9.size
          have HP9 := Lib.hid (fun W (h : Below w2.heap.size w2 W) => (show Blk W g9 (u8A lb) 22 by rw [HBA.out]; exact p9.below h p9.lt))
          have HQ9 := Lib.hid (fun W (h : Below w2.heap.size w2 W) => (show Blk W g10 (u8A lc) 22 by rw [HCA.out]; exact p10.below h p10.lt))
          have HS9 := Lib.hid (fun W (h : Below w2.heap.size w2 W) => ((HS8.out.below hb8 (Nat.le_refl _)).more hb8.size).on h)
          rw [HW.out] at hs9
          clear hb hG9 hG10 HST8 p9 p10 hb8 hs8 hlt9 hlt10
          refine wp_region_free (promises [.bytes 32 sl, .is (.slice (some ⟨g9, 0, none⟩) 16 16), .is (.slice (some ⟨g10, 0, none⟩) 16 16), .bytes (16 + 16) (lb ++ lc), .is (.bool true), .is (.bool true), .is (.bool true), .is (.bool true), .is (.bool true)]) (by kernel_rfl) (by kernel_rfl) (fun i v w w' h hb => Spec.keep h hb) ⟨?_, ?_, ?_, ?_, ?_, ?_, ?_, ?_, ?_, trivial⟩ ?_
          · intro ac w hb hu hk
            refine ⟨wanted_none rfl, ?_⟩
            have e5 : ac.eval (.tmp 5) = .slice A5 32 c5 := hu.is (t := 5) (by kernel_rfl)
            refine step_value (w' := w) (v := .slice A5 32 c5) ?_ (Below.refl _ _) ⟨A5, c5, rfl, hc5, (HS9.out w hb)⟩
            generalize ac.eval = ρ at e5 ⊢
            go_simp
          · intro ac w hb hu hk
            refine ⟨wanted_none rfl, ?_⟩
            have e9 : ac.eval (.tmp 9) = .pointer (some ⟨g9, 0, none⟩) := hu.is (t := 9) (by kernel_rfl)
            refine step_value (w' := w) (v := (.slice (some ⟨g9, 0, none⟩) 16 16)) ?_ (Below.refl _ _) rfl
            generalize ac.eval = ρ at e9 ⊢
            go_simp
          · intro ac w hb hu hk
            refine ⟨wanted_none rfl, ?_⟩
            have e10 : ac.eval (.tmp 10) = .pointer (some ⟨g10, 0, none⟩) := hu.is (t := 10) (by kernel_rfl)
            refine step_value (w' := w) (v := (.slice (some ⟨g10, 0, none⟩) 16 16)) ?_ (Below.refl _ _) rfl
            generalize ac.eval = ρ at e10 ⊢
            go_simp
          · intro ac w hb hu hk
            refine ⟨wanted_none rfl, ?_⟩
            have e48 : ac.eval (.tmp 48) = (.slice (some ⟨g9, 0, none⟩) 16 16) := (hk ⟨1, .data⟩ (by simp) rfl).is rfl rfl
            have e49 : ac.eval (.tmp 49) = (.slice (some ⟨g10, 0, none⟩) 16 16) := (hk ⟨2, .data⟩ (by simp) rfl).is rfl rfl
            exact step_append_full rfl g9 g10 16 16 _ _ lb lc e48 e49 (HP9.out w hb) (HQ9.out w hb) HBL.out HCL.out (by omega) (by omega)
          · intro ac w hb hu hk
            refine ⟨wanted_none rfl, ?_⟩
            have e47 : ∃ X c, ac.eval (.tmp 47) = .slice X 32 c ∧ 32 ≤ c ∧ Rd w w.heap.size X sl := (hk ⟨0, .data⟩ (by simp) rfl).is rfl rfl
            have e50 : ∃ X c, ac.eval (.tmp 50) = .slice X (16 + 16) c ∧ (16 + 16) ≤ c ∧ Rd w w.heap.size X (lb ++ lc) := (hk ⟨3, .data⟩ (by simp) rfl).is rfl rfl
            obtain ⟨X, xc, eX, hxc, hX⟩ := e47
            obtain ⟨Y, yc, eY, hyc, hY⟩ := e50
            have ef : ac.eval (.func 18) = .func (.func 18) #[] #[] := rfl
            refine step_enter (f := 18) (args := #[.slice X 32 xc, .slice Y (16 + 16) yc]) ?_ ?_
            · generalize ac.eval = ρ at eX eY ef ⊢
              go_simp
            · refine (same_any X Y 32 (16 + 16) xc yc _ _ sl (lb ++ lc) w HSL.out (by rw [List.length_append, HBL.out, HCL.out]) (by unfold maxLen; omega) hX hY).mono ?_
              rintro e w' ⟨he, j, hw⟩
              rw [decide_eq_true HCAT.out] at he
              exact ⟨_, he, rfl, by rw [hw]; exact below_drewN (Below.refl _ _) j⟩
          · intro ac w hb hu hk
            refine ⟨wanted_none rfl, ?_⟩
            have e51 : ac.eval (.tmp 51) = (.bool true) := (hk ⟨4, .data⟩ (by simp) rfl).is rfl rfl
            exact step_value (BigFrame.run_move (.tmp 51) rfl w) (Below.refl _ _) e51
          · intro ac w hb hu hk
            refine ⟨wanted_some rfl (hk ⟨5, .chain⟩ (by simp) rfl) rfl rfl (fun _ h => h), ?_⟩
            have ef : ac.eval (.func 11) = .func (.func 11) #[] #[] := rfl
            refine step_enter (f := 11) (args := #[]) ?_ ?_
            · generalize ac.eval = ρ at ef ⊢
              go_simp
            · exact (wakes3_any w).mono fun e w' ⟨he, hq⟩ => ⟨_, he, rfl, hq⟩
          · intro ac w hb hu hk
            refine ⟨wanted_none rfl, ?_⟩
            have e52 : ac.eval (.tmp 52) = (.bool true) := (hk ⟨5, .data⟩ (by simp) rfl).is rfl rfl
            have e53 : ac.eval (.tmp 53) = (.bool true) := (hk ⟨6, .data⟩ (by simp) rfl).is rfl rfl
            exact step_value (run_pick_true e52 rfl w) (Below.refl _ _) e53
          · intro ac w hb hu hk
            refine ⟨wanted_none rfl, ?_⟩
            have e54 : ac.eval (.tmp 54) = (.bool true) := (hk ⟨7, .data⟩ (by simp) rfl).is rfl rfl
            exact step_value (BigFrame.run_assign (.tmp 54) rfl w) (Below.refl _ _) e54
          · intro ac w' hb hu hk
            obtain ⟨_, h4, rfl⟩ := (hk 8 (by decide)).put rfl rfl
            obtain ⟨_, h47, ⟨X47, xc47, rfl, hxc47, hX47⟩⟩ := (hk 0 (by decide)).put rfl rfl
            obtain ⟨_, h48, rfl⟩ := (hk 1 (by decide)).put rfl rfl
            obtain ⟨_, h49, rfl⟩ := (hk 2 (by decide)).put rfl rfl
            obtain ⟨_, h50, ⟨X50, xc50, rfl, hxc50, hX50⟩⟩ := (hk 3 (by decide)).put rfl rfl
            obtain ⟨_, h51, rfl⟩ := (hk 4 (by decide)).put rfl rfl
            obtain ⟨_, h52, rfl⟩ := (hk 5 (by decide)).put rfl rfl
            obtain ⟨_, h53, rfl⟩ := (hk 6 (by decide)).put rfl rfl
            obtain ⟨_, h54, rfl⟩ := (hk 7 (by decide)).put rfl rfl
            have hF : AllPuts ac.tmps ((4, _) :: (47, _) :: (48, _) :: (49, _) :: (50, _) :: (51, _) :: (52, _) :: (53, _) :: (54, _) :: []) := ⟨h4, h47, h48, h49, h50, h51, h52, h53, h54, trivial⟩
            obtain rfl := frame_puts hu (by kernel_rfl) hF
            simp only [puts, Act.put, List.setIfInBounds_toArray, List.set_cons_zero, List.set_cons_succ]
            clear hk hu hF h4 h47 h48 h49 h50 h51 h52 h53 h54
            have hend := hbel9.trans (hb.mono hs9)
            clear hb
            go_wp2_with fail
            go_ret
            exact ⟨rfl, by rw [HW.out]; exact hend⟩

theorem contract (H : Type) (enc : TypeId × Value → H) (W : World) (base : Nat) (args : Array Value) (ds gs : List (DataW H)) (before : List MemPlace)
    (hval : ∀ (j : Nat) t v, Try.f7.params[j]? = some t → args[j]? = some v → Value.okWide Try.prog W .any base t v)
    (hW : DataW.Whole enc Try.prog Try.f7.params.toList Rows.aesCountsSpec.vars false W args.toList ds gs before) :
    Calls Try.prog 7 args W fun e W' => ∃ v, e = .returned v ∧ Rows.aesCountsSpec.post enc Try.prog Try.f7 false true false false W args v W' := by
  have hW' := hW
  obtain ⟨p, q, hA0, hV, rfl, hfz, hnd⟩ := hW
  have hA : DataW.TrodAll enc Try.prog W 0 (fun _ => true) true Try.f7.params.toList args.toList ds p := hA0
  rw [Try.params7] at hA hval
  obtain ⟨v0, v1, d0, d1, p0, p1, rfl, rfl, rfl, h0, h1⟩ := trodAll_two hA
  obtain ⟨rfl, rfl⟩ := trodVars_none hV
  obtain ⟨k0, rfl, hk0⟩ := open_array Try.underlying23 (by kernel_rfl) (hval 0 23 v0 rfl rfl) h0
  obtain ⟨n1, rfl, rfl, rfl, wf1⟩ := open_int Try.underlying3 (hval 1 3 v1 rfl rfl) h1
  have b1 := bounds_i64 wf1
  clear hA0
  refine (walk k0 n1 W hk0 b1.1 b1.2).mono fun e W' ⟨he, hb⟩ => ?_
  exact ⟨_, he, law_post hW' rfl (by kernel_rfl) rfl (by kernel_rfl) hb⟩

set_option maxRecDepth 100000 in
theorem lifted (os : Os) (started : os.Started) (H : Type) (enc : TypeId × Value → H) :
    ReturnsInHanded {} Try.checked os 7 .any (Rows.aesCountsSpec.pre6 enc Try.prog Try.f7 Rows.aesCountsRow.domain false) (Rows.aesCountsSpec.post enc Try.prog Try.f7 false true false false) := by
  refine returnsInHanded_of_change (C := Try.checked) own started (by kernel_rfl) Try.func7
    (ChangeSpec.witness6 (enc := enc) (C := Try.checked) false ⟨#[], #[.agg #[.int .u8 0, .int .u8 0, .int .u8 0, .int .u8 0, .int .u8 0, .int .u8 0, .int .u8 0, .int .u8 0, .int .u8 0, .int .u8 0, .int .u8 0, .int .u8 0, .int .u8 0, .int .u8 0, .int .u8 0, .int .u8 0], .int .i64 0], []⟩ 8 (by kernel_rfl) (by kernel_rfl) (by kernel_rfl) (by kernel_rfl)) ?_
  intro W base args ds gs before hval0 hW _ _
  have hval : ∀ (j : Nat) t v, Try.f7.params[j]? = some t → args[j]? = some v → Value.okWide Try.prog W .any base t v := hval0
  exact contract H enc W base args ds gs before hval hW

/-- The statement. -/
theorem card : Rows.AesCountsSaid :=
  OpenClaim.holds_of_wide 7 Try.f7 rfl rfl rfl rfl rfl rfl rfl ⟨rfl, rfl, rfl, rfl, rfl⟩ rfl rfl rfl rfl rfl (by kernel_rfl) Try.func7 (by kernel_rfl)
    (of_decide_eq_true (by kernel_rfl)) (by unfold Func.isWrapper; first | (rw [if_pos (by decide +kernel)]; kernel_rfl) | (rw [if_neg (by decide +kernel)]; exact ⟨rfl, rfl⟩))
    (fun os started H enc _ => lifted os started H enc)
end Go.Proofs.Ytcajlmlblkdjoaa.aesCounts
