/- The program's many signatures: how many leaves there are, the leaves, prints. The program's many signatures: prints. The document's example of chapter 9; what the statements of chapter 9 have in common. -/
import Derived.Test.YtfgieebccjoboaaDoorMssP
import Derived.Test.YtfgieebccjoboaaDoorPTLevA
import Derived.Test.YtfgieebccjoboaaDoorRTClimb
namespace Go.Proofs.YtfgieebccjoboaaDoor
open Go.RowKit

/-- How many leaves a tree of that height has; 0: there is none. -/
def cntN (h : Int) : Nat := if 0 ≤ h ∧ h ≤ 4 then 2 ^ h.toNat else 0
theorem cntN_nat {k : Nat} (h : k ≤ 4) : cntN (k : Int) = 2 ^ k := by
  unfold cntN
  rw [if_pos (by omega), Int.toNat_natCast]
theorem cntN_out {h : Int} (hh : h < 0 ∨ 4 < h) : cntN h = 0 := by
  unfold cntN
  rw [if_neg (by omega)]
theorem cntN_in {h : Int} (h0 : 0 ≤ h) (h4 : h ≤ 4) : cntN h = 2 ^ h.toNat := by
  unfold cntN
  rw [if_pos ⟨h0, h4⟩]
theorem cntN_le (h : Int) : cntN h ≤ 16 := by
  unfold cntN
  split
  · exact Nat.pow_le_pow_right (n := 2) (by omega) (show h.toNat ≤ 4 by omega)
  · omega
theorem cntN_pos {h : Int} (h0 : 0 ≤ h) (h4 : h ≤ 4) : 1 ≤ cntN h := by
  rw [cntN_in h0 h4]
  exact Nat.pos_of_ne_zero (by simp)
set_option maxRecDepth 100000 in
set_option maxHeartbeats 2000000 in
theorem pcount9_any (h : Int) (w : World) :
    Calls Tryd.prog 52 #[.int .i64 h] w fun e w' => e = .returned (.int .i64 (cntN h : Int)) ∧ w = w' := by
  by_cases h0 : h < 0
  · rw [cntN_out (.inl h0)]
    go_enter Tryd.func52, Tryd.ntmps52
    go_wp2_with fail
    go_ret
    exact ⟨rfl, rfl⟩
  · by_cases h4 : h > 4
    · rw [cntN_out (.inr h4)]
      go_enter Tryd.func52, Tryd.ntmps52
      go_wp2_with fail
      go_ret
      exact ⟨rfl, rfl⟩
    · obtain ⟨k, rfl⟩ : ∃ k : Nat, h = (k : Int) := ⟨h.toNat, by omega⟩
      have hk4 : k ≤ 4 := by omega
      rw [cntN_nat hk4]
      obtain ⟨N, hN⟩ : ∃ N, 2 ^ k = N := ⟨_, rfl⟩
      have hN16 : N ≤ 16 := by rw [← hN]; exact Nat.pow_le_pow_right (n := 2) (by omega) hk4
      have hp1 : (2 : Int) ^ k = (N : Int) := by rw [← hN]; simp
      rw [hN]
      clear hN
      go_enter Tryd.func52, Tryd.ntmps52
      go_wp2_with fail
      go_ret
      exact ⟨rfl, rfl⟩
set_option maxRecDepth 100000 in
set_option maxHeartbeats 8000000 in
theorem pleaves9_any (sd : List UInt8) (h : Int) (w : World) (hs : sd.length = 16) (htab : Pow10 w.heap.size w) :
    Calls Tryd.prog 21 #[.agg (u8A sd), .int .i64 h] w fun e w' => ∃ v, e = .returned v ∧ OwnH w' w.heap.size v (pubsL sd (cntN h)) ∧ Below w.heap.size w w' := by
  obtain ⟨X, hX⟩ : ∃ x, u8A sd = x := ⟨_, rfl⟩
  have HX := Lib.hid hX
  have HXS := Lib.hid (show X.size = 16 by rw [← hX, u8A_size]; exact hs)
  have HCT := Lib.hid (fun W => pcount9_any h W)
  have hN256 := cntN_le h
  generalize cntN h = N at *
  have HTAB := Lib.hid htab
  rw [hX]
  clear hX htab
  have HAL := Lib.hid (show Below w.heap.size w (w.alloc (.cells X 23)) from (Below.refl _ _).alloc (Nat.le_refl _) _)
  have HB0 := Lib.hid (show Blk (w.alloc (.cells X 23)) w.heap.size X 23 from Blk.new _ _ _)
  go_enter Tryd.func21, Tryd.ntmps21
  go_upto_region 1 with fail
  generalize w.alloc (.cells X 23) = w1 at *
  go_wp2_with fail
  with_reducible refine (HCT.out _).mono ?_
  rintro e w2 ⟨rfl, rfl⟩
  clear HCT
  go_wp2_with fail
  go_loopw [5, 9] (fun lv t wq => ∃ (k : Nat) (A : Option Addr) (c : Nat), k ≤ N ∧ t = .int .i64 (k : Int) ∧ lv = .slice A k c ∧ Hid (OwnH wq w1.heap.size (.slice A k c) (pubsL sd k)) ∧ Hid (Below w1.heap.size w1 wq)) (fun _ t _ => N - (intOf t).toNat)
  case atStart => exact ⟨0, none, 0, Nat.zero_le _, rfl, rfl, Lib.hid (OwnH.nil _ _), Lib.hid (Below.refl _ _)⟩
  case round =>
    obtain ⟨k, A, c, hk, rfl, rfl, HO, HBL⟩ := hrel
    by_cases hlt : k < N
    · have hki : (k : Int) < (N : Int) := by omega
      obtain ⟨x, hx⟩ : ∃ x, pubH (endsL sd (k : Int) 67) = x := ⟨_, rfl⟩
      have HXL := Lib.hid (show x.length = 32 by rw [← hx]; exact pubH_len _)
      have HSN := Lib.hid (show pubsL sd (k + 1) = pubsL sd k ++ [x] by rw [pubsL_snoc, hx])
      obtain ⟨Y, hY⟩ : ∃ X, u8A x = X := ⟨_, rfl⟩
      have HYE := Lib.hid hY
      have HYZ := Lib.hid (show Y.size = 32 by rw [← hY, u8A_size]; exact HXL.out)
      have HLIM := Lib.hid (show (pubsL sd k).length ≤ 1000000 by rw [pubsL_len]; omega)
      obtain ⟨wo, rfl⟩ : ∃ y : World, y = wr := ⟨_, rfl⟩
      have HB2 := Lib.hid (HB0.out.below HBL.out HB0.out.lt)
      have HST := Lib.hid (show Calls Tryd.prog 55 #[.agg X, .int .i64 (k : Int)] wo fun e w' => e = .returned (.agg Y) ∧ Below wo.heap.size wo w' by
        rw [← HX.out, ← hY, ← hx]
        have hb2 := HAL.out.trans (HBL.out.mono HAL.out.size)
        exact ppublic_any sd (k : Int) wo hs (by omega) (tab_on HTAB.out hb2 hb2.size))
      clear hx hY
      go_wp2_with (with_reducible refine wpList_load_blk rfl 23 (.tmp 2) rfl w.heap.size rfl 23 X _ HB2.out Tryd.underlying23 rfl (by rw [HXS.out]; kernel_rfl) ?_)
      with_reducible refine (HST.out).mono ?_
      rintro e w4 ⟨rfl, hb⟩
      have hal5 : Below w4.heap.size w4 (w4.alloc (.cells Y 29)) := (Below.refl _ _).alloc (Nat.le_refl _) _
      have hb5 := hb.trans (hal5.mono hb.size)
      have HOW := Lib.hid (HO.out.on hb5)
      have HBZ := Lib.hid (show Blk (w4.alloc (.cells Y 29)) w4.heap.size (u8A x) 29 by
        rw [HYE.out]
        exact Blk.new _ _ _)
      have HBAL := Lib.hid (HBL.out.trans (hb5.mono HBL.out.size))
      have hle2 : w1.heap.size ≤ (w4.alloc (.cells Y 29)).heap.size := HBAL.out.size
      clear hb hal5 hb5 HST HB2 HO HBL
      go_wp2_with (first
        | (with_reducible refine wpList_build_hash rfl (.tmp 15) rfl Y rfl HYZ.out ?_)
        | (at_builtin; refine wpList_append_hashG rfl _ _ rfl w1.heap.size _ (pubsL sd k) rfl HOW.out w4.heap.size x HXL.out HBZ.out rfl HLIM.out hle2 ?_))
      intro v7 w7 hown7 hg7
      rw [← HSN.out] at hown7
      obtain ⟨A7, c7, rfl, _, _⟩ := hown7.form (pubsL_len _ _)
      have HB7 := Lib.hid (HBAL.out.grown hg7 hle2 (fun k hk => HOW.out.lt k hk))
      have HO7 := Lib.hid hown7
      clear hown7 hg7 HOW HBZ HBAL hle2
      go_wp2_with fail
      go_roundw
      case rel => exact ⟨k + 1, A7, c7, hlt, by go_num, rfl, HO7, HB7⟩
      case measure => simp [intOf]; omega
    · obtain rfl : k = N := by omega
      have hni : ¬ (k : Int) < (k : Int) := by omega
      have HBE := Lib.hid (HAL.out.trans (HBL.out.mono HAL.out.size))
      have HOE := Lib.hid (own_from HO.out HAL.out.size)
      clear HO HBL
      go_wp2_with fail
      go_ret
      exact ⟨_, rfl, HOE.out, HBE.out⟩
theorem pput1 (n : Int) (w : World) (hn : n ≤ 9223372036854775807) : Calls Tryd.prog 68 #[.int .i64 n, .int .i64 1] w fun e w' => ∃ A c, e = .returned (.slice A 1 c) ∧ 1 ≤ c ∧ c ≤ maxLen ∧ Rd w' w'.heap.size A (put1 n) ∧ Below w.heap.size w w' :=
  (put_any n 1 w hn).mono fun _ _ ⟨A, c, he, ho, hb⟩ => by
    have e4 : putW 1 = 1 := rfl
    rw [e4] at he ho
    obtain ⟨A', c', e, h1, h2⟩ := own_caps ho
    injection e with e1 e2 e3
    subst e1 e3
    exact ⟨A, c, he, h1, h2, Rd.of_own ho, hb⟩
end Go.Proofs.YtfgieebccjoboaaDoor
namespace Go.Proofs.YtfgieebccjoboaaDoor
open Go.RowKit

theorem printT_small (ht : Int) (root : List UInt8) (hr : root.length = 32) : (printT ht root).length ≤ 800000 :=
  Nat.le_trans (nets_short [[112, 114, 105, 110, 116], put1 ht, root] (by simp) (by
    intro r hx
    simp at hx
    rcases hx with rfl | rfl | rfl
    · decide
    · rw [put1_len]; omega
    · omega)) (by simp)
set_option maxRecDepth 100000 in
set_option maxHeartbeats 4000000 in
theorem pprinttext9_any (ht : Int) (root : List UInt8) (w : World) (hr : root.length = 32) (hl : ht ≤ 9223372036854775807) (htab : Pow10 w.heap.size w) :
    Calls Tryd.prog 47 #[.int .i64 ht, .agg (u8A root)] w fun e w' => ∃ A c, e = .returned (.slice A (printT ht root).length c) ∧ (printT ht root).length ≤ c ∧ Rd w' w'.heap.size A (printT ht root) ∧ Below w.heap.size w w' := by
  obtain ⟨X, hX⟩ : ∃ x, u8A root = x := ⟨_, rfl⟩
  obtain ⟨pa, hpa⟩ : ∃ x, put1 ht = x := ⟨_, rfl⟩
  obtain ⟨tl, htl⟩ : ∃ x, printT ht root = x := ⟨_, rfl⟩
  obtain ⟨q, hq⟩ : ∃ q, tl.length = q := ⟨_, rfl⟩
  have HX := Lib.hid hX
  have HRL := Lib.hid hr
  have HPL := Lib.hid (show pa.length = 1 by rw [← hpa]; exact put1_len _)
  have HPA := Lib.hid (fun W => (show Calls Tryd.prog 68 #[.int .i64 ht, .int .i64 1] W fun e w' => ∃ A c, e = .returned (.slice A 1 c) ∧ 1 ≤ c ∧ c ≤ maxLen ∧ Rd w' w'.heap.size A pa ∧ Below W.heap.size W w' from by rw [← hpa]; exact pput1 ht W hl))
  have HTX := Lib.hid (fun g W (hx : RdR W W.heap.size (some ⟨g, 0, none⟩) [pa, root]) (hW : Pow10 W.heap.size W) => (show Calls Tryd.prog 81 #[.string ⟨#[112, 114, 105, 110, 116]⟩, .slice (some ⟨g, 0, none⟩) 2 2] W fun e w' => ∃ A c, e = .returned (.slice A q c) ∧ q ≤ c ∧ Rd w' w'.heap.size A tl ∧ Below W.heap.size W w' from by
    have hh := text_any [112, 114, 105, 110, 116] (some ⟨g, 0, none⟩) 2 2 [pa, root] W (by decide) rfl (by decide) (fun r hr2 => by
      have h1 := HPL.out
      simp at hr2
      rcases hr2 with rfl | rfl <;> omega) hx hW
    rw [show netsL ([112, 114, 105, 110, 116] :: [pa, root]) = tl by rw [← htl, ← hpa]; rfl, hq] at hh
    exact hh))
  have HTB := Lib.hid htab
  rw [hX, htl, hq]
  clear hX hpa htl hq htab
  go_enter Tryd.func47, Tryd.ntmps47
  go_upto_region 1 with fail
  generalize hw1 : World.alloc _ _ = w1
  obtain ⟨g1, hg1⟩ : ∃ g, w.heap.size = g := ⟨_, rfl⟩
  have hf : Blk w1 g1 X 29 ∧ Below w.heap.size w w1 := by
    rw [← hw1, ← hg1]
    exact ⟨Blk.new w _ _, (Below.refl _ _).alloc (Nat.le_refl _) _⟩
  have hbx : Blk w1 g1 (u8A root) 29 := by rw [HX.out]; exact hf.1
  have HSR := Lib.hid (fun W (h : Below w1.heap.size w1 W) => (show Rd W W.heap.size (some ⟨g1, 0, none⟩) root from rd_of_blk (hbx.below h hbx.lt)))
  have HTAB := Lib.hid (fun W (h : Below w1.heap.size w1 W) => tab_on HTB.out (hf.2.trans (h.mono hf.2.size)) (hf.2.trans (h.mono hf.2.size)).size)
  have HB1 := Lib.hid hf.2
  clear hf hw1 hbx
  rw [hg1]
  clear hg1
  refine wp_region_loose 5 1 (fun i => false) (promises [.is (.int .i64 ht), .byc 1 pa, .is (.slice (some ⟨g1, 0, none⟩) 32 32), .rows 2 [pa, root], .bytes q tl]) (by kernel_rfl) rfl (by kernel_rfl) (fun i v w w' h hb => Spec.keep h hb) ⟨?_, ?_, ?_, ?_, ?_, trivial⟩ ?_
  · refine StepOKl.of ?_
    intro ac w hb hu hk
    refine ⟨wanted_none rfl, ?_⟩
    have e0 : ac.eval (.tmp 0) = .int .i64 ht := hu.is (t := 0) (by kernel_rfl)
    exact step_value (BigFrame.run_move (.tmp 0) rfl w) (Below.refl _ _) e0
  · refine StepOKl.of ?_
    intro ac w hb hu hk
    refine ⟨wanted_none rfl, ?_⟩
    have e5 : ac.eval (.tmp 5) = (.int .i64 ht) := (hk ⟨0, .data⟩ (by simp) rfl).is rfl rfl
    have ef : ac.eval (.func 68) = .func (.func 68) #[] #[] := rfl
    have ec : ac.eval (.const (.int .i64 1)) = .int .i64 1 := rfl
    refine step_enter (f := 68) (args := #[.int .i64 ht, .int .i64 1]) ?_ ?_
    · generalize ac.eval = ρ at e5 ec ef ⊢
      go_simp
    · exact (HPA.out w).mono fun e w' ⟨A, c, he, hc, hm, hr, hq⟩ => ⟨_, he, ⟨A, c, rfl, hc, hm, hr⟩, hq⟩
  · refine StepOKl.of ?_
    intro ac w hb hu hk
    refine ⟨wanted_none rfl, ?_⟩
    have e3 : ac.eval (.tmp 3) = .pointer (some ⟨g1, 0, none⟩) := hu.is (t := 3) (by kernel_rfl)
    refine step_value (w' := w) (v := .slice (some ⟨g1, 0, none⟩) 32 32) ?_ (Below.refl _ _) rfl
    generalize ac.eval = ρ at e3 ⊢
    go_simp
  · refine StepOKl.of ?_
    intro ac w hb hu hk
    refine ⟨wanted_none rfl, ?_⟩
    have e6 : ∃ X c, ac.eval (.tmp 6) = .slice X 1 c ∧ 1 ≤ c ∧ c ≤ maxLen ∧ Rd w w.heap.size X pa := (hk ⟨1, .data⟩ (by simp) rfl).is rfl rfl
    have e7 : ac.eval (.tmp 7) = (.slice (some ⟨g1, 0, none⟩) 32 32) := (hk ⟨2, .data⟩ (by simp) rfl).is rfl rfl
    obtain ⟨A, c, eA, hcA, hmA, hrA⟩ := e6
    refine step_value (w' := w.alloc (.cells #[.slice A 1 c, .slice (some ⟨g1, 0, none⟩) 32 32] 24)) (v := .slice (some ⟨w.heap.size, 0, none⟩) 2 2) ?_ ((Below.refl _ _).alloc (Nat.le_refl _) _) ⟨w.heap.size, rfl, rdr_two w _ _ HPL.out hcA hmA HRL.out (Nat.le_refl _) (by decide) hrA (HSR.out w hb)⟩
    generalize ac.eval = ρ at eA e7 ⊢
    go_simp
  · refine StepOKl.of ?_
    intro ac w hb hu hk
    refine ⟨wanted_none rfl, ?_⟩
    have e8 : ∃ g, ac.eval (.tmp 8) = .slice (some ⟨g, 0, none⟩) 2 2 ∧ RdR w w.heap.size (some ⟨g, 0, none⟩) [pa, root] := (hk ⟨3, .data⟩ (by simp) rfl).is rfl rfl
    obtain ⟨g, eg, hr⟩ := e8
    have ef : ac.eval (.func 81) = .func (.func 81) #[] #[] := rfl
    have es : ac.eval (.const (.string ⟨#[112, 114, 105, 110, 116]⟩)) = .string ⟨#[112, 114, 105, 110, 116]⟩ := rfl
    refine step_enter (f := 81) (args := #[.string ⟨#[112, 114, 105, 110, 116]⟩, .slice (some ⟨g, 0, none⟩) 2 2]) ?_ ?_
    · generalize ac.eval = ρ at eg es ef ⊢
      go_simp
    · exact (HTX.out g w hr (HTAB.out w hb)).mono fun e w' ⟨A, c, he, hc, hr, hq⟩ => ⟨_, he, ⟨A, c, rfl, hc, hr⟩, hq⟩
  · intro ac w' hb hu hk hap
    obtain ⟨_, h5, rfl⟩ := (hk 0 (by decide)).put rfl rfl
    obtain ⟨_, h6, ⟨X6, xc6, rfl, hxc6, hX6⟩⟩ := (hk 1 (by decide)).put rfl rfl
    obtain ⟨_, h7, rfl⟩ := (hk 2 (by decide)).put rfl rfl
    obtain ⟨_, h8, ⟨g8, rfl, hG8⟩⟩ := (hk 3 (by decide)).put rfl rfl
    obtain ⟨_, h9, ⟨X9, xc9, rfl, hxc9, hX9⟩⟩ := (hk 4 (by decide)).put rfl rfl
    clear hap
    have hF : AllPuts ac.tmps ((5, _) :: (6, _) :: (7, _) :: (8, _) :: (9, _) :: []) := ⟨h5, h6, h7, h8, h9, trivial⟩
    obtain rfl := frame_puts hu (by kernel_rfl) hF
    simp only [puts, Act.put, List.setIfInBounds_toArray, List.set_cons_zero, List.set_cons_succ, List.drop_succ_cons, List.drop_zero]
    clear hk hu hF h5 h6 h7 h8 h9
    have hb9 := HB1.out.trans (hb.mono HB1.out.size)
    have HB9 := Lib.hid hb9
    have HR9 := Lib.hid hX9
    have HC9 := Lib.hid hxc9
    clear hb hb9 hX9 hxc9 HPA HTX HSR HB1 HTAB HTB
    go_wp2_with fail
    go_ret
    exact ⟨_, _, rfl, HC9.out, HR9.out, HB9.out⟩
set_option maxRecDepth 100000 in
set_option maxHeartbeats 8000000 in
theorem pprintof9_any (ht : Int) (root : List UInt8) (w : World) (hr : root.length = 32) (hl : ht ≤ 9223372036854775807) (htab : Pow10 w.heap.size w) :
    Calls Tryd.prog 40 #[.int .i64 ht, .agg (u8A root)] w fun e w' => e = .returned (.agg (u8A (printH ht root))) ∧ Below w.heap.size w w' := by
  obtain ⟨X, hX⟩ : ∃ x, u8A root = x := ⟨_, rfl⟩
  have HEX := Lib.hid hX
  have HZX := Lib.hid (show X.size = 32 by rw [← hX, u8A_size]; exact hr)
  have HOX := Lib.hid (show X.all (·.oneCell') = true by rw [← hX]; exact u8A_one _)
  obtain ⟨Z, hZ⟩ : ∃ x, u8A (printH ht root) = x := ⟨_, rfl⟩
  have HEZ := Lib.hid hZ
  have HZZ := Lib.hid (show Z.size = 32 by rw [← hZ, u8A_size]; exact printH_len _ _)
  have HOZ := Lib.hid (show Z.all (·.oneCell') = true by rw [← hZ]; exact u8A_one _)
  have HTAB := Lib.hid htab
  have HPR := Lib.hid hr
  have HPS := Lib.hid (printT_short ht root hr)
  have HPT := Lib.hid (fun W (hW : Below w.heap.size w W) => (show Calls Tryd.prog 47 #[.int .i64 ht, .agg X] W _ from by
    rw [← hX]
    exact pprinttext9_any ht root W hr hl (tab_on htab hW hW.size)))
  have HSU := Lib.hid (fun A q c W (hq : (printT ht root).length = q) (hqc : q ≤ c) (hr : Rd W W.heap.size A (printT ht root)) => (show Calls Tryd.prog 73 #[.slice A q c] W fun e w' => e = .returned (.agg Z) ∧ Below W.heap.size W w' from by
    rw [← hZ]
    exact sum_any A q c _ W hq hqc (by rw [← hq]; exact printT_small _ _ HPR.out) hr))
  generalize printT ht root = tl at *
  rw [hX]
  clear hX hZ htab hr
  go_enter Tryd.func40, Tryd.ntmps40
  go_upto_region 1 with fail
  generalize hw1 : World.alloc _ _ = w3
  obtain ⟨g3, hg3⟩ : ∃ g, w.heap.size = g := ⟨_, rfl⟩
  obtain ⟨g4, hg4⟩ : ∃ g, w.heap.size + 1 = g := ⟨_, rfl⟩
  have hf : Blk w3 g3 X 29 ∧ (∃ rs, Blk w3 g4 rs 29 ∧ rs.size = 32) ∧ Below w.heap.size w w3 := by
    obtain ⟨Y4, hw, hY4⟩ : ∃ Y4, w3 = ((w.alloc (.cells X 29)).alloc (.cells Y4 29)) ∧ Y4.size = 32 := ⟨_, hw1.symm, rfl⟩
    have e1 : (w.alloc (.cells X 29)).heap.size = w.heap.size + 1 := by simp
    rw [hw, ← hg3, ← hg4]
    exact ⟨by exact (Blk.new _ _ _).alloc _, ⟨Y4, by rw [← e1]; exact Blk.new _ _ _, hY4⟩, (((Below.refl _ _).alloc (Nat.le_refl _) _).alloc (by simp) _)⟩
  have HB3 := Lib.hid hf.1
  obtain ⟨rs4, hrs4, hrz4⟩ := hf.2.1
  have HB4 := Lib.hid hrs4
  have HRZ4 := Lib.hid hrz4
  have HBW := Lib.hid hf.2.2
  have HG3 := Lib.hid (show w.heap.size ≤ g3 by omega)
  have HG4 := Lib.hid (show w.heap.size ≤ g4 by omega)
  clear hf hw1 hrs4 hrz4
  rw [hg4, hg3]
  clear hg3 hg4
  go_wp2_with (with_reducible refine wpList_load_blk rfl 29 (.tmp 3) rfl g3 rfl 29 X _ HB3.out Tryd.underlying29 rfl (by rw [HZX.out]; kernel_rfl) ?_)
  with_reducible refine (HPT.out w3 HBW.out).mono ?_
  rintro e w6 ⟨A6, c6, rfl, hc6, hr6, hb⟩
  obtain ⟨q, hq⟩ : ∃ q, tl.length = q := ⟨_, rfl⟩
  rw [hq] at hc6
  have HSC := Lib.hid (HSU.out A6 q c6 w6 hq hc6 hr6)
  rw [hq]
  replace HB4 := Lib.hid (HB4.out.below hb HB4.out.lt)
  replace HBW := Lib.hid (HBW.out.trans (hb.mono HBW.out.size))
  clear hb hr6 hc6 hq HPT HSU HB3
  go_wp2_with fail
  with_reducible refine (HSC.out).mono ?_
  rintro e w7 ⟨rfl, hb⟩
  replace HB4 := Lib.hid (HB4.out.below hb HB4.out.lt)
  replace HBW := Lib.hid (HBW.out.trans (hb.mono HBW.out.size))
  clear hb HSC
  go_wp2_with (with_reducible refine wpList_store_blk rfl 29 (.tmp 4) (.tmp 8) rfl g4 Z rfl rfl 29 rs4 HB4.out (by rw [HZZ.out]; kernel_rfl) (by rw [HZZ.out, HRZ4.out]) HOZ.out ?_)
  refine bodyPost_ret (v := .agg Z) (results_cell_row (p := 4) (ty := 29) (by kernel_rfl) _ _ g4 29 _ (0, 0) _ rfl (HB4.out.row Z) Tryd.underlying29 rfl (by rw [HZZ.out]; kernel_rfl)) rfl ⟨by rw [HEZ.out], below_row HBW.out HBW.out.size HG4.out _⟩
set_option maxRecDepth 100000 in
set_option maxHeartbeats 8000000 in
theorem pprint9_yes (sd : List UInt8) (k : Nat) (w : World) (hs : sd.length = 16) (hk4 : k ≤ 4) (htab : Pow10 w.heap.size w) :
    Calls Tryd.prog 13 #[.agg (u8A sd), .int .i64 (k : Int)] w fun e w' => e = .returned (.tuple #[.agg (u8A (printH (k : Int) (keyRoot sd k))), .int .i64 0]) ∧ Below w.heap.size w w' := by
  obtain ⟨X, hX⟩ : ∃ x, u8A sd = x := ⟨_, rfl⟩
  have HEX := Lib.hid hX
  have HZX := Lib.hid (show X.size = 16 by rw [← hX, u8A_size]; exact hs)
  have HOX := Lib.hid (show X.all (·.oneCell') = true by rw [← hX]; exact u8A_one _)
  obtain ⟨Z, hZ⟩ : ∃ x, u8A (printH (k : Int) (keyRoot sd k)) = x := ⟨_, rfl⟩
  have HEZ := Lib.hid hZ
  have HZZ := Lib.hid (show Z.size = 32 by rw [← hZ, u8A_size]; exact printH_len _ _)
  have HOZ := Lib.hid (show Z.all (·.oneCell') = true by rw [← hZ]; exact u8A_one _)
  obtain ⟨K, hK⟩ : ∃ x, u8A (keyRoot sd k) = x := ⟨_, rfl⟩
  have HEK := Lib.hid hK
  have HZK := Lib.hid (show K.size = 32 by rw [← hK, u8A_size]; exact keyRoot_len _ _)
  have HOK := Lib.hid (show K.all (·.oneCell') = true by rw [← hK]; exact u8A_one _)
  have HTAB := Lib.hid htab
  have hN16 : 2 ^ k ≤ 16 := Nat.pow_le_pow_right (n := 2) (by omega) hk4
  have hN1 : 1 ≤ 2 ^ k := Nat.pos_of_ne_zero (by simp)
  have HLV := Lib.hid (fun W (hW : Below w.heap.size w W) => (show Calls Tryd.prog 21 #[.agg X, .int .i64 (k : Int)] W fun e w' => ∃ v, e = .returned v ∧ OwnH w' W.heap.size v (pubsL sd (2 ^ k)) ∧ Below W.heap.size W w' from by
    rw [← hX, ← cntN_nat hk4]
    exact pleaves9_any sd (k : Int) W hs (tab_on htab hW hW.size)))
  have HRO := Lib.hid (fun A c W (hW : Below w.heap.size w W) (hr : RdH W W.heap.size A (pubsL sd (2 ^ k))) => (show Calls Tryd.prog 41 #[.slice A (2 ^ k) c] W fun e w' => e = .returned (.agg K) ∧ Below W.heap.size W w' from by
    rw [← hK]
    exact proot_any A (2 ^ k) c (pubsL sd (2 ^ k)) W (pubsL_len _ _) (by omega) (pubsL_32 _ _) hr (tab_on htab hW hW.size)))
  have HPO := Lib.hid (fun W (hW : Below w.heap.size w W) => (show Calls Tryd.prog 40 #[.int .i64 (k : Int), .agg K] W fun e w' => e = .returned (.agg Z) ∧ Below W.heap.size W w' from by
    rw [← hK, ← hZ]
    exact pprintof9_any (k : Int) (keyRoot sd k) W (keyRoot_len _ _) (by omega) (tab_on htab hW hW.size)))
  have HPL := Lib.hid (pubsL_len sd (2 ^ k))
  generalize pubsL sd (2 ^ k) = LV at *
  generalize 2 ^ k = N at *
  rw [hX]
  clear hX hZ hK htab
  go_enter Tryd.func13, Tryd.ntmps13
  go_upto_region 1 with fail
  generalize hw1 : World.alloc _ _ = w3
  obtain ⟨g2, hg2⟩ : ∃ g, w.heap.size = g := ⟨_, rfl⟩
  obtain ⟨g4, hg4⟩ : ∃ g, w.heap.size + 1 = g := ⟨_, rfl⟩
  have hf : Blk w3 g2 X 23 ∧ (∃ rs, Blk w3 g4 rs 29 ∧ rs.size = 32) ∧ Below w.heap.size w w3 := by
    obtain ⟨Y4, hw, hY4⟩ : ∃ Y4, w3 = ((w.alloc (.cells X 23)).alloc (.cells Y4 29)) ∧ Y4.size = 32 := ⟨_, hw1.symm, rfl⟩
    have e1 : (w.alloc (.cells X 23)).heap.size = w.heap.size + 1 := by simp
    rw [hw, ← hg2, ← hg4]
    exact ⟨by exact (Blk.new _ _ _).alloc _, ⟨Y4, by rw [← e1]; exact Blk.new _ _ _, hY4⟩, (((Below.refl _ _).alloc (Nat.le_refl _) _).alloc (by simp) _)⟩
  have HB2 := Lib.hid hf.1
  obtain ⟨rs4, hrs4, hrz4⟩ := hf.2.1
  have HB4 := Lib.hid hrs4
  have HRZ4 := Lib.hid hrz4
  have HBW := Lib.hid hf.2.2
  have HG2 := Lib.hid (show w.heap.size ≤ g2 by omega)
  have HG4 := Lib.hid (show w.heap.size ≤ g4 by omega)
  clear hf hw1 hrs4 hrz4
  rw [hg4, hg2]
  clear hg2 hg4
  go_wp2_with (with_reducible refine wpList_load_blk rfl 23 (.tmp 2) rfl g2 rfl 23 X _ HB2.out Tryd.underlying23 rfl (by rw [HZX.out]; kernel_rfl) ?_)
  with_reducible refine (HLV.out w3 HBW.out).mono ?_
  rintro e w4 ⟨v4, rfl, hown, hb⟩
  obtain ⟨A4, c4, rfl, _, _⟩ := hown.form HPL.out
  replace HB4 := Lib.hid (HB4.out.below hb HB4.out.lt)
  replace HBW := Lib.hid (HBW.out.trans (hb.mono HBW.out.size))
  have HRC := Lib.hid (HRO.out A4 c4 w4 HBW.out hown.hv.rd8)
  have hne : ¬ (N : Int) = 0 := by omega
  clear hown hb HLV HRO HB2
  go_wp2_with fail
  with_reducible refine (HRC.out).mono ?_
  rintro e w5 ⟨rfl, hb⟩
  replace HB4 := Lib.hid (HB4.out.below hb HB4.out.lt)
  replace HBW := Lib.hid (HBW.out.trans (hb.mono HBW.out.size))
  clear hb HRC
  go_wp2_with fail
  with_reducible refine (HPO.out w5 HBW.out).mono ?_
  rintro e w6 ⟨rfl, hb⟩
  replace HB4 := Lib.hid (HB4.out.below hb HB4.out.lt)
  replace HBW := Lib.hid (HBW.out.trans (hb.mono HBW.out.size))
  clear hb HPO
  go_wp2_with (with_reducible refine wpList_store_blk rfl 29 (.tmp 4) (.tmp 17) rfl g4 Z rfl rfl 29 rs4 HB4.out (by rw [HZZ.out]; kernel_rfl) (by rw [HZZ.out, HRZ4.out]) HOZ.out ?_)
  refine bodyPost_ret (v := .tuple #[.agg Z, .int .i64 0]) (results_cell_tmp (p := 4) (q := 5) (ty := 29) (by kernel_rfl) _ _ g4 29 _ (0, 0) _ (.int .i64 0) rfl rfl (HB4.out.row Z) Tryd.underlying29 rfl (by rw [HZZ.out]; kernel_rfl)) rfl ⟨by rw [HEZ.out], below_row HBW.out HBW.out.size HG4.out _⟩
set_option maxRecDepth 100000 in
set_option maxHeartbeats 8000000 in
theorem pprint9_no (sd : List UInt8) (h : Int) (w : World) (hs : sd.length = 16) (hh : h < 0 ∨ 4 < h) (htab : Pow10 w.heap.size w) :
    Calls Tryd.prog 13 #[.agg (u8A sd), .int .i64 h] w fun e w' => e = .returned (.tuple #[.agg (u8A zeroH), .int .i64 1]) ∧ Below w.heap.size w w' := by
  obtain ⟨X, hX⟩ : ∃ x, u8A sd = x := ⟨_, rfl⟩
  have HEX := Lib.hid hX
  have HZX := Lib.hid (show X.size = 16 by rw [← hX, u8A_size]; exact hs)
  have HOX := Lib.hid (show X.all (·.oneCell') = true by rw [← hX]; exact u8A_one _)
  obtain ⟨Z, hZ⟩ : ∃ x, u8A zeroH = x := ⟨_, rfl⟩
  have HEZ := Lib.hid hZ
  have HZZ := Lib.hid (show Z.size = 32 by rw [← hZ, u8A_size]; exact rfl)
  have HOZ := Lib.hid (show Z.all (·.oneCell') = true by rw [← hZ]; exact u8A_one _)
  have HLV := Lib.hid (fun W (hW : Below w.heap.size w W) => (show Calls Tryd.prog 21 #[.agg X, .int .i64 h] W fun e w' => ∃ v, e = .returned v ∧ OwnH w' W.heap.size v [] ∧ Below W.heap.size W w' from by
    have := pleaves9_any sd h W hs (tab_on htab hW hW.size)
    rw [cntN_out hh, hX] at this
    exact this))
  rw [hX]
  clear hX htab hZ
  go_enter Tryd.func13, Tryd.ntmps13
  go_upto_region 1 with fail
  generalize hw1 : World.alloc _ _ = w3
  obtain ⟨g2, hg2⟩ : ∃ g, w.heap.size = g := ⟨_, rfl⟩
  obtain ⟨g4, hg4⟩ : ∃ g, w.heap.size + 1 = g := ⟨_, rfl⟩
  have hf : Blk w3 g2 X 23 ∧ (∃ rs, Blk w3 g4 rs 29 ∧ rs.size = 32) ∧ Below w.heap.size w w3 := by
    obtain ⟨Y4, hw, hY4⟩ : ∃ Y4, w3 = ((w.alloc (.cells X 23)).alloc (.cells Y4 29)) ∧ Y4.size = 32 := ⟨_, hw1.symm, rfl⟩
    have e1 : (w.alloc (.cells X 23)).heap.size = w.heap.size + 1 := by simp
    rw [hw, ← hg2, ← hg4]
    exact ⟨by exact (Blk.new _ _ _).alloc _, ⟨Y4, by rw [← e1]; exact Blk.new _ _ _, hY4⟩, (((Below.refl _ _).alloc (Nat.le_refl _) _).alloc (by simp) _)⟩
  have HB2 := Lib.hid hf.1
  obtain ⟨rs4, hrs4, hrz4⟩ := hf.2.1
  have HB4 := Lib.hid hrs4
  have HRZ4 := Lib.hid hrz4
  have HBW := Lib.hid hf.2.2
  have HG2 := Lib.hid (show w.heap.size ≤ g2 by omega)
  have HG4 := Lib.hid (show w.heap.size ≤ g4 by omega)
  clear hf hw1 hrs4 hrz4
  rw [hg4, hg2]
  clear hg2 hg4
  go_wp2_with (with_reducible refine wpList_load_blk rfl 23 (.tmp 2) rfl g2 rfl 23 X _ HB2.out Tryd.underlying23 rfl (by rw [HZX.out]; kernel_rfl) ?_)
  with_reducible refine (HLV.out w3 HBW.out).mono ?_
  rintro e w4 ⟨v4, rfl, hown, hb⟩
  obtain ⟨A4, c4, rfl, _, _⟩ := hown.form (show ([] : List (List UInt8)).length = 0 from rfl)
  replace HB4 := Lib.hid (HB4.out.below hb HB4.out.lt)
  replace HBW := Lib.hid (HBW.out.trans (hb.mono HBW.out.size))
  clear hown hb HLV HB2
  go_wp2_with (first
    | (with_reducible refine wpList_build_zero rfl rfl Z HEZ.out ?_)
    | (with_reducible refine wpList_store_blk rfl 29 (.tmp 4) (.tmp 13) rfl g4 Z rfl rfl 29 rs4 HB4.out (by rw [HZZ.out]; kernel_rfl) (by rw [HZZ.out, HRZ4.out]) HOZ.out ?_))
  refine bodyPost_ret (v := .tuple #[.agg Z, .int .i64 1]) (results_cell_tmp (p := 4) (q := 5) (ty := 29) (by kernel_rfl) _ _ g4 29 _ (0, 0) _ (.int .i64 1) rfl rfl (HB4.out.row Z) Tryd.underlying29 rfl (by rw [HZZ.out]; kernel_rfl)) rfl ⟨by rw [HEZ.out], below_row HBW.out HBW.out.size HG4.out _⟩
end Go.Proofs.YtfgieebccjoboaaDoor
namespace Go.Proofs.YtfgieebccjoboaaDoor
open Go.RowKit

theorem wpList_load_when9 {P : Program} {w : World} {ops : Array Oper} {rest : List Oper} {o : Oper} {a : Act} {Q : Exit → Act → World → Prop} (hw : Region.wanted o (yielded ops a.tmps) = true) (ty : TypeId) (x : Operand) (ho : o.op = .load ty x)
    (g : Nat) (hx : a.eval x = .pointer (some ⟨g, 0, none⟩)) (t : TypeId) (cs : Array Value) (d : TypeDesc) (hg : Blk w g cs t) (hu : P.underlying ty = some d) (hd : (match d with | .struct _ | .array _ _ => true | _ => false) = true) (hi : (P.info? ty).map (·.size) = some cs.size)
    (hk : wpList P ops Q rest (a.put o.dst (.agg cs)) w) : wpList P ops Q (o :: rest) a w :=
  wpList_step fun K hK => by
    rw [if_pos hw]
    exact wp_load_row ty x ho g hx t cs (0, 0) d hg hu hd hi (hK _ _ hk)
theorem wpList_load_w9 {w : World} {ops : Array Oper} {rest : List Oper} {o : Oper} {a : Act} {Q : Exit → Act → World → Prop} (x : Operand) (ho : o.op = .load 29 x)
    (g : Nat) (hx : a.eval x = .pointer (some ⟨g, 0, none⟩)) (cs : Array Value) (hg : Blk w g cs 29) (hz : cs.size = 32)
    (hw : Region.wanted o (yielded ops a.tmps) = true) (hk : wpList Tryd.prog ops Q rest (a.put o.dst (.agg cs)) w) : wpList Tryd.prog ops Q (o :: rest) a w :=
  wpList_load_when9 hw 29 x ho g hx 29 cs _ hg Tryd.underlying29 rfl (by rw [hz]; kernel_rfl) hk
theorem built_zero9 : Tryd.prog.built 29 [] = some (u8A zeroH) := by kernel_rfl
theorem wpList_build_zero_w9 {w : World} {ops : Array Oper} {rest : List Oper} {o : Oper} {a : Act} {Q : Exit → Act → World → Prop} (ho : o.op = .build 29 #[]) (Z : Array Value) (hZ : u8A zeroH = Z)
    (hw : Region.wanted o (yielded ops a.tmps) = true) (hk : wpList Tryd.prog ops Q rest (a.put o.dst (.agg Z)) w) : wpList Tryd.prog ops Q (o :: rest) a w := by
  have hb : Tryd.prog.built 29 ((#[] : Array (Nat × Operand)).map fun (i, x) => (i, a.eval x)).toList = some Z := by
    have h := built_zero9
    rw [hZ] at h
    simp only [List.map_toArray, List.map_nil]
    exact h
  refine wpList_step fun K hK => ?_
  rw [if_pos hw]
  refine wp_build (P := Tryd.prog) 29 #[] ho (by rw [hb]; rfl) ?_
  rw [hb]
  exact hK _ _ hk
def zeroK : List UInt8 := List.replicate 16 0
theorem built_key9 : Tryd.prog.built 23 [] = some (u8A zeroK) := by kernel_rfl
theorem wpList_build_key9 {w : World} {ops : Array Oper} {rest : List Oper} {o : Oper} {a : Act} {Q : Exit → Act → World → Prop} (hgd : o.guard = none) (ho : o.op = .build 23 #[]) (Z : Array Value) (hZ : u8A zeroK = Z)
    (hk : wpList Tryd.prog ops Q rest (a.put o.dst (.agg Z)) w) : wpList Tryd.prog ops Q (o :: rest) a w := by
  have hb : Tryd.prog.built 23 ((#[] : Array (Nat × Operand)).map fun (i, x) => (i, a.eval x)).toList = some Z := by
    have h := built_key9
    rw [hZ] at h
    simp only [List.map_toArray, List.map_nil]
    exact h
  refine wpList_build (P := Tryd.prog) hgd 23 #[] ho (by rw [hb]; rfl) ?_
  rw [hb]
  exact hk
set_option maxRecDepth 100000 in
set_option maxHeartbeats 4000000 in
theorem wakes9_any (w : World) (htab : Pow10 w.heap.size w) : Calls Tryd.prog 17 #[] w fun e w' => e = .returned (.bool true) ∧ Below w.heap.size w w' := by
  obtain ⟨Z, hZ⟩ : ∃ x, u8A zeroK = x := ⟨_, rfl⟩
  have HZ := Lib.hid hZ
  have HLV := Lib.hid (show Calls Tryd.prog 21 #[.agg Z, .int .i64 0] w fun e w' => ∃ A c, e = .returned (.slice A 1 c) ∧ Below w.heap.size w w' from by
    rw [← hZ]
    refine (pleaves9_any zeroK 0 w rfl htab).mono ?_
    rintro e w' ⟨v, rfl, ho, hb⟩
    obtain ⟨A, c, rfl, _, _⟩ := ho.form (n := 1) (pubsL_len _ _)
    exact ⟨A, c, rfl, hb⟩)
  clear hZ htab
  go_enter Tryd.func17, Tryd.ntmps17
  go_wp2_with (with_reducible refine wpList_build_key9 rfl rfl Z HZ.out ?_)
  with_reducible refine (HLV.out).mono ?_
  rintro e w2 ⟨A, c, rfl, hb⟩
  have HB := Lib.hid hb
  clear hb HLV
  go_wp2_with fail
  go_ret
  exact ⟨by first | rfl | kernel_rfl, HB.out⟩
end Go.Proofs.YtfgieebccjoboaaDoor
