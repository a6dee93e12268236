/- The program's many signatures: the root that a signature makes, whether it is right. -/
import Derived.Test.YtfgieebccjoboaaDoorMpC
import Derived.Test.YtfgieebccjoboaaDoorRTClimb
namespace Go.Proofs.YtfgieebccjoboaaDoor
open Go.RowKit

/-- The root that a signature makes; nought: none. -/
def rootX (m : List UInt8) (s : SigV) : List UInt8 := if sigOK s then sigRoot m s else zeroH
theorem sigOK_iff (s : SigV) : sigOK s ↔ s.vs.length = 67 ∧ climbOK ((cntN s.h : Nat) : Int) s.l s.ps.length := by
  unfold sigOK
  constructor
  · rintro ⟨h0, h4, h67, hc⟩
    rw [cntN_in h0 h4]
    exact ⟨h67, hc⟩
  · rintro ⟨h67, hc⟩
    have h1 := hc.1
    have h2 := hc.2.1
    by_cases h0 : s.h < 0
    · rw [cntN_out (.inl h0)] at h2; omega
    · by_cases h4 : 4 < s.h
      · rw [cntN_out (.inr h4)] at h2; omega
      · rw [cntN_in (by omega) (by omega)] at hc
        exact ⟨by omega, by omega, h67, hc⟩
theorem rootX_67 (m : List UInt8) (s : SigV) (h : s.vs.length = 67) : rootX m s = climbV ((cntN s.h : Nat) : Int) s.l (recV m s.vs) s.ps := by
  unfold rootX
  by_cases hk : sigOK s
  · rw [if_pos hk]
    unfold sigRoot
    rw [cntN_in hk.1 hk.2.1]
  · rw [if_neg hk]
    unfold climbV
    rw [if_neg (fun hc => hk ((sigOK_iff s).2 ⟨h, hc⟩))]
theorem rootX_no (m : List UInt8) (s : SigV) (h : s.vs.length ≠ 67) : rootX m s = zeroH := if_neg (fun hk => h hk.2.2.1)
theorem rootX_yes {m : List UInt8} {s : SigV} (h : sigOK s) : rootX m s = sigRoot m s := if_pos h
theorem rootX_len (m : List UInt8) (s : SigV) : (rootX m s).length = 32 := by
  unfold rootX
  split
  · exact sigRoot_len _ _
  · rfl
set_option maxRecDepth 100000 in
set_option maxHeartbeats 8000000 in
theorem prootof9_any (A : Option Addr) (n c : Nat) (m : List UInt8) (s : SigV) (V P : Option Addr) (nv cv np cp : Nat) (w : World) (hn : m.length = n) (h1 : n ≤ 1000) (hc : n ≤ c) (hcm : c ≤ maxLen) (hr : Rd w w.heap.size A m) (hv : HV w (.slice V nv cv) s.vs) (hvl : s.vs.length = nv) (hp : HV w (.slice P np cp) s.ps) (hpl : s.ps.length = np) (hnp : np ≤ 1024) (htab : Pow10 w.heap.size w) :
    Calls Tryd.prog 43 #[.slice A n c, .agg (sigA s.h s.l V P nv cv np cp)] w fun e w' => e = .returned (.tuple #[.agg (u8A (rootX m s)), .bool (decide (sigOK s))]) ∧ Below w.heap.size w w' := by
  obtain ⟨sh, sl, vs, ps⟩ := s
  have HTAB := Lib.hid htab
  have HRD := Lib.hid (fun W (hW : Below w.heap.size w W) => hr.on hW)
  have HVV := Lib.hid (fun W (hW : Below w.heap.size w W) => hv.on hW)
  have HPP := Lib.hid (fun W (hW : Below w.heap.size w W) => hp.on hW)
  have HVL := Lib.hid (show vs.length = nv from hvl)
  have HPL := Lib.hid (show ps.length = np from hpl)
  have HN := Lib.hid hn
  clear hr hv hp hn hvl hpl htab
  by_cases h67 : nv = 67
  · subst h67
    have hrx := rootX_67 m ⟨sh, sl, vs, ps⟩ HVL.out
    have hok := sigOK_iff ⟨sh, sl, vs, ps⟩
    rw [show decide (sigOK ⟨sh, sl, vs, ps⟩) = decide (climbOK ((cntN sh : Nat) : Int) sl ps.length) from by
      congr 1
      exact propext ⟨fun h => (hok.1 h).2, fun h => hok.2 ⟨HVL.out, h⟩⟩]
    rw [hrx]
    obtain ⟨R, hR⟩ : ∃ x, u8A (climbV ((cntN sh : Nat) : Int) sl (recV m vs) ps) = x := ⟨_, rfl⟩
    have HER := Lib.hid hR
    have HZR := Lib.hid (show R.size = 32 by rw [← hR, u8A_size]; exact climbV_len9 (recV_len _ _) _)
    have HOR := Lib.hid (show R.all (·.oneCell') = true by rw [← hR]; exact u8A_one _)
    obtain ⟨Q, hQ⟩ : ∃ x, u8A (recV m vs) = x := ⟨_, rfl⟩
    have HEQ := Lib.hid hQ
    have HZQ := Lib.hid (show Q.size = 32 by rw [← hQ, u8A_size]; exact recV_len _ _)
    have HOQ := Lib.hid (show Q.all (·.oneCell') = true by rw [← hQ]; exact u8A_one _)
    obtain ⟨ok, hokk⟩ : ∃ b, decide (climbOK ((cntN sh : Nat) : Int) sl ps.length) = b := ⟨_, rfl⟩
    have HRC := Lib.hid (fun W (hW : Below w.heap.size w W) => (show Calls Tryd.prog 79 #[.slice A n c, .slice V 67 cv] W fun e w' => e = .returned (.tuple #[.agg Q, .bool true]) ∧ Below W.heap.size W w' from by
      rw [← hQ]
      exact prec_yes A n c m V cv vs W HN.out h1 hc hcm (HRD.out W hW) (HVV.out W hW) (tab_on HTAB.out hW hW.size)))
    have HCT := Lib.hid (fun W => pcount9_any sh W)
    have HCL := Lib.hid (fun W (hW : Below w.heap.size w W) => (show Calls Tryd.prog 80 #[.int .i64 ((cntN sh : Nat) : Int), .int .i64 sl, .agg Q, .slice P np cp] W fun e w' => e = .returned (.tuple #[.agg R, .bool ok]) ∧ Below W.heap.size W w' from by
      have h := pclimb_any ((cntN sh : Nat) : Int) sl (recV m vs) P np cp ps W HPL.out hnp (recV_len _ _) (HPP.out W hW).1 (HPP.out W hW).rd8 (tab_on HTAB.out hW hW.size)
      unfold ClimbEnd at h
      rw [hR, hQ, hokk] at h
      exact h))
    obtain ⟨N, hN⟩ : ∃ N, cntN sh = N := ⟨_, rfl⟩
    rw [hN] at HCT HCL
    rw [hokk, hR]
    clear hR hQ hokk hN hrx hok HN HRD HVV HPP HVL HPL HTAB
    go_enter Tryd.func43, Tryd.ntmps43
    go_upto_region 1 with fail
    generalize hw1 : World.alloc _ _ = w3
    obtain ⟨g3, hg3⟩ : ∃ g, w.heap.size = g := ⟨_, rfl⟩
    obtain ⟨g4, hg4⟩ : ∃ g, w.heap.size + 1 = g := ⟨_, rfl⟩
    have hf : Blk w3 g3 (sigA sh sl V P 67 cv np cp) 35 ∧ (∃ rs, Blk w3 g4 rs 29 ∧ rs.size = 32) ∧ Below w.heap.size w w3 := by
      obtain ⟨Y4, hw, hY4⟩ : ∃ Y4, w3 = ((w.alloc (.cells (sigA sh sl V P 67 cv np cp) 35)).alloc (.cells Y4 29)) ∧ Y4.size = 32 := ⟨_, hw1.symm, rfl⟩
      have e1 : (w.alloc (.cells (sigA sh sl V P 67 cv np cp) 35)).heap.size = w.heap.size + 1 := by simp
      rw [hw, ← hg3, ← hg4]
      exact ⟨by exact (Blk.new _ _ _).alloc _, ⟨Y4, by rw [← e1]; exact Blk.new _ _ _, hY4⟩, (((Below.refl _ _).alloc (Nat.le_refl _) _).alloc (by simp) _)⟩
    have HB3 := Lib.hid hf.1
    obtain ⟨rs4, hrs4, hrz4⟩ := hf.2.1
    have HB4 := Lib.hid hrs4
    have HRZ4 := Lib.hid hrz4
    have HBW := Lib.hid hf.2.2
    have HG3 := Lib.hid (show w.heap.size ≤ g3 by omega)
    have HG4 := Lib.hid (show w.heap.size ≤ g4 by omega)
    clear hf hw1 hrs4 hrz4
    rw [hg4, hg3]
    clear hg3 hg4
    have hs0 := HB3.out.cell 0
    have hs1 := HB3.out.cell 1
    have hs2 := HB3.out.cell 2
    have hs3 := HB3.out.cell 3
    simp at hs0 hs1 hs2 hs3
    go_wp2_with fail
    with_reducible refine (HRC.out w3 HBW.out).mono ?_
    rintro e w4 ⟨rfl, hb⟩
    replace HB3 := Lib.hid (HB3.out.below hb HB3.out.lt)
    replace HB4 := Lib.hid (HB4.out.below hb HB4.out.lt)
    replace HBW := Lib.hid (HBW.out.trans (hb.mono HBW.out.size))
    clear hb HRC hs0 hs1 hs2 hs3
    go_upto_region 2 with (with_reducible refine wpList_store_blk rfl 29 (.tmp 6) (.tmp 13) rfl w4.heap.size Q rfl rfl 29 _ (Blk.new _ _ _) (by rw [HZQ.out]; kernel_rfl) (by rw [HZQ.out]; kernel_rfl) HOQ.out ?_)
    generalize hwn : World.setRow _ _ _ = w5
    have hal : Below w4.heap.size w4 w5 := by
      rw [← hwn]
      exact below_row ((Below.refl _ _).alloc (Nat.le_refl _) _) (by simp) (Nat.le_refl _) _
    have HB6 := Lib.hid (show Blk w5 w4.heap.size Q 29 by
      rw [← hwn]
      exact (Blk.new _ _ _).row _)
    obtain ⟨g6, hgn⟩ : ∃ g, w4.heap.size = g := ⟨_, rfl⟩
    replace HB3 := Lib.hid (HB3.out.below hal HB3.out.lt)
    replace HB4 := Lib.hid (HB4.out.below hal HB4.out.lt)
    replace HBW := Lib.hid (HBW.out.trans (hal.mono HBW.out.size))
    rw [hgn] at HB6 ⊢
    clear hal hwn hgn
    go_wp2_with fail
    have HC0 := Lib.hid (fun W (hW : Below w5.heap.size w5 W) => (show W.cell? ⟨g3, 0, none⟩ = some (.int .i64 sh) by rw [(HB3.out.below hW HB3.out.lt).cell 0]; rfl))
    have HC1 := Lib.hid (fun W (hW : Below w5.heap.size w5 W) => (show W.cell? ⟨g3, 1, none⟩ = some (.int .i64 sl) by rw [(HB3.out.below hW HB3.out.lt).cell 1]; rfl))
    have HC3 := Lib.hid (fun W (hW : Below w5.heap.size w5 W) => (show W.cell? ⟨g3, 3, none⟩ = some (.slice P np cp) by rw [(HB3.out.below hW HB3.out.lt).cell 3]; rfl))
    have HB6F := Lib.hid (fun W (hW : Below w5.heap.size w5 W) => HB6.out.below hW HB6.out.lt)
    refine wp_region_loose 11 2 (fun i => false) (promises [.is (.pointer (some ⟨g3, 0, none⟩)), .is (.int .i64 sh), .is (.int .i64 (N : Int)), .is (.pointer (some ⟨g3, 1, none⟩)), .is (.int .i64 sl), .is (.agg Q), .is (.pointer (some ⟨g3, 3, none⟩)), .is (.slice P np cp), .is (.tuple #[.agg R, .bool ok]), .is (.agg R), .is (.bool ok)]) (by kernel_rfl) rfl (by kernel_rfl) (fun i v w w' h hb => Spec.keep h hb) ⟨?_, ?_, ?_, ?_, ?_, ?_, ?_, ?_, ?_, ?_, ?_, trivial⟩ ?_
    · refine StepOKl.of ?_
      intro ac w hb hu hk
      refine ⟨wanted_none rfl, ?_⟩
      have e3 : ac.eval (.tmp 3) = .pointer (some ⟨g3, 0, none⟩) := hu.is (t := 3) (by kernel_rfl)
      refine step_value (w' := w) (v := (.pointer (some ⟨g3, 0, none⟩))) ?_ (Below.refl _ _) rfl
      generalize ac.eval = ρ at e3 ⊢
      go_simp
    · refine StepOKl.of ?_
      intro ac w hb hu hk
      refine ⟨wanted_none rfl, ?_⟩
      have e18 : ac.eval (.tmp 18) = (.pointer (some ⟨g3, 0, none⟩)) := (hk ⟨0, .data⟩ (by simp) rfl).is rfl rfl
      have hc := HC0.out w hb
      refine step_value (w' := w) (v := .int .i64 sh) ?_ (Below.refl _ _) rfl
      generalize ac.eval = ρ at e18 ⊢
      go_simp
    · refine StepOKl.of ?_
      intro ac w hb hu hk
      refine ⟨wanted_none rfl, ?_⟩
      have e19 : ac.eval (.tmp 19) = (.int .i64 sh) := (hk ⟨1, .data⟩ (by simp) rfl).is rfl rfl
      have ef : ac.eval (.func 52) = .func (.func 52) #[] #[] := rfl
      refine step_enter (f := 52) (args := #[.int .i64 sh]) ?_ ?_
      · generalize ac.eval = ρ at e19 ef ⊢
        go_simp
      · exact (HCT.out w).mono fun e w' ⟨he, hq⟩ => ⟨_, he, rfl, hq ▸ Below.refl _ _⟩
    · refine StepOKl.of ?_
      intro ac w hb hu hk
      refine ⟨wanted_none rfl, ?_⟩
      have e3 : ac.eval (.tmp 3) = .pointer (some ⟨g3, 0, none⟩) := hu.is (t := 3) (by kernel_rfl)
      refine step_value (w' := w) (v := (.pointer (some ⟨g3, 1, none⟩))) ?_ (Below.refl _ _) rfl
      generalize ac.eval = ρ at e3 ⊢
      go_simp
    · refine StepOKl.of ?_
      intro ac w hb hu hk
      refine ⟨wanted_none rfl, ?_⟩
      have e21 : ac.eval (.tmp 21) = (.pointer (some ⟨g3, 1, none⟩)) := (hk ⟨3, .data⟩ (by simp) rfl).is rfl rfl
      have hc := HC1.out w hb
      refine step_value (w' := w) (v := .int .i64 sl) ?_ (Below.refl _ _) rfl
      generalize ac.eval = ρ at e21 ⊢
      go_simp
    · refine StepOKl.of ?_
      intro ac w hb hu hk
      refine ⟨wanted_none rfl, ?_⟩
      have e6 : ac.eval (.tmp 6) = .pointer (some ⟨g6, 0, none⟩) := hu.is (t := 6) (by kernel_rfl)
      exact wp_load_row 29 (.tmp 6) rfl g6 e6 29 Q (0, 0) _ (HB6F.out w hb) Tryd.underlying29 rfl (by rw [HZQ.out]; kernel_rfl) ⟨_, rfl, rfl, Below.refl _ _⟩
    · refine StepOKl.of ?_
      intro ac w hb hu hk
      refine ⟨wanted_none rfl, ?_⟩
      have e3 : ac.eval (.tmp 3) = .pointer (some ⟨g3, 0, none⟩) := hu.is (t := 3) (by kernel_rfl)
      refine step_value (w' := w) (v := (.pointer (some ⟨g3, 3, none⟩))) ?_ (Below.refl _ _) rfl
      generalize ac.eval = ρ at e3 ⊢
      go_simp
    · refine StepOKl.of ?_
      intro ac w hb hu hk
      refine ⟨wanted_none rfl, ?_⟩
      have e24 : ac.eval (.tmp 24) = (.pointer (some ⟨g3, 3, none⟩)) := (hk ⟨6, .data⟩ (by simp) rfl).is rfl rfl
      have hc := HC3.out w hb
      refine step_value (w' := w) (v := .slice P np cp) ?_ (Below.refl _ _) rfl
      generalize ac.eval = ρ at e24 ⊢
      go_simp
    · refine StepOKl.of ?_
      intro ac w hb hu hk
      refine ⟨wanted_none rfl, ?_⟩
      have e20 : ac.eval (.tmp 20) = (.int .i64 (N : Int)) := (hk ⟨2, .data⟩ (by simp) rfl).is rfl rfl
      have e22 : ac.eval (.tmp 22) = (.int .i64 sl) := (hk ⟨4, .data⟩ (by simp) rfl).is rfl rfl
      have e23 : ac.eval (.tmp 23) = (.agg Q) := (hk ⟨5, .data⟩ (by simp) rfl).is rfl rfl
      have e25 : ac.eval (.tmp 25) = (.slice P np cp) := (hk ⟨7, .data⟩ (by simp) rfl).is rfl rfl
      have ef : ac.eval (.func 80) = .func (.func 80) #[] #[] := rfl
      refine step_enter (f := 80) (args := #[.int .i64 (N : Int), .int .i64 sl, .agg Q, .slice P np cp]) ?_ ?_
      · generalize ac.eval = ρ at e20 e22 e23 e25 ef ⊢
        go_simp
      · exact (HCL.out w (HBW.out.trans (hb.mono HBW.out.size))).mono fun e w' ⟨he, hq⟩ => ⟨_, he, rfl, hq⟩
    · refine StepOKl.of ?_
      intro ac w hb hu hk
      refine ⟨wanted_none rfl, ?_⟩
      have e26 : ac.eval (.tmp 26) = (.tuple #[.agg R, .bool ok]) := (hk ⟨8, .data⟩ (by simp) rfl).is rfl rfl
      refine step_value (w' := w) (v := (.agg R)) ?_ (Below.refl _ _) rfl
      generalize ac.eval = ρ at e26 ⊢
      go_simp
    · refine StepOKl.of ?_
      intro ac w hb hu hk
      refine ⟨wanted_none rfl, ?_⟩
      have e26 : ac.eval (.tmp 26) = (.tuple #[.agg R, .bool ok]) := (hk ⟨8, .data⟩ (by simp) rfl).is rfl rfl
      refine step_value (w' := w) (v := (.bool ok)) ?_ (Below.refl _ _) rfl
      generalize ac.eval = ρ at e26 ⊢
      go_simp
    · intro ac w' hb hu hk hap
      obtain ⟨_, h18, rfl⟩ := (hk 0 (by decide)).put rfl rfl
      obtain ⟨_, h19, rfl⟩ := (hk 1 (by decide)).put rfl rfl
      obtain ⟨_, h20, rfl⟩ := (hk 2 (by decide)).put rfl rfl
      obtain ⟨_, h21, rfl⟩ := (hk 3 (by decide)).put rfl rfl
      obtain ⟨_, h22, rfl⟩ := (hk 4 (by decide)).put rfl rfl
      obtain ⟨_, h23, rfl⟩ := (hk 5 (by decide)).put rfl rfl
      obtain ⟨_, h24, rfl⟩ := (hk 6 (by decide)).put rfl rfl
      obtain ⟨_, h25, rfl⟩ := (hk 7 (by decide)).put rfl rfl
      obtain ⟨_, h26, rfl⟩ := (hk 8 (by decide)).put rfl rfl
      obtain ⟨_, h27, rfl⟩ := (hk 9 (by decide)).put rfl rfl
      obtain ⟨_, h28, rfl⟩ := (hk 10 (by decide)).put rfl rfl
      clear hap
      have hF : AllPuts ac.tmps ((18, _) :: (19, _) :: (20, _) :: (21, _) :: (22, _) :: (23, _) :: (24, _) :: (25, _) :: (26, _) :: (27, _) :: (28, _) :: []) := ⟨h18, h19, h20, h21, h22, h23, h24, h25, h26, h27, h28, trivial⟩
      obtain rfl := frame_puts hu (by kernel_rfl) hF
      simp only [puts, Act.put, List.setIfInBounds_toArray, List.set_cons_zero, List.set_cons_succ, List.drop_succ_cons, List.drop_zero]
      clear hk hu hF h18 h19 h20 h21 h22 h23 h24 h25 h26 h27 h28
      replace HB4 := Lib.hid (HB4.out.below hb HB4.out.lt)
      have HBE := Lib.hid (HBW.out.trans (hb.mono HBW.out.size))
      clear hb HCT HCL HC0 HC1 HC3 HB6F HB3 HB6
      go_wp2_with (with_reducible refine wpList_store_blk rfl 29 (.tmp 4) (.tmp 27) rfl g4 R rfl rfl 29 rs4 HB4.out (by rw [HZR.out]; kernel_rfl) (by rw [HZR.out, HRZ4.out]) HOR.out ?_)
      refine bodyPost_ret (v := .tuple #[.agg R, .bool ok]) (results_cell_tmp (p := 4) (q := 5) (ty := 29) (by kernel_rfl) _ _ g4 29 _ (0, 0) _ (.bool ok) rfl rfl (HB4.out.row R) Tryd.underlying29 rfl (by rw [HZR.out]; kernel_rfl)) rfl ⟨rfl, below_row HBE.out HBE.out.size HG4.out _⟩
  · rw [rootX_no m ⟨sh, sl, vs, ps⟩ (by rw [HVL.out]; exact h67), decide_eq_false (fun hk : sigOK ⟨sh, sl, vs, ps⟩ => h67 (by rw [← HVL.out]; exact hk.2.2.1))]
    obtain ⟨Q, hQ⟩ : ∃ x, u8A zeroH = x := ⟨_, rfl⟩
    have HEQ := Lib.hid hQ
    have HZQ := Lib.hid (show Q.size = 32 by rw [← hQ, u8A_size]; exact rfl)
    have HOQ := Lib.hid (show Q.all (·.oneCell') = true by rw [← hQ]; exact u8A_one _)
    have HRC := Lib.hid (fun W => (show Calls Tryd.prog 79 #[.slice A n c, .slice V nv cv] W fun e w' => e = .returned (.tuple #[.agg Q, .bool false]) ∧ Below W.heap.size W w' from by
      rw [← hQ]
      exact prec_no A n c V nv cv W h67))
    rw [hQ]
    clear hQ HN HRD HVV HPP HVL HPL HTAB
    go_enter Tryd.func43, Tryd.ntmps43
    go_upto_region 1 with fail
    generalize hw1 : World.alloc _ _ = w3
    obtain ⟨g3, hg3⟩ : ∃ g, w.heap.size = g := ⟨_, rfl⟩
    obtain ⟨g4, hg4⟩ : ∃ g, w.heap.size + 1 = g := ⟨_, rfl⟩
    have hf : Blk w3 g3 (sigA sh sl V P nv cv np cp) 35 ∧ (∃ rs, Blk w3 g4 rs 29 ∧ rs.size = 32) ∧ Below w.heap.size w w3 := by
      obtain ⟨Y4, hw, hY4⟩ : ∃ Y4, w3 = ((w.alloc (.cells (sigA sh sl V P nv cv np cp) 35)).alloc (.cells Y4 29)) ∧ Y4.size = 32 := ⟨_, hw1.symm, rfl⟩
      have e1 : (w.alloc (.cells (sigA sh sl V P nv cv np cp) 35)).heap.size = w.heap.size + 1 := by simp
      rw [hw, ← hg3, ← hg4]
      exact ⟨by exact (Blk.new _ _ _).alloc _, ⟨Y4, by rw [← e1]; exact Blk.new _ _ _, hY4⟩, (((Below.refl _ _).alloc (Nat.le_refl _) _).alloc (by simp) _)⟩
    have HB3 := Lib.hid hf.1
    obtain ⟨rs4, hrs4, hrz4⟩ := hf.2.1
    have HB4 := Lib.hid hrs4
    have HRZ4 := Lib.hid hrz4
    have HBW := Lib.hid hf.2.2
    have HG3 := Lib.hid (show w.heap.size ≤ g3 by omega)
    have HG4 := Lib.hid (show w.heap.size ≤ g4 by omega)
    clear hf hw1 hrs4 hrz4
    rw [hg4, hg3]
    clear hg3 hg4
    have hs0 := HB3.out.cell 0
    have hs1 := HB3.out.cell 1
    have hs2 := HB3.out.cell 2
    have hs3 := HB3.out.cell 3
    simp at hs0 hs1 hs2 hs3
    go_wp2_with fail
    with_reducible refine (HRC.out w3).mono ?_
    rintro e w4 ⟨rfl, hb⟩
    replace HB4 := Lib.hid (HB4.out.below hb HB4.out.lt)
    replace HBW := Lib.hid (HBW.out.trans (hb.mono HBW.out.size))
    clear hb HRC hs0 hs1 hs2 hs3 HB3
    go_upto_region 2 with (with_reducible refine wpList_store_blk rfl 29 (.tmp 6) (.tmp 13) rfl w4.heap.size Q rfl rfl 29 _ (Blk.new _ _ _) (by rw [HZQ.out]; kernel_rfl) (by rw [HZQ.out]; kernel_rfl) HOQ.out ?_)
    generalize hwn : World.setRow _ _ _ = w5
    have hal : Below w4.heap.size w4 w5 := by
      rw [← hwn]
      exact below_row ((Below.refl _ _).alloc (Nat.le_refl _) _) (by simp) (Nat.le_refl _) _
    have HB6 := Lib.hid (show Blk w5 w4.heap.size Q 29 by
      rw [← hwn]
      exact (Blk.new _ _ _).row _)
    obtain ⟨g6, hgn⟩ : ∃ g, w4.heap.size = g := ⟨_, rfl⟩
    replace HB4 := Lib.hid (HB4.out.below hal HB4.out.lt)
    replace HBW := Lib.hid (HBW.out.trans (hal.mono HBW.out.size))
    rw [hgn] at HB6 ⊢
    clear hal hwn hgn
    go_wp2_with (first
      | (with_reducible refine wpList_build_zero rfl rfl Q HEQ.out ?_)
      | (with_reducible refine wpList_store_blk rfl 29 (.tmp 4) (.tmp 17) rfl g4 Q rfl rfl 29 rs4 HB4.out (by rw [HZQ.out]; kernel_rfl) (by rw [HZQ.out, HRZ4.out]) HOQ.out ?_))
    refine bodyPost_ret (v := .tuple #[.agg Q, .bool false]) (results_cell_tmp (p := 4) (q := 5) (ty := 29) (by kernel_rfl) _ _ g4 29 _ (0, 0) _ (.bool false) rfl rfl (HB4.out.row Q) Tryd.underlying29 rfl (by rw [HZQ.out]; kernel_rfl)) rfl ⟨rfl, below_row HBW.out HBW.out.size HG4.out _⟩
set_option maxRecDepth 100000 in
set_option maxHeartbeats 8000000 in
theorem pverify9_any (fp : List UInt8) (A : Option Addr) (n c : Nat) (m : List UInt8) (s : SigV) (V P : Option Addr) (nv cv np cp : Nat) (w : World) (hn : m.length = n) (h1 : n ≤ 1000) (hc : n ≤ c) (hcm : c ≤ maxLen) (hr : Rd w w.heap.size A m) (hv : HV w (.slice V nv cv) s.vs) (hvl : s.vs.length = nv) (hp : HV w (.slice P np cp) s.ps) (hpl : s.ps.length = np) (hnp : np ≤ 1024) (htab : Pow10 w.heap.size w) (hfp : fp.length = 32) :
    Calls Tryd.prog 15 #[.agg (u8A fp), .slice A n c, .agg (sigA s.h s.l V P nv cv np cp)] w fun e w' => e = .returned (.bool (decide (verP fp m s))) ∧ Below w.heap.size w w' := by
  obtain ⟨FA, hFA⟩ : ∃ x, u8A fp = x := ⟨_, rfl⟩
  have HEFA := Lib.hid hFA
  have HZFA := Lib.hid (show FA.size = 32 by rw [← hFA, u8A_size]; exact hfp)
  have HOFA := Lib.hid (show FA.all (·.oneCell') = true by rw [← hFA]; exact u8A_one _)
  obtain ⟨sh, sl, vs, ps⟩ := s
  have HTAB := Lib.hid htab
  have HFP := Lib.hid hfp
  obtain ⟨R, hR⟩ : ∃ x, u8A (rootX m ⟨sh, sl, vs, ps⟩) = x := ⟨_, rfl⟩
  have HER := Lib.hid hR
  have HZR := Lib.hid (show R.size = 32 by rw [← hR, u8A_size]; exact rootX_len _ _)
  have HOR := Lib.hid (show R.all (·.oneCell') = true by rw [← hR]; exact u8A_one _)
  have HRL := Lib.hid (rootX_len m ⟨sh, sl, vs, ps⟩)
  have HVE := Lib.hid (show verP fp m ⟨sh, sl, vs, ps⟩ ↔ sigOK ⟨sh, sl, vs, ps⟩ ∧ printH sh (rootX m ⟨sh, sl, vs, ps⟩) = fp from by
    unfold verP
    constructor
    · rintro ⟨h1, h2⟩
      exact ⟨h1, by rw [rootX_yes h1]; exact h2⟩
    · rintro ⟨h1, h2⟩
      exact ⟨h1, by rw [rootX_yes h1] at h2; exact h2⟩)
  have HHB := Lib.hid (fun h : sigOK ⟨sh, sl, vs, ps⟩ => (show sh ≤ 4 from h.2.1))
  obtain ⟨ok, hok⟩ : ∃ b, decide (sigOK ⟨sh, sl, vs, ps⟩) = b := ⟨_, rfl⟩
  have HRO := Lib.hid (fun W (hW : Below w.heap.size w W) => (show Calls Tryd.prog 43 #[.slice A n c, .agg (sigA sh sl V P nv cv np cp)] W fun e w' => e = .returned (.tuple #[.agg R, .bool ok]) ∧ Below W.heap.size W w' from by
    have h := prootof9_any A n c m ⟨sh, sl, vs, ps⟩ V P nv cv np cp W hn h1 hc hcm (hr.on hW) (hv.on hW) hvl (hp.on hW) hpl hnp (tab_on htab hW hW.size)
    rw [hR, hok] at h
    exact h))
  generalize rootX m ⟨sh, sl, vs, ps⟩ = rt at *
  rw [hFA]
  clear hFA hr hv hp hn hvl hpl htab hfp
  go_enter Tryd.func15, Tryd.ntmps15
  go_upto_region 1 with fail
  generalize hw1 : World.alloc _ _ = w3
  obtain ⟨g3, hg3⟩ : ∃ g, w.heap.size = g := ⟨_, rfl⟩
  obtain ⟨g5, hg5⟩ : ∃ g, w.heap.size + 1 = g := ⟨_, rfl⟩
  have hf : Blk w3 g3 FA 29 ∧ Blk w3 g5 (sigA sh sl V P nv cv np cp) 35 ∧ Below w.heap.size w w3 := by
    have hw : w3 = ((w.alloc (.cells FA 29)).alloc (.cells (sigA sh sl V P nv cv np cp) 35)) := hw1.symm
    have e1 : (w.alloc (.cells FA 29)).heap.size = w.heap.size + 1 := by simp
    rw [hw, ← hg3, ← hg5]
    exact ⟨by exact (Blk.new _ _ _).alloc _, by rw [← e1]; exact Blk.new _ _ _, (((Below.refl _ _).alloc (Nat.le_refl _) _).alloc (by simp) _)⟩
  have HB3 := Lib.hid hf.1
  have HB5 := Lib.hid hf.2.1
  have HBW := Lib.hid hf.2.2
  have HG3 := Lib.hid (show w.heap.size ≤ g3 by omega)
  have HG5 := Lib.hid (show w.heap.size ≤ g5 by omega)
  clear hf hw1
  rw [hg5, hg3]
  clear hg3 hg5
  go_wp2_with (with_reducible refine wpList_load_blk rfl 35 (.tmp 5) rfl g5 rfl 35 (sigA sh sl V P nv cv np cp) _ HB5.out Tryd.underlying35 rfl (sigA_info _ _ _ _ _ _ _ _) ?_)
  with_reducible refine (HRO.out w3 HBW.out).mono ?_
  rintro e w4 ⟨rfl, hb⟩
  replace HB3 := Lib.hid (HB3.out.below hb HB3.out.lt)
  replace HB5 := Lib.hid (HB5.out.below hb HB5.out.lt)
  replace HBW := Lib.hid (HBW.out.trans (hb.mono HBW.out.size))
  clear hb HRO
  go_upto_region 2 with (with_reducible refine wpList_store_blk rfl 29 (.tmp 7) (.tmp 13) rfl w4.heap.size R rfl rfl 29 _ (Blk.new _ _ _) (by rw [HZR.out]; kernel_rfl) (by rw [HZR.out]; kernel_rfl) HOR.out ?_)
  generalize hwn : World.setRow _ _ _ = w5
  have hal : Below w4.heap.size w4 w5 := by
    rw [← hwn]
    exact below_row ((Below.refl _ _).alloc (Nat.le_refl _) _) (by simp) (Nat.le_refl _) _
  have HB7 := Lib.hid (show Blk w5 w4.heap.size R 29 by
    rw [← hwn]
    exact (Blk.new _ _ _).row _)
  obtain ⟨g7, hgn⟩ : ∃ g, w4.heap.size = g := ⟨_, rfl⟩
  replace HB3 := Lib.hid (HB3.out.below hal HB3.out.lt)
  replace HB5 := Lib.hid (HB5.out.below hal HB5.out.lt)
  replace HBW := Lib.hid (HBW.out.trans (hal.mono HBW.out.size))
  rw [hgn] at HB7 ⊢
  clear hal hwn hgn
  cases ok with
  | false =>
    have hno : ¬ verP fp m ⟨sh, sl, vs, ps⟩ := fun h => of_decide_eq_false hok (HVE.out.1 h).1
    go_wp2_with fail
    go_quiet (fail)
    replace HBW := Lib.hid (below_drewN HBW.out nq)
    go_wp2_with fail
    go_ret
    exact ⟨ret_bool (decide_eq_false hno).symm, HBW.out⟩
  | true =>
    have hsk := of_decide_eq_true hok
    have hsh := HHB.out hsk
    obtain ⟨z, hz⟩ : ∃ z, printH sh rt = z := ⟨_, rfl⟩
    have hzl : z.length = 32 := by rw [← hz]; exact printH_len _ _
    obtain ⟨Z, hZ⟩ : ∃ x, u8A z = x := ⟨_, rfl⟩
    have HEZ := Lib.hid hZ
    have HZZ := Lib.hid (show Z.size = 32 by rw [← hZ, u8A_size]; exact hzl)
    have HOZ := Lib.hid (show Z.all (·.oneCell') = true by rw [← hZ]; exact u8A_one _)
    obtain ⟨rr, hrr⟩ : ∃ b, decide (z = fp) = b := ⟨_, rfl⟩
    have HRR := Lib.hid (show rr = decide (verP fp m ⟨sh, sl, vs, ps⟩) by
      rw [← hrr]
      congr 1
      exact propext ⟨fun h => HVE.out.2 ⟨hsk, by rw [hz]; exact h⟩, fun h => by rw [← hz]; exact (HVE.out.1 h).2⟩)
    have HPO := Lib.hid (fun W (hW : Below w.heap.size w W) => (show Calls Tryd.prog 40 #[.int .i64 sh, .agg R] W fun e w' => e = .returned (.agg Z) ∧ Below W.heap.size W w' from by
      rw [← HER.out, ← hZ, ← hz]
      exact pprintof9_any sh rt W HRL.out (by omega) (tab_on HTAB.out hW hW.size)))
    have HEQ := Lib.hid (fun W => (show (Op.equalIn 10000 29 (.agg Z) (.agg FA)).run Tryd.prog W = .ok rr W by rw [← hZ, ← HEFA.out, run_hash_eq W _ _ hzl HFP.out, hrr]))
    have HC0 := Lib.hid (fun W (hW : Below w5.heap.size w5 W) => (show W.cell? ⟨g5, 0, none⟩ = some (.int .i64 sh) by rw [(HB5.out.below hW HB5.out.lt).cell 0]; rfl))
    have HB3F := Lib.hid (fun W (hW : Below w5.heap.size w5 W) => HB3.out.below hW HB3.out.lt)
    have HB7F := Lib.hid (fun W (hW : Below w5.heap.size w5 W) => HB7.out.below hW HB7.out.lt)
    clear hok hsk hsh hz hzl hrr hZ hR HB3 HB5 HB7 HVE HHB
    go_wp2_with fail
    refine wp_region_loose 9 1 (fun i => false) (promises [.is (.bool true), .is (.bool true), .is (.pointer (some ⟨g5, 0, none⟩)), .is (.int .i64 sh), .is (.agg R), .is (.agg Z), .is (.agg FA), .is (.bool rr), .is (.bool rr)]) (by kernel_rfl) rfl (by kernel_rfl) (fun i v w w' h hb => Spec.keep h hb) ⟨?_, ?_, ?_, ?_, ?_, ?_, ?_, ?_, ?_, trivial⟩ ?_
    · refine StepOKl.of ?_
      intro ac w hb hu hk
      refine ⟨wanted_none rfl, ?_⟩
      have e8 : ac.eval (.tmp 8) = .bool true := hu.is (t := 8) (by kernel_rfl)
      exact step_value (BigFrame.run_move (.tmp 8) rfl w) (Below.refl _ _) e8
    · refine StepOKl.of ?_
      intro ac w hb hu hk
      refine ⟨wanted_none rfl, ?_⟩
      have e15 : ac.eval (.tmp 15) = (.bool true) := (hk ⟨0, .data⟩ (by simp) rfl).is rfl rfl
      exact step_value (BigFrame.run_move (.tmp 15) rfl w) (Below.refl _ _) e15
    · refine StepOKl.of ?_
      intro ac w hb hu hk
      refine ⟨wanted_some rfl (hk ⟨1, .guard⟩ (by simp) rfl) rfl rfl (fun _ h => h), ?_⟩
      have e5 : ac.eval (.tmp 5) = .pointer (some ⟨g5, 0, none⟩) := hu.is (t := 5) (by kernel_rfl)
      refine step_value (w' := w) (v := (.pointer (some ⟨g5, 0, none⟩))) ?_ (Below.refl _ _) rfl
      generalize ac.eval = ρ at e5 ⊢
      go_simp
    · refine StepOKl.of ?_
      intro ac w hb hu hk
      refine ⟨wanted_some rfl (hk ⟨1, .guard⟩ (by simp) rfl) rfl rfl (fun _ h => h), ?_⟩
      have e17 : ac.eval (.tmp 17) = (.pointer (some ⟨g5, 0, none⟩)) := (hk ⟨2, .data⟩ (by simp) rfl).is rfl rfl
      have hc := HC0.out w hb
      refine step_value (w' := w) (v := .int .i64 sh) ?_ (Below.refl _ _) rfl
      generalize ac.eval = ρ at e17 ⊢
      go_simp
    · refine StepOKl.of ?_
      intro ac w hb hu hk
      refine ⟨wanted_some rfl (hk ⟨1, .guard⟩ (by simp) rfl) rfl rfl (fun _ h => h), ?_⟩
      have e7 : ac.eval (.tmp 7) = .pointer (some ⟨g7, 0, none⟩) := hu.is (t := 7) (by kernel_rfl)
      exact wp_load_row 29 (.tmp 7) rfl g7 e7 29 R (0, 0) _ (HB7F.out w hb) Tryd.underlying29 rfl (by rw [HZR.out]; kernel_rfl) ⟨_, rfl, rfl, Below.refl _ _⟩
    · refine StepOKl.of ?_
      intro ac w hb hu hk
      refine ⟨wanted_some rfl (hk ⟨1, .chain⟩ (by simp) rfl) rfl rfl (fun _ h => h), ?_⟩
      have e18 : ac.eval (.tmp 18) = (.int .i64 sh) := (hk ⟨3, .data⟩ (by simp) rfl).is rfl rfl
      have e19 : ac.eval (.tmp 19) = (.agg R) := (hk ⟨4, .data⟩ (by simp) rfl).is rfl rfl
      have ef : ac.eval (.func 40) = .func (.func 40) #[] #[] := rfl
      refine step_enter (f := 40) (args := #[.int .i64 sh, .agg R]) ?_ ?_
      · generalize ac.eval = ρ at e18 e19 ef ⊢
        go_simp
      · exact (HPO.out w (HBW.out.trans (hb.mono HBW.out.size))).mono fun e w' ⟨he, hq⟩ => ⟨_, he, rfl, hq⟩
    · refine StepOKl.of ?_
      intro ac w hb hu hk
      refine ⟨wanted_some rfl (hk ⟨1, .guard⟩ (by simp) rfl) rfl rfl (fun _ h => h), ?_⟩
      have e3 : ac.eval (.tmp 3) = .pointer (some ⟨g3, 0, none⟩) := hu.is (t := 3) (by kernel_rfl)
      exact wp_load_row 29 (.tmp 3) rfl g3 e3 29 FA (0, 0) _ (HB3F.out w hb) Tryd.underlying29 rfl (by rw [HZFA.out]; kernel_rfl) ⟨_, rfl, rfl, Below.refl _ _⟩
    · refine StepOKl.of ?_
      intro ac w hb hu hk
      refine ⟨wanted_some rfl (hk ⟨1, .guard⟩ (by simp) rfl) rfl rfl (fun _ h => h), ?_⟩
      have e20 : ac.eval (.tmp 20) = (.agg Z) := (hk ⟨5, .data⟩ (by simp) rfl).is rfl rfl
      have e21 : ac.eval (.tmp 21) = (.agg FA) := (hk ⟨6, .data⟩ (by simp) rfl).is rfl rfl
      refine step_value (w' := w) (v := .bool rr) ?_ (Below.refl _ _) rfl
      have hq := HEQ.out w
      generalize ac.eval = ρ at e20 e21 ⊢
      go_simp
    · refine StepOKl.of ?_
      intro ac w hb hu hk
      refine ⟨wanted_none rfl, ?_⟩
      have e16 : ac.eval (.tmp 16) = (.bool true) := (hk ⟨1, .data⟩ (by simp) rfl).is rfl rfl
      have e22 : ac.eval (.tmp 22) = (.bool rr) := (hk ⟨7, .data⟩ (by simp) rfl).is rfl rfl
      exact step_value (run_pick_true e16 rfl w) (Below.refl _ _) e22
    · intro ac w' hb hu hk hap
      obtain ⟨_, h15, rfl⟩ := (hk 0 (by decide)).put rfl rfl
      obtain ⟨_, h16, rfl⟩ := (hk 1 (by decide)).put rfl rfl
      obtain ⟨_, h17, rfl⟩ := (hk 2 (by decide)).put rfl rfl
      obtain ⟨_, h18, rfl⟩ := (hk 3 (by decide)).put rfl rfl
      obtain ⟨_, h19, rfl⟩ := (hk 4 (by decide)).put rfl rfl
      obtain ⟨_, h20, rfl⟩ := (hk 5 (by decide)).put rfl rfl
      obtain ⟨_, h21, rfl⟩ := (hk 6 (by decide)).put rfl rfl
      obtain ⟨_, h22, rfl⟩ := (hk 7 (by decide)).put rfl rfl
      obtain ⟨_, h23, rfl⟩ := (hk 8 (by decide)).put rfl rfl
      clear hap
      have hF : AllPuts ac.tmps ((15, _) :: (16, _) :: (17, _) :: (18, _) :: (19, _) :: (20, _) :: (21, _) :: (22, _) :: (23, _) :: []) := ⟨h15, h16, h17, h18, h19, h20, h21, h22, h23, trivial⟩
      obtain rfl := frame_puts hu (by kernel_rfl) hF
      simp only [puts, Act.put, List.setIfInBounds_toArray, List.set_cons_zero, List.set_cons_succ, List.drop_succ_cons, List.drop_zero]
      clear hk hu hF h15 h16 h17 h18 h19 h20 h21 h22 h23
      have HBE := Lib.hid (HBW.out.trans (hb.mono HBW.out.size))
      clear hb
      go_wp2_with fail
      go_ret
      exact ⟨ret_bool HRR.out, HBE.out⟩
end Go.Proofs.YtfgieebccjoboaaDoor
