/- WotsBack: a signature leads back to the public hash; of another message it does as well where the digits are one, else each message has a digit below the other one. For all seeds, leaves and messages. -/
import Derived.Test.YtciflbkgfmbfdaaDoorLaw
import Derived.Test.YtciflbkgfmbfdaaDoorKeep
import Derived.Test.YtciflbkgfmbfdaaDoorWakes8
import Derived.Test.YtciflbkgfmbfdaaDoorWotsD
import Derived.Test.YtciflbkgfmbfdaaDoorHashD
namespace Go.Proofs.YtciflbkgfmbfdaaDoor.wotsBack
open Go.ChangeShapes Go.WideShapes Go.ChangeAt Go.RowKit

set_option maxRecDepth 100000 in
set_option maxHeartbeats 16000000 in
theorem wpList_load_when8 {P : Program} {w : World} {ops : Array Oper} {rest : List Oper} {o : Oper} {a : Act} {Q : Exit → Act → World → Prop} (hw : Region.wanted o (yielded ops a.tmps) = true) (ty : TypeId) (x : Operand) (ho : o.op = .load ty x)
    (g : Nat) (hx : a.eval x = .pointer (some ⟨g, 0, none⟩)) (t : TypeId) (cs : Array Value) (d : TypeDesc) (hg : Blk w g cs t) (hu : P.underlying ty = some d) (hd : (match d with | .struct _ | .array _ _ => true | _ => false) = true) (hi : (P.info? ty).map (·.size) = some cs.size)
    (hk : wpList P ops Q rest (a.put o.dst (.agg cs)) w) : wpList P ops Q (o :: rest) a w :=
  wpList_step fun K hK => by
    rw [if_pos hw]
    exact wp_load_row ty x ho g hx t cs (0, 0) d hg hu hd hi (hK _ _ hk)
theorem wpList_load_w8 {w : World} {ops : Array Oper} {rest : List Oper} {o : Oper} {a : Act} {Q : Exit → Act → World → Prop} (x : Operand) (ho : o.op = .load 34 x)
    (g : Nat) (hx : a.eval x = .pointer (some ⟨g, 0, none⟩)) (cs : Array Value) (hg : Blk w g cs 34) (hz : cs.size = 32)
    (hw : Region.wanted o (yielded ops a.tmps) = true) (hk : wpList Tryd.prog ops Q rest (a.put o.dst (.agg cs)) w) : wpList Tryd.prog ops Q (o :: rest) a w :=
  wpList_load_when8 hw 34 x ho g hx 34 cs _ hg Tryd.underlying34 rfl (by rw [hz]; kernel_rfl) hk
theorem flags_next {D E : List Nat} {i : Nat} {lf mf a b : Bool} (h : (∀ j, j < i → D.getD j 0 < E.getD j 0 → lf = true) ∧ (∀ j, j < i → E.getD j 0 < D.getD j 0 → mf = true)) (ha : a = (lf || decide (D.getD i 0 < E.getD i 0))) (hb : b = (mf || decide (E.getD i 0 < D.getD i 0))) :
    (∀ j, j < i + 1 → D.getD j 0 < E.getD j 0 → a = true) ∧ (∀ j, j < i + 1 → E.getD j 0 < D.getD j 0 → b = true) := by
  refine ⟨fun j hj hlt => ?_, fun j hj hlt => ?_⟩
  · by_cases he : j = i
    · subst he
      rw [ha, decide_eq_true hlt, Bool.or_true]
    · rw [ha, h.1 j (by omega) hlt, Bool.true_or]
  · by_cases he : j = i
    · subst he
      rw [hb, decide_eq_true hlt, Bool.or_true]
    · rw [hb, h.2 j (by omega) hlt, Bool.true_or]
theorem both_less {D E : List Nat} {h k : List UInt8} (hD : D = digH (msgH h)) (hE : E = digH (msgH k)) (hne : D ≠ E) :
    (∃ i, i < D.length ∧ D.getD i 0 < E.getD i 0) ∧ (∃ i, i < D.length ∧ E.getD i 0 < D.getD i 0) := by
  subst hD hE
  exact wots.less_both (by rw [wots.hexD_len, wots.hexD_len, msgH_len, msgH_len]) (wots.hexD_small _) (wots.hexD_small _) hne
theorem ends_sign (sd : List UInt8) (leaf : Int) {h : List UInt8} (hh : h.length = 32) : atL (endF (digH h) (atL (signF sd leaf (digH h)) 67)) 67 = endsL sd leaf 67 := by
  refine atL_congr fun i hi => ?_
  unfold endF
  rw [atL_get _ hi]
  exact wots.along_rest stepH (digH_at hh i) _
set_option maxRecDepth 100000 in
set_option maxHeartbeats 16000000 in
theorem walk (sd : List UInt8) (leaf : Int) (A : Option Addr) (n c : Nat) (m : List UInt8) (A2 : Option Addr) (n2 c2 : Nat) (m2 : List UInt8) (w : World) (hs : sd.length = 16) (_hl0 : -9223372036854775808 ≤ leaf) (hl1 : leaf ≤ 9223372036854775807) (hn0 : m.length = n) (hc0 : n ≤ c) (hcm : c ≤ maxLen) (hr0 : Rd w w.heap.size A m) (hn1 : m2.length = n2) (hc1 : n2 ≤ c2) (hcm2 : c2 ≤ maxLen) (hr1 : Rd w w.heap.size A2 m2) (htab : Pow10 w.heap.size w) :
    Calls Tryd.prog 8 #[.agg (u8A sd), .int .i64 leaf, .slice A n c, .slice A2 n2 c2] w fun e w' => e = .returned (.bool true) ∧ Below w.heap.size w w' := by
  obtain ⟨M0, hM0⟩ : ∃ M, min n 60 = M := ⟨_, rfl⟩
  have HCB0 := Lib.hid (fun W => (show Calls Tryd.prog 11 #[.slice A n c, .int .i64 60] W fun e W' => e = .returned (.slice A M0 c) ∧ W = W' from by
    rw [← hM0]
    exact cut_any A n c 60 W hc0))
  have hMk0 : M0 ≤ 60 := by omega
  have hMc0 : M0 ≤ c := by omega
  obtain ⟨bl0, hbl0⟩ : ∃ x, m.take 60 = x := ⟨_, rfl⟩
  have hbn0 : bl0.length = M0 := by rw [← hbl0, List.length_take, hn0]; omega
  have hbr0 : Rd w w.heap.size A bl0 := by rw [← hbl0]; exact hr0.take 60
  obtain ⟨M1, hM1⟩ : ∃ M, min n2 60 = M := ⟨_, rfl⟩
  have HCB1 := Lib.hid (fun W => (show Calls Tryd.prog 11 #[.slice A2 n2 c2, .int .i64 60] W fun e W' => e = .returned (.slice A2 M1 c2) ∧ W = W' from by
    rw [← hM1]
    exact cut_any A2 n2 c2 60 W hc1))
  have hMk1 : M1 ≤ 60 := by omega
  have hMc1 : M1 ≤ c2 := by omega
  obtain ⟨bl1, hbl1⟩ : ∃ x, m2.take 60 = x := ⟨_, rfl⟩
  have hbn1 : bl1.length = M1 := by rw [← hbl1, List.length_take, hn1]; omega
  have hbr1 : Rd w w.heap.size A2 bl1 := by rw [← hbl1]; exact hr1.take 60
  obtain ⟨X, hX⟩ : ∃ X, u8A sd = X := ⟨_, rfl⟩
  have HEX := Lib.hid hX
  have HXS := Lib.hid (show X.size = 16 by rw [← hX, u8A_size]; exact hs)
  obtain ⟨Dg, hDg⟩ : ∃ D, digH (msgH bl0) = D := ⟨_, rfl⟩
  obtain ⟨Eg, hEg⟩ : ∃ D, digH (msgH bl1) = D := ⟨_, rfl⟩
  have HDL := Lib.hid (show Dg.length = 67 by rw [← hDg]; exact digH_len (msgH_len bl0))
  have HLB := Lib.hid (fun h : Dg ≠ Eg => both_less (hDg.symm) (hEg.symm) h)
  obtain ⟨sg, hsg⟩ : ∃ E, atL (signF sd leaf Dg) 67 = E := ⟨_, rfl⟩
  have hen : atL (endF Dg sg) 67 = endsL sd leaf 67 := by
    rw [← hsg, ← hDg]
    exact ends_sign sd leaf (msgH_len bl0)
  obtain ⟨P, hP⟩ : ∃ X, u8A (pubH (endsL sd leaf 67)) = X := ⟨_, rfl⟩
  have HEP := Lib.hid hP
  have HPS := Lib.hid (show P.size = 32 by rw [← hP, u8A_size]; exact pubH_len _)
  have HPO := Lib.hid (show P.all (·.oneCell') = true by rw [← hP]; exact u8A_one _)
  have HQ1 := Lib.hid (fun W => (show (Op.equalIn 10000 34 (.agg P) (.agg P)).run Tryd.prog W = .ok true W by rw [← hP, run_hash_eq W _ _ (pubH_len _) (pubH_len _), decide_eq_true rfl]))
  have HQP := Lib.hid (fun W => (show (Op.equalIn 10000 34 (.agg P) (.agg P)).run Tryd.prog W = .ok true W from HQ1.out W))
  have HTAB := Lib.hid htab
  rw [hX]
  go_enter Tryd.func8, Tryd.ntmps8
  go_upto_region 1 with fail
  generalize hw3 : World.alloc _ _ = w3
  obtain ⟨g1, hg1⟩ : ∃ g, w.heap.size = g := ⟨_, rfl⟩
  have hf : Blk w3 g1 X 23 ∧ Below w.heap.size w w3 := by
    rw [← hw3, ← hg1]
    exact ⟨Blk.new w _ _, (Below.refl _ _).alloc (Nat.le_refl _) _⟩
  have HB1 := Lib.hid hf.1
  have HB3 := Lib.hid hf.2
  clear hf hw3
  rw [hg1]
  clear hg1
  have HBX0 := Lib.hid (fun W (hW : Below w3.heap.size w3 W) => HB1.out.below hW HB1.out.lt)
  have HSG := Lib.hid (fun W (hW : Below w3.heap.size w3 W) => (show Calls Tryd.prog 12 #[.agg X, .int .i64 leaf, .slice A M0 c] W fun e w' => ∃ X x, e = .returned (.slice X 67 x) ∧ 67 ≤ x ∧ HV w' (.slice X 67 x) sg ∧ Below W.heap.size W w' from by
    have hb2 := HB3.out.trans (hW.mono HB3.out.size)
    rw [← hX, ← hsg, ← hDg]
    refine (psign_any sd leaf A M0 c bl0 W hs hl1 hbn0 (by omega) hMc0 hcm (hbr0.on hb2) (tab_on HTAB.out hb2 hb2.size)).mono ?_
    rintro e w' ⟨v, rfl, ho, hb⟩
    obtain ⟨X, x, rfl, hx, _⟩ := ho.form (atL_len _ _)
    exact ⟨X, x, rfl, hx, ho.hv, hb⟩))
  have HRE1 := Lib.hid (fun V x W (hW : Below w3.heap.size w3 W) (hv : HV W (.slice V 67 x) sg) => (show Calls Tryd.prog 30 #[.slice A M0 c, .slice V 67 x] W fun e w' => e = .returned (.tuple #[.agg P, .bool true]) ∧ Below W.heap.size W w' from by
    have hb2 := HB3.out.trans (hW.mono HB3.out.size)
    rw [← hP, ← hen, ← hDg]
    exact prec_yes A M0 c bl0 V x sg W hbn0 (by omega) hMc0 hcm (hbr0.on hb2) hv (tab_on HTAB.out hb2 hb2.size)))
  have HRE2 := Lib.hid (fun (hde : Dg = Eg) V x W (hW : Below w3.heap.size w3 W) (hv : HV W (.slice V 67 x) sg) => (show Calls Tryd.prog 30 #[.slice A2 M1 c2, .slice V 67 x] W fun e w' => e = .returned (.tuple #[.agg P, .bool true]) ∧ Below W.heap.size W w' from by
    have hb2 := HB3.out.trans (hW.mono HB3.out.size)
    rw [← hP, ← hen, hde, ← hEg]
    exact prec_yes A2 M1 c2 bl1 V x sg W hbn1 (by omega) hMc1 hcm2 (hbr1.on hb2) hv (tab_on HTAB.out hb2 hb2.size)))
  have HDG1 := Lib.hid (fun W (hW : Below w3.heap.size w3 W) => (show Calls Tryd.prog 14 #[.slice A M0 c] W fun e w' => ∃ X x, e = .returned (.slice X 67 x) ∧ DV w' (.slice X 67 x) Dg ∧ Below W.heap.size W w' from by
    have hb2 := HB3.out.trans (hW.mono HB3.out.size)
    rw [← hDg]
    refine (pdigits_any A M0 c bl0 W hbn0 (by omega) hMc0 hcm (hbr0.on hb2) (tab_on HTAB.out hb2 hb2.size)).mono ?_
    rintro e w' ⟨v, rfl, ho, hb⟩
    obtain ⟨X, x, rfl, _, _⟩ := ho.form (digH_len (msgH_len _))
    exact ⟨X, x, rfl, ho.dv, hb⟩))
  have HDG2 := Lib.hid (fun W (hW : Below w3.heap.size w3 W) => (show Calls Tryd.prog 14 #[.slice A2 M1 c2] W fun e w' => ∃ X x, e = .returned (.slice X 67 x) ∧ DV w' (.slice X 67 x) Eg ∧ Below W.heap.size W w' from by
    have hb2 := HB3.out.trans (hW.mono HB3.out.size)
    rw [← hEg]
    refine (pdigits_any A2 M1 c2 bl1 W hbn1 (by omega) hMc1 hcm2 (hbr1.on hb2) (tab_on HTAB.out hb2 hb2.size)).mono ?_
    rintro e w' ⟨v, rfl, ho, hb⟩
    obtain ⟨X, x, rfl, _, _⟩ := ho.form (digH_len (msgH_len _))
    exact ⟨X, x, rfl, ho.dv, hb⟩))
  have HPU0 := Lib.hid (fun W (hW : Below w3.heap.size w3 W) => (show Calls Tryd.prog 24 #[.agg X, .int .i64 leaf] W fun e w' => e = .returned (.agg P) ∧ Below W.heap.size W w' from by
    rw [← hX, ← hP]
    have hb2 := HB3.out.trans (hW.mono HB3.out.size)
    exact ppublic_any sd leaf W hs hl1 (tab_on HTAB.out hb2 hb2.size)))
  clear hX hP hen hsg hDg hEg hM0 hbl0 hbn0 hbr0 hn0 hr0 hM1 hbl1 hbn1 hbr1 hn1 hr1 htab
  go_wp2_with fail
  with_reducible refine (HCB0.out _).mono ?_
  rintro e wx ⟨rfl, rfl⟩
  go_wp2_with fail
  with_reducible refine (HCB1.out _).mono ?_
  rintro e wx ⟨rfl, rfl⟩
  clear HCB0 HCB1
  go_wp2_with (with_reducible refine wpList_load_blk rfl 23 (.tmp 4) rfl g1 rfl 23 X _ HB1.out Tryd.underlying23 rfl (by rw [HXS.out]; kernel_rfl) ?_)
  with_reducible refine (HSG.out _ (Below.refl _ _)).mono ?_
  rintro e w4 ⟨Xs, x1, rfl, hx1, hvs, hb4⟩
  have HVS := Lib.hid hvs
  have HBQ := Lib.hid hb4
  clear hvs hb4 HSG
  go_wp2_with fail
  with_reducible refine (HRE1.out Xs x1 w4 HBQ.out HVS.out).mono ?_
  rintro e w5 ⟨rfl, hbn⟩
  replace HVS := Lib.hid (HVS.out.on hbn)
  replace HBQ := Lib.hid (HBQ.out.trans (hbn.mono HBQ.out.size))
  clear hbn HRE1
  go_upto_region 4 with (with_reducible refine wpList_store_blk rfl 34 (.tmp 10) (.tmp 31) rfl w5.heap.size P rfl rfl 34 _ (Blk.new _ _ _) (by rw [HPS.out]; kernel_rfl) (by rw [HPS.out]; kernel_rfl) HPO.out ?_)
  generalize hwn : World.setRow _ _ _ = wq
  have hal : Below w5.heap.size w5 wq := by
    rw [← hwn]
    exact below_row ((Below.refl _ _).alloc (Nat.le_refl _) _) (by simp) (Nat.le_refl _) _
  have HB10 := Lib.hid (show Blk wq w5.heap.size P 34 by
    rw [← hwn]
    exact (Blk.new _ _ _).row _)
  obtain ⟨g10, hgn⟩ : ∃ g, w5.heap.size = g := ⟨_, rfl⟩
  replace HBQ := Lib.hid (HBQ.out.trans (hal.mono HBQ.out.size))

  replace HVS := Lib.hid (HVS.out.on hal)
  rw [hgn] at HB10 ⊢
  clear hal hwn hgn

  have HBP := Lib.hid (fun W (hW : Below wq.heap.size wq W) => HB10.out.below hW HB10.out.lt)
  have HBX := Lib.hid (fun W (hW : Below wq.heap.size wq W) => HBX0.out W (HBQ.out.trans (hW.mono HBQ.out.size)))
  have HPU := Lib.hid (fun W (hW : Below wq.heap.size wq W) => HPU0.out W (HBQ.out.trans (hW.mono HBQ.out.size)))
  go_wp2_with fail
  refine wp_region_loose 9 0 (fun i => false) (promises [.is (.bool true), .is (.bool false), .is (.bool false), .is (.agg P), .is (.agg X), .is (.int .i64 leaf), .is (.agg P), .is (.bool false), .is (.bool false)]) (by kernel_rfl) rfl (by kernel_rfl) (fun i v w w' h hb => Spec.keep h hb) ⟨?_, ?_, ?_, ?_, ?_, ?_, ?_, ?_, ?_, trivial⟩ ?_
  · refine StepOKl.of ?_
    intro ac w hb hu hk
    refine ⟨wanted_none rfl, ?_⟩
    have e11 : ac.eval (.tmp 11) = .bool true := hu.is (t := 11) (by kernel_rfl)
    exact step_value (BigFrame.run_move (.tmp 11) rfl w) (Below.refl _ _) e11
  · refine StepOKl.of ?_
    intro ac w hb hu hk
    refine ⟨wanted_none rfl, ?_⟩
    have e33 : ac.eval (.tmp 33) = (.bool true) := (hk ⟨0, .data⟩ (by simp) rfl).is rfl rfl
    exact step_value (run_not e33 rfl w) (Below.refl _ _) rfl
  · refine StepOKl.of ?_
    intro ac w hb hu hk
    refine ⟨wanted_none rfl, ?_⟩
    have e34 : ac.eval (.tmp 34) = (.bool false) := (hk ⟨1, .data⟩ (by simp) rfl).is rfl rfl
    exact step_value (BigFrame.run_move (.tmp 34) rfl w) (Below.refl _ _) e34
  · refine StepOKl.of ?_
    intro ac w hb hu hk
    refine ⟨wanted_some rfl (hk ⟨2, .guard⟩ (by simp) rfl) rfl rfl (fun _ h => h), ?_⟩
    have e10 : ac.eval (.tmp 10) = .pointer (some ⟨g10, 0, none⟩) := hu.is (t := 10) (by kernel_rfl)
    exact wp_load_row 34 (.tmp 10) rfl g10 e10 34 P (0, 0) _ (HBP.out w hb) Tryd.underlying34 rfl (by rw [HPS.out]; kernel_rfl) ⟨_, rfl, rfl, Below.refl _ _⟩
  · refine StepOKl.of ?_
    intro ac w hb hu hk
    refine ⟨wanted_some rfl (hk ⟨2, .guard⟩ (by simp) rfl) rfl rfl (fun _ h => h), ?_⟩
    have e4 : ac.eval (.tmp 4) = .pointer (some ⟨g1, 0, none⟩) := hu.is (t := 4) (by kernel_rfl)
    exact wp_load_row 23 (.tmp 4) rfl g1 e4 23 X (0, 0) _ (HBX.out w hb) Tryd.underlying23 rfl (by rw [HXS.out]; kernel_rfl) ⟨_, rfl, rfl, Below.refl _ _⟩
  · refine StepOKl.of ?_
    intro ac w hb hu hk
    refine ⟨wanted_some rfl (hk ⟨2, .guard⟩ (by simp) rfl) rfl rfl (fun _ h => h), ?_⟩
    have e1 : ac.eval (.tmp 1) = .int .i64 leaf := hu.is (t := 1) (by kernel_rfl)
    exact step_value (BigFrame.run_move (.tmp 1) rfl w) (Below.refl _ _) e1
  · refine StepOKl.of ?_
    intro ac w hb hu hk
    refine ⟨wanted_some rfl (hk ⟨2, .chain⟩ (by simp) rfl) rfl rfl (fun _ h => h), ?_⟩
    have e37 : ac.eval (.tmp 37) = (.agg X) := (hk ⟨4, .data⟩ (by simp) rfl).is rfl rfl
    have e38 : ac.eval (.tmp 38) = (.int .i64 leaf) := (hk ⟨5, .data⟩ (by simp) rfl).is rfl rfl
    have ef : ac.eval (.func 24) = .func (.func 24) #[] #[] := rfl
    refine step_enter (f := 24) (args := #[.agg X, .int .i64 leaf]) ?_ ?_
    · generalize ac.eval = ρ at e37 e38 ef ⊢
      go_simp
    · exact (HPU.out w hb).mono fun e w' ⟨he, hq⟩ => ⟨_, he, rfl, hq⟩
  · refine StepOKl.of ?_
    intro ac w hb hu hk
    refine ⟨wanted_some rfl (hk ⟨2, .guard⟩ (by simp) rfl) rfl rfl (fun _ h => h), ?_⟩
    have e36 : ac.eval (.tmp 36) = (.agg P) := (hk ⟨3, .data⟩ (by simp) rfl).is rfl rfl
    have e39 : ac.eval (.tmp 39) = (.agg P) := (hk ⟨6, .data⟩ (by simp) rfl).is rfl rfl
    refine step_value (w' := w) (v := .bool false) ?_ (Below.refl _ _) rfl
    have hq := HQP.out w
    generalize ac.eval = ρ at e36 e39 ⊢
    go_simp
  · refine StepOKl.of ?_
    intro ac w hb hu hk
    refine ⟨wanted_none rfl, ?_⟩
    have e35 : ac.eval (.tmp 35) = (.bool false) := (hk ⟨2, .data⟩ (by simp) rfl).is rfl rfl
    have e40 : ac.eval (.tmp 40) = (.bool false) := (hk ⟨7, .data⟩ (by simp) rfl).is rfl rfl
    exact step_value (run_pick_false e35 rfl w) (Below.refl _ _) e40
  · intro ac w' hb hu hk hap
    obtain ⟨_, h33, rfl⟩ := (hk 0 (by decide)).put rfl rfl
    obtain ⟨_, h34, rfl⟩ := (hk 1 (by decide)).put rfl rfl
    obtain ⟨_, h35, rfl⟩ := (hk 2 (by decide)).put rfl rfl
    obtain ⟨_, h36, rfl⟩ := (hk 3 (by decide)).put rfl rfl
    obtain ⟨_, h37, rfl⟩ := (hk 4 (by decide)).put rfl rfl
    obtain ⟨_, h38, rfl⟩ := (hk 5 (by decide)).put rfl rfl
    obtain ⟨_, h39, rfl⟩ := (hk 6 (by decide)).put rfl rfl
    obtain ⟨_, h40, rfl⟩ := (hk 7 (by decide)).put rfl rfl
    obtain ⟨_, h41, rfl⟩ := (hk 8 (by decide)).put rfl rfl
    clear hap
    have hF : AllPuts ac.tmps ((33, _) :: (34, _) :: (35, _) :: (36, _) :: (37, _) :: (38, _) :: (39, _) :: (40, _) :: (41, _) :: []) := ⟨h33, h34, h35, h36, h37, h38, h39, h40, h41, trivial⟩
    obtain rfl := frame_puts hu (by kernel_rfl) hF
    simp only [puts, Act.put, List.setIfInBounds_toArray, List.set_cons_zero, List.set_cons_succ, List.drop_succ_cons, List.drop_nil]
    clear hk hu hF h33 h34 h35 h36 h37 h38 h39 h40 h41
    have HB4b := Lib.hid hb
    clear hb
    go_wp2_with fail
    with_reducible refine (HDG1.out w' (HBQ.out.trans (HB4b.out.mono HBQ.out.size))).mono ?_
    rintro e w6 ⟨X6, x6, rfl, hd6, hbn⟩
    replace HVS := Lib.hid ((HVS.out.on HB4b.out).on hbn)
    replace HB10 := Lib.hid ((HB10.out.below HB4b.out HB10.out.lt).below hbn (HB10.out.below HB4b.out HB10.out.lt).lt)
    replace HBQ := Lib.hid ((HBQ.out.trans (HB4b.out.mono HBQ.out.size)).trans (hbn.mono (HBQ.out.trans (HB4b.out.mono HBQ.out.size)).size))
    have HD6 := Lib.hid hd6
    clear hd6 hbn HB4b
    go_wp2_with fail
    with_reducible refine (HDG2.out w6 HBQ.out).mono ?_
    rintro e w7 ⟨X7, x7, rfl, hd7, hbn⟩
    replace HVS := Lib.hid (HVS.out.on hbn)
    replace HB10 := Lib.hid (HB10.out.below hbn HB10.out.lt)
    replace HBQ := Lib.hid (HBQ.out.trans (hbn.mono HBQ.out.size))
    replace HD6 := Lib.hid (HD6.out.on hbn)
    have HD7 := Lib.hid hd7
    clear hd7 hbn HDG1 HDG2 HBP HBX HPU HB1 HBX0 HPU0 HQP
    by_cases hde : Dg = Eg
    · have HEQ := Lib.hid hde
      have HSA := Lib.hid (show Calls Tryd.prog 18 #[.slice X6 67 x6, .slice X7 67 x7] w7 fun e w' => e = .returned (.bool true) ∧ Below w7.heap.size w7 w' by
        have := ksameint_any HD6.out HD7.out (by rw [HDL.out]; omega)
        rwa [decide_eq_true hde] at this)
      have HRN := Lib.hid (fun x V W hW hv => HRE2.out hde V x W hW hv)
      clear hde HD6 HD7 HRE2
      go_wp2_with fail
      with_reducible refine (HSA.out).mono ?_
      rintro e w8 ⟨rfl, hbn⟩
      replace HVS := Lib.hid (HVS.out.on hbn)
      replace HB10 := Lib.hid (HB10.out.below hbn HB10.out.lt)
      replace HBQ := Lib.hid (HBQ.out.trans (hbn.mono HBQ.out.size))
      clear hbn HSA
      go_wp2_with fail
      with_reducible refine (HRN.out _ _ w8 HBQ.out HVS.out).mono ?_
      rintro e w9 ⟨rfl, hbn⟩
      replace HB10 := Lib.hid (HB10.out.below hbn HB10.out.lt)
      replace HBQ := Lib.hid (HBQ.out.trans (hbn.mono HBQ.out.size))
      clear hbn HRN HVS
      go_upto_region 9 with (with_reducible refine wpList_store_blk rfl 34 (.tmp 14) (.tmp 53) rfl w9.heap.size P rfl rfl 34 _ (Blk.new _ _ _) (by rw [HPS.out]; kernel_rfl) (by rw [HPS.out]; kernel_rfl) HPO.out ?_)
      generalize hwn : World.setRow _ _ _ = wz
      have hal : Below w9.heap.size w9 wz := by
        rw [← hwn]
        exact below_row ((Below.refl _ _).alloc (Nat.le_refl _) _) (by simp) (Nat.le_refl _) _
      have HB14 := Lib.hid (show Blk wz w9.heap.size P 34 by
        rw [← hwn]
        exact (Blk.new _ _ _).row _)
      obtain ⟨g14, hgn⟩ : ∃ g, w9.heap.size = g := ⟨_, rfl⟩
      replace HBQ := Lib.hid (HBQ.out.trans (hal.mono HBQ.out.size))
      replace HB10 := Lib.hid (HB10.out.below hal HB10.out.lt)
      rw [hgn] at HB14 ⊢
      clear hal hwn hgn
      have HBZ := Lib.hid (HB3.out.trans (HBQ.out.mono HB3.out.size))
      have hqp := HQ1.out
      go_wp2_with (first
        | (refine wpList_load_w8 (.tmp 14) rfl g14 rfl P HB14.out HPS.out ?_ ?_; · rfl)
        | (refine wpList_load_w8 (.tmp 10) rfl g10 rfl P HB10.out HPS.out ?_ ?_; · rfl))
      with_reducible refine (wakes8_any wz (tab_on HTAB.out HBZ.out HBZ.out.size)).mono ?_
      rintro e wk ⟨rfl, hbn⟩
      have HBU := Lib.hid (HBZ.out.trans (hbn.mono HBZ.out.size))
      clear hbn
      go_wp2_with fail
      go_ret
      exact ⟨by first | rfl | kernel_rfl, HBU.out⟩
    · have HSA := Lib.hid (show Calls Tryd.prog 18 #[.slice X6 67 x6, .slice X7 67 x7] w7 fun e w' => e = .returned (.bool false) ∧ Below w7.heap.size w7 w' by
        have := ksameint_any HD6.out HD7.out (by rw [HDL.out]; omega)
        rwa [decide_eq_false hde] at this)
      obtain ⟨⟨i1, hi1, hl1⟩, ⟨i2, hi2, hl2⟩⟩ := HLB.out hde
      have HI1 := Lib.hid (show i1 < 67 ∧ Dg.getD i1 0 < Eg.getD i1 0 from ⟨by rwa [HDL.out] at hi1, hl1⟩)
      have HI2 := Lib.hid (show i2 < 67 ∧ Eg.getD i2 0 < Dg.getD i2 0 from ⟨by rwa [HDL.out] at hi2, hl2⟩)
      clear hde HRE2 HLB hi1 hl1 hi2 hl2
      go_wp2_with fail
      with_reducible refine (HSA.out).mono ?_
      rintro e w8 ⟨rfl, hbn⟩
      have hd6 := HD6.out.on hbn
      have hd7 := HD7.out.on hbn
      have HBZ := Lib.hid (HB3.out.trans ((HBQ.out.trans (hbn.mono HBQ.out.size)).mono HB3.out.size))
      obtain ⟨b6, o6, rfl, hb6, _⟩ := hd6.at_ (i := 0) (by omega)
      obtain ⟨b7, o7, rfl, hb7, _⟩ := hd7.at_ (i := 0) (by omega)
      have HC6 := Lib.hid (fun i (hi : i < 67) => (show w8.cell? ⟨b6, o6 + i, none⟩ = some (.int .i64 ((Dg.getD i 0 : Nat) : Int)) from hd6.cells i hi))
      have HC7 := Lib.hid (fun i (hi : i < 67) => (show w8.cell? ⟨b7, o7 + i, none⟩ = some (.int .i64 ((Eg.getD i 0 : Nat) : Int)) from hd7.cells i hi))
      clear hbn HSA HD6 HD7 hd6 hd7 hb6 hb7 HVS HB10 HBQ
      go_wp2_with fail
      go_loopw [16, 17, 66] (fun x y t wq => ∃ (i q : Nat) (lf mf : Bool), i ≤ 67 ∧ t = .int .i64 (i : Int) ∧ x = .bool lf ∧ y = .bool mf ∧ Hid ((∀ j, j < i → Dg.getD j 0 < Eg.getD j 0 → lf = true) ∧ (∀ j, j < i → Eg.getD j 0 < Dg.getD j 0 → mf = true)) ∧ w8.drewN q = wq) (fun _ _ t _ => 67 - (intOf t).toNat)
      case atStart => exact ⟨0, 0, false, false, Nat.zero_le _, rfl, rfl, rfl, Lib.hid ⟨fun j hj => absurd hj (Nat.not_lt_zero _), fun j hj => absurd hj (Nat.not_lt_zero _)⟩, rfl⟩
      case round =>
        obtain ⟨i, q, lf, mf, hi, rfl, rfl, rfl, HF, rfl⟩ := hrel
        by_cases hlt : i < 67
        · have hii : (i : Int) < 67 := by omega
          have hge : ¬ (i : Int) ≥ 67 := by omega
          have hc6 := HC6.out i hlt
          have hc7 := HC7.out i hlt
          have HNX := Lib.hid (fun (a b : Bool) (ha : a = (lf || decide (Dg.getD i 0 < Eg.getD i 0))) (hb : b = (mf || decide (Eg.getD i 0 < Dg.getD i 0))) => flags_next HF.out ha hb)
          clear HF
          generalize Dg.getD i 0 = x at *
          generalize Eg.getD i 0 = y at *
          rcases Nat.lt_trichotomy x y with hxy | hxy | hxy
          · have HD1 := Lib.hid (show decide (x < y) = true by simp; omega)
            have HD2 := Lib.hid (show decide (y < x) = false by simp; omega)
            have h1 : ((x : Int) < (y : Int)) := by omega
            have h2 : ¬ ((y : Int) < (x : Int)) := by omega
            clear hxy
            cases lf <;> cases mf
            · have HN := Lib.hid HD1
              go_wp2_with fail
              go_quiet (fail)
              go_wp2_with fail
              go_roundw
              case rel => exact ⟨i + 1, _, true, false, hlt, by go_num, by first | rfl | rw [HD1.out], by first | rfl | rw [HD2.out], Lib.hid (HNX.out true false (by rw [HD1.out]; rfl) (by rw [HD2.out]; rfl)), rfl⟩
              case measure => simp [intOf]; omega
            · have HN := Lib.hid HD1
              go_wp2_with fail
              go_quiet (fail)
              go_wp2_with fail
              go_roundw
              case rel => exact ⟨i + 1, _, true, true, hlt, by go_num, by first | rfl | rw [HD1.out], by first | rfl | rw [HD2.out], Lib.hid (HNX.out true true (by rw [HD1.out]; rfl) (by rw [HD2.out]; rfl)), rfl⟩
              case measure => simp [intOf]; omega
            · have HN := Lib.hid HD1
              go_wp2_with fail
              go_quiet (fail)
              go_wp2_with fail
              go_roundw
              case rel => exact ⟨i + 1, _, true, false, hlt, by go_num, by first | rfl | rw [HD1.out], by first | rfl | rw [HD2.out], Lib.hid (HNX.out true false (by rw [HD1.out]; rfl) (by rw [HD2.out]; rfl)), rfl⟩
              case measure => simp [intOf]; omega
            · have HN := Lib.hid HD1
              go_wp2_with fail
              go_quiet (fail)
              go_wp2_with fail
              go_roundw
              case rel => exact ⟨i + 1, _, true, true, hlt, by go_num, by first | rfl | rw [HD1.out], by first | rfl | rw [HD2.out], Lib.hid (HNX.out true true (by rw [HD1.out]; rfl) (by rw [HD2.out]; rfl)), rfl⟩
              case measure => simp [intOf]; omega
          · have HD1 := Lib.hid (show decide (x < y) = false by simp; omega)
            have HD2 := Lib.hid (show decide (y < x) = false by simp; omega)
            have h1 : ¬ ((x : Int) < (y : Int)) := by omega
            have h2 : ¬ ((y : Int) < (x : Int)) := by omega
            clear hxy
            cases lf <;> cases mf
            · have HN := Lib.hid HD1
              go_wp2_with fail
              go_quiet (fail)
              go_wp2_with fail
              go_roundw
              case rel => exact ⟨i + 1, _, false, false, hlt, by go_num, by first | rfl | rw [HD1.out], by first | rfl | rw [HD2.out], Lib.hid (HNX.out false false (by rw [HD1.out]; rfl) (by rw [HD2.out]; rfl)), rfl⟩
              case measure => simp [intOf]; omega
            · have HN := Lib.hid HD1
              go_wp2_with fail
              go_quiet (fail)
              go_wp2_with fail
              go_roundw
              case rel => exact ⟨i + 1, _, false, true, hlt, by go_num, by first | rfl | rw [HD1.out], by first | rfl | rw [HD2.out], Lib.hid (HNX.out false true (by rw [HD1.out]; rfl) (by rw [HD2.out]; rfl)), rfl⟩
              case measure => simp [intOf]; omega
            · have HN := Lib.hid HD1
              go_wp2_with fail
              go_quiet (fail)
              go_wp2_with fail
              go_roundw
              case rel => exact ⟨i + 1, _, true, false, hlt, by go_num, by first | rfl | rw [HD1.out], by first | rfl | rw [HD2.out], Lib.hid (HNX.out true false (by rw [HD1.out]; rfl) (by rw [HD2.out]; rfl)), rfl⟩
              case measure => simp [intOf]; omega
            · have HN := Lib.hid HD1
              go_wp2_with fail
              go_quiet (fail)
              go_wp2_with fail
              go_roundw
              case rel => exact ⟨i + 1, _, true, true, hlt, by go_num, by first | rfl | rw [HD1.out], by first | rfl | rw [HD2.out], Lib.hid (HNX.out true true (by rw [HD1.out]; rfl) (by rw [HD2.out]; rfl)), rfl⟩
              case measure => simp [intOf]; omega
          · have HD1 := Lib.hid (show decide (x < y) = false by simp; omega)
            have HD2 := Lib.hid (show decide (y < x) = true by simp; omega)
            have h1 : ¬ ((x : Int) < (y : Int)) := by omega
            have h2 : ((y : Int) < (x : Int)) := by omega
            clear hxy
            cases lf <;> cases mf
            · have HN := Lib.hid HD1
              go_wp2_with fail
              go_quiet (fail)
              go_wp2_with fail
              go_roundw
              case rel => exact ⟨i + 1, _, false, true, hlt, by go_num, by first | rfl | rw [HD1.out], by first | rfl | rw [HD2.out], Lib.hid (HNX.out false true (by rw [HD1.out]; rfl) (by rw [HD2.out]; rfl)), rfl⟩
              case measure => simp [intOf]; omega
            · have HN := Lib.hid HD1
              go_wp2_with fail
              go_quiet (fail)
              go_wp2_with fail
              go_roundw
              case rel => exact ⟨i + 1, _, false, true, hlt, by go_num, by first | rfl | rw [HD1.out], by first | rfl | rw [HD2.out], Lib.hid (HNX.out false true (by rw [HD1.out]; rfl) (by rw [HD2.out]; rfl)), rfl⟩
              case measure => simp [intOf]; omega
            · have HN := Lib.hid HD1
              go_wp2_with fail
              go_quiet (fail)
              go_wp2_with fail
              go_roundw
              case rel => exact ⟨i + 1, _, true, true, hlt, by go_num, by first | rfl | rw [HD1.out], by first | rfl | rw [HD2.out], Lib.hid (HNX.out true true (by rw [HD1.out]; rfl) (by rw [HD2.out]; rfl)), rfl⟩
              case measure => simp [intOf]; omega
            · have HN := Lib.hid HD1
              go_wp2_with fail
              go_quiet (fail)
              go_wp2_with fail
              go_roundw
              case rel => exact ⟨i + 1, _, true, true, hlt, by go_num, by first | rfl | rw [HD1.out], by first | rfl | rw [HD2.out], Lib.hid (HNX.out true true (by rw [HD1.out]; rfl) (by rw [HD2.out]; rfl)), rfl⟩
              case measure => simp [intOf]; omega
        · obtain rfl : i = 67 := by omega
          have e1 : lf = true := HF.out.1 i1 HI1.out.1 HI1.out.2
          have e2 : mf = true := HF.out.2 i2 HI2.out.1 HI2.out.2
          subst e1 e2
          have HBY := Lib.hid (below_drewN HBZ.out q)
          replace HBZ := HBY
          clear HF HC6 HC7 HBY
          generalize w8.drewN q = wy at *
          go_wp2_with fail
          with_reducible refine (wakes8_any wy (tab_on HTAB.out HBZ.out HBZ.out.size)).mono ?_
          rintro e wk ⟨rfl, hbn⟩
          have HBU := Lib.hid (HBZ.out.trans (hbn.mono HBZ.out.size))
          clear hbn
          go_wp2_with fail
          go_ret
          exact ⟨by first | rfl | kernel_rfl, HBU.out⟩

set_option maxRecDepth 100000 in
theorem contract (H : Type) (enc : TypeId × Value → H) (W : World) (base : Nat) (args : Array Value) (ds gs : List (DataW H)) (before : List MemPlace)
    (hval : ∀ (j : Nat) t v, Tryd.f8.params[j]? = some t → args[j]? = some v → Value.okWide Tryd.prog W .any base t v)
    (hW : DataW.Whole enc Tryd.prog Tryd.f8.params.toList Rows.wotsBackSpec.vars false W args.toList ds gs before) (hL : laidMetH Tryd.prog Rows.wotsBackRow.laid W) :
    Calls Tryd.prog 8 args W fun e W' => ∃ v, e = .returned v ∧ Rows.wotsBackSpec.post enc Tryd.prog Tryd.f8 false true false false W args v W' := by
  have hW' := hW
  obtain ⟨p, q, hA0, hV, rfl, hfz, hnd⟩ := hW
  have hA : DataW.TrodAll enc Tryd.prog W 0 (fun _ => true) true Tryd.f8.params.toList args.toList ds p := hA0
  rw [Tryd.params8] at hA hval
  obtain ⟨v0, v1, v2, v3, d0, d1, d2, d3, p0, p1, p2, p3, rfl, rfl, rfl, h0, h1, h2, h3⟩ := trodAll_four hA
  obtain ⟨rfl, rfl⟩ := trodVars_none hV
  obtain ⟨k0, rfl, hk0⟩ := open_array Tryd.underlying23 (by kernel_rfl) (hval 0 23 v0 rfl rfl) h0
  obtain ⟨n1, rfl, rfl, rfl, wf1⟩ := open_int Tryd.underlying3 (hval 1 3 v1 rfl rfl) h1
  have b1 := bounds_i64 wf1
  obtain ⟨A2, m2, c2, l2, rfl, hl2, hc2, hm2, hr2⟩ := open_bytes (hval 2 24 v2 rfl rfl) h2
  obtain ⟨A3, m3, c3, l3, rfl, hl3, hc3, hm3, hr3⟩ := open_bytes (hval 3 24 v3 rfl rfl) h3
  clear hA0
  refine (walk k0 n1 A2 m2 c2 l2 A3 m3 c3 l3 W hk0 b1.1 b1.2 hl2 hc2 hm2 hr2 hl3 hc3 hm3 hr3 (pow10 hL)).mono fun e W' ⟨he, hb⟩ => ?_
  exact ⟨_, he, law_post hW' rfl (by kernel_rfl) rfl (by kernel_rfl) hb⟩

theorem laid_met (os : Os) : laidMet Tryd.prog Rows.wotsBackRow.laid ((laidWorld os).forCall (fun _ _ => 0) ⟨#[], #[.agg #[.int .u8 0, .int .u8 0, .int .u8 0, .int .u8 0, .int .u8 0, .int .u8 0, .int .u8 0, .int .u8 0, .int .u8 0, .int .u8 0, .int .u8 0, .int .u8 0, .int .u8 0, .int .u8 0, .int .u8 0, .int .u8 0], .int .i64 0, .slice none 0 0, .slice none 0 0], []⟩).memory :=
  laidMet_of_run' 8 (by kernel_rfl) (by kernel_rfl)
theorem reads (os : Os) {H : Type} (enc : TypeId × Value → H) : ∃ places, DataW.whole enc Tryd.prog ((laidWorld os).forCall (fun _ _ => 0) ⟨#[], #[.agg #[.int .u8 0, .int .u8 0, .int .u8 0, .int .u8 0, .int .u8 0, .int .u8 0, .int .u8 0, .int .u8 0, .int .u8 0, .int .u8 0, .int .u8 0, .int .u8 0, .int .u8 0, .int .u8 0, .int .u8 0, .int .u8 0], .int .i64 0, .slice none 0 0, .slice none 0 0], []⟩).memory Tryd.f8.params.toList Rows.wotsBackSpec.vars false #[Value.agg #[.int .u8 0, .int .u8 0, .int .u8 0, .int .u8 0, .int .u8 0, .int .u8 0, .int .u8 0, .int .u8 0, .int .u8 0, .int .u8 0, .int .u8 0, .int .u8 0, .int .u8 0, .int .u8 0, .int .u8 0, .int .u8 0], Value.int .i64 0, Value.slice none 0 0, Value.slice none 0 0].toList 8 = some ([.agg [.lit (.int .u8 0), .lit (.int .u8 0), .lit (.int .u8 0), .lit (.int .u8 0), .lit (.int .u8 0), .lit (.int .u8 0), .lit (.int .u8 0), .lit (.int .u8 0), .lit (.int .u8 0), .lit (.int .u8 0), .lit (.int .u8 0), .lit (.int .u8 0), .lit (.int .u8 0), .lit (.int .u8 0), .lit (.int .u8 0), .lit (.int .u8 0)], .lit (.int .i64 0), .nil, .nil], [], places) :=
  ⟨[], by kernel_rfl⟩

set_option maxRecDepth 100000 in
theorem lifted (os : Os) (started : os.Started) (H : Type) (enc : TypeId × Value → H) (F : Stop.Interp) :
    ReturnsInHanded {} Tryd.checked os 8 .any ((OpenSpec.ofChange Rows.wotsBackSpec).preRow enc Tryd.prog Tryd.f8 Rows.wotsBackRow.domain false Rows.wotsBackRow.laid) (((OpenSpec.ofChange Rows.wotsBackSpec).at F).post enc Tryd.prog Tryd.f8 false true false false) := by
  obtain ⟨places, hx⟩ := reads os enc
  refine returnsInHanded_of_row (C := Tryd.checked) (s := OpenSpec.ofChange Rows.wotsBackSpec) own started (by kernel_rfl) Tryd.func8
    (witness_row_at (enc := enc) (C := Tryd.checked) false (laidWorld os) #[.agg #[.int .u8 0, .int .u8 0, .int .u8 0, .int .u8 0, .int .u8 0, .int .u8 0, .int .u8 0, .int .u8 0, .int .u8 0, .int .u8 0, .int .u8 0, .int .u8 0, .int .u8 0, .int .u8 0, .int .u8 0, .int .u8 0], .int .i64 0, .slice none 0 0, .slice none 0 0] rfl (by kernel_rfl) (by kernel_rfl) (by kernel_rfl)
      (OpenSpec.preRow_of_cond 8 hx (by kernel_rfl) (fun k hk => by cases hk) (by kernel_rfl) (laid_met os))) ?_
  intro W base args ds gs before hval hW _ _ _ hL _ _
  exact contract H enc W base args ds gs before hval hW hL

theorem said : Rows.WotsBackSaid :=
  OpenClaim.holds_of_cond 8 Tryd.f8 rfl rfl rfl rfl rfl rfl rfl ⟨rfl, rfl, rfl, rfl, rfl⟩ rfl rfl rfl rfl rfl (by kernel_rfl) Tryd.func8 (by kernel_rfl)
    (of_decide_eq_true (by kernel_rfl)) (by unfold Func.isWrapper; first | (rw [if_pos (by decide +kernel)]; kernel_rfl) | (rw [if_neg (by decide +kernel)]; exact ⟨rfl, rfl⟩))
    (fun os started H enc _ F => by rw [OpenClaim.pre_eq_preRow]; exact lifted os started H enc F)

theorem plain (f : FuncId) (fn : Func) (hf : Tryd.pinned.checked.prog.funcNamed "aumbry/aumbrylaw08.WotsBack" = some f) (hfn : Tryd.pinned.checked.prog.funcs[f]? = some fn) :
    false = Tryd.pinned.checked.prog.looks [] ∧ ∀ (j : Nat) t, fn.params[j]? = some t → Tryd.pinned.checked.prog.wantsStandIn t = false := by
  obtain rfl : f = 8 := Option.some.inj ((show Tryd.prog.funcNamed "aumbry/aumbrylaw08.WotsBack" = some 8 by kernel_rfl).symm.trans hf) |>.symm
  obtain rfl : fn = Tryd.f8 := (Option.some.inj (Tryd.func8.symm.trans hfn)).symm
  refine ⟨by kernel_rfl, fun j t ht => ?_⟩
  exact wants_none (by kernel_rfl) (Array.mem_of_getElem? ht)

/-- The card: the statement holds, its listed tables tied to the program's text. -/
theorem card : Rows.WotsBackCardSaid :=
  Claim7.holds_tied_plain_at .later [] _ _ _ _ said (fun _ h => by cases h) (by kernel_rfl) (fun _ h => by cases h) wotsBack_row_tie rfl ⟨rfl, rfl⟩ (by kernel_rfl) rfl plain (by kernel_rfl)
end Go.Proofs.YtciflbkgfmbfdaaDoor.wotsBack
