/- The document's own signing with a leaf. -/
import Derived.Test.YtfgieebccjoboaaDoorMssP
import Derived.Test.YtfgieebccjoboaaDoorHashS
namespace Go.Proofs.YtfgieebccjoboaaDoor
open Go.RowKit

set_option maxRecDepth 100000 in
set_option maxHeartbeats 8000000 in
theorem rsig9_any (sd : List UInt8) (ht lf : Nat) (A : Option Addr) (n c : Nat) (m : List UInt8) (w : World) (hs : sd.length = 16) (hh : ht ≤ 8) (hlf : lf < 2 ^ ht) (hn : m.length = n) (h1 : n ≤ 1000) (hc : n ≤ c) (hcm : c ≤ maxLen) (hr : Rd w w.heap.size A m) :
    Calls Tryd.prog 26 #[.agg (u8A sd), .int .i64 (ht : Int), .int .i64 (lf : Int), .slice A n c] w fun e w' => ∃ V cv P cp, e = .returned (.agg #[.int .i64 (ht : Int), .int .i64 (lf : Int), .slice V 67 cv, .slice P ht cp]) ∧ HV w' (.slice V 67 cv) (atL (signF sd (lf : Int) (digH (msgH m))) 67) ∧ HV w' (.slice P ht cp) (proofV (pubsL sd (2 ^ ht)) lf) ∧ Below w.heap.size w w' := by
  obtain ⟨X, hX⟩ : ∃ x, u8A sd = x := ⟨_, rfl⟩
  have HXS := Lib.hid (show X.size = 16 by rw [← hX, u8A_size]; exact hs)
  have hN256 : 2 ^ ht ≤ 256 := Nat.pow_le_pow_right (n := 2) (by omega) hh
  rw [hX]
  go_enter Tryd.func26, Tryd.ntmps26
  go_upto_region 1 with fail
  generalize hw3 : World.alloc _ _ = w3
  obtain ⟨g4, hg4⟩ : ∃ g, w.heap.size = g := ⟨_, rfl⟩
  obtain ⟨g8, hg8⟩ : ∃ g, w.heap.size + 1 = g := ⟨_, rfl⟩
  have hf : Blk w3 g4 X 23 ∧ (∃ rs, Blk w3 g8 rs 35 ∧ rs.size = 4) ∧ Below w.heap.size w w3 := by
    obtain ⟨Y, hw, hY⟩ : ∃ Y, w3 = (w.alloc (.cells X 23)).alloc (.cells Y 35) ∧ Y.size = 4 := ⟨_, hw3.symm, rfl⟩
    have e1 : (w.alloc (.cells X 23)).heap.size = w.heap.size + 1 := by simp
    rw [hw, ← hg4, ← hg8]
    refine ⟨(Blk.new w _ _).alloc _, ⟨Y, ?_, hY⟩, ((Below.refl _ _).alloc (Nat.le_refl _) _).alloc (by simp) _⟩
    rw [← e1]; exact Blk.new _ _ _
  have HBX := Lib.hid (fun W (hW : Below w3.heap.size w3 W) => hf.1.below hW hf.1.lt)
  obtain ⟨rs, hrs, hrz⟩ := hf.2.1
  have HB8 := Lib.hid hrs
  have HRZ := Lib.hid hrz
  have HBW := Lib.hid hf.2.2
  have HG := Lib.hid (show w.heap.size ≤ g8 by omega)
  have HB8L := Lib.hid hrs.lt
  have HSO := Lib.hid (fun W (hW : Below w3.heap.size w3 W) => (show Calls Tryd.prog 60 #[.agg X, .int .i64 (lf : Int), .slice A n c] W fun e w' => ∃ X x, e = .returned (.slice X 67 x) ∧ 67 ≤ x ∧ OwnH w' w3.heap.size (.slice X 67 x) (atL (signF sd (lf : Int) (digH (msgH m))) 67) ∧ Below W.heap.size W w' from by
    rw [← hX]
    refine (rsign_any sd (lf : Int) A n c m W hs (by omega) hn h1 hc hcm (hr.on (HBW.out.trans (hW.mono HBW.out.size)))).mono ?_
    rintro e w' ⟨v, rfl, ho, hb⟩
    obtain ⟨X, x, rfl, hx, _⟩ := ho.form (atL_len _ _)
    exact ⟨X, x, rfl, hx, own_from ho hW.size, hb⟩))
  have HLV := Lib.hid (fun W (hW : Below w3.heap.size w3 W) => (show Calls Tryd.prog 23 #[.agg X, .int .i64 (ht : Int)] W fun e w' => ∃ X x, e = .returned (.slice X (2 ^ ht) x) ∧ 2 ^ ht ≤ x ∧ OwnH w' w3.heap.size (.slice X (2 ^ ht) x) (pubsL sd (2 ^ ht)) ∧ Below W.heap.size W w' from by
    rw [← hX]
    refine (rleaves9_any sd ht W hs hh).mono ?_
    rintro e w' ⟨v, rfl, ho, hb⟩
    obtain ⟨X, x, rfl, hx, _⟩ := ho.form (pubsL_len _ _)
    exact ⟨X, x, rfl, hx, own_from ho hW.size, hb⟩))
  have HPR := Lib.hid (fun A c W (hW : Below w3.heap.size w3 W) (hv : HV W (.slice A (2 ^ ht) c) (pubsL sd (2 ^ ht))) => (show Calls Tryd.prog 61 #[.int .i64 (lf : Int), .slice A (2 ^ ht) c] W fun e w' => ∃ X x, e = .returned (.slice X ht x) ∧ ht ≤ x ∧ OwnH w' w3.heap.size (.slice X ht x) (proofV (pubsL sd (2 ^ ht)) lf) ∧ Below W.heap.size W w' from by
    refine (rproof7_any A (2 ^ ht) c lf (pubsL sd (2 ^ ht)) W (pubsL_len _ _) (by omega) hlf (pubsL_32 _ _) hv.rd8).mono ?_
    rintro e w' ⟨v, rfl, ho, hb⟩
    rw [show proofH (tree.high (2 ^ ht)) lf (rowH (pubsL sd (2 ^ ht))) = proofV (pubsL sd (2 ^ ht)) lf by unfold proofV; rw [pubsL_len]] at ho
    obtain ⟨X, x, rfl, hx, _⟩ := ho.form (show (proofV (pubsL sd (2 ^ ht)) lf).length = ht by rw [proofV_len, pubsL_len, tree.high_pow])
    exact ⟨X, x, rfl, hx, own_from ho hW.size, hb⟩))
  obtain ⟨pr, hpr⟩ : ∃ x, proofV (pubsL sd (2 ^ ht)) lf = x := ⟨_, rfl⟩
  have HPRE := Lib.hid hpr
  rw [hpr] at HPR
  clear hpr
  generalize pubsL sd (2 ^ ht) = lv at HLV HPR
  generalize 2 ^ ht = N at HLV HPR
  obtain ⟨sg, hsg⟩ : ∃ x, atL (signF sd (lf : Int) (digH (msgH m))) 67 = x := ⟨_, rfl⟩
  have HSGE := Lib.hid hsg
  rw [hsg] at HSO
  clear hsg
  clear hf hw3 hrs hrz hX hr hn
  rw [hg8, hg4]
  clear hg8 hg4
  refine wp_region_loose 11 2 (fun i => false) (promises [.is (.int .i64 (ht : Int)), .is (.int .i64 (lf : Int)), .is (.agg X), .is (.int .i64 (lf : Int)), .is (.slice A n c), .oh w3.heap.size 67 sg, .is (.int .i64 (lf : Int)), .is (.agg X), .is (.int .i64 (ht : Int)), .oh w3.heap.size N lv, .oh w3.heap.size ht pr]) (by kernel_rfl) rfl (by kernel_rfl) (fun i v w w' h hb => Spec.keep h hb) ⟨?_, ?_, ?_, ?_, ?_, ?_, ?_, ?_, ?_, ?_, ?_, trivial⟩ ?_
  · refine StepOKl.of ?_
    intro ac w hb hu hk
    refine ⟨wanted_none rfl, ?_⟩
    have e1 : ac.eval (.tmp 1) = .int .i64 (ht : Int) := hu.is (t := 1) (by kernel_rfl)
    exact step_value (BigFrame.run_move (.tmp 1) rfl w) (Below.refl _ _) e1
  · refine StepOKl.of ?_
    intro ac w hb hu hk
    refine ⟨wanted_none rfl, ?_⟩
    have e2 : ac.eval (.tmp 2) = .int .i64 (lf : Int) := hu.is (t := 2) (by kernel_rfl)
    exact step_value (BigFrame.run_move (.tmp 2) rfl w) (Below.refl _ _) e2
  · refine StepOKl.of ?_
    intro ac w hb hu hk
    refine ⟨wanted_none rfl, ?_⟩
    have e4 : ac.eval (.tmp 4) = .pointer (some ⟨g4, 0, none⟩) := hu.is (t := 4) (by kernel_rfl)
    exact wp_load_row 23 (.tmp 4) rfl g4 e4 23 X (0, 0) _ (HBX.out w hb) Tryd.underlying23 rfl (by rw [HXS.out]; kernel_rfl) ⟨_, rfl, rfl, Below.refl _ _⟩
  · refine StepOKl.of ?_
    intro ac w hb hu hk
    refine ⟨wanted_none rfl, ?_⟩
    have e2 : ac.eval (.tmp 2) = .int .i64 (lf : Int) := hu.is (t := 2) (by kernel_rfl)
    exact step_value (BigFrame.run_move (.tmp 2) rfl w) (Below.refl _ _) e2
  · refine StepOKl.of ?_
    intro ac w hb hu hk
    refine ⟨wanted_none rfl, ?_⟩
    have e3 : ac.eval (.tmp 3) = .slice A n c := hu.is (t := 3) (by kernel_rfl)
    exact step_value (BigFrame.run_move (.tmp 3) rfl w) (Below.refl _ _) e3
  · refine StepOKl.of ?_
    intro ac w hb hu hk
    refine ⟨wanted_none rfl, ?_⟩
    have e11 : ac.eval (.tmp 11) = (.agg X) := (hk ⟨2, .data⟩ (by simp) rfl).is rfl rfl
    have e12 : ac.eval (.tmp 12) = (.int .i64 (lf : Int)) := (hk ⟨3, .data⟩ (by simp) rfl).is rfl rfl
    have e13 : ac.eval (.tmp 13) = (.slice A n c) := (hk ⟨4, .data⟩ (by simp) rfl).is rfl rfl
    have ef : ac.eval (.func 60) = .func (.func 60) #[] #[] := rfl
    refine step_enter (f := 60) (args := #[.agg X, .int .i64 (lf : Int), .slice A n c]) ?_ ?_
    · generalize ac.eval = ρ at e11 e12 e13 ef ⊢
      go_simp
    · exact (HSO.out w hb).mono fun e w' ⟨X, x, he, hx, hv, hq⟩ => ⟨_, he, ⟨X, x, rfl, hx, hv⟩, hq⟩
  · refine StepOKl.of ?_
    intro ac w hb hu hk
    refine ⟨wanted_none rfl, ?_⟩
    have e2 : ac.eval (.tmp 2) = .int .i64 (lf : Int) := hu.is (t := 2) (by kernel_rfl)
    exact step_value (BigFrame.run_move (.tmp 2) rfl w) (Below.refl _ _) e2
  · refine StepOKl.of ?_
    intro ac w hb hu hk
    refine ⟨wanted_none rfl, ?_⟩
    have e4 : ac.eval (.tmp 4) = .pointer (some ⟨g4, 0, none⟩) := hu.is (t := 4) (by kernel_rfl)
    exact wp_load_row 23 (.tmp 4) rfl g4 e4 23 X (0, 0) _ (HBX.out w hb) Tryd.underlying23 rfl (by rw [HXS.out]; kernel_rfl) ⟨_, rfl, rfl, Below.refl _ _⟩
  · refine StepOKl.of ?_
    intro ac w hb hu hk
    refine ⟨wanted_none rfl, ?_⟩
    have e1 : ac.eval (.tmp 1) = .int .i64 (ht : Int) := hu.is (t := 1) (by kernel_rfl)
    exact step_value (BigFrame.run_move (.tmp 1) rfl w) (Below.refl _ _) e1
  · refine StepOKl.of ?_
    intro ac w hb hu hk
    refine ⟨wanted_none rfl, ?_⟩
    have e16 : ac.eval (.tmp 16) = (.agg X) := (hk ⟨7, .data⟩ (by simp) rfl).is rfl rfl
    have e17 : ac.eval (.tmp 17) = (.int .i64 (ht : Int)) := (hk ⟨8, .data⟩ (by simp) rfl).is rfl rfl
    have ef : ac.eval (.func 23) = .func (.func 23) #[] #[] := rfl
    refine step_enter (f := 23) (args := #[.agg X, .int .i64 (ht : Int)]) ?_ ?_
    · generalize ac.eval = ρ at e16 e17 ef ⊢
      go_simp
    · exact (HLV.out w hb).mono fun e w' ⟨X, x, he, hx, hv, hq⟩ => ⟨_, he, ⟨X, x, rfl, hx, hv⟩, hq⟩
  · refine StepOKl.of ?_
    intro ac w hb hu hk
    refine ⟨wanted_none rfl, ?_⟩
    have e15 : ac.eval (.tmp 15) = (.int .i64 (lf : Int)) := (hk ⟨6, .data⟩ (by simp) rfl).is rfl rfl
    have e18 : ∃ X c, ac.eval (.tmp 18) = .slice X N c ∧ N ≤ c ∧ OwnH w w3.heap.size (.slice X N c) lv := (hk ⟨9, .data⟩ (by simp) rfl).is rfl rfl
    obtain ⟨X1, x1, eX, hx1, hX1⟩ := e18
    have ef : ac.eval (.func 61) = .func (.func 61) #[] #[] := rfl
    refine step_enter (f := 61) (args := #[.int .i64 (lf : Int), .slice X1 N x1]) ?_ ?_
    · generalize ac.eval = ρ at e15 eX ef ⊢
      go_simp
    · exact (HPR.out X1 x1 w hb hX1.hv).mono fun e w' ⟨X, x, he, hx, hv, hq⟩ => ⟨_, he, ⟨X, x, rfl, hx, hv⟩, hq⟩
  · intro ac w' hb hu hk hap
    obtain ⟨_, h9, rfl⟩ := (hk 0 (by decide)).put rfl rfl
    obtain ⟨_, h10, rfl⟩ := (hk 1 (by decide)).put rfl rfl
    obtain ⟨_, h11, rfl⟩ := (hk 2 (by decide)).put rfl rfl
    obtain ⟨_, h12, rfl⟩ := (hk 3 (by decide)).put rfl rfl
    obtain ⟨_, h13, rfl⟩ := (hk 4 (by decide)).put rfl rfl
    obtain ⟨_, h14, ⟨X14, xc14, rfl, hxc14, hX14⟩⟩ := (hk 5 (by decide)).put rfl rfl
    obtain ⟨_, h15, rfl⟩ := (hk 6 (by decide)).put rfl rfl
    obtain ⟨_, h16, rfl⟩ := (hk 7 (by decide)).put rfl rfl
    obtain ⟨_, h17, rfl⟩ := (hk 8 (by decide)).put rfl rfl
    obtain ⟨_, h18, ⟨X18, xc18, rfl, hxc18, hX18⟩⟩ := (hk 9 (by decide)).put rfl rfl
    obtain ⟨_, h19, ⟨X19, xc19, rfl, hxc19, hX19⟩⟩ := (hk 10 (by decide)).put rfl rfl
    clear hap
    have hF : AllPuts ac.tmps ((9, _) :: (10, _) :: (11, _) :: (12, _) :: (13, _) :: (14, _) :: (15, _) :: (16, _) :: (17, _) :: (18, _) :: (19, _) :: []) := ⟨h9, h10, h11, h12, h13, h14, h15, h16, h17, h18, h19, trivial⟩
    obtain rfl := frame_puts hu (by kernel_rfl) hF
    simp only [puts, Act.put, List.setIfInBounds_toArray, List.set_cons_zero, List.set_cons_succ, List.drop_succ_cons, List.drop_zero]
    clear hk hu hF h9 h10 h11 h12 h13 h14 h15 h16 h17 h18 h19
    have HR8 := Lib.hid (HB8.out.below hb HB8.out.lt)
    have HBE := Lib.hid (HBW.out.trans (hb.mono HBW.out.size))
    have HV14 := Lib.hid hX14
    have HV19 := Lib.hid hX19
    clear hb hX14 hX18 hX19 hxc18 HSO HLV HPR HBX HB8 HBW
    have HI4 := Lib.hid (show (Tryd.prog.info? 35 ).map (·.size) = some (#[.int .i64 (ht : Int), .int .i64 (lf : Int), .slice X14 67 xc14, .slice X19 ht xc19] : Array Value).size from by kernel_rfl)
    have HS4 := Lib.hid (show rs.size = (#[.int .i64 (ht : Int), .int .i64 (lf : Int), .slice X14 67 xc14, .slice X19 ht xc19] : Array Value).size from by rw [HRZ.out]; rfl)
    have HO4 := Lib.hid (show (#[.int .i64 (ht : Int), .int .i64 (lf : Int), .slice X14 67 xc14, .slice X19 ht xc19] : Array Value).all (·.oneCell') = true from by simp [Value.oneCell'])
    go_wp2_with (with_reducible refine wpList_store_blk rfl 35 (.tmp 8) (.tmp 20) rfl g8 #[.int .i64 (ht : Int), .int .i64 (lf : Int), .slice X14 67 xc14, .slice X19 ht xc19] rfl rfl 35 rs HR8.out HI4.out HS4.out HO4.out ?_)
    refine bodyPost_ret (v := .agg #[.int .i64 (ht : Int), .int .i64 (lf : Int), .slice X14 67 xc14, .slice X19 ht xc19]) (results_cell_row (p := 8) (ty := 35) (by kernel_rfl) _ _ g8 35 _ (0, 0) _ rfl (HR8.out.row #[.int .i64 (ht : Int), .int .i64 (lf : Int), .slice X14 67 xc14, .slice X19 ht xc19]) Tryd.underlying35 rfl (by kernel_rfl)) rfl ⟨X14, xc14, X19, xc19, rfl, by rw [HSGE.out]; exact (HV14.out.apart (setRow_grown _ g8 _) (fun g hg e => by have := HV14.out.lt g hg; have := HB8L.out; injection e with e; omega)).hv, by rw [HPRE.out]; exact (HV19.out.apart (setRow_grown _ g8 _) (fun g hg e => by have := HV19.out.lt g hg; have := HB8L.out; injection e with e; omega)).hv, below_row HBE.out HBE.out.size HG.out _⟩
end Go.Proofs.YtfgieebccjoboaaDoor
