/- A signature out of its bytes, as the program takes it. -/
import Derived.Test.YtfgieebccjoboaaDoorMpH
import Derived.Test.YtfgieebccjoboaaDoorMpC
import Derived.Test.YtfgieebccjoboaaDoorMssU
import Derived.Test.YtfgieebccjoboaaDoorSub
namespace Go.Proofs.YtfgieebccjoboaaDoor
open Go.RowKit

theorem chunk_take {l : List UInt8} {i k : Nat} (h : i < k) : chunkL (l.take (32 * k)) i = chunkL l i := by
  unfold chunkL
  rw [List.drop_take, List.take_take, Nat.min_eq_left (by omega)]
theorem chunk_drop (l : List UInt8) (k i : Nat) : chunkL (l.drop (32 * k)) i = chunkL l (k + i) := by
  unfold chunkL
  rw [List.drop_drop, show 32 * k + 32 * i = 32 * (k + i) by omega]
theorem atL_first (l : List UInt8) (a b : Nat) : atL (chunkL (l.take (32 * a))) a = (atL (chunkL l) (a + b)).take a := by
  have h1 : (atL (chunkL l) (a + b)).take a = atL (chunkL l) a := by
    unfold atL
    rw [← List.map_take, List.take_range, Nat.min_eq_left (by omega)]
  rw [h1]
  exact atL_congr fun i hi => chunk_take hi
theorem atL_rest (l : List UInt8) (a b : Nat) : atL (chunkL (l.drop (32 * a))) b = (atL (chunkL l) (a + b)).drop a := by
  unfold atL
  refine List.ext_getElem (by simp) fun i h1 h2 => ?_
  simp only [List.getElem_drop, List.getElem_map, List.getElem_range]
  exact chunk_drop l a i
theorem getL_one (x : UInt8) : getL [x] = x.toNat := by simp [getL]
theorem getL_two (x y : UInt8) : getL [x, y] = 256 * x.toNat + y.toNat := by simp [getL]; omega
theorem take_one {l : List UInt8} (h : 1 ≤ l.length) : l.take 1 = [l.getD 0 0] := by
  match l, h with
  | x :: _, _ => rfl
theorem take_two {l : List UInt8} (h : 3 ≤ l.length) : (l.take 3).drop 1 = [l.getD 1 0, l.getD 2 0] := by
  match l, h with
  | x :: y :: z :: _, _ => rfl
set_option maxRecDepth 100000 in
set_option maxHeartbeats 16000000 in
theorem punpack9_yes (A : Option Addr) (n c : Nat) (bs : List UInt8) (w : World) (hn : bs.length = n) (hc : n ≤ c) (hr : Rd w w.heap.size A bs) (hok : unpOK bs) :
    Calls Tryd.prog 30 #[.slice A n c] w fun e w' => ∃ V cv P cp, e = .returned (.tuple #[.agg (sigA (unpV bs).h (unpV bs).l V P 67 cv (bs.getD 0 0).toNat cp), .bool true]) ∧ OwnH w' w.heap.size (.slice V 67 cv) (unpV bs).vs ∧ OwnH w' w.heap.size (.slice P (bs.getD 0 0).toNat cp) (unpV bs).ps ∧ Below w.heap.size w w' := by
  obtain ⟨k3, k4, k5⟩ := hok
  rw [hn] at k3 k5
  unfold unpV
  simp only
  obtain ⟨h, hh⟩ : ∃ h, (bs.getD 0 0).toNat = h := ⟨_, rfl⟩
  rw [hh] at k4 k5 ⊢
  obtain ⟨B1, hB1⟩ : ∃ x, partA A 1 c = x := ⟨_, rfl⟩
  obtain ⟨B3, hB3⟩ : ∃ x, partA A 3 c = x := ⟨_, rfl⟩
  obtain ⟨c1, hc1⟩ : ∃ x, c - 1 = x := ⟨_, rfl⟩
  obtain ⟨c3, hc3⟩ : ∃ x, c - 3 = x := ⟨_, rfl⟩
  obtain ⟨n3, hn3⟩ : ∃ x, n - 3 = x := ⟨_, rfl⟩
  have hq1 : ∀ W, (Instr.slice 24 (.slice A n c) none (some (.int .i64 1)) none).run Tryd.prog W = .ok (.slice A 1 c) W := fun W => run_part_h A n c 1 W (by omega)
  have hq2 : ∀ W, (Instr.slice 24 (.slice A n c) (some (.int .i64 1)) (some (.int .i64 3)) none).run Tryd.prog W = .ok (.slice B1 2 c1) W := fun W => by rw [← hB1, ← hc1]; exact run_part_lh A n c 1 3 W (by omega) (by omega)
  have hq3 : ∀ W, (Instr.slice 24 (.slice A n c) (some (.int .i64 3)) none none).run Tryd.prog W = .ok (.slice B3 n3 c3) W := fun W => by rw [← hB3, ← hc3, ← hn3]; exact run_part_l A n c 3 W (by omega)
  obtain ⟨l2, hl2⟩ : ∃ x, 256 * (bs.getD 1 0).toNat + (bs.getD 2 0).toNat = x := ⟨_, rfl⟩
  have HG0 := Lib.hid (fun W (hW : Below w.heap.size w W) => (show Calls Tryd.prog 65 #[.slice A 1 c] W fun e w' => e = .returned (.tuple #[.int .i64 (h : Int), .bool true]) ∧ W = w' from by
    have := get_any A 1 c W.heap.size (bs.take 1) W (by rw [List.length_take]; omega) (by unfold maxLen; omega) ((hr.on hW).take 1)
    rw [if_pos (by decide), take_one (by omega), getL_one, hh] at this
    exact this))
  have HG1 := Lib.hid (fun W (hW : Below w.heap.size w W) => (show Calls Tryd.prog 65 #[.slice B1 2 c1] W fun e w' => e = .returned (.tuple #[.int .i64 (l2 : Int), .bool true]) ∧ W = w' from by
    have := get_any B1 2 c1 W.heap.size ((bs.take 3).drop 1) W (by rw [List.length_drop, List.length_take]; omega) (by unfold maxLen; omega) (by rw [← hB1]; exact (hr.on hW).part 1 3 c (by omega) (by omega))
    rw [if_pos (by decide), take_two (by omega), getL_two, hl2] at this
    exact this))
  rw [hl2]
  obtain ⟨body, hbd⟩ : ∃ x, bs.drop 3 = x := ⟨_, rfl⟩
  have hbl : body.length = n3 := by rw [← hbd, List.length_drop]; omega
  have hrb : Rd w w.heap.size B3 body := by
    have := hr.part 3 n c (by omega) (by omega)
    rw [List.take_of_length_le (by omega), hbd, hB3] at this
    exact this
  obtain ⟨B4, hB4⟩ : ∃ x, partA B3 2144 c3 = x := ⟨_, rfl⟩
  obtain ⟨c4, hc4⟩ : ∃ x, c3 - 2144 = x := ⟨_, rfl⟩
  obtain ⟨n4, hn4⟩ : ∃ x, n3 - 2144 = x := ⟨_, rfl⟩
  have HQ4 := Lib.hid (fun W => (show (Instr.slice 24 (.slice B3 n3 c3) none (some (.int .i64 2144)) none).run Tryd.prog W = .ok (.slice B3 2144 c3) W from run_part_h B3 n3 c3 2144 W (by omega)))
  have HQ5 := Lib.hid (fun W => (show (Instr.slice 24 (.slice B3 n3 c3) (some (.int .i64 2144)) none none).run Tryd.prog W = .ok (.slice B4 n4 c4) W from by rw [← hB4, ← hc4, ← hn4]; exact run_part_l B3 n3 c3 2144 W (by omega)))
  obtain ⟨vs, hvs⟩ : ∃ x, (atL (chunkL body) (67 + h)).take 67 = x := ⟨_, rfl⟩
  obtain ⟨ps, hps⟩ : ∃ x, (atL (chunkL body) (67 + h)).drop 67 = x := ⟨_, rfl⟩
  have HH0 := Lib.hid (fun W (hW : Below w.heap.size w W) => (show Calls Tryd.prog 66 #[.slice B3 2144 c3] W fun e w' => ∃ A c, e = .returned (.slice A 67 c) ∧ 67 ≤ c ∧ OwnH w' W.heap.size (.slice A 67 c) vs ∧ Below W.heap.size W w' from by
    refine (phashesof9_any B3 2144 c3 67 (body.take 2144) W (by rw [List.length_take]; omega) (by omega) (by omega) (by decide) ((hrb.on hW).take 2144)).mono ?_
    rintro e w' ⟨v, rfl, ho, hb⟩
    rw [show (2144 : Nat) = 32 * 67 from rfl, atL_first body 67 h, hvs] at ho
    obtain ⟨A, c, rfl, hc, _⟩ := ho.form (n := 67) (by rw [← hvs, List.length_take, atL_len]; omega)
    exact ⟨A, c, rfl, hc, ho, hb⟩))
  have HH1 := Lib.hid (fun W (hW : Below w.heap.size w W) => (show Calls Tryd.prog 66 #[.slice B4 n4 c4] W fun e w' => ∃ A c, e = .returned (.slice A h c) ∧ h ≤ c ∧ OwnH w' W.heap.size (.slice A h c) ps ∧ Below W.heap.size W w' from by
    refine (phashesof9_any B4 n4 c4 h (body.drop 2144) W (by rw [List.length_drop]; omega) (by omega) (by omega) (by omega) (by
      have := (hrb.on hW).part 2144 n3 c3 (by omega) (by omega)
      rw [List.take_of_length_le (by omega), hB4] at this
      exact this)).mono ?_
    rintro e w' ⟨v, rfl, ho, hb⟩
    rw [show (2144 : Nat) = 32 * 67 from rfl, atL_rest body 67 h, hps] at ho
    obtain ⟨A, c, rfl, hc, _⟩ := ho.form (n := h) (by rw [← hps, List.length_drop, atL_len]; omega)
    exact ⟨A, c, rfl, hc, ho, hb⟩))
  rw [hbd, hvs, hps]
  have hni : ¬ (n : Int) < 3 := by omega
  have h4i : ¬ (h : Int) > 4 := by omega
  have hne : (n3 : Int) = 2144 + (h : Int) * 32 := by omega
  have HNE := Lib.hid hne
  have hbne : ((n3 : Int) != 2144 + (h : Int) * 32) = false := by simp; omega
  clear hh k3 k4 k5 hB1 hB3 hc1 hc3 hn3 hl2 hbd hbl hrb hB4 hc4 hn4 hvs hps hn hr hne
  go_enter Tryd.func30, Tryd.ntmps30
  go_upto_region 1 with fail
  generalize hw1 : World.alloc _ _ = w3
  obtain ⟨g2, hg2⟩ : ∃ g, w.heap.size = g := ⟨_, rfl⟩
  have hf : (∃ rs, Blk w3 g2 rs 35 ∧ rs.size = 4) ∧ Below w.heap.size w w3 := by
    obtain ⟨Y2, hw, hY2⟩ : ∃ Y2, w3 = (w.alloc (.cells Y2 35)) ∧ Y2.size = 4 := ⟨_, hw1.symm, rfl⟩
    rw [hw, ← hg2]
    exact ⟨⟨Y2, by exact Blk.new _ _ _, hY2⟩, ((Below.refl _ _).alloc (Nat.le_refl _) _)⟩
  obtain ⟨rs2, hrs2, hrz2⟩ := hf.1
  have HB2 := Lib.hid hrs2
  have HRZ2 := Lib.hid hrz2
  have HBW := Lib.hid hf.2
  have HG2 := Lib.hid (show w.heap.size ≤ g2 by omega)
  clear hf hw1 hrs2 hrz2
  rw [hg2]
  clear hg2
  have HHV := Lib.hid (fun W (hW : Below w3.heap.size w3 W) => (show Calls Tryd.prog 66 #[.slice B3 2144 c3] W fun e w' => ∃ A c, e = .returned (.slice A 67 c) ∧ 67 ≤ c ∧ OwnH w' w3.heap.size (.slice A 67 c) vs ∧ Below W.heap.size W w' from (HH0.out W (HBW.out.trans (hW.mono HBW.out.size))).mono fun e w' ⟨A, c, he, hc, ho, hb⟩ => ⟨A, c, he, hc, own_from ho hW.size, hb⟩))
  have HHP := Lib.hid (fun W (hW : Below w3.heap.size w3 W) => (show Calls Tryd.prog 66 #[.slice B4 n4 c4] W fun e w' => ∃ A c, e = .returned (.slice A h c) ∧ h ≤ c ∧ OwnH w' w3.heap.size (.slice A h c) ps ∧ Below W.heap.size W w' from (HH1.out W (HBW.out.trans (hW.mono HBW.out.size))).mono fun e w' ⟨A, c, he, hc, ho, hb⟩ => ⟨A, c, he, hc, own_from ho hW.size, hb⟩))
  have HG0 := Lib.hid (HG0.out w3 HBW.out)
  have HG1 := Lib.hid (HG1.out w3 HBW.out)
  clear HH0 HH1
  go_wp2_with fail
  with_reducible refine (HG0.out).mono ?_
  rintro e wx ⟨rfl, rfl⟩
  clear HG0
  go_wp2_with fail
  with_reducible refine (HG1.out).mono ?_
  rintro e wx ⟨rfl, rfl⟩
  clear HG1
  go_wp2_with fail
  refine wp_region_loose 8 3 (fun i => false) (promises [.is (.int .i64 (h : Int)), .is (.int .i64 (l2 : Int)), .is (.slice B3 n3 c3), .is (.slice B3 2144 c3), .oh w3.heap.size 67 vs, .is (.slice B3 n3 c3), .is (.slice B4 n4 c4), .oh w3.heap.size h ps]) (by kernel_rfl) rfl (by kernel_rfl) (fun i v w w' h hb => Spec.keep h hb) ⟨?_, ?_, ?_, ?_, ?_, ?_, ?_, ?_, trivial⟩ ?_
  · refine StepOKl.of ?_
    intro ac w hb hu hk
    refine ⟨wanted_none rfl, ?_⟩
    have e4 : ac.eval (.tmp 4) = .int .i64 (h : Int) := hu.is (t := 4) (by kernel_rfl)
    exact step_value (BigFrame.run_move (.tmp 4) rfl w) (Below.refl _ _) e4
  · refine StepOKl.of ?_
    intro ac w hb hu hk
    refine ⟨wanted_none rfl, ?_⟩
    have e6 : ac.eval (.tmp 6) = .int .i64 (l2 : Int) := hu.is (t := 6) (by kernel_rfl)
    exact step_value (BigFrame.run_move (.tmp 6) rfl w) (Below.refl _ _) e6
  · refine StepOKl.of ?_
    intro ac w hb hu hk
    refine ⟨wanted_none rfl, ?_⟩
    have e8 : ac.eval (.tmp 8) = .slice B3 n3 c3 := hu.is (t := 8) (by kernel_rfl)
    exact step_value (BigFrame.run_move (.tmp 8) rfl w) (Below.refl _ _) e8
  · refine StepOKl.of ?_
    intro ac w hb hu hk
    refine ⟨wanted_none rfl, ?_⟩
    have e40 : ac.eval (.tmp 40) = (.slice B3 n3 c3) := (hk ⟨2, .data⟩ (by simp) rfl).is rfl rfl
    refine step_value (w' := w) (v := .slice B3 2144 c3) ?_ (Below.refl _ _) rfl
    have hq := HQ4.out w
    have ec : ac.eval (.const (.int .i64 2144)) = .int .i64 2144 := rfl
    generalize ac.eval = ρ at e40 ec ⊢
    go_simp
  · refine StepOKl.of ?_
    intro ac w hb hu hk
    refine ⟨wanted_none rfl, ?_⟩
    have e41 : ac.eval (.tmp 41) = (.slice B3 2144 c3) := (hk ⟨3, .data⟩ (by simp) rfl).is rfl rfl
    have ef : ac.eval (.func 66) = .func (.func 66) #[] #[] := rfl
    refine step_enter (f := 66) (args := #[.slice B3 2144 c3]) ?_ ?_
    · generalize ac.eval = ρ at e41 ef ⊢
      go_simp
    · exact (HHV.out w hb).mono fun e w' ⟨A, c, he, hc, hr, hq⟩ => ⟨_, he, ⟨A, c, rfl, hc, hr⟩, hq⟩
  · refine StepOKl.of ?_
    intro ac w hb hu hk
    refine ⟨wanted_none rfl, ?_⟩
    have e8 : ac.eval (.tmp 8) = .slice B3 n3 c3 := hu.is (t := 8) (by kernel_rfl)
    exact step_value (BigFrame.run_move (.tmp 8) rfl w) (Below.refl _ _) e8
  · refine StepOKl.of ?_
    intro ac w hb hu hk
    refine ⟨wanted_none rfl, ?_⟩
    have e43 : ac.eval (.tmp 43) = (.slice B3 n3 c3) := (hk ⟨5, .data⟩ (by simp) rfl).is rfl rfl
    refine step_value (w' := w) (v := .slice B4 n4 c4) ?_ (Below.refl _ _) rfl
    have hq := HQ5.out w
    have ec : ac.eval (.const (.int .i64 2144)) = .int .i64 2144 := rfl
    generalize ac.eval = ρ at e43 ec ⊢
    go_simp
  · refine StepOKl.of ?_
    intro ac w hb hu hk
    refine ⟨wanted_none rfl, ?_⟩
    have e44 : ac.eval (.tmp 44) = (.slice B4 n4 c4) := (hk ⟨6, .data⟩ (by simp) rfl).is rfl rfl
    have ef : ac.eval (.func 66) = .func (.func 66) #[] #[] := rfl
    refine step_enter (f := 66) (args := #[.slice B4 n4 c4]) ?_ ?_
    · generalize ac.eval = ρ at e44 ef ⊢
      go_simp
    · exact (HHP.out w hb).mono fun e w' ⟨A, c, he, hc, hr, hq⟩ => ⟨_, he, ⟨A, c, rfl, hc, hr⟩, hq⟩
  · intro ac w' hb hu hk hap
    obtain ⟨_, h38, rfl⟩ := (hk 0 (by decide)).put rfl rfl
    obtain ⟨_, h39, rfl⟩ := (hk 1 (by decide)).put rfl rfl
    obtain ⟨_, h40, rfl⟩ := (hk 2 (by decide)).put rfl rfl
    obtain ⟨_, h41, rfl⟩ := (hk 3 (by decide)).put rfl rfl
    obtain ⟨_, h42, ⟨X42, xc42, rfl, hxc42, hX42⟩⟩ := (hk 4 (by decide)).put rfl rfl
    obtain ⟨_, h43, rfl⟩ := (hk 5 (by decide)).put rfl rfl
    obtain ⟨_, h44, rfl⟩ := (hk 6 (by decide)).put rfl rfl
    obtain ⟨_, h45, ⟨X45, xc45, rfl, hxc45, hX45⟩⟩ := (hk 7 (by decide)).put rfl rfl
    clear hap
    have hF : AllPuts ac.tmps ((38, _) :: (39, _) :: (40, _) :: (41, _) :: (42, _) :: (43, _) :: (44, _) :: (45, _) :: []) := ⟨h38, h39, h40, h41, h42, h43, h44, h45, trivial⟩
    obtain rfl := frame_puts hu (by kernel_rfl) hF
    simp only [puts, Act.put, List.setIfInBounds_toArray, List.set_cons_zero, List.set_cons_succ, List.drop_succ_cons, List.drop_zero]
    clear hk hu hF h38 h39 h40 h41 h42 h43 h44 h45
    have HV1 := Lib.hid hX42
    have HV2 := Lib.hid hX45
    have HGL := Lib.hid (show g2 < w3.heap.size from HB2.out.lt)
    have HGP := Lib.hid HBW.out.size
    replace HB2 := Lib.hid (HB2.out.below hb HB2.out.lt)
    replace HBW := Lib.hid (HBW.out.trans (hb.mono HBW.out.size))
    clear hb hX42 hX45 HHV HHP HQ4 HQ5
    go_wp2_with (with_reducible refine wpList_store_blk rfl 35 (.tmp 2) (.tmp 46) rfl g2 (sigA (h : Int) (l2 : Int) X42 X45 67 xc42 h xc45) rfl rfl 35 rs2 HB2.out (sigA_info _ _ _ _ _ _ _ _) (by rw [sigA_size, HRZ2.out]) (sigA_one _ _ _ _ _ _ _ _) ?_)
    refine bodyPost_ret (v := .tuple #[.agg (sigA (h : Int) (l2 : Int) X42 X45 67 xc42 h xc45), .bool true]) (results_cell_tmp (p := 2) (q := 3) (ty := 35) (by kernel_rfl) _ _ g2 35 _ (0, 0) _ (.bool true) rfl rfl (HB2.out.row (sigA (h : Int) (l2 : Int) X42 X45 67 xc42 h xc45)) Tryd.underlying35 rfl (sigA_info _ _ _ _ _ _ _ _)) rfl ⟨X42, xc42, X45, xc45, rfl, own_from (own_row HV1.out HGL.out _) HGP.out, own_from (own_row HV2.out HGL.out _) HGP.out, below_row HBW.out HBW.out.size HG2.out _⟩
set_option maxRecDepth 100000 in
set_option maxHeartbeats 16000000 in
theorem punpack9_no (A : Option Addr) (n c : Nat) (bs : List UInt8) (w : World) (hn : bs.length = n) (hc : n ≤ c) (h1 : n ≤ 100000) (hr : Rd w w.heap.size A bs) (hno : ¬ unpOK bs) :
    Calls Tryd.prog 30 #[.slice A n c] w fun e w' => e = .returned (.tuple #[.agg sig0, .bool false]) ∧ Below w.heap.size w w' := by
  have HNO := Lib.hid (show ¬ (3 ≤ n ∧ (bs.getD 0 0).toNat ≤ 4 ∧ n = 3 + 32 * (67 + (bs.getD 0 0).toNat)) by
    rw [← hn]
    exact hno)
  have hb8 := (bs.getD 0 0).toNat_lt
  obtain ⟨h, hh⟩ : ∃ h, (bs.getD 0 0).toNat = h := ⟨_, rfl⟩
  rw [hh] at HNO hb8
  clear hno
  by_cases h3 : n < 3
  · have h3i : (n : Int) < 3 := by omega
    go_enter Tryd.func30, Tryd.ntmps30
    go_upto_region 1 with fail
    generalize hw1 : World.alloc _ _ = w3
    obtain ⟨g2, hg2⟩ : ∃ g, w.heap.size = g := ⟨_, rfl⟩
    have hf : (∃ rs, Blk w3 g2 rs 35 ∧ rs.size = 4) ∧ Below w.heap.size w w3 := by
      obtain ⟨Y2, hw, hY2⟩ : ∃ Y2, w3 = (w.alloc (.cells Y2 35)) ∧ Y2.size = 4 := ⟨_, hw1.symm, rfl⟩
      rw [hw, ← hg2]
      exact ⟨⟨Y2, by exact Blk.new _ _ _, hY2⟩, ((Below.refl _ _).alloc (Nat.le_refl _) _)⟩
    obtain ⟨rs2, hrs2, hrz2⟩ := hf.1
    have HB2 := Lib.hid hrs2
    have HRZ2 := Lib.hid hrz2
    have HBW := Lib.hid hf.2
    have HG2 := Lib.hid (show w.heap.size ≤ g2 by omega)
    clear hf hw1 hrs2 hrz2
    rw [hg2]
    clear hg2
    go_wp2_with (first
      | (with_reducible refine wpList_build_sig9 rfl rfl ?_)
      | (with_reducible refine wpList_store_blk rfl 35 (.tmp 2) (.tmp 12) rfl g2 (sig0) rfl rfl 35 rs2 HB2.out (sigA_info _ _ _ _ _ _ _ _) (by rw [sigA_size, HRZ2.out]) (sigA_one _ _ _ _ _ _ _ _) ?_))
    refine bodyPost_ret (v := .tuple #[.agg (sig0), .bool false]) (results_cell_tmp (p := 2) (q := 3) (ty := 35) (by kernel_rfl) _ _ g2 35 _ (0, 0) _ (.bool false) rfl rfl (HB2.out.row (sig0)) Tryd.underlying35 rfl (sigA_info _ _ _ _ _ _ _ _)) rfl ⟨rfl, below_row HBW.out HBW.out.size HG2.out _⟩
  · have h3i : ¬ (n : Int) < 3 := by omega
    obtain ⟨B1, hB1⟩ : ∃ x, partA A 1 c = x := ⟨_, rfl⟩
    obtain ⟨B3, hB3⟩ : ∃ x, partA A 3 c = x := ⟨_, rfl⟩
    obtain ⟨c1, hc1⟩ : ∃ x, c - 1 = x := ⟨_, rfl⟩
    obtain ⟨c3, hc3⟩ : ∃ x, c - 3 = x := ⟨_, rfl⟩
    obtain ⟨n3, hn3⟩ : ∃ x, n - 3 = x := ⟨_, rfl⟩
    have hq1 : ∀ W, (Instr.slice 24 (.slice A n c) none (some (.int .i64 1)) none).run Tryd.prog W = .ok (.slice A 1 c) W := fun W => run_part_h A n c 1 W (by omega)
    have hq2 : ∀ W, (Instr.slice 24 (.slice A n c) (some (.int .i64 1)) (some (.int .i64 3)) none).run Tryd.prog W = .ok (.slice B1 2 c1) W := fun W => by rw [← hB1, ← hc1]; exact run_part_lh A n c 1 3 W (by omega) (by omega)
    have hq3 : ∀ W, (Instr.slice 24 (.slice A n c) (some (.int .i64 3)) none none).run Tryd.prog W = .ok (.slice B3 n3 c3) W := fun W => by rw [← hB3, ← hc3, ← hn3]; exact run_part_l A n c 3 W (by omega)
    obtain ⟨l2, hl2⟩ : ∃ x, 256 * (bs.getD 1 0).toNat + (bs.getD 2 0).toNat = x := ⟨_, rfl⟩
    have HG0 := Lib.hid (fun W (hW : Below w.heap.size w W) => (show Calls Tryd.prog 65 #[.slice A 1 c] W fun e w' => e = .returned (.tuple #[.int .i64 (h : Int), .bool true]) ∧ W = w' from by
      have := get_any A 1 c W.heap.size (bs.take 1) W (by rw [List.length_take]; omega) (by unfold maxLen; omega) ((hr.on hW).take 1)
      rw [if_pos (by decide), take_one (by omega), getL_one, hh] at this
      exact this))
    have HG1 := Lib.hid (fun W (hW : Below w.heap.size w W) => (show Calls Tryd.prog 65 #[.slice B1 2 c1] W fun e w' => e = .returned (.tuple #[.int .i64 (l2 : Int), .bool true]) ∧ W = w' from by
      have := get_any B1 2 c1 W.heap.size ((bs.take 3).drop 1) W (by rw [List.length_drop, List.length_take]; omega) (by unfold maxLen; omega) (by rw [← hB1]; exact (hr.on hW).part 1 3 c (by omega) (by omega))
      rw [if_pos (by decide), take_two (by omega), getL_two, hl2] at this
      exact this))
    by_cases h4 : h > 4
    · have h4i : (h : Int) > 4 := by omega
      clear hh hB1 hB3 hc1 hc3 hn3 hl2 hn hr
      go_enter Tryd.func30, Tryd.ntmps30
      go_upto_region 1 with fail
      generalize hw1 : World.alloc _ _ = w3
      obtain ⟨g2, hg2⟩ : ∃ g, w.heap.size = g := ⟨_, rfl⟩
      have hf : (∃ rs, Blk w3 g2 rs 35 ∧ rs.size = 4) ∧ Below w.heap.size w w3 := by
        obtain ⟨Y2, hw, hY2⟩ : ∃ Y2, w3 = (w.alloc (.cells Y2 35)) ∧ Y2.size = 4 := ⟨_, hw1.symm, rfl⟩
        rw [hw, ← hg2]
        exact ⟨⟨Y2, by exact Blk.new _ _ _, hY2⟩, ((Below.refl _ _).alloc (Nat.le_refl _) _)⟩
      obtain ⟨rs2, hrs2, hrz2⟩ := hf.1
      have HB2 := Lib.hid hrs2
      have HRZ2 := Lib.hid hrz2
      have HBW := Lib.hid hf.2
      have HG2 := Lib.hid (show w.heap.size ≤ g2 by omega)
      clear hf hw1 hrs2 hrz2
      rw [hg2]
      clear hg2
      have HG0 := Lib.hid (HG0.out w3 HBW.out)
      have HG1 := Lib.hid (HG1.out w3 HBW.out)
      go_wp2_with fail
      with_reducible refine (HG0.out).mono ?_
      rintro e wx ⟨rfl, rfl⟩
      clear HG0
      go_wp2_with fail
      with_reducible refine (HG1.out).mono ?_
      rintro e wx ⟨rfl, rfl⟩
      clear HG1
      go_wp2_with (first
        | (with_reducible refine wpList_build_sig9 rfl rfl ?_)
        | (with_reducible refine wpList_store_blk rfl 35 (.tmp 2) (.tmp 37) rfl g2 (sig0) rfl rfl 35 rs2 HB2.out (sigA_info _ _ _ _ _ _ _ _) (by rw [sigA_size, HRZ2.out]) (sigA_one _ _ _ _ _ _ _ _) ?_))
      refine bodyPost_ret (v := .tuple #[.agg (sig0), .bool false]) (results_cell_tmp (p := 2) (q := 3) (ty := 35) (by kernel_rfl) _ _ g2 35 _ (0, 0) _ (.bool false) rfl rfl (HB2.out.row (sig0)) Tryd.underlying35 rfl (sigA_info _ _ _ _ _ _ _ _)) rfl ⟨rfl, below_row HBW.out HBW.out.size HG2.out _⟩
    · have h4i : ¬ (h : Int) > 4 := by omega
      have hne : ¬ (n3 : Int) = 2144 + (h : Int) * 32 := by have := HNO.out; omega
      have hbne : ((n3 : Int) != 2144 + (h : Int) * 32) = true := by simp; omega
      clear hh hB1 hB3 hc1 hc3 hn3 hl2 hn hr
      go_enter Tryd.func30, Tryd.ntmps30
      go_upto_region 1 with fail
      generalize hw1 : World.alloc _ _ = w3
      obtain ⟨g2, hg2⟩ : ∃ g, w.heap.size = g := ⟨_, rfl⟩
      have hf : (∃ rs, Blk w3 g2 rs 35 ∧ rs.size = 4) ∧ Below w.heap.size w w3 := by
        obtain ⟨Y2, hw, hY2⟩ : ∃ Y2, w3 = (w.alloc (.cells Y2 35)) ∧ Y2.size = 4 := ⟨_, hw1.symm, rfl⟩
        rw [hw, ← hg2]
        exact ⟨⟨Y2, by exact Blk.new _ _ _, hY2⟩, ((Below.refl _ _).alloc (Nat.le_refl _) _)⟩
      obtain ⟨rs2, hrs2, hrz2⟩ := hf.1
      have HB2 := Lib.hid hrs2
      have HRZ2 := Lib.hid hrz2
      have HBW := Lib.hid hf.2
      have HG2 := Lib.hid (show w.heap.size ≤ g2 by omega)
      clear hf hw1 hrs2 hrz2
      rw [hg2]
      clear hg2
      have HG0 := Lib.hid (HG0.out w3 HBW.out)
      have HG1 := Lib.hid (HG1.out w3 HBW.out)
      go_wp2_with fail
      with_reducible refine (HG0.out).mono ?_
      rintro e wx ⟨rfl, rfl⟩
      clear HG0
      go_wp2_with fail
      with_reducible refine (HG1.out).mono ?_
      rintro e wx ⟨rfl, rfl⟩
      clear HG1
      go_wp2_with (first
        | (with_reducible refine wpList_build_sig9 rfl rfl ?_)
        | (with_reducible refine wpList_store_blk rfl 35 (.tmp 2) (.tmp 37) rfl g2 (sig0) rfl rfl 35 rs2 HB2.out (sigA_info _ _ _ _ _ _ _ _) (by rw [sigA_size, HRZ2.out]) (sigA_one _ _ _ _ _ _ _ _) ?_))
      refine bodyPost_ret (v := .tuple #[.agg (sig0), .bool false]) (results_cell_tmp (p := 2) (q := 3) (ty := 35) (by kernel_rfl) _ _ g2 35 _ (0, 0) _ (.bool false) rfl rfl (HB2.out.row (sig0)) Tryd.underlying35 rfl (sigA_info _ _ _ _ _ _ _ _)) rfl ⟨rfl, below_row HBW.out HBW.out.size HG2.out _⟩
end Go.Proofs.YtfgieebccjoboaaDoor
