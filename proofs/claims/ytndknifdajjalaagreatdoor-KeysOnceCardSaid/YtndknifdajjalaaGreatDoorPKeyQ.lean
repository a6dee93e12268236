/- The program's keystore: Sign. -/
import Derived.Test.YtndknifdajjalaaGreatDoorPKeyP
import Derived.Test.YtndknifdajjalaaGreatDoorPMpC
namespace Go.Proofs.YtndknifdajjalaaGreatDoor
open Go.RowKit
set_option maxRecDepth 100000

theorem ST.four_lt {w : World} {q p g b c : Nat} {s : Dsk} {R n m : Nat} {t : Sto} (h : ST w q p g b c s R n m t) : ∀ j, fourS q p g b j → j < w.heap.size := fun j hj => by
  rcases hj with rfl | rfl | rfl | rfl
  · exact h.sp.head.lt
  · exact h.sp.disk.head.lt
  · exact h.sp.disk.body.lt
  · exact h.bl
/-- A block of the call's own is written. -/
theorem Chg.row_new {S : Nat → Prop} {a b : World} (h : Chg S a b) {g : Nat} (hg : a.heap.size ≤ g) (cs : Array Value) : Chg S a (b.setRow g cs) := h.grown (setRow_grown b g cs) (fun j e hj => by cases e; omega)
theorem chg_row (w : World) (g : Nat) (cs : Array Value) : Chg (fun j => j = g) w (w.setRow g cs) := (Chg.refl _ w).grown (setRow_grown w g cs) (fun j e _ => by cases e; rfl)
theorem KS.row {w : World} {k q : Nat} {nb : ByteArray} {sd : List UInt8} {h nx : Nat} (H : KS w k q nb sd h nx) {g : Nat} (hg : g ≠ k) (cs : Array Value) : KS (w.setRow g cs) k q nb sd h nx := H.chg (chg_row w g cs) (fun e => hg e.symm)
theorem ST.row {w : World} {q p g b c : Nat} {s : Dsk} {R n m : Nat} {t : Sto} (h : ST w q p g b c s R n m t) {j : Nat} (hj : ¬ fourS q p g b j) (cs : Array Value) : ST (w.setRow j cs) q p g b c s R n m t :=
  h.apart (chg_row w j cs) (fun e => hj (.inl e)) (fun e => hj (.inr (.inl e))) (fun e => hj (.inr (.inr (.inl e)))) (fun e => hj (.inr (.inr (.inr e))))
theorem pput4K (x : Nat) (w : World) (hx : x < 4294967296) : Calls Tryz.prog 33 #[.int .i64 (x : Int), .int .i64 4] w fun e w' => ∃ A c, e = .returned (.slice A 4 c) ∧ 4 ≤ c ∧ c ≤ maxLen ∧ Rd w' w'.heap.size A (putL x 4) ∧ Below w.heap.size w w' :=
  (put_any (x : Int) 4 w (by omega)).mono fun _ _ ⟨A, c, he, ho, hb⟩ => by
    have e4 : putW 4 = 4 := rfl
    have e5 : putN (x : Int) = x := by unfold putN; split <;> omega
    rw [e4] at he ho
    rw [e5] at ho
    obtain ⟨A', c', e, h1, h2⟩ := own_caps ho
    injection e with e1 e2 e3
    subst e1 e3
    exact ⟨A, c, he, h1, h2, Rd.of_own ho, hb⟩
set_option maxHeartbeats 2000000 in
theorem psignk_none {w : World} {k q p g b c : Nat} {s : Dsk} {R n m : Nat} {t : Sto} {name sd : List UInt8} {h nx : Nat} (H : KS w k q ⟨name.toArray⟩ sd h nx) (hs : ST w q p g b c s R n m t) (hd : ShortIn t name) (hx : nextOf t name nx ≤ 72057594037927936) (hz : 2 ^ h ≤ nextOf t name nx) (B : Option Addr) (nb cb : Nat) :
    Calls Tryz.prog 10 #[.pointer (some ⟨k, 0, none⟩), .slice B nb cb] w fun e w' => e = .returned (.tuple #[.agg sig0, .int .i64 9]) ∧ KS w' k q ⟨name.toArray⟩ sd h (nextOf t name nx) ∧ Chg (fun j => j = k) w w' := by
  have HK := Lib.hid H
  have HS := Lib.hid hs
  have HLF := Lib.hid (fun W (hb : Below w.heap.size w W) => by
    have h1 := pleft_any (HK.out.below hb) (HS.out.below hb) hd hx
    rw [show 2 ^ h - nextOf t name nx = 0 by omega] at h1
    exact h1)
  generalize nextOf t name nx = X at *
  clear H hs hd hz
  go_enter Tryz.func10, Tryz.ntmps10
  go_upto_region 1 with fail
  generalize hw1 : World.alloc _ _ = w3
  obtain ⟨g4, hg4⟩ : ∃ g, w.heap.size = g := ⟨_, rfl⟩
  have hf : (∃ rs, Blk w3 g4 rs 39 ∧ rs.size = 4) ∧ Below w.heap.size w w3 := by
    obtain ⟨Y8, hw, hY8⟩ : ∃ Y8, w3 = (w.alloc (.cells Y8 39)) ∧ Y8.size = 4 := ⟨_, hw1.symm, rfl⟩
    rw [hw, ← hg4]
    exact ⟨⟨Y8, Blk.new _ _ _, hY8⟩, (Below.refl _ _).alloc (Nat.le_refl _) _⟩
  obtain ⟨rs8, hrs8, hrz8⟩ := hf.1
  have HB8 := Lib.hid hrs8
  have HRZ8 := Lib.hid hrz8
  have HBW := Lib.hid hf.2
  have HG4 := Lib.hid (show w.heap.size ≤ g4 by omega)
  have HNE := Lib.hid (show g4 ≠ k by have := HK.out.lt; omega)
  clear hf hw1 hrs8 hrz8
  rw [hg4]
  clear hg4
  go_wp2_with fail
  with_reducible refine (HLF.out w3 HBW.out).mono ?_
  rintro e w4 ⟨rfl, K4, C4⟩
  have HK4 := Lib.hid K4
  have HC4 := Lib.hid ((Chg.of_below HBW.out).trans C4)
  replace HB8 := Lib.hid (C4.blk HB8.out HNE.out)
  clear K4 C4
  go_wp2_with (first
    | (with_reducible refine wpList_build_sig9 rfl rfl ?_)
    | (with_reducible refine wpList_store_blk rfl 39 (.tmp 4) (.tmp 11) rfl g4 (sig0) rfl rfl 39 rs8 HB8.out (sigA_info _ _ _ _ _ _ _ _) (by rw [sigA_size, HRZ8.out]) (sigA_one _ _ _ _ _ _ _ _) ?_))
  refine bodyPost_ret (v := .tuple #[.agg sig0, .int .i64 9]) (results_cell_tmp (p := 4) (q := 5) (ty := 39) (by kernel_rfl) _ _ g4 39 _ (0, 0) _ (.int .i64 9) rfl rfl (HB8.out.row sig0) Tryz.underlying39 rfl (sigA_info _ _ _ _ _ _ _ _)) rfl ⟨rfl, HK4.out.row HNE.out _, HC4.out.row_new HG4.out _⟩
/-- What a Sign leaves that has found a leaf. -/
def SignPost (w : World) (k q p g b c R n m : Nat) (name sd msg : List UInt8) (h X : Nat) (Y : Dsk × Sto × Int) (e : Ending) (w' : World) : Prop :=
  ST w' q p g b c Y.1 R n m Y.2.1 ∧ Chg (fiveS k q p g b) w w' ∧
  ((Y.2.2 ≠ 0 ∧ e = .returned (.tuple #[.agg sig0, .int .i64 Y.2.2]) ∧ KS w' k q ⟨name.toArray⟩ sd h X) ∨
   (Y.2.2 = 0 ∧ KS w' k q ⟨name.toArray⟩ sd h (X + 1) ∧ ∃ V cv P cp, e = .returned (.tuple #[.agg (sigA (h : Int) (X : Int) V P 67 cv (proofV (pubsL sd (2 ^ h)) X).length cp), .int .i64 0]) ∧ OwnH w' w.heap.size (.slice V 67 cv) (atL (signF sd (X : Int) (digH (msgH msg))) 67) ∧ OwnH w' w.heap.size (.slice P (proofV (pubsL sd (2 ^ h)) X).length cp) (proofV (pubsL sd (2 ^ h)) X)))
set_option maxHeartbeats 4000000 in
theorem psignk_put {w : World} {k q p g b c : Nat} {s : Dsk} {R n m : Nat} {t : Sto} {name sd : List UInt8} {h nx X : Nat} (H : KS w k q ⟨name.toArray⟩ sd h nx) (hs : ST w q p g b c s R n m t) (hd : ShortIn t name) (hX : nextOf t name nx = X) (hz : X < 2 ^ h) (hm : m + 1 < 4294967296) (hnl : name.length ≤ 900) (ap : Apart5 k q p g b)
    (B : Option Addr) (nb cb : Nat) (msg : List UInt8) (hl : msg.length = nb) (h1 : nb ≤ 1000) (hc : nb ≤ cb) (hcm : cb ≤ maxLen) (hrm : ∀ W, Chg (fiveS k q p g b) w W → Rd W W.heap.size B msg) (htab : ∀ W, Chg (fiveS k q p g b) w W → Pow10 W.heap.size W) :
    Calls Tryz.prog 10 #[.pointer (some ⟨k, 0, none⟩), .slice B nb cb] w (SignPost w k q p g b c R n (m + 1) name sd msg h X (t.put s R n name (putL (X + 1) 4))) := by
  have HK := Lib.hid H
  have HS := Lib.hid hs
  have hh := H.high
  have h16 : 2 ^ h ≤ 16 := Nat.pow_le_pow_right (n := 2) (by omega) hh
  obtain ⟨r, hr⟩ : ∃ r, 2 ^ h - X = r := ⟨_, rfl⟩
  have hr1 : 1 ≤ r := by omega
  have hrz : ((r : Int) == 0) = false := by simp; omega
  have HLF := Lib.hid (fun W (hb : Below w.heap.size w W) => by
    have h1 := pleft_any (HK.out.below hb) (HS.out.below hb) hd (by rw [hX]; omega)
    rw [hX, hr] at h1
    exact h1)
  have HAP := Lib.hid ap
  have HRM := Lib.hid hrm
  have HTAB := Lib.hid htab
  have HPT := Lib.hid (fun W A d (hst : ST W q p g b c s R n m t) (h4 : 4 ≤ d) (hdm : d ≤ maxLen) (hrd : Rd W W.heap.size A (putL (X + 1) 4)) (ht : Pow10 W.heap.size W) => psput_any hst hm name (putL (X + 1) 4) A 4 d (putL_length _ _) h4 hdm hrd ht (by omega) (by omega))
  have HCP := Lib.hid (fun W => pput4K (X + 1) W (by omega))
  have HSG := Lib.hid (fun W (hR : Rd W W.heap.size B msg) (ht : Pow10 W.heap.size W) => psig9_yes sd (h : Int) X B nb cb msg W (by rw [cntN_nat hh]; exact hz) H.seed hl h1 hc hcm hR ht)
  have HCN := Lib.hid (cntN_nat hh)
  have hx1 : IntKind.i64.wrap ((X : Int) + 1) = ((X + 1 : Nat) : Int) := by rw [IntWalk.i64_in _ (by omega)]; omega
  generalize t.put s R n name (putL (X + 1) 4) = Y at *
  obtain ⟨Y1, Y2, K⟩ := Y
  clear H hs hd hX hz hm hnl ap hrm htab hr hl
  go_enter Tryz.func10, Tryz.ntmps10
  go_upto_region 1 with fail
  generalize hw1 : World.alloc _ _ = w3
  obtain ⟨g4, hg4⟩ : ∃ g, w.heap.size = g := ⟨_, rfl⟩
  have hf : (∃ rs, Blk w3 g4 rs 39 ∧ rs.size = 4) ∧ Below w.heap.size w w3 := by
    obtain ⟨Y8, hw, hY8⟩ : ∃ Y8, w3 = (w.alloc (.cells Y8 39)) ∧ Y8.size = 4 := ⟨_, hw1.symm, rfl⟩
    rw [hw, ← hg4]
    exact ⟨⟨Y8, Blk.new _ _ _, hY8⟩, (Below.refl _ _).alloc (Nat.le_refl _) _⟩
  obtain ⟨rs8, hrs8, hrz8⟩ := hf.1
  have HB8 := Lib.hid hrs8
  have HRZ8 := Lib.hid hrz8
  have HBW := Lib.hid hf.2
  have HG4 := Lib.hid (show w.heap.size ≤ g4 by omega)
  have HNE := Lib.hid (show g4 ≠ k by have := HK.out.lt; omega)
  have HN5 := Lib.hid (show ¬ fourS q p g b g4 from fun e => by have := HS.out.four_lt _ e; omega)
  clear hf hw1 hrs8 hrz8
  rw [hg4]
  clear hg4
  go_wp2_with fail
  with_reducible refine (HLF.out w3 HBW.out).mono ?_
  rintro e w4 ⟨rfl, K4, C4⟩
  have HK4 := Lib.hid K4
  have HS4 := Lib.hid ((HS.out.below HBW.out).apart5 C4 HAP.out)
  have HC4 := Lib.hid ((Chg.of_below HBW.out : Chg (fiveS k q p g b) w w3).trans (C4.more one_five))
  replace HB8 := Lib.hid (C4.blk HB8.out HNE.out)
  obtain ⟨c0, c1, c2, c3⟩ := K4.cells
  have HKEEP := Lib.hid (fun (W : World) (hc : Chg (fourS q p g b) w4 W) => (show (W.cell? ⟨k, 0, none⟩ = some (.pointer (some ⟨q, 0, none⟩)) ∧ W.cell? ⟨k, 1, none⟩ = some (.string ⟨name.toArray⟩)) ∧ Chg (fourS q p g b) w4 W from ⟨⟨(HK4.out.chg hc HAP.out.four).cells.1, (HK4.out.chg hc HAP.out.four).cells.2.1⟩, hc⟩))
  have hcd : Chg (fourS q p g b) w4 w4.drew := (Chg.refl _ _).drew
  have hbd : Below w4.heap.size w4 w4.drew := (Below.refl _ _).drew
  clear K4 C4 HLF HBW
  go_wp2_with fail
  go_region_held3 (fun W => (W.cell? ⟨k, 0, none⟩ = some (.pointer (some ⟨q, 0, none⟩)) ∧ W.cell? ⟨k, 1, none⟩ = some (.string ⟨name.toArray⟩)) ∧ Chg (fourS q p g b) w4 W)
    ((first | exact HKEEP.out _ ‹_› | exact HKEEP.out _ (Chg.drew ‹_›) | exact HKEEP.out _ (Chg.drewN ‹_› _)))
    ((first
      | (go_at_call 33; refine (HCP.out _).mono ?_; rintro e w5 ⟨A5, k5, rfl, h45, hk5, hr5, hb5⟩; have hbel5 : Below w4.heap.size w4 w5 := hbd.trans (hb5.mono hbd.size); have hch5 : Chg (fourS q p g b) w4 w5 := .of_below hbel5; have HR5 := Lib.hid hr5; clear hr5)
      | (go_at_call 32; refine (HPT.out w5 A5 k5 (HS4.out.below hbel5) h45 hk5 HR5.out (HTAB.out _ (HC4.out.trans (hch5.more four_five)))).mono ?_; rintro e w6 ⟨rfl, S6, C6⟩; have hch6 : Chg (fourS q p g b) w4 w6 := hch5.trans C6; have HS6 := Lib.hid S6; clear S6 C6)))
  all_goals
    have HK6 := Lib.hid (HK4.out.chg hch6 HAP.out.four)
    have HC6 := Lib.hid (HC4.out.trans (hch6.more four_five))
    replace HB8 := Lib.hid (hch6.blk HB8.out HN5.out)
    clear HKEEP HPT HCP HS4 HC4 HK4 HR5 hch5 hbel5 hb5 hch6 hcd hbd c0 c1 c2 c3
    by_cases hK : K = 0
    · subst hK
      obtain ⟨d0, d1, d2, d3⟩ := HK6.out.cells
      have f19 := HK6.out.blk.frozen 19
      go_wp2_with fail
      have HK7 := Lib.hid (show KS (w6.setCell ⟨k, 19, none⟩ (.int .i64 ((X : Int) + 1))) k q ⟨name.toArray⟩ sd h (X + 1) from HK6.out.set (X + 1))
      have hc7 : Chg (fun j => j = k) w6 (w6.setCell ⟨k, 19, none⟩ (.int .i64 ((X : Int) + 1))) := (Chg.refl (fun j => j = k) w6).setCell (p := ⟨k, 19, none⟩) (fun _ => rfl) _
      have HS7 := Lib.hid (HS6.out.apart5 hc7 HAP.out)
      have HC7 := Lib.hid (HC6.out.trans (hc7.more one_five))
      replace HB8 := Lib.hid (hc7.blk HB8.out HNE.out)
      generalize w6.setCell ⟨k, 19, none⟩ (.int .i64 ((X : Int) + 1)) = w7 at *
      clear hc7 d0 d1 d2 d3 f19 HS6 HC6 HK6 hx1 hrz
      obtain ⟨d0, d1, d2, d3⟩ := HK7.out.cells
      obtain ⟨XS, hXS⟩ : ∃ x, u8A sd = x := ⟨_, rfl⟩
      rw [hXS] at HSG
      have HXS := Lib.hid (show u8A sd = XS from hXS)
      have HSD := Lib.hid HK7.out.seed
      have HRG := Lib.hid (fun W (hW : Below w7.heap.size w7 W) => (HK7.out.below hW).range)
      have HHI := Lib.hid (fun W (hW : Below w7.heap.size w7 W) => (HK7.out.below hW).cells.2.2.1)
      rw [HCN.out] at HSG
      obtain ⟨sg, hsg⟩ : ∃ x, atL (signF sd (X : Int) (digH (msgH msg))) 67 = x := ⟨_, rfl⟩
      obtain ⟨pv, hpv⟩ : ∃ x, proofV (pubsL sd (2 ^ h)) X = x := ⟨_, rfl⟩
      obtain ⟨K2, hK2⟩ : ∃ K2, pv.length = K2 := ⟨_, rfl⟩
      rw [hsg, hpv, hK2] at HSG
      have HEQ := Lib.hid (And.intro hsg (And.intro hpv hK2))
      clear hXS d0 d1 d2 d3 hK2 hsg hpv
      -- region 8
      refine wp_region_loose 13 2 (fun i => false) (promises [.is (.pointer (some ⟨k, 0, none⟩)), .is (.pointer (some ⟨k, 0, none⟩)), .is (.pointer (some ⟨k, 2, none⟩)), .is (.agg XS), .is (.pointer (some ⟨k, 0, none⟩)), .is (.pointer (some ⟨k, 0, none⟩)), .is (.pointer (some ⟨k, 18, none⟩)), .is (.int .i64 (h : Int)), .is (.int .i64 (X : Int)), .is (.slice B nb cb), .sg w7.heap.size (h : Int) (X : Int) K2 sg pv, .sa w7.heap.size (h : Int) (X : Int) K2 sg pv, .is (.int .i64 0)]) (by kernel_rfl) rfl (by kernel_rfl) (fun i v w w' h hb => Spec.keep h hb) ⟨?_, ?_, ?_, ?_, ?_, ?_, ?_, ?_, ?_, ?_, ?_, ?_, ?_, trivial⟩ ?_
      · refine StepOKl.of ?_
        intro ac w hb hu hk
        refine ⟨wanted_none rfl, ?_⟩
        have e0 : ac.eval (.tmp 0) = .pointer (some ⟨k, 0, none⟩) := hu.is (t := 0) (by kernel_rfl)
        exact step_value (BigFrame.run_move (.tmp 0) rfl w) (Below.refl _ _) e0
      · refine StepOKl.of ?_
        intro ac w hb hu hk
        refine ⟨wanted_none rfl, ?_⟩
        have e37 : ac.eval (.tmp 37) = (.pointer (some ⟨k, 0, none⟩)) := (hk ⟨0, .data⟩ (by simp) rfl).is rfl rfl
        refine step_value (w' := w) (v := .pointer (some ⟨k, 0, none⟩)) ?_ (Below.refl _ _) rfl
        generalize ac.eval = ρ at e37 ⊢
        go_simp
      · refine StepOKl.of ?_
        intro ac w hb hu hk
        refine ⟨wanted_none rfl, ?_⟩
        have e38 : ac.eval (.tmp 38) = (.pointer (some ⟨k, 0, none⟩)) := (hk ⟨1, .data⟩ (by simp) rfl).is rfl rfl
        refine step_value (w' := w) (v := .pointer (some ⟨k, 2, none⟩)) ?_ (Below.refl _ _) rfl
        generalize ac.eval = ρ at e38 ⊢
        go_simp
      · refine StepOKl.of ?_
        intro ac w hb hu hk
        refine ⟨wanted_none rfl, ?_⟩
        have e39 : ac.eval (.tmp 39) = (.pointer (some ⟨k, 2, none⟩)) := (hk ⟨2, .data⟩ (by simp) rfl).is rfl rfl
        exact step_value (run_load_row 23 (.tmp 39) rfl k 2 e39 (Lib.byteCells sd) _ (HRG.out w hb) Tryz.underlying23 rfl (by rw [Lib.byteCells_length, HSD.out]; kernel_rfl) HXS.out.symm) (Below.refl _ _) rfl
      · refine StepOKl.of ?_
        intro ac w hb hu hk
        refine ⟨wanted_none rfl, ?_⟩
        have e0 : ac.eval (.tmp 0) = .pointer (some ⟨k, 0, none⟩) := hu.is (t := 0) (by kernel_rfl)
        exact step_value (BigFrame.run_move (.tmp 0) rfl w) (Below.refl _ _) e0
      · refine StepOKl.of ?_
        intro ac w hb hu hk
        refine ⟨wanted_none rfl, ?_⟩
        have e41 : ac.eval (.tmp 41) = (.pointer (some ⟨k, 0, none⟩)) := (hk ⟨4, .data⟩ (by simp) rfl).is rfl rfl
        refine step_value (w' := w) (v := .pointer (some ⟨k, 0, none⟩)) ?_ (Below.refl _ _) rfl
        generalize ac.eval = ρ at e41 ⊢
        go_simp
      · refine StepOKl.of ?_
        intro ac w hb hu hk
        refine ⟨wanted_none rfl, ?_⟩
        have e42 : ac.eval (.tmp 42) = (.pointer (some ⟨k, 0, none⟩)) := (hk ⟨5, .data⟩ (by simp) rfl).is rfl rfl
        refine step_value (w' := w) (v := .pointer (some ⟨k, 18, none⟩)) ?_ (Below.refl _ _) rfl
        generalize ac.eval = ρ at e42 ⊢
        go_simp
      · refine StepOKl.of ?_
        intro ac w hb hu hk
        refine ⟨wanted_none rfl, ?_⟩
        have e43 : ac.eval (.tmp 43) = (.pointer (some ⟨k, 18, none⟩)) := (hk ⟨6, .data⟩ (by simp) rfl).is rfl rfl
        have hc := HHI.out w hb
        refine step_value (w' := w) (v := .int .i64 (h : Int)) ?_ (Below.refl _ _) rfl
        generalize ac.eval = ρ at e43 ⊢
        go_simp
      · refine StepOKl.of ?_
        intro ac w hb hu hk
        refine ⟨wanted_none rfl, ?_⟩
        have e6 : ac.eval (.tmp 6) = .int .i64 (X : Int) := hu.is (t := 6) (by kernel_rfl)
        exact step_value (BigFrame.run_move (.tmp 6) rfl w) (Below.refl _ _) e6
      · refine StepOKl.of ?_
        intro ac w hb hu hk
        refine ⟨wanted_none rfl, ?_⟩
        have e1 : ac.eval (.tmp 1) = .slice B nb cb := hu.is (t := 1) (by kernel_rfl)
        exact step_value (BigFrame.run_move (.tmp 1) rfl w) (Below.refl _ _) e1
      · refine StepOKl.of ?_
        intro ac w hb hu hk
        refine ⟨wanted_none rfl, ?_⟩
        have e40 : ac.eval (.tmp 40) = (.agg XS) := (hk ⟨3, .data⟩ (by simp) rfl).is rfl rfl
        have e44 : ac.eval (.tmp 44) = (.int .i64 (h : Int)) := (hk ⟨7, .data⟩ (by simp) rfl).is rfl rfl
        have e45 : ac.eval (.tmp 45) = (.int .i64 (X : Int)) := (hk ⟨8, .data⟩ (by simp) rfl).is rfl rfl
        have e46 : ac.eval (.tmp 46) = (.slice B nb cb) := (hk ⟨9, .data⟩ (by simp) rfl).is rfl rfl
        have ef : ac.eval (.func 34) = .func (.func 34) #[] #[] := rfl
        refine step_enter (f := 34) (args := #[.agg XS, .int .i64 (h : Int), .int .i64 (X : Int), .slice B nb cb]) ?_ ?_
        · generalize ac.eval = ρ at e40 e44 e45 e46 ef ⊢
          go_simp
        · exact (HSG.out w (HRM.out _ (HC7.out.trans (.of_below hb))) (HTAB.out _ (HC7.out.trans (.of_below hb)))).mono fun e w' ⟨V, cv, P, cp, he, hv, hp, hq⟩ => ⟨_, he, ⟨V, cv, P, cp, rfl, own_from hv hb.size, own_from hp hb.size⟩, hq⟩
      · refine StepOKl.of ?_
        intro ac w hb hu hk
        refine ⟨wanted_none rfl, ?_⟩
        have e47 : ∃ V cv P cp, ac.eval (.tmp 47) = .tuple #[.agg (sigA (h : Int) (X : Int) V P 67 cv K2 cp), .int .i64 0] ∧ OwnH w w7.heap.size (.slice V 67 cv) sg ∧ OwnH w w7.heap.size (.slice P K2 cp) pv := (hk ⟨10, .data⟩ (by simp) rfl).is rfl rfl
        obtain ⟨V, cv, P, cp, eX, hv, hp⟩ := e47
        refine step_value (w' := w) (v := .agg (sigA (h : Int) (X : Int) V P 67 cv K2 cp)) ?_ (Below.refl _ _) ⟨V, cv, P, cp, rfl, hv, hp⟩
        generalize ac.eval = ρ at eX ⊢
        go_simp
      · refine StepOKl.of ?_
        intro ac w hb hu hk
        refine ⟨wanted_none rfl, ?_⟩
        have e47 : ∃ V cv P cp, ac.eval (.tmp 47) = .tuple #[.agg (sigA (h : Int) (X : Int) V P 67 cv K2 cp), .int .i64 0] ∧ OwnH w w7.heap.size (.slice V 67 cv) sg ∧ OwnH w w7.heap.size (.slice P K2 cp) pv := (hk ⟨10, .data⟩ (by simp) rfl).is rfl rfl
        obtain ⟨V, cv, P, cp, eX, hv, hp⟩ := e47
        refine step_value (w' := w) (v := .int .i64 0) ?_ (Below.refl _ _) rfl
        generalize ac.eval = ρ at eX ⊢
        go_simp
      · intro ac w' hb hu hk hap
        obtain ⟨_, h37, rfl⟩ := (hk 0 (by decide)).put rfl rfl
        obtain ⟨_, h38, rfl⟩ := (hk 1 (by decide)).put rfl rfl
        obtain ⟨_, h39, rfl⟩ := (hk 2 (by decide)).put rfl rfl
        obtain ⟨_, h40, rfl⟩ := (hk 3 (by decide)).put rfl rfl
        obtain ⟨_, h41, rfl⟩ := (hk 4 (by decide)).put rfl rfl
        obtain ⟨_, h42, rfl⟩ := (hk 5 (by decide)).put rfl rfl
        obtain ⟨_, h43, rfl⟩ := (hk 6 (by decide)).put rfl rfl
        obtain ⟨_, h44, rfl⟩ := (hk 7 (by decide)).put rfl rfl
        obtain ⟨_, h45, rfl⟩ := (hk 8 (by decide)).put rfl rfl
        obtain ⟨_, h46, rfl⟩ := (hk 9 (by decide)).put rfl rfl
        obtain ⟨_, h47, ⟨V47, cv47, P47, cp47, rfl, hV47, hP47⟩⟩ := (hk 10 (by decide)).put rfl rfl
        obtain ⟨_, h48, ⟨V48, cv48, P48, cp48, rfl, hV48, hP48⟩⟩ := (hk 11 (by decide)).put rfl rfl
        obtain ⟨_, h49, rfl⟩ := (hk 12 (by decide)).put rfl rfl
        clear hap
        have hF : AllPuts ac.tmps ((37, _) :: (38, _) :: (39, _) :: (40, _) :: (41, _) :: (42, _) :: (43, _) :: (44, _) :: (45, _) :: (46, _) :: (47, _) :: (48, _) :: (49, _) :: []) := ⟨h37, h38, h39, h40, h41, h42, h43, h44, h45, h46, h47, h48, h49, trivial⟩
        obtain rfl := frame_puts hu (by kernel_rfl) hF
        simp only [puts, Act.put, List.setIfInBounds_toArray, List.set_cons_zero, List.set_cons_succ, List.drop_succ_cons, List.drop_zero]
        clear hk hu hF h37 h38 h39 h40 h41 h42 h43 h44 h45 h46 h47 h48 h49
        obtain ⟨V, hVE⟩ : ∃ V, V48 = V := ⟨_, rfl⟩
        obtain ⟨cv, hcE⟩ : ∃ V, cv48 = V := ⟨_, rfl⟩
        obtain ⟨Q, hPE⟩ : ∃ V, P48 = V := ⟨_, rfl⟩
        obtain ⟨cp, hdE⟩ : ∃ V, cp48 = V := ⟨_, rfl⟩
        rw [hVE, hcE, hPE, hdE]
        rw [hVE, hcE] at hV48
        rw [hPE, hdE] at hP48
        have HV1 := Lib.hid hV48
        have HV2 := Lib.hid hP48
        have HGL := Lib.hid (show g4 < w7.heap.size from HB8.out.lt)
        have HW7 := Lib.hid (show w.heap.size ≤ w7.heap.size from HC7.out.size)
        have HC8 := Lib.hid (HC7.out.trans (.of_below hb))
        have HS8 := Lib.hid (HS7.out.below hb)
        have HK8 := Lib.hid (HK7.out.below hb)
        replace HB8 := Lib.hid (HB8.out.below hb HB8.out.lt)
        clear hb hV48 hP48 hVE hcE hPE hdE HRG HHI HSG
        go_wp2_with (with_reducible refine wpList_store_blk rfl 39 (.tmp 4) (.tmp 48) rfl g4 (sigA (h : Int) (X : Int) V Q 67 cv K2 cp) rfl rfl 39 rs8 HB8.out (sigA_info _ _ _ _ _ _ _ _) (by rw [sigA_size, HRZ8.out]) (sigA_one _ _ _ _ _ _ _ _) ?_)
        refine bodyPost_ret (v := .tuple #[.agg (sigA (h : Int) (X : Int) V Q 67 cv K2 cp), .int .i64 0]) (results_cell_tmp (p := 4) (q := 5) (ty := 39) (by kernel_rfl) _ _ g4 39 _ (0, 0) _ (.int .i64 0) rfl rfl (HB8.out.row (sigA (h : Int) (X : Int) V Q 67 cv K2 cp)) Tryz.underlying39 rfl (sigA_info _ _ _ _ _ _ _ _)) rfl ?_
        obtain ⟨E1, E2, E3⟩ := HEQ.out
        subst E3 E2 E1
        exact ⟨HS8.out.row HN5.out _, HC8.out.row_new HG4.out _, .inr ⟨rfl, HK8.out.row HNE.out _, V, cv, Q, cp, rfl, own_from (own_row HV1.out HGL.out _) HW7.out, own_from (own_row HV2.out HGL.out _) HW7.out⟩⟩
    · have hKb : (K == 0) = false := beq_eq_false_iff_ne.2 hK
      go_wp2_with (first
        | (with_reducible refine wpList_build_sig9 rfl rfl ?_)
        | (with_reducible refine wpList_store_blk rfl 39 (.tmp 4) (.tmp 30) rfl g4 (sig0) rfl rfl 39 rs8 HB8.out (sigA_info _ _ _ _ _ _ _ _) (by rw [sigA_size, HRZ8.out]) (sigA_one _ _ _ _ _ _ _ _) ?_))
      refine bodyPost_ret (v := .tuple #[.agg sig0, .int .i64 K]) (results_cell_tmp (p := 4) (q := 5) (ty := 39) (by kernel_rfl) _ _ g4 39 _ (0, 0) _ (.int .i64 K) rfl rfl (HB8.out.row sig0) Tryz.underlying39 rfl (sigA_info _ _ _ _ _ _ _ _)) rfl ?_
      exact ⟨HS6.out.row HN5.out _, HC6.out.row_new HG4.out _, .inl ⟨hK, rfl, HK6.out.row HNE.out _⟩⟩
end Go.Proofs.YtndknifdajjalaaGreatDoor
