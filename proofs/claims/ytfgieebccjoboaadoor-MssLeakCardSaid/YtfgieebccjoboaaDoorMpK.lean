/- Whether an explanation holds, as the program says: a leak, a break. -/
import Derived.Test.YtfgieebccjoboaaDoorMpJ
namespace Go.Proofs.YtfgieebccjoboaaDoor
open Go.RowKit

/-- Is the value a chain's own at that place, and was it not given out? -/
def secP (sd own : List UInt8) (lf ch pl : Int) (v : List UInt8) : Prop := v = alongH pl.toNat (startH sd lf ch) ∧ (own = [] ∨ pl.toNat < (digH (msgH own)).getD ch.toNat 0)
instance (sd own : List UInt8) (lf ch pl : Int) (v : List UInt8) : Decidable (secP sd own lf ch pl v) := by unfold secP; infer_instance
/-- What an explanation's cells hold. -/
def ForgeC (FA : Array Value) (a b : Value) (lk : Bool) (lf ch pl : Int) (v : List UInt8) : Prop :=
  FA.size = 38 ∧ FA[0]? = some a ∧ FA[1]? = some b ∧ FA[2]? = some (.bool lk) ∧ FA[3]? = some (.int .i64 lf) ∧ FA[4]? = some (.int .i64 ch) ∧ FA[5]? = some (.int .i64 pl) ∧ ∀ j u, (Lib.byteCells v)[j]? = some u → FA[6 + j]? = some u
theorem forge_cells (A B : Option Addr) (n c m d : Nat) (lk : Bool) (lf ch pl : Int) {v : List UInt8} (hv : v.length = 32) : ForgeC (forgeA A B n c m d lk lf ch pl v) (.slice A n c) (.slice B m d) lk lf ch pl v := by
  refine ⟨by unfold forgeA; rw [Array.size_append, u8A_size, hv]; rfl, ?_, ?_, ?_, ?_, ?_, ?_, fun j u hu => ?_⟩
  all_goals unfold forgeA
  · rw [Array.getElem?_append_left (by simp)]; rfl
  · rw [Array.getElem?_append_left (by simp)]; rfl
  · rw [Array.getElem?_append_left (by simp)]; rfl
  · rw [Array.getElem?_append_left (by simp)]; rfl
  · rw [Array.getElem?_append_left (by simp)]; rfl
  · rw [Array.getElem?_append_left (by simp)]; rfl
  · rw [Array.getElem?_append_right (by simp)]
    simpa [u8A] using hu
set_option maxRecDepth 100000 in
set_option maxHeartbeats 8000000 in
theorem psecret9_any (sd : List UInt8) (A : Option Addr) (n c : Nat) (own : List UInt8) (FA : Array Value) (a b : Value) (lk : Bool) (lf ch pl : Int) (vv : List UInt8) (w : World) (hs : sd.length = 16) (hn : own.length = n) (h1 : n ≤ 1000) (hc : n ≤ c) (hcm : c ≤ maxLen) (hr : Rd w w.heap.size A own) (hF : ForgeC FA a b lk lf ch pl vv) (hv : vv.length = 32) (hl1 : lf ≤ 9223372036854775807) (hc0 : 0 ≤ ch) (hc67 : ch < 67) (hp0 : 0 ≤ pl) (hp16 : pl < 16) (htab : Pow10 w.heap.size w) :
    Calls Tryd.prog 53 #[.agg (u8A sd), .slice A n c, .agg FA] w fun e w' => e = .returned (.bool (decide (secP sd own lf ch pl vv))) ∧ Below w.heap.size w w' := by
  obtain ⟨X, hX⟩ : ∃ x, u8A sd = x := ⟨_, rfl⟩
  have HEX := Lib.hid hX
  have HZX := Lib.hid (show X.size = 16 by rw [← hX, u8A_size]; exact hs)
  have HOX := Lib.hid (show X.all (·.oneCell') = true by rw [← hX]; exact u8A_one _)
  obtain ⟨V, hV⟩ : ∃ x, u8A vv = x := ⟨_, rfl⟩
  have HEV := Lib.hid hV
  have HZV := Lib.hid (show V.size = 32 by rw [← hV, u8A_size]; exact hv)
  have HOV := Lib.hid (show V.all (·.oneCell') = true by rw [← hV]; exact u8A_one _)
  have HTAB := Lib.hid htab
  have HLvv := Lib.hid hv
  have HEvv := Lib.hid hV
  obtain ⟨s, hsv⟩ : ∃ s, startH sd lf ch = s := ⟨_, rfl⟩
  have hsl : s.length = 32 := by rw [← hsv]; exact startH_len _ _ _
  obtain ⟨y, hy⟩ : ∃ y, alongH pl.toNat s = y := ⟨_, rfl⟩
  have hyl : y.length = 32 := by rw [← hy]; exact alongH_len hsl _
  have HSP := Lib.hid (show secP sd own lf ch pl vv ↔ vv = y ∧ (own = [] ∨ pl.toNat < (digH (msgH own)).getD ch.toNat 0) from by
    unfold secP
    rw [hsv, hy])
  obtain ⟨S, hS⟩ : ∃ x, u8A s = x := ⟨_, rfl⟩
  have HES := Lib.hid hS
  have HZS := Lib.hid (show S.size = 32 by rw [← hS, u8A_size]; exact hsl)
  have HOS := Lib.hid (show S.all (·.oneCell') = true by rw [← hS]; exact u8A_one _)
  obtain ⟨Y, hY⟩ : ∃ x, u8A y = x := ⟨_, rfl⟩
  have HEY := Lib.hid hY
  have HZY := Lib.hid (show Y.size = 32 by rw [← hY, u8A_size]; exact hyl)
  have HOY := Lib.hid (show Y.all (·.oneCell') = true by rw [← hY]; exact u8A_one _)
  have HST := Lib.hid (fun W (hW : Below w.heap.size w W) => (show Calls Tryd.prog 91 #[.agg X, .int .i64 lf, .int .i64 ch] W fun e w' => e = .returned (.agg S) ∧ Below W.heap.size W w' from by
    rw [← hX, ← hS, ← hsv]
    exact pstart_any sd lf ch W hs hl1 (by omega) (tab_on HTAB.out hW hW.size)))
  have HAL := Lib.hid (fun W (hW : Below w.heap.size w W) => (show Calls Tryd.prog 90 #[.agg S, .int .i64 pl] W fun e w' => e = .returned (.agg Y) ∧ Below W.heap.size W w' from by
    have h := palong_any s pl W hsl (tab_on HTAB.out hW hW.size)
    rw [show wots.clampS pl = pl.toNat by unfold wots.clampS; rw [if_neg (by omega), if_neg (by omega)]] at h
    rw [← hS, ← hY, ← hy]
    exact h))
  have HDG := Lib.hid (fun W (hW : Below w.heap.size w W) => pdigitsof9_any A n c own W hn h1 hc hcm (hr.on hW) (tab_on htab hW hW.size))
  have HF := Lib.hid hF
  rw [hX]
  by_cases hvy : vv = y
  · have HEQ := Lib.hid (fun W => (show (Op.equalIn 10000 29 (.agg Y) (.agg V)).run Tryd.prog W = .ok true W by rw [← hY, ← hV, run_hash_eq W _ _ hyl hv, decide_eq_true (Eq.symm hvy)]))
    have HS2 := Lib.hid (show secP sd own lf ch pl vv ↔ (own = [] ∨ pl.toNat < (digH (msgH own)).getD ch.toNat 0) from ⟨fun h => (HSP.out.1 h).2, fun h => HSP.out.2 ⟨hvy, h⟩⟩)
    clear hX hV hsv hsl hy hyl hS hY hr hn htab hF hvy HSP
    go_enter Tryd.func53, Tryd.ntmps53
    go_upto_region 1 with fail
    generalize hw1 : World.alloc _ _ = w3
    obtain ⟨g3, hg3⟩ : ∃ g, w.heap.size = g := ⟨_, rfl⟩
    obtain ⟨g5, hg5⟩ : ∃ g, w.heap.size + 1 = g := ⟨_, rfl⟩
    have hf : Blk w3 g3 X 23 ∧ Blk w3 g5 FA 43 ∧ Below w.heap.size w w3 := by
      have hw : w3 = ((w.alloc (.cells X 23)).alloc (.cells FA 43)) := hw1.symm
      have e1 : (w.alloc (.cells X 23)).heap.size = w.heap.size + 1 := by simp
      rw [hw, ← hg3, ← hg5]
      exact ⟨by exact (Blk.new _ _ _).alloc _, by rw [← e1]; exact Blk.new _ _ _, (((Below.refl _ _).alloc (Nat.le_refl _) _).alloc (by simp) _)⟩
    have HB3 := Lib.hid hf.1
    have HB5 := Lib.hid hf.2.1
    have HBW := Lib.hid hf.2.2
    have HG3 := Lib.hid (show w.heap.size ≤ g3 by omega)
    have HG5 := Lib.hid (show w.heap.size ≤ g5 by omega)
    clear hf hw1
    rw [hg5, hg3]
    clear hg3 hg5
    have HC3 := Lib.hid (fun W (hW : Below w3.heap.size w3 W) => (show W.cell? ⟨g5, 3, none⟩ = some (.int .i64 lf) by rw [(HB5.out.below hW HB5.out.lt).cell 3]; exact HF.out.2.2.2.2.1))
    have HC4 := Lib.hid (fun W (hW : Below w3.heap.size w3 W) => (show W.cell? ⟨g5, 4, none⟩ = some (.int .i64 ch) by rw [(HB5.out.below hW HB5.out.lt).cell 4]; exact HF.out.2.2.2.2.2.1))
    have HC5 := Lib.hid (fun W (hW : Below w3.heap.size w3 W) => (show W.cell? ⟨g5, 5, none⟩ = some (.int .i64 pl) by rw [(HB5.out.below hW HB5.out.lt).cell 5]; exact HF.out.2.2.2.2.2.2.1))
    have HRvv := Lib.hid (fun W (hW : Below w3.heap.size w3 W) => (show W.rangeAt g5 6 (Lib.byteCells vv) from fun j u hu => ((HB5.out.below hW HB5.out.lt).cell (6 + j)).trans (HF.out.2.2.2.2.2.2.2 j u hu)))
    have HBX := Lib.hid (fun W (hW : Below w3.heap.size w3 W) => HB3.out.below hW HB3.out.lt)
    refine wp_region_loose 12 0 (fun i => false) (promises [.is (.agg X), .is (.pointer (some ⟨g5, 3, none⟩)), .is (.int .i64 lf), .is (.pointer (some ⟨g5, 4, none⟩)), .is (.int .i64 ch), .is (.agg S), .is (.pointer (some ⟨g5, 5, none⟩)), .is (.int .i64 pl), .is (.agg Y), .is (.pointer (some ⟨g5, 6, none⟩)), .is (.agg V), .is (.bool false)]) (by kernel_rfl) rfl (by kernel_rfl) (fun i v w w' h hb => Spec.keep h hb) ⟨?_, ?_, ?_, ?_, ?_, ?_, ?_, ?_, ?_, ?_, ?_, ?_, trivial⟩ ?_
    · refine StepOKl.of ?_
      intro ac w hb hu hk
      refine ⟨wanted_none rfl, ?_⟩
      have e3 : ac.eval (.tmp 3) = .pointer (some ⟨g3, 0, none⟩) := hu.is (t := 3) (by kernel_rfl)
      exact wp_load_row 23 (.tmp 3) rfl g3 e3 23 X (0, 0) _ (HBX.out w hb) Tryd.underlying23 rfl (by rw [HZX.out]; kernel_rfl) ⟨_, rfl, rfl, Below.refl _ _⟩
    · refine StepOKl.of ?_
      intro ac w hb hu hk
      refine ⟨wanted_none rfl, ?_⟩
      have e5 : ac.eval (.tmp 5) = .pointer (some ⟨g5, 0, none⟩) := hu.is (t := 5) (by kernel_rfl)
      refine step_value (w' := w) (v := (.pointer (some ⟨g5, 3, none⟩))) ?_ (Below.refl _ _) rfl
      generalize ac.eval = ρ at e5 ⊢
      go_simp
    · refine StepOKl.of ?_
      intro ac w hb hu hk
      refine ⟨wanted_none rfl, ?_⟩
      have e9 : ac.eval (.tmp 9) = (.pointer (some ⟨g5, 3, none⟩)) := (hk ⟨1, .data⟩ (by simp) rfl).is rfl rfl
      have hc := HC3.out w hb
      refine step_value (w' := w) (v := .int .i64 lf) ?_ (Below.refl _ _) rfl
      generalize ac.eval = ρ at e9 ⊢
      go_simp
    · refine StepOKl.of ?_
      intro ac w hb hu hk
      refine ⟨wanted_none rfl, ?_⟩
      have e5 : ac.eval (.tmp 5) = .pointer (some ⟨g5, 0, none⟩) := hu.is (t := 5) (by kernel_rfl)
      refine step_value (w' := w) (v := (.pointer (some ⟨g5, 4, none⟩))) ?_ (Below.refl _ _) rfl
      generalize ac.eval = ρ at e5 ⊢
      go_simp
    · refine StepOKl.of ?_
      intro ac w hb hu hk
      refine ⟨wanted_none rfl, ?_⟩
      have e11 : ac.eval (.tmp 11) = (.pointer (some ⟨g5, 4, none⟩)) := (hk ⟨3, .data⟩ (by simp) rfl).is rfl rfl
      have hc := HC4.out w hb
      refine step_value (w' := w) (v := .int .i64 ch) ?_ (Below.refl _ _) rfl
      generalize ac.eval = ρ at e11 ⊢
      go_simp
    · refine StepOKl.of ?_
      intro ac w hb hu hk
      refine ⟨wanted_none rfl, ?_⟩
      have e8 : ac.eval (.tmp 8) = (.agg X) := (hk ⟨0, .data⟩ (by simp) rfl).is rfl rfl
      have e10 : ac.eval (.tmp 10) = (.int .i64 lf) := (hk ⟨2, .data⟩ (by simp) rfl).is rfl rfl
      have e12 : ac.eval (.tmp 12) = (.int .i64 ch) := (hk ⟨4, .data⟩ (by simp) rfl).is rfl rfl
      have ef : ac.eval (.func 91) = .func (.func 91) #[] #[] := rfl
      refine step_enter (f := 91) (args := #[.agg X, .int .i64 lf, .int .i64 ch]) ?_ ?_
      · generalize ac.eval = ρ at e8 e10 e12 ef ⊢
        go_simp
      · exact (HST.out w (HBW.out.trans (hb.mono HBW.out.size))).mono fun e w' ⟨he, hq⟩ => ⟨_, he, rfl, hq⟩
    · refine StepOKl.of ?_
      intro ac w hb hu hk
      refine ⟨wanted_none rfl, ?_⟩
      have e5 : ac.eval (.tmp 5) = .pointer (some ⟨g5, 0, none⟩) := hu.is (t := 5) (by kernel_rfl)
      refine step_value (w' := w) (v := (.pointer (some ⟨g5, 5, none⟩))) ?_ (Below.refl _ _) rfl
      generalize ac.eval = ρ at e5 ⊢
      go_simp
    · refine StepOKl.of ?_
      intro ac w hb hu hk
      refine ⟨wanted_none rfl, ?_⟩
      have e14 : ac.eval (.tmp 14) = (.pointer (some ⟨g5, 5, none⟩)) := (hk ⟨6, .data⟩ (by simp) rfl).is rfl rfl
      have hc := HC5.out w hb
      refine step_value (w' := w) (v := .int .i64 pl) ?_ (Below.refl _ _) rfl
      generalize ac.eval = ρ at e14 ⊢
      go_simp
    · refine StepOKl.of ?_
      intro ac w hb hu hk
      refine ⟨wanted_none rfl, ?_⟩
      have e13 : ac.eval (.tmp 13) = (.agg S) := (hk ⟨5, .data⟩ (by simp) rfl).is rfl rfl
      have e15 : ac.eval (.tmp 15) = (.int .i64 pl) := (hk ⟨7, .data⟩ (by simp) rfl).is rfl rfl
      have ef : ac.eval (.func 90) = .func (.func 90) #[] #[] := rfl
      refine step_enter (f := 90) (args := #[.agg S, .int .i64 pl]) ?_ ?_
      · generalize ac.eval = ρ at e13 e15 ef ⊢
        go_simp
      · exact (HAL.out w (HBW.out.trans (hb.mono HBW.out.size))).mono fun e w' ⟨he, hq⟩ => ⟨_, he, rfl, hq⟩
    · refine StepOKl.of ?_
      intro ac w hb hu hk
      refine ⟨wanted_none rfl, ?_⟩
      have e5 : ac.eval (.tmp 5) = .pointer (some ⟨g5, 0, none⟩) := hu.is (t := 5) (by kernel_rfl)
      refine step_value (w' := w) (v := (.pointer (some ⟨g5, 6, none⟩))) ?_ (Below.refl _ _) rfl
      generalize ac.eval = ρ at e5 ⊢
      go_simp
    · refine StepOKl.of ?_
      intro ac w hb hu hk
      refine ⟨wanted_none rfl, ?_⟩
      have e17 : ac.eval (.tmp 17) = (.pointer (some ⟨g5, 6, none⟩)) := (hk ⟨9, .data⟩ (by simp) rfl).is rfl rfl
      exact step_value (run_load_hash (.tmp 17) rfl g5 (6) e17 vv HLvv.out (HRvv.out w hb) HEV.out) (Below.refl _ _) rfl
    · refine StepOKl.of ?_
      intro ac w hb hu hk
      refine ⟨wanted_none rfl, ?_⟩
      have e16 : ac.eval (.tmp 16) = (.agg Y) := (hk ⟨8, .data⟩ (by simp) rfl).is rfl rfl
      have e18 : ac.eval (.tmp 18) = (.agg V) := (hk ⟨10, .data⟩ (by simp) rfl).is rfl rfl
      refine step_value (w' := w) (v := .bool false) ?_ (Below.refl _ _) rfl
      have hq := HEQ.out w
      generalize ac.eval = ρ at e16 e18 ⊢
      go_simp
    · intro ac w' hb hu hk hap
      obtain ⟨_, h8, rfl⟩ := (hk 0 (by decide)).put rfl rfl
      obtain ⟨_, h9, rfl⟩ := (hk 1 (by decide)).put rfl rfl
      obtain ⟨_, h10, rfl⟩ := (hk 2 (by decide)).put rfl rfl
      obtain ⟨_, h11, rfl⟩ := (hk 3 (by decide)).put rfl rfl
      obtain ⟨_, h12, rfl⟩ := (hk 4 (by decide)).put rfl rfl
      obtain ⟨_, h13, rfl⟩ := (hk 5 (by decide)).put rfl rfl
      obtain ⟨_, h14, rfl⟩ := (hk 6 (by decide)).put rfl rfl
      obtain ⟨_, h15, rfl⟩ := (hk 7 (by decide)).put rfl rfl
      obtain ⟨_, h16, rfl⟩ := (hk 8 (by decide)).put rfl rfl
      obtain ⟨_, h17, rfl⟩ := (hk 9 (by decide)).put rfl rfl
      obtain ⟨_, h18, rfl⟩ := (hk 10 (by decide)).put rfl rfl
      obtain ⟨_, h19, rfl⟩ := (hk 11 (by decide)).put rfl rfl
      clear hap
      have hF : AllPuts ac.tmps ((8, _) :: (9, _) :: (10, _) :: (11, _) :: (12, _) :: (13, _) :: (14, _) :: (15, _) :: (16, _) :: (17, _) :: (18, _) :: (19, _) :: []) := ⟨h8, h9, h10, h11, h12, h13, h14, h15, h16, h17, h18, h19, trivial⟩
      obtain rfl := frame_puts hu (by kernel_rfl) hF
      simp only [puts, Act.put, List.setIfInBounds_toArray, List.set_cons_zero, List.set_cons_succ, List.drop_succ_cons, List.drop_nil]
      clear hk hu hF h8 h9 h10 h11 h12 h13 h14 h15 h16 h17 h18 h19
      replace HBW := Lib.hid (HBW.out.trans (hb.mono HBW.out.size))
      have hc4 := HC4.out w' hb
      have hc5 := HC5.out w' hb
      have HC4' := Lib.hid (fun W (hW : Below w'.heap.size w' W) => HC4.out W (hb.trans (hW.mono hb.size)))
      have HC5' := Lib.hid (fun W (hW : Below w'.heap.size w' W) => HC5.out W (hb.trans (hW.mono hb.size)))
      have HDC := Lib.hid (HDG.out w' HBW.out)
      clear hb HC3 HC4 HC5 HRvv HBX HST HAL HDG HB3 HB5 hc4 hc5
      go_wp2_with fail
      with_reducible refine (HDC.out).mono ?_
      rintro e w5 ⟨X5, x5, rfl, hx5, hdv, hb5⟩
      have HB5 := Lib.hid hb5
      have hc4 := HC4'.out w5 hb5
      have hc5 := HC5'.out w5 hb5
      replace HBW := Lib.hid (HBW.out.trans (hb5.mono HBW.out.size))
      clear hb5 HDC HC4' HC5' HB5
      by_cases ho : own = []
      · have HD := Lib.hid (show decide (secP sd own lf ch pl vv) = true from decide_eq_true (HS2.out.2 (.inl ho)))
        rw [show dgL own = [] from if_pos ho]
        clear hdv hx5 HS2
        go_wp2_with fail
        go_quiet (fail)
        replace HBW := Lib.hid (below_drewN HBW.out nq)
        go_wp2_with fail
        go_ret
        exact ⟨ret_bool HD.out.symm, HBW.out⟩
      · have hd : dgL own = digH (msgH own) := if_neg ho
        rw [hd] at hdv hx5 ⊢
        have hdl := digH_len (msgH_len own)
        rw [hdl] at hdv hx5 ⊢
        obtain ⟨k, hk⟩ : ∃ k : Nat, ch = (k : Int) := ⟨ch.toNat, by omega⟩
        subst hk
        obtain ⟨bD, oD, rfl, hbD, hcD⟩ := hdv.at_ (i := k) (by omega)
        obtain ⟨dd, hdd⟩ : ∃ x, (digH (msgH own)).getD k 0 = x := ⟨_, rfl⟩
        rw [hdd] at hcD
        have HRR := Lib.hid (show decide ((dd : Int) > pl) = decide (secP sd own lf (k : Int) pl vv) from by
          apply Bool.eq_iff_iff.2
          rw [decide_eq_true_iff, decide_eq_true_iff, HS2.out, Int.toNat_natCast, hdd]
          constructor
          · intro h; exact .inr (by omega)
          · rintro (h | h)
            · exact absurd h ho
            · omega)
        clear hdv hx5 hd hdl hdd HS2 hbD
        by_cases hgt : (dd : Int) > pl
        · have HD := Lib.hid (show decide (secP sd own lf (k : Int) pl vv) = true from by rw [← HRR.out]; exact decide_eq_true hgt)
          clear HRR
          go_wp2_with fail
          go_quiet (fail)
          replace HBW := Lib.hid (below_drewN HBW.out nq)
          go_wp2_with fail
          go_ret
          exact ⟨ret_bool HD.out.symm, HBW.out⟩
        · have HD := Lib.hid (show decide (secP sd own lf (k : Int) pl vv) = false from by rw [← HRR.out]; exact decide_eq_false hgt)
          go_wp2_with fail
          go_quiet (fail)
          replace HBW := Lib.hid (below_drewN HBW.out nq)
          go_wp2_with fail
          go_ret
          exact ⟨ret_bool HRR.out, HBW.out⟩
  · have HD := Lib.hid (show decide (secP sd own lf ch pl vv) = false from decide_eq_false (fun h => hvy (HSP.out.1 h).1))
    have HEQ := Lib.hid (fun W => (show (Op.equalIn 10000 29 (.agg Y) (.agg V)).run Tryd.prog W = .ok false W by rw [← hY, ← hV, run_hash_eq W _ _ hyl hv, decide_eq_false (Ne.symm hvy)]))
    rw [HD.out]
    clear hX hV hsv hsl hy hyl hS hY hr hn htab hF hvy
    go_enter Tryd.func53, Tryd.ntmps53
    go_upto_region 1 with fail
    generalize hw1 : World.alloc _ _ = w3
    obtain ⟨g3, hg3⟩ : ∃ g, w.heap.size = g := ⟨_, rfl⟩
    obtain ⟨g5, hg5⟩ : ∃ g, w.heap.size + 1 = g := ⟨_, rfl⟩
    have hf : Blk w3 g3 X 23 ∧ Blk w3 g5 FA 43 ∧ Below w.heap.size w w3 := by
      have hw : w3 = ((w.alloc (.cells X 23)).alloc (.cells FA 43)) := hw1.symm
      have e1 : (w.alloc (.cells X 23)).heap.size = w.heap.size + 1 := by simp
      rw [hw, ← hg3, ← hg5]
      exact ⟨by exact (Blk.new _ _ _).alloc _, by rw [← e1]; exact Blk.new _ _ _, (((Below.refl _ _).alloc (Nat.le_refl _) _).alloc (by simp) _)⟩
    have HB3 := Lib.hid hf.1
    have HB5 := Lib.hid hf.2.1
    have HBW := Lib.hid hf.2.2
    have HG3 := Lib.hid (show w.heap.size ≤ g3 by omega)
    have HG5 := Lib.hid (show w.heap.size ≤ g5 by omega)
    clear hf hw1
    rw [hg5, hg3]
    clear hg3 hg5
    have HC3 := Lib.hid (fun W (hW : Below w3.heap.size w3 W) => (show W.cell? ⟨g5, 3, none⟩ = some (.int .i64 lf) by rw [(HB5.out.below hW HB5.out.lt).cell 3]; exact HF.out.2.2.2.2.1))
    have HC4 := Lib.hid (fun W (hW : Below w3.heap.size w3 W) => (show W.cell? ⟨g5, 4, none⟩ = some (.int .i64 ch) by rw [(HB5.out.below hW HB5.out.lt).cell 4]; exact HF.out.2.2.2.2.2.1))
    have HC5 := Lib.hid (fun W (hW : Below w3.heap.size w3 W) => (show W.cell? ⟨g5, 5, none⟩ = some (.int .i64 pl) by rw [(HB5.out.below hW HB5.out.lt).cell 5]; exact HF.out.2.2.2.2.2.2.1))
    have HRvv := Lib.hid (fun W (hW : Below w3.heap.size w3 W) => (show W.rangeAt g5 6 (Lib.byteCells vv) from fun j u hu => ((HB5.out.below hW HB5.out.lt).cell (6 + j)).trans (HF.out.2.2.2.2.2.2.2 j u hu)))
    have HBX := Lib.hid (fun W (hW : Below w3.heap.size w3 W) => HB3.out.below hW HB3.out.lt)
    refine wp_region_loose 12 0 (fun i => false) (promises [.is (.agg X), .is (.pointer (some ⟨g5, 3, none⟩)), .is (.int .i64 lf), .is (.pointer (some ⟨g5, 4, none⟩)), .is (.int .i64 ch), .is (.agg S), .is (.pointer (some ⟨g5, 5, none⟩)), .is (.int .i64 pl), .is (.agg Y), .is (.pointer (some ⟨g5, 6, none⟩)), .is (.agg V), .is (.bool true)]) (by kernel_rfl) rfl (by kernel_rfl) (fun i v w w' h hb => Spec.keep h hb) ⟨?_, ?_, ?_, ?_, ?_, ?_, ?_, ?_, ?_, ?_, ?_, ?_, trivial⟩ ?_
    · refine StepOKl.of ?_
      intro ac w hb hu hk
      refine ⟨wanted_none rfl, ?_⟩
      have e3 : ac.eval (.tmp 3) = .pointer (some ⟨g3, 0, none⟩) := hu.is (t := 3) (by kernel_rfl)
      exact wp_load_row 23 (.tmp 3) rfl g3 e3 23 X (0, 0) _ (HBX.out w hb) Tryd.underlying23 rfl (by rw [HZX.out]; kernel_rfl) ⟨_, rfl, rfl, Below.refl _ _⟩
    · refine StepOKl.of ?_
      intro ac w hb hu hk
      refine ⟨wanted_none rfl, ?_⟩
      have e5 : ac.eval (.tmp 5) = .pointer (some ⟨g5, 0, none⟩) := hu.is (t := 5) (by kernel_rfl)
      refine step_value (w' := w) (v := (.pointer (some ⟨g5, 3, none⟩))) ?_ (Below.refl _ _) rfl
      generalize ac.eval = ρ at e5 ⊢
      go_simp
    · refine StepOKl.of ?_
      intro ac w hb hu hk
      refine ⟨wanted_none rfl, ?_⟩
      have e9 : ac.eval (.tmp 9) = (.pointer (some ⟨g5, 3, none⟩)) := (hk ⟨1, .data⟩ (by simp) rfl).is rfl rfl
      have hc := HC3.out w hb
      refine step_value (w' := w) (v := .int .i64 lf) ?_ (Below.refl _ _) rfl
      generalize ac.eval = ρ at e9 ⊢
      go_simp
    · refine StepOKl.of ?_
      intro ac w hb hu hk
      refine ⟨wanted_none rfl, ?_⟩
      have e5 : ac.eval (.tmp 5) = .pointer (some ⟨g5, 0, none⟩) := hu.is (t := 5) (by kernel_rfl)
      refine step_value (w' := w) (v := (.pointer (some ⟨g5, 4, none⟩))) ?_ (Below.refl _ _) rfl
      generalize ac.eval = ρ at e5 ⊢
      go_simp
    · refine StepOKl.of ?_
      intro ac w hb hu hk
      refine ⟨wanted_none rfl, ?_⟩
      have e11 : ac.eval (.tmp 11) = (.pointer (some ⟨g5, 4, none⟩)) := (hk ⟨3, .data⟩ (by simp) rfl).is rfl rfl
      have hc := HC4.out w hb
      refine step_value (w' := w) (v := .int .i64 ch) ?_ (Below.refl _ _) rfl
      generalize ac.eval = ρ at e11 ⊢
      go_simp
    · refine StepOKl.of ?_
      intro ac w hb hu hk
      refine ⟨wanted_none rfl, ?_⟩
      have e8 : ac.eval (.tmp 8) = (.agg X) := (hk ⟨0, .data⟩ (by simp) rfl).is rfl rfl
      have e10 : ac.eval (.tmp 10) = (.int .i64 lf) := (hk ⟨2, .data⟩ (by simp) rfl).is rfl rfl
      have e12 : ac.eval (.tmp 12) = (.int .i64 ch) := (hk ⟨4, .data⟩ (by simp) rfl).is rfl rfl
      have ef : ac.eval (.func 91) = .func (.func 91) #[] #[] := rfl
      refine step_enter (f := 91) (args := #[.agg X, .int .i64 lf, .int .i64 ch]) ?_ ?_
      · generalize ac.eval = ρ at e8 e10 e12 ef ⊢
        go_simp
      · exact (HST.out w (HBW.out.trans (hb.mono HBW.out.size))).mono fun e w' ⟨he, hq⟩ => ⟨_, he, rfl, hq⟩
    · refine StepOKl.of ?_
      intro ac w hb hu hk
      refine ⟨wanted_none rfl, ?_⟩
      have e5 : ac.eval (.tmp 5) = .pointer (some ⟨g5, 0, none⟩) := hu.is (t := 5) (by kernel_rfl)
      refine step_value (w' := w) (v := (.pointer (some ⟨g5, 5, none⟩))) ?_ (Below.refl _ _) rfl
      generalize ac.eval = ρ at e5 ⊢
      go_simp
    · refine StepOKl.of ?_
      intro ac w hb hu hk
      refine ⟨wanted_none rfl, ?_⟩
      have e14 : ac.eval (.tmp 14) = (.pointer (some ⟨g5, 5, none⟩)) := (hk ⟨6, .data⟩ (by simp) rfl).is rfl rfl
      have hc := HC5.out w hb
      refine step_value (w' := w) (v := .int .i64 pl) ?_ (Below.refl _ _) rfl
      generalize ac.eval = ρ at e14 ⊢
      go_simp
    · refine StepOKl.of ?_
      intro ac w hb hu hk
      refine ⟨wanted_none rfl, ?_⟩
      have e13 : ac.eval (.tmp 13) = (.agg S) := (hk ⟨5, .data⟩ (by simp) rfl).is rfl rfl
      have e15 : ac.eval (.tmp 15) = (.int .i64 pl) := (hk ⟨7, .data⟩ (by simp) rfl).is rfl rfl
      have ef : ac.eval (.func 90) = .func (.func 90) #[] #[] := rfl
      refine step_enter (f := 90) (args := #[.agg S, .int .i64 pl]) ?_ ?_
      · generalize ac.eval = ρ at e13 e15 ef ⊢
        go_simp
      · exact (HAL.out w (HBW.out.trans (hb.mono HBW.out.size))).mono fun e w' ⟨he, hq⟩ => ⟨_, he, rfl, hq⟩
    · refine StepOKl.of ?_
      intro ac w hb hu hk
      refine ⟨wanted_none rfl, ?_⟩
      have e5 : ac.eval (.tmp 5) = .pointer (some ⟨g5, 0, none⟩) := hu.is (t := 5) (by kernel_rfl)
      refine step_value (w' := w) (v := (.pointer (some ⟨g5, 6, none⟩))) ?_ (Below.refl _ _) rfl
      generalize ac.eval = ρ at e5 ⊢
      go_simp
    · refine StepOKl.of ?_
      intro ac w hb hu hk
      refine ⟨wanted_none rfl, ?_⟩
      have e17 : ac.eval (.tmp 17) = (.pointer (some ⟨g5, 6, none⟩)) := (hk ⟨9, .data⟩ (by simp) rfl).is rfl rfl
      exact step_value (run_load_hash (.tmp 17) rfl g5 (6) e17 vv HLvv.out (HRvv.out w hb) HEV.out) (Below.refl _ _) rfl
    · refine StepOKl.of ?_
      intro ac w hb hu hk
      refine ⟨wanted_none rfl, ?_⟩
      have e16 : ac.eval (.tmp 16) = (.agg Y) := (hk ⟨8, .data⟩ (by simp) rfl).is rfl rfl
      have e18 : ac.eval (.tmp 18) = (.agg V) := (hk ⟨10, .data⟩ (by simp) rfl).is rfl rfl
      refine step_value (w' := w) (v := .bool true) ?_ (Below.refl _ _) rfl
      have hq := HEQ.out w
      generalize ac.eval = ρ at e16 e18 ⊢
      go_simp
    · intro ac w' hb hu hk hap
      obtain ⟨_, h8, rfl⟩ := (hk 0 (by decide)).put rfl rfl
      obtain ⟨_, h9, rfl⟩ := (hk 1 (by decide)).put rfl rfl
      obtain ⟨_, h10, rfl⟩ := (hk 2 (by decide)).put rfl rfl
      obtain ⟨_, h11, rfl⟩ := (hk 3 (by decide)).put rfl rfl
      obtain ⟨_, h12, rfl⟩ := (hk 4 (by decide)).put rfl rfl
      obtain ⟨_, h13, rfl⟩ := (hk 5 (by decide)).put rfl rfl
      obtain ⟨_, h14, rfl⟩ := (hk 6 (by decide)).put rfl rfl
      obtain ⟨_, h15, rfl⟩ := (hk 7 (by decide)).put rfl rfl
      obtain ⟨_, h16, rfl⟩ := (hk 8 (by decide)).put rfl rfl
      obtain ⟨_, h17, rfl⟩ := (hk 9 (by decide)).put rfl rfl
      obtain ⟨_, h18, rfl⟩ := (hk 10 (by decide)).put rfl rfl
      obtain ⟨_, h19, rfl⟩ := (hk 11 (by decide)).put rfl rfl
      clear hap
      have hF : AllPuts ac.tmps ((8, _) :: (9, _) :: (10, _) :: (11, _) :: (12, _) :: (13, _) :: (14, _) :: (15, _) :: (16, _) :: (17, _) :: (18, _) :: (19, _) :: []) := ⟨h8, h9, h10, h11, h12, h13, h14, h15, h16, h17, h18, h19, trivial⟩
      obtain rfl := frame_puts hu (by kernel_rfl) hF
      simp only [puts, Act.put, List.setIfInBounds_toArray, List.set_cons_zero, List.set_cons_succ, List.drop_succ_cons, List.drop_nil]
      clear hk hu hF h8 h9 h10 h11 h12 h13 h14 h15 h16 h17 h18 h19
      have HBE := Lib.hid (HBW.out.trans (hb.mono HBW.out.size))
      clear hb
      go_wp2_with fail
      go_ret
      exact ⟨rfl, HBE.out⟩
/-- Does what is told hold, as the program says? -/
def holdsX (sd : List UInt8) (h : Int) (rows : List (List UInt8)) (lk : Bool) (lf ch pl : Int) (v a b : List UInt8) : Prop :=
  (0 ≤ lf ∧ lf < (cntN h : Int)) ∧ (0 ≤ ch ∧ ch < 67) ∧ (0 ≤ pl ∧ pl < 16) ∧ (isBr (a, b) = true ∨ (lk = true ∧ secP sd (msgV rows h lf) lf ch pl v))
instance (sd : List UInt8) (h : Int) (rows : List (List UInt8)) (lk : Bool) (lf ch pl : Int) (v a b : List UInt8) : Decidable (holdsX sd h rows lk lf ch pl v a b) := by unfold holdsX; infer_instance
set_option maxRecDepth 100000 in
set_option maxHeartbeats 16000000 in
theorem pholds9_any (sd : List UInt8) (h : Int) (R : Option Addr) (rn rc : Nat) (rows : List (List UInt8)) (FA : Array Value) (A B : Option Addr) (n c m d : Nat) (lk : Bool) (lf ch pl : Int) (vv a b : List UInt8) (w : World) (hs : sd.length = 16) (hrn : rows.length = rn) (hrl : ∀ r ∈ rows, r.length ≤ 1000) (hrr : RdR w w.heap.size R rows) (hF : ForgeC FA (.slice A n c) (.slice B m d) lk lf ch pl vv) (hv : vv.length = 32) (ha : a.length = n) (hbn : b.length = m) (hac : n ≤ c) (hbd : m ≤ d) (ha8 : n ≤ 800000) (hb8 : m ≤ 800000) (hra : Rd w w.heap.size A a) (hrb : Rd w w.heap.size B b) (hl1 : lf ≤ 9223372036854775807) (htab : Pow10 w.heap.size w) :
    Calls Tryd.prog 19 #[.agg (u8A sd), .int .i64 h, .slice R rn rc, .agg FA] w fun e w' => e = .returned (.bool (decide (holdsX sd h rows lk lf ch pl vv a b))) ∧ Below w.heap.size w w' := by
  obtain ⟨X, hX⟩ : ∃ x, u8A sd = x := ⟨_, rfl⟩
  have HEX := Lib.hid hX
  have HZX := Lib.hid (show X.size = 16 by rw [← hX, u8A_size]; exact hs)
  have HOX := Lib.hid (show X.all (·.oneCell') = true by rw [← hX]; exact u8A_one _)
  have HTAB := Lib.hid htab
  have HF := Lib.hid hF
  have HZFA := Lib.hid (show FA.size = 38 from hF.1)
  have HCT := Lib.hid (fun W => pcount9_any h W)
  have HL1 := Lib.hid (fun W => pbelow9_any lf (cntN h : Int) W)
  have HL2 := Lib.hid (fun W => pbelow9_any ch 67 W)
  have HL3 := Lib.hid (fun W => pbelow9_any pl 16 W)
  have HRX := Lib.hid (show holdsX sd h rows lk lf ch pl vv a b ↔ (0 ≤ lf ∧ lf < (cntN h : Int)) ∧ (0 ≤ ch ∧ ch < 67) ∧ (0 ≤ pl ∧ pl < 16) ∧ (isBr (a, b) = true ∨ (lk = true ∧ secP sd (msgV rows h lf) lf ch pl vv)) from Iff.rfl)
  have HRR := Lib.hid (fun W (hW : Below w.heap.size w W) => (show RdR W W.heap.size R rows from (hrr.below hW (Nat.le_refl _)).more hW.size))
  have HRA := Lib.hid (fun W (hW : Below w.heap.size w W) => hra.on hW)
  have HRB := Lib.hid (fun W (hW : Below w.heap.size w W) => hrb.on hW)
  have HHX := Lib.hid hX
  rw [hX]
  by_cases hb1 : 0 ≤ lf ∧ lf < (cntN h : Int)
  · by_cases hb2 : 0 ≤ ch ∧ ch < 67
    · by_cases hb3 : 0 ≤ pl ∧ pl < 16
      · cases hbr : isBr (a, b)
        · cases hlk : lk
          · have hlk3 : lk = false := by assumption
            subst hlk3
            have HSM := Lib.hid (fun W (hW : Below w.heap.size w W) => (show Calls Tryd.prog 38 #[.agg #[.slice A n c, .slice B m d]] W fun e w' => e = .returned (.bool false) ∧ Below W.heap.size W w' from by
              have hx := breakS A B n m c d a b W ha hbn hac hbd ha8 hb8 (HRA.out W hW) (HRB.out W hW)
              rwa [show (!(a == b) && decide (shaL a = shaL b)) = false from hbr] at hx))
            have HD := Lib.hid (show decide (holdsX sd h rows false lf ch pl vv a b) = false from decide_eq_false (fun hx => by
              rcases (HRX.out.1 hx).2.2.2 with h2 | h2
              · rw [hbr] at h2; cases h2
              · cases h2.1))
            rw [HD.out]
            rw [decide_eq_true hb1] at HL1
            rw [decide_eq_true hb2] at HL2
            rw [decide_eq_true hb3] at HL3
            clear HRX HRR HRA HRB HD hX hrr hra hrb htab hF hbr hb1 hb2 hb3
            generalize cntN h = N at *
            go_enter Tryd.func19, Tryd.ntmps19
            go_upto_region 1 with fail
            generalize hw1 : World.alloc _ _ = w3
            obtain ⟨g4, hg4⟩ : ∃ g, w.heap.size = g := ⟨_, rfl⟩
            obtain ⟨g7, hg7⟩ : ∃ g, w.heap.size + 1 = g := ⟨_, rfl⟩
            have hf : Blk w3 g4 X 23 ∧ Blk w3 g7 FA 43 ∧ Below w.heap.size w w3 := by
              have hw : w3 = ((w.alloc (.cells X 23)).alloc (.cells FA 43)) := hw1.symm
              have e1 : (w.alloc (.cells X 23)).heap.size = w.heap.size + 1 := by simp
              rw [hw, ← hg4, ← hg7]
              exact ⟨by exact (Blk.new _ _ _).alloc _, by rw [← e1]; exact Blk.new _ _ _, (((Below.refl _ _).alloc (Nat.le_refl _) _).alloc (by simp) _)⟩
            have HB4 := Lib.hid hf.1
            have HB7 := Lib.hid hf.2.1
            have HBW := Lib.hid hf.2.2
            have HG4 := Lib.hid (show w.heap.size ≤ g4 by omega)
            have HG7 := Lib.hid (show w.heap.size ≤ g7 by omega)
            clear hf hw1
            rw [hg7, hg4]
            clear hg4 hg7
            have HC2 := Lib.hid (fun W (hW : Below w3.heap.size w3 W) => (show W.cell? ⟨g7, 2, none⟩ = some (.bool false) by rw [(HB7.out.below hW HB7.out.lt).cell 2]; exact HF.out.2.2.2.1))
            have HC3 := Lib.hid (fun W (hW : Below w3.heap.size w3 W) => (show W.cell? ⟨g7, 3, none⟩ = some (.int .i64 lf) by rw [(HB7.out.below hW HB7.out.lt).cell 3]; exact HF.out.2.2.2.2.1))
            have HC4 := Lib.hid (fun W (hW : Below w3.heap.size w3 W) => (show W.cell? ⟨g7, 4, none⟩ = some (.int .i64 ch) by rw [(HB7.out.below hW HB7.out.lt).cell 4]; exact HF.out.2.2.2.2.2.1))
            have HC5 := Lib.hid (fun W (hW : Below w3.heap.size w3 W) => (show W.cell? ⟨g7, 5, none⟩ = some (.int .i64 pl) by rw [(HB7.out.below hW HB7.out.lt).cell 5]; exact HF.out.2.2.2.2.2.2.1))
            have HBX := Lib.hid (fun W (hW : Below w3.heap.size w3 W) => HB4.out.below hW HB4.out.lt)
            have HBF := Lib.hid (fun W (hW : Below w3.heap.size w3 W) => HB7.out.below hW HB7.out.lt)
            have HC0 := Lib.hid (fun W (hW : Below w3.heap.size w3 W) => (show W.cell? ⟨g7, 0, none⟩ = some (.slice A n c) by rw [(HB7.out.below hW HB7.out.lt).cell 0]; exact HF.out.2.1))
            have HC1 := Lib.hid (fun W (hW : Below w3.heap.size w3 W) => (show W.cell? ⟨g7, 1, none⟩ = some (.slice B m d) by rw [(HB7.out.below hW HB7.out.lt).cell 1]; exact HF.out.2.2.1))
            refine wp_region_loose 18 0 (fun i => false) (promises [.is (.pointer (some ⟨g7, 3, none⟩)), .is (.int .i64 lf), .is (.int .i64 h), .is (.int .i64 (N : Int)), .is (.bool true), .is (.bool false), .is (.bool false), .is (.pointer (some ⟨g7, 4, none⟩)), .is (.int .i64 ch), .is (.bool true), .is (.bool false), .is (.bool false), .is (.bool false), .is (.pointer (some ⟨g7, 5, none⟩)), .is (.int .i64 pl), .is (.bool true), .is (.bool false), .is (.bool false)]) (by kernel_rfl) rfl (by kernel_rfl) (fun i v w w' h hb => Spec.keep h hb) ⟨?_, ?_, ?_, ?_, ?_, ?_, ?_, ?_, ?_, ?_, ?_, ?_, ?_, ?_, ?_, ?_, ?_, ?_, trivial⟩ ?_
            · refine StepOKl.of ?_
              intro ac w hb hu hk
              refine ⟨wanted_none rfl, ?_⟩
              have e7 : ac.eval (.tmp 7) = .pointer (some ⟨g7, 0, none⟩) := hu.is (t := 7) (by kernel_rfl)
              refine step_value (w' := w) (v := (.pointer (some ⟨g7, 3, none⟩))) ?_ (Below.refl _ _) rfl
              generalize ac.eval = ρ at e7 ⊢
              go_simp
            · refine StepOKl.of ?_
              intro ac w hb hu hk
              refine ⟨wanted_none rfl, ?_⟩
              have e9 : ac.eval (.tmp 9) = (.pointer (some ⟨g7, 3, none⟩)) := (hk ⟨0, .data⟩ (by simp) rfl).is rfl rfl
              have hc := HC3.out w hb
              refine step_value (w' := w) (v := .int .i64 lf) ?_ (Below.refl _ _) rfl
              generalize ac.eval = ρ at e9 ⊢
              go_simp
            · refine StepOKl.of ?_
              intro ac w hb hu hk
              refine ⟨wanted_none rfl, ?_⟩
              have e1 : ac.eval (.tmp 1) = .int .i64 h := hu.is (t := 1) (by kernel_rfl)
              exact step_value (BigFrame.run_move (.tmp 1) rfl w) (Below.refl _ _) e1
            · refine StepOKl.of ?_
              intro ac w hb hu hk
              refine ⟨wanted_none rfl, ?_⟩
              have e11 : ac.eval (.tmp 11) = (.int .i64 h) := (hk ⟨2, .data⟩ (by simp) rfl).is rfl rfl
              have ef : ac.eval (.func 52) = .func (.func 52) #[] #[] := rfl
              refine step_enter (f := 52) (args := #[.int .i64 h]) ?_ ?_
              · generalize ac.eval = ρ at e11 ef ⊢
                go_simp
              · exact (HCT.out w).mono fun e w' ⟨he, hq⟩ => ⟨_, he, rfl, hq ▸ Below.refl _ _⟩
            · refine StepOKl.of ?_
              intro ac w hb hu hk
              refine ⟨wanted_none rfl, ?_⟩
              have e10 : ac.eval (.tmp 10) = (.int .i64 lf) := (hk ⟨1, .data⟩ (by simp) rfl).is rfl rfl
              have e12 : ac.eval (.tmp 12) = (.int .i64 (N : Int)) := (hk ⟨3, .data⟩ (by simp) rfl).is rfl rfl
              have ef : ac.eval (.func 51) = .func (.func 51) #[] #[] := rfl
              refine step_enter (f := 51) (args := #[.int .i64 lf, .int .i64 (N : Int)]) ?_ ?_
              · generalize ac.eval = ρ at e10 e12 ef ⊢
                go_simp
              · exact (HL1.out w).mono fun e w' ⟨he, hq⟩ => ⟨_, he, rfl, hq ▸ Below.refl _ _⟩
            · refine StepOKl.of ?_
              intro ac w hb hu hk
              refine ⟨wanted_none rfl, ?_⟩
              have e13 : ac.eval (.tmp 13) = (.bool true) := (hk ⟨4, .data⟩ (by simp) rfl).is rfl rfl
              exact step_value (run_not e13 rfl w) (Below.refl _ _) rfl
            · refine StepOKl.of ?_
              intro ac w hb hu hk
              refine ⟨wanted_none rfl, ?_⟩
              have e14 : ac.eval (.tmp 14) = (.bool false) := (hk ⟨5, .data⟩ (by simp) rfl).is rfl rfl
              exact step_value (BigFrame.run_move (.tmp 14) rfl w) (Below.refl _ _) e14
            · refine StepOKl.of ?_
              intro ac w hb hu hk
              refine ⟨wanted_some rfl (hk ⟨6, .guard⟩ (by simp) rfl) rfl rfl (fun _ h => h), ?_⟩
              have e7 : ac.eval (.tmp 7) = .pointer (some ⟨g7, 0, none⟩) := hu.is (t := 7) (by kernel_rfl)
              refine step_value (w' := w) (v := (.pointer (some ⟨g7, 4, none⟩))) ?_ (Below.refl _ _) rfl
              generalize ac.eval = ρ at e7 ⊢
              go_simp
            · refine StepOKl.of ?_
              intro ac w hb hu hk
              refine ⟨wanted_some rfl (hk ⟨6, .guard⟩ (by simp) rfl) rfl rfl (fun _ h => h), ?_⟩
              have e16 : ac.eval (.tmp 16) = (.pointer (some ⟨g7, 4, none⟩)) := (hk ⟨7, .data⟩ (by simp) rfl).is rfl rfl
              have hc := HC4.out w hb
              refine step_value (w' := w) (v := .int .i64 ch) ?_ (Below.refl _ _) rfl
              generalize ac.eval = ρ at e16 ⊢
              go_simp
            · refine StepOKl.of ?_
              intro ac w hb hu hk
              refine ⟨wanted_some rfl (hk ⟨6, .chain⟩ (by simp) rfl) rfl rfl (fun _ h => h), ?_⟩
              have e17 : ac.eval (.tmp 17) = (.int .i64 ch) := (hk ⟨8, .data⟩ (by simp) rfl).is rfl rfl
              have ec0 : ac.eval (.const (Value.int IntKind.i64 67)) = Value.int IntKind.i64 67 := rfl
              have ef : ac.eval (.func 51) = .func (.func 51) #[] #[] := rfl
              refine step_enter (f := 51) (args := #[.int .i64 ch, .int .i64 67]) ?_ ?_
              · generalize ac.eval = ρ at e17 ec0 ef ⊢
                go_simp
              · exact (HL2.out w).mono fun e w' ⟨he, hq⟩ => ⟨_, he, rfl, hq ▸ Below.refl _ _⟩
            · refine StepOKl.of ?_
              intro ac w hb hu hk
              refine ⟨wanted_some rfl (hk ⟨6, .guard⟩ (by simp) rfl) rfl rfl (fun _ h => h), ?_⟩
              have e18 : ac.eval (.tmp 18) = (.bool true) := (hk ⟨9, .data⟩ (by simp) rfl).is rfl rfl
              exact step_value (run_not e18 rfl w) (Below.refl _ _) rfl
            · refine StepOKl.of ?_
              intro ac w hb hu hk
              refine ⟨wanted_none rfl, ?_⟩
              have e15 : ac.eval (.tmp 15) = (.bool false) := (hk ⟨6, .data⟩ (by simp) rfl).is rfl rfl
              have e19 : ac.eval (.tmp 19) = (.bool false) := (hk ⟨10, .data⟩ (by simp) rfl).is rfl rfl
              exact step_value (run_pick_false e15 rfl w) (Below.refl _ _) e19
            · refine StepOKl.of ?_
              intro ac w hb hu hk
              refine ⟨wanted_none rfl, ?_⟩
              have e20 : ac.eval (.tmp 20) = (.bool false) := (hk ⟨11, .data⟩ (by simp) rfl).is rfl rfl
              exact step_value (BigFrame.run_move (.tmp 20) rfl w) (Below.refl _ _) e20
            · refine StepOKl.of ?_
              intro ac w hb hu hk
              refine ⟨wanted_some rfl (hk ⟨12, .guard⟩ (by simp) rfl) rfl rfl (fun _ h => h), ?_⟩
              have e7 : ac.eval (.tmp 7) = .pointer (some ⟨g7, 0, none⟩) := hu.is (t := 7) (by kernel_rfl)
              refine step_value (w' := w) (v := (.pointer (some ⟨g7, 5, none⟩))) ?_ (Below.refl _ _) rfl
              generalize ac.eval = ρ at e7 ⊢
              go_simp
            · refine StepOKl.of ?_
              intro ac w hb hu hk
              refine ⟨wanted_some rfl (hk ⟨12, .guard⟩ (by simp) rfl) rfl rfl (fun _ h => h), ?_⟩
              have e22 : ac.eval (.tmp 22) = (.pointer (some ⟨g7, 5, none⟩)) := (hk ⟨13, .data⟩ (by simp) rfl).is rfl rfl
              have hc := HC5.out w hb
              refine step_value (w' := w) (v := .int .i64 pl) ?_ (Below.refl _ _) rfl
              generalize ac.eval = ρ at e22 ⊢
              go_simp
            · refine StepOKl.of ?_
              intro ac w hb hu hk
              refine ⟨wanted_some rfl (hk ⟨12, .chain⟩ (by simp) rfl) rfl rfl (fun _ h => h), ?_⟩
              have e23 : ac.eval (.tmp 23) = (.int .i64 pl) := (hk ⟨14, .data⟩ (by simp) rfl).is rfl rfl
              have ec0 : ac.eval (.const (Value.int IntKind.i64 16)) = Value.int IntKind.i64 16 := rfl
              have ef : ac.eval (.func 51) = .func (.func 51) #[] #[] := rfl
              refine step_enter (f := 51) (args := #[.int .i64 pl, .int .i64 16]) ?_ ?_
              · generalize ac.eval = ρ at e23 ec0 ef ⊢
                go_simp
              · exact (HL3.out w).mono fun e w' ⟨he, hq⟩ => ⟨_, he, rfl, hq ▸ Below.refl _ _⟩
            · refine StepOKl.of ?_
              intro ac w hb hu hk
              refine ⟨wanted_some rfl (hk ⟨12, .guard⟩ (by simp) rfl) rfl rfl (fun _ h => h), ?_⟩
              have e24 : ac.eval (.tmp 24) = (.bool true) := (hk ⟨15, .data⟩ (by simp) rfl).is rfl rfl
              exact step_value (run_not e24 rfl w) (Below.refl _ _) rfl
            · refine StepOKl.of ?_
              intro ac w hb hu hk
              refine ⟨wanted_none rfl, ?_⟩
              have e21 : ac.eval (.tmp 21) = (.bool false) := (hk ⟨12, .data⟩ (by simp) rfl).is rfl rfl
              have e25 : ac.eval (.tmp 25) = (.bool false) := (hk ⟨16, .data⟩ (by simp) rfl).is rfl rfl
              exact step_value (run_pick_false e21 rfl w) (Below.refl _ _) e25
            · intro ac w' hb hu hk hap
              obtain ⟨_, h9, rfl⟩ := (hk 0 (by decide)).put rfl rfl
              obtain ⟨_, h10, rfl⟩ := (hk 1 (by decide)).put rfl rfl
              obtain ⟨_, h11, rfl⟩ := (hk 2 (by decide)).put rfl rfl
              obtain ⟨_, h12, rfl⟩ := (hk 3 (by decide)).put rfl rfl
              obtain ⟨_, h13, rfl⟩ := (hk 4 (by decide)).put rfl rfl
              obtain ⟨_, h14, rfl⟩ := (hk 5 (by decide)).put rfl rfl
              obtain ⟨_, h15, rfl⟩ := (hk 6 (by decide)).put rfl rfl
              obtain ⟨_, h16, rfl⟩ := (hk 7 (by decide)).put rfl rfl
              obtain ⟨_, h17, rfl⟩ := (hk 8 (by decide)).put rfl rfl
              obtain ⟨_, h18, rfl⟩ := (hk 9 (by decide)).put rfl rfl
              obtain ⟨_, h19, rfl⟩ := (hk 10 (by decide)).put rfl rfl
              obtain ⟨_, h20, rfl⟩ := (hk 11 (by decide)).put rfl rfl
              obtain ⟨_, h21, rfl⟩ := (hk 12 (by decide)).put rfl rfl
              obtain ⟨_, h22, rfl⟩ := (hk 13 (by decide)).put rfl rfl
              obtain ⟨_, h23, rfl⟩ := (hk 14 (by decide)).put rfl rfl
              obtain ⟨_, h24, rfl⟩ := (hk 15 (by decide)).put rfl rfl
              obtain ⟨_, h25, rfl⟩ := (hk 16 (by decide)).put rfl rfl
              obtain ⟨_, h26, rfl⟩ := (hk 17 (by decide)).put rfl rfl
              clear hap
              have hF : AllPuts ac.tmps ((9, _) :: (10, _) :: (11, _) :: (12, _) :: (13, _) :: (14, _) :: (15, _) :: (16, _) :: (17, _) :: (18, _) :: (19, _) :: (20, _) :: (21, _) :: (22, _) :: (23, _) :: (24, _) :: (25, _) :: (26, _) :: []) := ⟨h9, h10, h11, h12, h13, h14, h15, h16, h17, h18, h19, h20, h21, h22, h23, h24, h25, h26, trivial⟩
              obtain rfl := frame_puts hu (by kernel_rfl) hF
              simp only [puts, Act.put, List.setIfInBounds_toArray, List.set_cons_zero, List.set_cons_succ, List.drop_succ_cons, List.drop_nil]
              clear hk hu hF h9 h10 h11 h12 h13 h14 h15 h16 h17 h18 h19 h20 h21 h22 h23 h24 h25 h26
              have HK := Lib.hid (fun W (hW : Below w'.heap.size w' W) => HC0.out W (hb.trans (hW.mono hb.size)))
              replace HC0 := HK
              clear HK
              have HK := Lib.hid (fun W (hW : Below w'.heap.size w' W) => HC1.out W (hb.trans (hW.mono hb.size)))
              replace HC1 := HK
              clear HK
              have HK := Lib.hid (fun W (hW : Below w'.heap.size w' W) => HC2.out W (hb.trans (hW.mono hb.size)))
              replace HC2 := HK
              clear HK
              have HK := Lib.hid (fun W (hW : Below w'.heap.size w' W) => HC3.out W (hb.trans (hW.mono hb.size)))
              replace HC3 := HK
              clear HK
              have HK := Lib.hid (fun W (hW : Below w'.heap.size w' W) => HC4.out W (hb.trans (hW.mono hb.size)))
              replace HC4 := HK
              clear HK
              have HK := Lib.hid (fun W (hW : Below w'.heap.size w' W) => HC5.out W (hb.trans (hW.mono hb.size)))
              replace HC5 := HK
              clear HK
              have HK := Lib.hid (fun W (hW : Below w'.heap.size w' W) => HBX.out W (hb.trans (hW.mono hb.size)))
              replace HBX := HK
              clear HK
              have HK := Lib.hid (fun W (hW : Below w'.heap.size w' W) => HBF.out W (hb.trans (hW.mono hb.size)))
              replace HBF := HK
              clear HK
              have HBQ := Lib.hid hb
              have HBZ := Lib.hid (HBW.out.trans (hb.mono HBW.out.size))
              clear hb
              go_wp2_with fail
              refine wp_region_skip 17 1 (fun i => false) (promises [.is (.pointer (some ⟨g7, 0, none⟩)), .is (.agg #[.slice A n c, .slice B m d]), .is (.bool false), .is (.bool false), .is (.pointer (some ⟨g7, 2, none⟩)), .is (.bool false), .is (.bool false), .is (undef), .is (undef), .is (undef), .is (undef), .is (undef), .is (undef), .is (undef), .is (undef), .is (.bool false), .is (.bool false)]) (by kernel_rfl) rfl (by kernel_rfl) (fun i v w w' h hb => Spec.keep h hb) ⟨?_, ?_, ?_, ?_, ?_, ?_, ?_, ?_, ?_, ?_, ?_, ?_, ?_, ?_, ?_, ?_, ?_, trivial⟩ ?_
              · refine StepOKs.of ?_
                intro ac w hb hu hk
                refine ⟨wanted_none rfl, ?_⟩
                have e7 : ac.eval (.tmp 7) = .pointer (some ⟨g7, 0, none⟩) := hu.is (t := 7) (by kernel_rfl)
                refine step_value (w' := w) (v := (.pointer (some ⟨g7, 0, none⟩))) ?_ (Below.refl _ _) rfl
                generalize ac.eval = ρ at e7 ⊢
                go_simp
              · refine StepOKs.of ?_
                intro ac w hb hu hk
                refine ⟨wanted_none rfl, ?_⟩
                have e27 : ac.eval (.tmp 27) = (.pointer (some ⟨g7, 0, none⟩)) := (hk ⟨0, .data⟩ (by simp) rfl).is rfl rfl
                have hc0 := HC0.out w hb
                have hc1 := HC1.out w hb
                refine step_value (w' := w) (v := .agg #[.slice A n c, .slice B m d]) ?_ (Below.refl _ _) rfl
                generalize ac.eval = ρ at e27 ⊢
                go_simp
              · refine StepOKs.of ?_
                intro ac w hb hu hk
                refine ⟨wanted_none rfl, ?_⟩
                have e28 : ac.eval (.tmp 28) = (.agg #[.slice A n c, .slice B m d]) := (hk ⟨1, .data⟩ (by simp) rfl).is rfl rfl
                have ef : ac.eval (.func 38) = .func (.func 38) #[] #[] := rfl
                refine step_enter (f := 38) (args := #[.agg #[.slice A n c, .slice B m d]]) ?_ ?_
                · generalize ac.eval = ρ at e28 ef ⊢
                  go_simp
                · exact (HSM.out w (HBZ.out.trans (hb.mono HBZ.out.size))).mono fun e w' ⟨he, hq⟩ => ⟨_, he, rfl, hq⟩
              · refine StepOKs.of ?_
                intro ac w hb hu hk
                refine ⟨wanted_none rfl, ?_⟩
                have e29 : ac.eval (.tmp 29) = (.bool false) := (hk ⟨2, .data⟩ (by simp) rfl).is rfl rfl
                exact step_value (BigFrame.run_move (.tmp 29) rfl w) (Below.refl _ _) e29
              · refine StepOKs.of ?_
                intro ac w hb hu hk
                refine ⟨wanted_some rfl (hk ⟨3, .guard⟩ (by simp) rfl) rfl rfl (fun _ h => h), ?_⟩
                have e7 : ac.eval (.tmp 7) = .pointer (some ⟨g7, 0, none⟩) := hu.is (t := 7) (by kernel_rfl)
                refine step_value (w' := w) (v := (.pointer (some ⟨g7, 2, none⟩))) ?_ (Below.refl _ _) rfl
                generalize ac.eval = ρ at e7 ⊢
                go_simp
              · refine StepOKs.of ?_
                intro ac w hb hu hk
                refine ⟨wanted_some rfl (hk ⟨3, .guard⟩ (by simp) rfl) rfl rfl (fun _ h => h), ?_⟩
                have e31 : ac.eval (.tmp 31) = (.pointer (some ⟨g7, 2, none⟩)) := (hk ⟨4, .data⟩ (by simp) rfl).is rfl rfl
                have hc := HC2.out w hb
                refine step_value (w' := w) (v := .bool false) ?_ (Below.refl _ _) rfl
                generalize ac.eval = ρ at e31 ⊢
                go_simp
              · refine StepOKs.of ?_
                intro ac w hb hu hk
                refine ⟨wanted_some rfl (hk ⟨3, .chain⟩ (by simp) rfl) rfl rfl (fun _ h => h), ?_⟩
                have e32 : ac.eval (.tmp 32) = (.bool false) := (hk ⟨5, .data⟩ (by simp) rfl).is rfl rfl
                exact step_value (BigFrame.run_move (.tmp 32) rfl w) (Below.refl _ _) e32
              · refine StepOKs.skip ?_
                intro ac w hb hu hk
                exact ⟨unwanted_bool rfl (hk ⟨6, .guard⟩ (by simp) rfl) rfl rfl (fun _ h => h) (by decide), rfl⟩
              · refine StepOKs.skip ?_
                intro ac w hb hu hk
                exact ⟨unwanted_bool rfl (hk ⟨6, .guard⟩ (by simp) rfl) rfl rfl (fun _ h => h) (by decide), rfl⟩
              · refine StepOKs.skip ?_
                intro ac w hb hu hk
                exact ⟨unwanted_bool rfl (hk ⟨6, .guard⟩ (by simp) rfl) rfl rfl (fun _ h => h) (by decide), rfl⟩
              · refine StepOKs.skip ?_
                intro ac w hb hu hk
                exact ⟨unwanted_bool rfl (hk ⟨6, .guard⟩ (by simp) rfl) rfl rfl (fun _ h => h) (by decide), rfl⟩
              · refine StepOKs.skip ?_
                intro ac w hb hu hk
                exact ⟨unwanted_bool rfl (hk ⟨6, .guard⟩ (by simp) rfl) rfl rfl (fun _ h => h) (by decide), rfl⟩
              · refine StepOKs.skip ?_
                intro ac w hb hu hk
                exact ⟨unwanted_bool rfl (hk ⟨6, .chain⟩ (by simp) rfl) rfl rfl (fun _ h => h) (by decide), rfl⟩
              · refine StepOKs.skip ?_
                intro ac w hb hu hk
                exact ⟨unwanted_bool rfl (hk ⟨6, .guard⟩ (by simp) rfl) rfl rfl (fun _ h => h) (by decide), rfl⟩
              · refine StepOKs.skip ?_
                intro ac w hb hu hk
                exact ⟨unwanted_bool rfl (hk ⟨6, .guard⟩ (by simp) rfl) rfl rfl (fun _ h => h) (by decide), rfl⟩
              · refine StepOKs.of ?_
                intro ac w hb hu hk
                refine ⟨wanted_some rfl (hk ⟨3, .guard⟩ (by simp) rfl) rfl rfl (fun _ h => h), ?_⟩
                have e33 : ac.eval (.tmp 33) = (.bool false) := (hk ⟨6, .data⟩ (by simp) rfl).is rfl rfl
                have e41 : ac.eval (.tmp 41) = (undef) := (hk ⟨14, .data⟩ (by simp) rfl).is rfl rfl
                refine step_value (w' := w) (v := .bool false) ?_ (Below.refl _ _) rfl
                exact run_pick_false (b := .const (.bool false)) e33 rfl w
              · refine StepOKs.of ?_
                intro ac w hb hu hk
                refine ⟨wanted_none rfl, ?_⟩
                have e30 : ac.eval (.tmp 30) = (.bool false) := (hk ⟨3, .data⟩ (by simp) rfl).is rfl rfl
                have e42 : ac.eval (.tmp 42) = (.bool false) := (hk ⟨15, .data⟩ (by simp) rfl).is rfl rfl
                exact step_value (run_pick_false e30 rfl w) (Below.refl _ _) e42
              · intro ac w' hb hu hk hap
                obtain ⟨_, h27, rfl⟩ := (hk 0 (by decide)).put rfl rfl
                obtain ⟨_, h28, rfl⟩ := (hk 1 (by decide)).put rfl rfl
                obtain ⟨_, h29, rfl⟩ := (hk 2 (by decide)).put rfl rfl
                obtain ⟨_, h30, rfl⟩ := (hk 3 (by decide)).put rfl rfl
                obtain ⟨_, h31, rfl⟩ := (hk 4 (by decide)).put rfl rfl
                obtain ⟨_, h32, rfl⟩ := (hk 5 (by decide)).put rfl rfl
                obtain ⟨_, h33, rfl⟩ := (hk 6 (by decide)).put rfl rfl
                obtain ⟨_, h34, rfl⟩ := (hk 7 (by decide)).put rfl rfl
                obtain ⟨_, h35, rfl⟩ := (hk 8 (by decide)).put rfl rfl
                obtain ⟨_, h36, rfl⟩ := (hk 9 (by decide)).put rfl rfl
                obtain ⟨_, h37, rfl⟩ := (hk 10 (by decide)).put rfl rfl
                obtain ⟨_, h38, rfl⟩ := (hk 11 (by decide)).put rfl rfl
                obtain ⟨_, h39, rfl⟩ := (hk 12 (by decide)).put rfl rfl
                obtain ⟨_, h40, rfl⟩ := (hk 13 (by decide)).put rfl rfl
                obtain ⟨_, h41, rfl⟩ := (hk 14 (by decide)).put rfl rfl
                obtain ⟨_, h42, rfl⟩ := (hk 15 (by decide)).put rfl rfl
                obtain ⟨_, h43, rfl⟩ := (hk 16 (by decide)).put rfl rfl
                clear hap
                have hF : AllPuts ac.tmps ((27, _) :: (28, _) :: (29, _) :: (30, _) :: (31, _) :: (32, _) :: (33, _) :: (34, _) :: (35, _) :: (36, _) :: (37, _) :: (38, _) :: (39, _) :: (40, _) :: (41, _) :: (42, _) :: (43, _) :: []) := ⟨h27, h28, h29, h30, h31, h32, h33, h34, h35, h36, h37, h38, h39, h40, h41, h42, h43, trivial⟩
                obtain rfl := frame_puts hu (by kernel_rfl) hF
                simp only [puts, Act.put, List.setIfInBounds_toArray, List.set_cons_zero, List.set_cons_succ, List.drop_succ_cons, List.drop_zero]
                clear hk hu hF h27 h28 h29 h30 h31 h32 h33 h34 h35 h36 h37 h38 h39 h40 h41 h42 h43
                have HBE := Lib.hid (HBW.out.trans ((HBQ.out.trans (hb.mono HBQ.out.size)).mono HBW.out.size))
                clear hb
                go_wp2_with fail
                go_ret
                exact ⟨rfl, HBE.out⟩
          · have hlk3 : lk = true := by assumption
            subst hlk3
            have HSM := Lib.hid (fun W (hW : Below w.heap.size w W) => (show Calls Tryd.prog 38 #[.agg #[.slice A n c, .slice B m d]] W fun e w' => e = .returned (.bool false) ∧ Below W.heap.size W w' from by
              have hx := breakS A B n m c d a b W ha hbn hac hbd ha8 hb8 (HRA.out W hW) (HRB.out W hW)
              rwa [show (!(a == b) && decide (shaL a = shaL b)) = false from hbr] at hx))
            obtain ⟨own, hown⟩ : ∃ x, msgV rows h lf = x := ⟨_, rfl⟩
            have hol : own.length ≤ 1000 := by rw [← hown]; exact msgV_short hrl h lf
            obtain ⟨L9, hL9⟩ : ∃ x, own.length = x := ⟨_, rfl⟩
            obtain ⟨sb, hsb⟩ : ∃ q, decide (secP sd own lf ch pl vv) = q := ⟨_, rfl⟩
            have HD := Lib.hid (show decide (holdsX sd h rows true lf ch pl vv a b) = sb from by
              rw [← hsb]
              apply Bool.eq_iff_iff.2
              rw [decide_eq_true_iff, decide_eq_true_iff, HRX.out, hown]
              exact ⟨fun hx => by
                rcases hx.2.2.2 with h2 | h2
                · rw [hbr] at h2; cases h2
                · exact h2.2, fun hx => ⟨hb1, hb2, hb3, .inr ⟨rfl, hx⟩⟩⟩)
            have HMS := Lib.hid (fun W (hW : Below w.heap.size w W) => (show Calls Tryd.prog 44 #[.slice R rn rc, .int .i64 h, .int .i64 lf] W fun e w' => ∃ X c, e = .returned (.slice X L9 c) ∧ L9 ≤ c ∧ c ≤ maxLen ∧ Rd w' w'.heap.size X own ∧ W = w' from by
              have hx := pmessage9_any R rn rc rows h lf W hrn hb1.1 (HRR.out W hW)
              rwa [hown, hL9] at hx))
            have HSC := Lib.hid (fun X1 c1 W (hW : Below w.heap.size w W) (h2 : L9 ≤ c1) (h3 : c1 ≤ maxLen) (h4 : Rd W W.heap.size X1 own) => (show Calls Tryd.prog 53 #[.agg X, .slice X1 L9 c1, .agg FA] W fun e w' => e = .returned (.bool sb) ∧ Below W.heap.size W w' from by
              have hx := psecret9_any sd X1 L9 c1 own FA _ _ true lf ch pl vv W hs hL9 (by omega) h2 h3 h4 hF hv hl1 hb2.1 hb2.2 hb3.1 hb3.2 (tab_on HTAB.out hW hW.size)
              rwa [HHX.out, hsb] at hx))
            clear hown hL9 hsb
            rw [HD.out]
            rw [decide_eq_true hb1] at HL1
            rw [decide_eq_true hb2] at HL2
            rw [decide_eq_true hb3] at HL3
            clear HRX HRR HRA HRB HD hX hrr hra hrb htab hF hbr hb1 hb2 hb3
            generalize cntN h = N at *
            go_enter Tryd.func19, Tryd.ntmps19
            go_upto_region 1 with fail
            generalize hw1 : World.alloc _ _ = w3
            obtain ⟨g4, hg4⟩ : ∃ g, w.heap.size = g := ⟨_, rfl⟩
            obtain ⟨g7, hg7⟩ : ∃ g, w.heap.size + 1 = g := ⟨_, rfl⟩
            have hf : Blk w3 g4 X 23 ∧ Blk w3 g7 FA 43 ∧ Below w.heap.size w w3 := by
              have hw : w3 = ((w.alloc (.cells X 23)).alloc (.cells FA 43)) := hw1.symm
              have e1 : (w.alloc (.cells X 23)).heap.size = w.heap.size + 1 := by simp
              rw [hw, ← hg4, ← hg7]
              exact ⟨by exact (Blk.new _ _ _).alloc _, by rw [← e1]; exact Blk.new _ _ _, (((Below.refl _ _).alloc (Nat.le_refl _) _).alloc (by simp) _)⟩
            have HB4 := Lib.hid hf.1
            have HB7 := Lib.hid hf.2.1
            have HBW := Lib.hid hf.2.2
            have HG4 := Lib.hid (show w.heap.size ≤ g4 by omega)
            have HG7 := Lib.hid (show w.heap.size ≤ g7 by omega)
            clear hf hw1
            rw [hg7, hg4]
            clear hg4 hg7
            have HC2 := Lib.hid (fun W (hW : Below w3.heap.size w3 W) => (show W.cell? ⟨g7, 2, none⟩ = some (.bool true) by rw [(HB7.out.below hW HB7.out.lt).cell 2]; exact HF.out.2.2.2.1))
            have HC3 := Lib.hid (fun W (hW : Below w3.heap.size w3 W) => (show W.cell? ⟨g7, 3, none⟩ = some (.int .i64 lf) by rw [(HB7.out.below hW HB7.out.lt).cell 3]; exact HF.out.2.2.2.2.1))
            have HC4 := Lib.hid (fun W (hW : Below w3.heap.size w3 W) => (show W.cell? ⟨g7, 4, none⟩ = some (.int .i64 ch) by rw [(HB7.out.below hW HB7.out.lt).cell 4]; exact HF.out.2.2.2.2.2.1))
            have HC5 := Lib.hid (fun W (hW : Below w3.heap.size w3 W) => (show W.cell? ⟨g7, 5, none⟩ = some (.int .i64 pl) by rw [(HB7.out.below hW HB7.out.lt).cell 5]; exact HF.out.2.2.2.2.2.2.1))
            have HBX := Lib.hid (fun W (hW : Below w3.heap.size w3 W) => HB4.out.below hW HB4.out.lt)
            have HBF := Lib.hid (fun W (hW : Below w3.heap.size w3 W) => HB7.out.below hW HB7.out.lt)
            have HC0 := Lib.hid (fun W (hW : Below w3.heap.size w3 W) => (show W.cell? ⟨g7, 0, none⟩ = some (.slice A n c) by rw [(HB7.out.below hW HB7.out.lt).cell 0]; exact HF.out.2.1))
            have HC1 := Lib.hid (fun W (hW : Below w3.heap.size w3 W) => (show W.cell? ⟨g7, 1, none⟩ = some (.slice B m d) by rw [(HB7.out.below hW HB7.out.lt).cell 1]; exact HF.out.2.2.1))
            refine wp_region_loose 18 0 (fun i => false) (promises [.is (.pointer (some ⟨g7, 3, none⟩)), .is (.int .i64 lf), .is (.int .i64 h), .is (.int .i64 (N : Int)), .is (.bool true), .is (.bool false), .is (.bool false), .is (.pointer (some ⟨g7, 4, none⟩)), .is (.int .i64 ch), .is (.bool true), .is (.bool false), .is (.bool false), .is (.bool false), .is (.pointer (some ⟨g7, 5, none⟩)), .is (.int .i64 pl), .is (.bool true), .is (.bool false), .is (.bool false)]) (by kernel_rfl) rfl (by kernel_rfl) (fun i v w w' h hb => Spec.keep h hb) ⟨?_, ?_, ?_, ?_, ?_, ?_, ?_, ?_, ?_, ?_, ?_, ?_, ?_, ?_, ?_, ?_, ?_, ?_, trivial⟩ ?_
            · refine StepOKl.of ?_
              intro ac w hb hu hk
              refine ⟨wanted_none rfl, ?_⟩
              have e7 : ac.eval (.tmp 7) = .pointer (some ⟨g7, 0, none⟩) := hu.is (t := 7) (by kernel_rfl)
              refine step_value (w' := w) (v := (.pointer (some ⟨g7, 3, none⟩))) ?_ (Below.refl _ _) rfl
              generalize ac.eval = ρ at e7 ⊢
              go_simp
            · refine StepOKl.of ?_
              intro ac w hb hu hk
              refine ⟨wanted_none rfl, ?_⟩
              have e9 : ac.eval (.tmp 9) = (.pointer (some ⟨g7, 3, none⟩)) := (hk ⟨0, .data⟩ (by simp) rfl).is rfl rfl
              have hc := HC3.out w hb
              refine step_value (w' := w) (v := .int .i64 lf) ?_ (Below.refl _ _) rfl
              generalize ac.eval = ρ at e9 ⊢
              go_simp
            · refine StepOKl.of ?_
              intro ac w hb hu hk
              refine ⟨wanted_none rfl, ?_⟩
              have e1 : ac.eval (.tmp 1) = .int .i64 h := hu.is (t := 1) (by kernel_rfl)
              exact step_value (BigFrame.run_move (.tmp 1) rfl w) (Below.refl _ _) e1
            · refine StepOKl.of ?_
              intro ac w hb hu hk
              refine ⟨wanted_none rfl, ?_⟩
              have e11 : ac.eval (.tmp 11) = (.int .i64 h) := (hk ⟨2, .data⟩ (by simp) rfl).is rfl rfl
              have ef : ac.eval (.func 52) = .func (.func 52) #[] #[] := rfl
              refine step_enter (f := 52) (args := #[.int .i64 h]) ?_ ?_
              · generalize ac.eval = ρ at e11 ef ⊢
                go_simp
              · exact (HCT.out w).mono fun e w' ⟨he, hq⟩ => ⟨_, he, rfl, hq ▸ Below.refl _ _⟩
            · refine StepOKl.of ?_
              intro ac w hb hu hk
              refine ⟨wanted_none rfl, ?_⟩
              have e10 : ac.eval (.tmp 10) = (.int .i64 lf) := (hk ⟨1, .data⟩ (by simp) rfl).is rfl rfl
              have e12 : ac.eval (.tmp 12) = (.int .i64 (N : Int)) := (hk ⟨3, .data⟩ (by simp) rfl).is rfl rfl
              have ef : ac.eval (.func 51) = .func (.func 51) #[] #[] := rfl
              refine step_enter (f := 51) (args := #[.int .i64 lf, .int .i64 (N : Int)]) ?_ ?_
              · generalize ac.eval = ρ at e10 e12 ef ⊢
                go_simp
              · exact (HL1.out w).mono fun e w' ⟨he, hq⟩ => ⟨_, he, rfl, hq ▸ Below.refl _ _⟩
            · refine StepOKl.of ?_
              intro ac w hb hu hk
              refine ⟨wanted_none rfl, ?_⟩
              have e13 : ac.eval (.tmp 13) = (.bool true) := (hk ⟨4, .data⟩ (by simp) rfl).is rfl rfl
              exact step_value (run_not e13 rfl w) (Below.refl _ _) rfl
            · refine StepOKl.of ?_
              intro ac w hb hu hk
              refine ⟨wanted_none rfl, ?_⟩
              have e14 : ac.eval (.tmp 14) = (.bool false) := (hk ⟨5, .data⟩ (by simp) rfl).is rfl rfl
              exact step_value (BigFrame.run_move (.tmp 14) rfl w) (Below.refl _ _) e14
            · refine StepOKl.of ?_
              intro ac w hb hu hk
              refine ⟨wanted_some rfl (hk ⟨6, .guard⟩ (by simp) rfl) rfl rfl (fun _ h => h), ?_⟩
              have e7 : ac.eval (.tmp 7) = .pointer (some ⟨g7, 0, none⟩) := hu.is (t := 7) (by kernel_rfl)
              refine step_value (w' := w) (v := (.pointer (some ⟨g7, 4, none⟩))) ?_ (Below.refl _ _) rfl
              generalize ac.eval = ρ at e7 ⊢
              go_simp
            · refine StepOKl.of ?_
              intro ac w hb hu hk
              refine ⟨wanted_some rfl (hk ⟨6, .guard⟩ (by simp) rfl) rfl rfl (fun _ h => h), ?_⟩
              have e16 : ac.eval (.tmp 16) = (.pointer (some ⟨g7, 4, none⟩)) := (hk ⟨7, .data⟩ (by simp) rfl).is rfl rfl
              have hc := HC4.out w hb
              refine step_value (w' := w) (v := .int .i64 ch) ?_ (Below.refl _ _) rfl
              generalize ac.eval = ρ at e16 ⊢
              go_simp
            · refine StepOKl.of ?_
              intro ac w hb hu hk
              refine ⟨wanted_some rfl (hk ⟨6, .chain⟩ (by simp) rfl) rfl rfl (fun _ h => h), ?_⟩
              have e17 : ac.eval (.tmp 17) = (.int .i64 ch) := (hk ⟨8, .data⟩ (by simp) rfl).is rfl rfl
              have ec0 : ac.eval (.const (Value.int IntKind.i64 67)) = Value.int IntKind.i64 67 := rfl
              have ef : ac.eval (.func 51) = .func (.func 51) #[] #[] := rfl
              refine step_enter (f := 51) (args := #[.int .i64 ch, .int .i64 67]) ?_ ?_
              · generalize ac.eval = ρ at e17 ec0 ef ⊢
                go_simp
              · exact (HL2.out w).mono fun e w' ⟨he, hq⟩ => ⟨_, he, rfl, hq ▸ Below.refl _ _⟩
            · refine StepOKl.of ?_
              intro ac w hb hu hk
              refine ⟨wanted_some rfl (hk ⟨6, .guard⟩ (by simp) rfl) rfl rfl (fun _ h => h), ?_⟩
              have e18 : ac.eval (.tmp 18) = (.bool true) := (hk ⟨9, .data⟩ (by simp) rfl).is rfl rfl
              exact step_value (run_not e18 rfl w) (Below.refl _ _) rfl
            · refine StepOKl.of ?_
              intro ac w hb hu hk
              refine ⟨wanted_none rfl, ?_⟩
              have e15 : ac.eval (.tmp 15) = (.bool false) := (hk ⟨6, .data⟩ (by simp) rfl).is rfl rfl
              have e19 : ac.eval (.tmp 19) = (.bool false) := (hk ⟨10, .data⟩ (by simp) rfl).is rfl rfl
              exact step_value (run_pick_false e15 rfl w) (Below.refl _ _) e19
            · refine StepOKl.of ?_
              intro ac w hb hu hk
              refine ⟨wanted_none rfl, ?_⟩
              have e20 : ac.eval (.tmp 20) = (.bool false) := (hk ⟨11, .data⟩ (by simp) rfl).is rfl rfl
              exact step_value (BigFrame.run_move (.tmp 20) rfl w) (Below.refl _ _) e20
            · refine StepOKl.of ?_
              intro ac w hb hu hk
              refine ⟨wanted_some rfl (hk ⟨12, .guard⟩ (by simp) rfl) rfl rfl (fun _ h => h), ?_⟩
              have e7 : ac.eval (.tmp 7) = .pointer (some ⟨g7, 0, none⟩) := hu.is (t := 7) (by kernel_rfl)
              refine step_value (w' := w) (v := (.pointer (some ⟨g7, 5, none⟩))) ?_ (Below.refl _ _) rfl
              generalize ac.eval = ρ at e7 ⊢
              go_simp
            · refine StepOKl.of ?_
              intro ac w hb hu hk
              refine ⟨wanted_some rfl (hk ⟨12, .guard⟩ (by simp) rfl) rfl rfl (fun _ h => h), ?_⟩
              have e22 : ac.eval (.tmp 22) = (.pointer (some ⟨g7, 5, none⟩)) := (hk ⟨13, .data⟩ (by simp) rfl).is rfl rfl
              have hc := HC5.out w hb
              refine step_value (w' := w) (v := .int .i64 pl) ?_ (Below.refl _ _) rfl
              generalize ac.eval = ρ at e22 ⊢
              go_simp
            · refine StepOKl.of ?_
              intro ac w hb hu hk
              refine ⟨wanted_some rfl (hk ⟨12, .chain⟩ (by simp) rfl) rfl rfl (fun _ h => h), ?_⟩
              have e23 : ac.eval (.tmp 23) = (.int .i64 pl) := (hk ⟨14, .data⟩ (by simp) rfl).is rfl rfl
              have ec0 : ac.eval (.const (Value.int IntKind.i64 16)) = Value.int IntKind.i64 16 := rfl
              have ef : ac.eval (.func 51) = .func (.func 51) #[] #[] := rfl
              refine step_enter (f := 51) (args := #[.int .i64 pl, .int .i64 16]) ?_ ?_
              · generalize ac.eval = ρ at e23 ec0 ef ⊢
                go_simp
              · exact (HL3.out w).mono fun e w' ⟨he, hq⟩ => ⟨_, he, rfl, hq ▸ Below.refl _ _⟩
            · refine StepOKl.of ?_
              intro ac w hb hu hk
              refine ⟨wanted_some rfl (hk ⟨12, .guard⟩ (by simp) rfl) rfl rfl (fun _ h => h), ?_⟩
              have e24 : ac.eval (.tmp 24) = (.bool true) := (hk ⟨15, .data⟩ (by simp) rfl).is rfl rfl
              exact step_value (run_not e24 rfl w) (Below.refl _ _) rfl
            · refine StepOKl.of ?_
              intro ac w hb hu hk
              refine ⟨wanted_none rfl, ?_⟩
              have e21 : ac.eval (.tmp 21) = (.bool false) := (hk ⟨12, .data⟩ (by simp) rfl).is rfl rfl
              have e25 : ac.eval (.tmp 25) = (.bool false) := (hk ⟨16, .data⟩ (by simp) rfl).is rfl rfl
              exact step_value (run_pick_false e21 rfl w) (Below.refl _ _) e25
            · intro ac w' hb hu hk hap
              obtain ⟨_, h9, rfl⟩ := (hk 0 (by decide)).put rfl rfl
              obtain ⟨_, h10, rfl⟩ := (hk 1 (by decide)).put rfl rfl
              obtain ⟨_, h11, rfl⟩ := (hk 2 (by decide)).put rfl rfl
              obtain ⟨_, h12, rfl⟩ := (hk 3 (by decide)).put rfl rfl
              obtain ⟨_, h13, rfl⟩ := (hk 4 (by decide)).put rfl rfl
              obtain ⟨_, h14, rfl⟩ := (hk 5 (by decide)).put rfl rfl
              obtain ⟨_, h15, rfl⟩ := (hk 6 (by decide)).put rfl rfl
              obtain ⟨_, h16, rfl⟩ := (hk 7 (by decide)).put rfl rfl
              obtain ⟨_, h17, rfl⟩ := (hk 8 (by decide)).put rfl rfl
              obtain ⟨_, h18, rfl⟩ := (hk 9 (by decide)).put rfl rfl
              obtain ⟨_, h19, rfl⟩ := (hk 10 (by decide)).put rfl rfl
              obtain ⟨_, h20, rfl⟩ := (hk 11 (by decide)).put rfl rfl
              obtain ⟨_, h21, rfl⟩ := (hk 12 (by decide)).put rfl rfl
              obtain ⟨_, h22, rfl⟩ := (hk 13 (by decide)).put rfl rfl
              obtain ⟨_, h23, rfl⟩ := (hk 14 (by decide)).put rfl rfl
              obtain ⟨_, h24, rfl⟩ := (hk 15 (by decide)).put rfl rfl
              obtain ⟨_, h25, rfl⟩ := (hk 16 (by decide)).put rfl rfl
              obtain ⟨_, h26, rfl⟩ := (hk 17 (by decide)).put rfl rfl
              clear hap
              have hF : AllPuts ac.tmps ((9, _) :: (10, _) :: (11, _) :: (12, _) :: (13, _) :: (14, _) :: (15, _) :: (16, _) :: (17, _) :: (18, _) :: (19, _) :: (20, _) :: (21, _) :: (22, _) :: (23, _) :: (24, _) :: (25, _) :: (26, _) :: []) := ⟨h9, h10, h11, h12, h13, h14, h15, h16, h17, h18, h19, h20, h21, h22, h23, h24, h25, h26, trivial⟩
              obtain rfl := frame_puts hu (by kernel_rfl) hF
              simp only [puts, Act.put, List.setIfInBounds_toArray, List.set_cons_zero, List.set_cons_succ, List.drop_succ_cons, List.drop_nil]
              clear hk hu hF h9 h10 h11 h12 h13 h14 h15 h16 h17 h18 h19 h20 h21 h22 h23 h24 h25 h26
              have HK := Lib.hid (fun W (hW : Below w'.heap.size w' W) => HC0.out W (hb.trans (hW.mono hb.size)))
              replace HC0 := HK
              clear HK
              have HK := Lib.hid (fun W (hW : Below w'.heap.size w' W) => HC1.out W (hb.trans (hW.mono hb.size)))
              replace HC1 := HK
              clear HK
              have HK := Lib.hid (fun W (hW : Below w'.heap.size w' W) => HC2.out W (hb.trans (hW.mono hb.size)))
              replace HC2 := HK
              clear HK
              have HK := Lib.hid (fun W (hW : Below w'.heap.size w' W) => HC3.out W (hb.trans (hW.mono hb.size)))
              replace HC3 := HK
              clear HK
              have HK := Lib.hid (fun W (hW : Below w'.heap.size w' W) => HC4.out W (hb.trans (hW.mono hb.size)))
              replace HC4 := HK
              clear HK
              have HK := Lib.hid (fun W (hW : Below w'.heap.size w' W) => HC5.out W (hb.trans (hW.mono hb.size)))
              replace HC5 := HK
              clear HK
              have HK := Lib.hid (fun W (hW : Below w'.heap.size w' W) => HBX.out W (hb.trans (hW.mono hb.size)))
              replace HBX := HK
              clear HK
              have HK := Lib.hid (fun W (hW : Below w'.heap.size w' W) => HBF.out W (hb.trans (hW.mono hb.size)))
              replace HBF := HK
              clear HK
              have HBQ := Lib.hid hb
              have HBZ := Lib.hid (HBW.out.trans (hb.mono HBW.out.size))
              clear hb
              go_wp2_with fail
              refine wp_region_loose 17 1 (fun i => false) (promises [.is (.pointer (some ⟨g7, 0, none⟩)), .is (.agg #[.slice A n c, .slice B m d]), .is (.bool false), .is (.bool false), .is (.pointer (some ⟨g7, 2, none⟩)), .is (.bool true), .is (.bool true), .is (.agg X), .is (.slice R rn rc), .is (.int .i64 h), .is (.pointer (some ⟨g7, 3, none⟩)), .is (.int .i64 lf), .byc L9 own, .is (.agg FA), .is (.bool sb), .is (.bool sb), .is (.bool sb)]) (by kernel_rfl) rfl (by kernel_rfl) (fun i v w w' h hb => Spec.keep h hb) ⟨?_, ?_, ?_, ?_, ?_, ?_, ?_, ?_, ?_, ?_, ?_, ?_, ?_, ?_, ?_, ?_, ?_, trivial⟩ ?_
              · refine StepOKl.of ?_
                intro ac w hb hu hk
                refine ⟨wanted_none rfl, ?_⟩
                have e7 : ac.eval (.tmp 7) = .pointer (some ⟨g7, 0, none⟩) := hu.is (t := 7) (by kernel_rfl)
                refine step_value (w' := w) (v := (.pointer (some ⟨g7, 0, none⟩))) ?_ (Below.refl _ _) rfl
                generalize ac.eval = ρ at e7 ⊢
                go_simp
              · refine StepOKl.of ?_
                intro ac w hb hu hk
                refine ⟨wanted_none rfl, ?_⟩
                have e27 : ac.eval (.tmp 27) = (.pointer (some ⟨g7, 0, none⟩)) := (hk ⟨0, .data⟩ (by simp) rfl).is rfl rfl
                have hc0 := HC0.out w hb
                have hc1 := HC1.out w hb
                refine step_value (w' := w) (v := .agg #[.slice A n c, .slice B m d]) ?_ (Below.refl _ _) rfl
                generalize ac.eval = ρ at e27 ⊢
                go_simp
              · refine StepOKl.of ?_
                intro ac w hb hu hk
                refine ⟨wanted_none rfl, ?_⟩
                have e28 : ac.eval (.tmp 28) = (.agg #[.slice A n c, .slice B m d]) := (hk ⟨1, .data⟩ (by simp) rfl).is rfl rfl
                have ef : ac.eval (.func 38) = .func (.func 38) #[] #[] := rfl
                refine step_enter (f := 38) (args := #[.agg #[.slice A n c, .slice B m d]]) ?_ ?_
                · generalize ac.eval = ρ at e28 ef ⊢
                  go_simp
                · exact (HSM.out w (HBZ.out.trans (hb.mono HBZ.out.size))).mono fun e w' ⟨he, hq⟩ => ⟨_, he, rfl, hq⟩
              · refine StepOKl.of ?_
                intro ac w hb hu hk
                refine ⟨wanted_none rfl, ?_⟩
                have e29 : ac.eval (.tmp 29) = (.bool false) := (hk ⟨2, .data⟩ (by simp) rfl).is rfl rfl
                exact step_value (BigFrame.run_move (.tmp 29) rfl w) (Below.refl _ _) e29
              · refine StepOKl.of ?_
                intro ac w hb hu hk
                refine ⟨wanted_some rfl (hk ⟨3, .guard⟩ (by simp) rfl) rfl rfl (fun _ h => h), ?_⟩
                have e7 : ac.eval (.tmp 7) = .pointer (some ⟨g7, 0, none⟩) := hu.is (t := 7) (by kernel_rfl)
                refine step_value (w' := w) (v := (.pointer (some ⟨g7, 2, none⟩))) ?_ (Below.refl _ _) rfl
                generalize ac.eval = ρ at e7 ⊢
                go_simp
              · refine StepOKl.of ?_
                intro ac w hb hu hk
                refine ⟨wanted_some rfl (hk ⟨3, .guard⟩ (by simp) rfl) rfl rfl (fun _ h => h), ?_⟩
                have e31 : ac.eval (.tmp 31) = (.pointer (some ⟨g7, 2, none⟩)) := (hk ⟨4, .data⟩ (by simp) rfl).is rfl rfl
                have hc := HC2.out w hb
                refine step_value (w' := w) (v := .bool true) ?_ (Below.refl _ _) rfl
                generalize ac.eval = ρ at e31 ⊢
                go_simp
              · refine StepOKl.of ?_
                intro ac w hb hu hk
                refine ⟨wanted_some rfl (hk ⟨3, .chain⟩ (by simp) rfl) rfl rfl (fun _ h => h), ?_⟩
                have e32 : ac.eval (.tmp 32) = (.bool true) := (hk ⟨5, .data⟩ (by simp) rfl).is rfl rfl
                exact step_value (BigFrame.run_move (.tmp 32) rfl w) (Below.refl _ _) e32
              · refine StepOKl.of ?_
                intro ac w hb hu hk
                refine ⟨wanted_some rfl (hk ⟨6, .guard⟩ (by simp) rfl) rfl rfl (fun _ h => h), ?_⟩
                have e4 : ac.eval (.tmp 4) = .pointer (some ⟨g4, 0, none⟩) := hu.is (t := 4) (by kernel_rfl)
                exact wp_load_row 23 (.tmp 4) rfl g4 e4 23 X (0, 0) _ (HBX.out w hb) Tryd.underlying23 rfl (by rw [HZX.out]; kernel_rfl) ⟨_, rfl, rfl, Below.refl _ _⟩
              · refine StepOKl.of ?_
                intro ac w hb hu hk
                refine ⟨wanted_some rfl (hk ⟨6, .guard⟩ (by simp) rfl) rfl rfl (fun _ h => h), ?_⟩
                have e2 : ac.eval (.tmp 2) = .slice R rn rc := hu.is (t := 2) (by kernel_rfl)
                exact step_value (BigFrame.run_move (.tmp 2) rfl w) (Below.refl _ _) e2
              · refine StepOKl.of ?_
                intro ac w hb hu hk
                refine ⟨wanted_some rfl (hk ⟨6, .guard⟩ (by simp) rfl) rfl rfl (fun _ h => h), ?_⟩
                have e1 : ac.eval (.tmp 1) = .int .i64 h := hu.is (t := 1) (by kernel_rfl)
                exact step_value (BigFrame.run_move (.tmp 1) rfl w) (Below.refl _ _) e1
              · refine StepOKl.of ?_
                intro ac w hb hu hk
                refine ⟨wanted_some rfl (hk ⟨6, .guard⟩ (by simp) rfl) rfl rfl (fun _ h => h), ?_⟩
                have e7 : ac.eval (.tmp 7) = .pointer (some ⟨g7, 0, none⟩) := hu.is (t := 7) (by kernel_rfl)
                refine step_value (w' := w) (v := (.pointer (some ⟨g7, 3, none⟩))) ?_ (Below.refl _ _) rfl
                generalize ac.eval = ρ at e7 ⊢
                go_simp
              · refine StepOKl.of ?_
                intro ac w hb hu hk
                refine ⟨wanted_some rfl (hk ⟨6, .guard⟩ (by simp) rfl) rfl rfl (fun _ h => h), ?_⟩
                have e37 : ac.eval (.tmp 37) = (.pointer (some ⟨g7, 3, none⟩)) := (hk ⟨10, .data⟩ (by simp) rfl).is rfl rfl
                have hc := HC3.out w hb
                refine step_value (w' := w) (v := .int .i64 lf) ?_ (Below.refl _ _) rfl
                generalize ac.eval = ρ at e37 ⊢
                go_simp
              · refine StepOKl.of ?_
                intro ac w hb hu hk
                refine ⟨wanted_some rfl (hk ⟨6, .chain⟩ (by simp) rfl) rfl rfl (fun _ h => h), ?_⟩
                have e35 : ac.eval (.tmp 35) = (.slice R rn rc) := (hk ⟨8, .data⟩ (by simp) rfl).is rfl rfl
                have e36 : ac.eval (.tmp 36) = (.int .i64 h) := (hk ⟨9, .data⟩ (by simp) rfl).is rfl rfl
                have e38 : ac.eval (.tmp 38) = (.int .i64 lf) := (hk ⟨11, .data⟩ (by simp) rfl).is rfl rfl
                have ef : ac.eval (.func 44) = .func (.func 44) #[] #[] := rfl
                refine step_enter (f := 44) (args := #[.slice R rn rc, .int .i64 h, .int .i64 lf]) ?_ ?_
                · generalize ac.eval = ρ at e35 e36 e38 ef ⊢
                  go_simp
                · exact (HMS.out w (HBZ.out.trans (hb.mono HBZ.out.size))).mono fun e w' ⟨A, c, he, hc, hm, hr, hq⟩ => ⟨_, he, ⟨A, c, rfl, hc, hm, hr⟩, hq ▸ Below.refl _ _⟩
              · refine StepOKl.of ?_
                intro ac w hb hu hk
                refine ⟨wanted_some rfl (hk ⟨6, .guard⟩ (by simp) rfl) rfl rfl (fun _ h => h), ?_⟩
                have e7 : ac.eval (.tmp 7) = .pointer (some ⟨g7, 0, none⟩) := hu.is (t := 7) (by kernel_rfl)
                exact wp_load_row 43 (.tmp 7) rfl g7 e7 43 FA (0, 0) _ (HBF.out w hb) Tryd.underlying43 rfl (by rw [HZFA.out]; kernel_rfl) ⟨_, rfl, rfl, Below.refl _ _⟩
              · refine StepOKl.of ?_
                intro ac w hb hu hk
                refine ⟨wanted_some rfl (hk ⟨6, .guard⟩ (by simp) rfl) rfl rfl (fun _ h => h), ?_⟩
                have e34 : ac.eval (.tmp 34) = (.agg X) := (hk ⟨7, .data⟩ (by simp) rfl).is rfl rfl
                have e39 : ∃ X c, ac.eval (.tmp 39) = .slice X L9 c ∧ L9 ≤ c ∧ c ≤ maxLen ∧ Rd w w.heap.size X own := (hk ⟨12, .data⟩ (by simp) rfl).is rfl rfl
                have e40 : ac.eval (.tmp 40) = (.agg FA) := (hk ⟨13, .data⟩ (by simp) rfl).is rfl rfl
                obtain ⟨X39, x39, eX39, hx39, hm39, hR39⟩ := e39
                have ef : ac.eval (.func 53) = .func (.func 53) #[] #[] := rfl
                refine step_enter (f := 53) (args := #[.agg X, .slice X39 L9 x39, .agg FA]) ?_ ?_
                · generalize ac.eval = ρ at e34 eX39 e40 ef ⊢
                  go_simp
                · exact (HSC.out X39 x39 w (HBZ.out.trans (hb.mono HBZ.out.size)) hx39 hm39 hR39).mono fun e w' ⟨he, hq⟩ => ⟨_, he, rfl, hq⟩
              · refine StepOKl.of ?_
                intro ac w hb hu hk
                refine ⟨wanted_some rfl (hk ⟨3, .guard⟩ (by simp) rfl) rfl rfl (fun _ h => h), ?_⟩
                have e33 : ac.eval (.tmp 33) = (.bool true) := (hk ⟨6, .data⟩ (by simp) rfl).is rfl rfl
                have e41 : ac.eval (.tmp 41) = (.bool sb) := (hk ⟨14, .data⟩ (by simp) rfl).is rfl rfl
                exact step_value (run_pick_true e33 rfl w) (Below.refl _ _) e41
              · refine StepOKl.of ?_
                intro ac w hb hu hk
                refine ⟨wanted_none rfl, ?_⟩
                have e30 : ac.eval (.tmp 30) = (.bool false) := (hk ⟨3, .data⟩ (by simp) rfl).is rfl rfl
                have e42 : ac.eval (.tmp 42) = (.bool sb) := (hk ⟨15, .data⟩ (by simp) rfl).is rfl rfl
                exact step_value (run_pick_false e30 rfl w) (Below.refl _ _) e42
              · intro ac w' hb hu hk hap
                obtain ⟨_, h27, rfl⟩ := (hk 0 (by decide)).put rfl rfl
                obtain ⟨_, h28, rfl⟩ := (hk 1 (by decide)).put rfl rfl
                obtain ⟨_, h29, rfl⟩ := (hk 2 (by decide)).put rfl rfl
                obtain ⟨_, h30, rfl⟩ := (hk 3 (by decide)).put rfl rfl
                obtain ⟨_, h31, rfl⟩ := (hk 4 (by decide)).put rfl rfl
                obtain ⟨_, h32, rfl⟩ := (hk 5 (by decide)).put rfl rfl
                obtain ⟨_, h33, rfl⟩ := (hk 6 (by decide)).put rfl rfl
                obtain ⟨_, h34, rfl⟩ := (hk 7 (by decide)).put rfl rfl
                obtain ⟨_, h35, rfl⟩ := (hk 8 (by decide)).put rfl rfl
                obtain ⟨_, h36, rfl⟩ := (hk 9 (by decide)).put rfl rfl
                obtain ⟨_, h37, rfl⟩ := (hk 10 (by decide)).put rfl rfl
                obtain ⟨_, h38, rfl⟩ := (hk 11 (by decide)).put rfl rfl
                obtain ⟨_, h39, ⟨X39, xc39, rfl, hxc39, hX39⟩⟩ := (hk 12 (by decide)).put rfl rfl
                obtain ⟨_, h40, rfl⟩ := (hk 13 (by decide)).put rfl rfl
                obtain ⟨_, h41, rfl⟩ := (hk 14 (by decide)).put rfl rfl
                obtain ⟨_, h42, rfl⟩ := (hk 15 (by decide)).put rfl rfl
                obtain ⟨_, h43, rfl⟩ := (hk 16 (by decide)).put rfl rfl
                clear hap
                have hF : AllPuts ac.tmps ((27, _) :: (28, _) :: (29, _) :: (30, _) :: (31, _) :: (32, _) :: (33, _) :: (34, _) :: (35, _) :: (36, _) :: (37, _) :: (38, _) :: (39, _) :: (40, _) :: (41, _) :: (42, _) :: (43, _) :: []) := ⟨h27, h28, h29, h30, h31, h32, h33, h34, h35, h36, h37, h38, h39, h40, h41, h42, h43, trivial⟩
                obtain rfl := frame_puts hu (by kernel_rfl) hF
                simp only [puts, Act.put, List.setIfInBounds_toArray, List.set_cons_zero, List.set_cons_succ, List.drop_succ_cons, List.drop_zero]
                clear hk hu hF h27 h28 h29 h30 h31 h32 h33 h34 h35 h36 h37 h38 h39 h40 h41 h42 h43
                have HBE := Lib.hid (HBW.out.trans ((HBQ.out.trans (hb.mono HBQ.out.size)).mono HBW.out.size))
                clear hb
                go_wp2_with fail
                go_ret
                exact ⟨rfl, HBE.out⟩
        · cases hlk : lk
          · have hlk3 : lk = false := by assumption
            subst hlk3
            have HSM := Lib.hid (fun W (hW : Below w.heap.size w W) => (show Calls Tryd.prog 38 #[.agg #[.slice A n c, .slice B m d]] W fun e w' => e = .returned (.bool true) ∧ Below W.heap.size W w' from by
              have hx := breakS A B n m c d a b W ha hbn hac hbd ha8 hb8 (HRA.out W hW) (HRB.out W hW)
              rwa [show (!(a == b) && decide (shaL a = shaL b)) = true from hbr] at hx))
            have HD := Lib.hid (show decide (holdsX sd h rows false lf ch pl vv a b) = true from decide_eq_true (HRX.out.2 ⟨hb1, hb2, hb3, .inl hbr⟩))
            rw [HD.out]
            rw [decide_eq_true hb1] at HL1
            rw [decide_eq_true hb2] at HL2
            rw [decide_eq_true hb3] at HL3
            clear HRX HRR HRA HRB HD hX hrr hra hrb htab hF hbr hb1 hb2 hb3
            generalize cntN h = N at *
            go_enter Tryd.func19, Tryd.ntmps19
            go_upto_region 1 with fail
            generalize hw1 : World.alloc _ _ = w3
            obtain ⟨g4, hg4⟩ : ∃ g, w.heap.size = g := ⟨_, rfl⟩
            obtain ⟨g7, hg7⟩ : ∃ g, w.heap.size + 1 = g := ⟨_, rfl⟩
            have hf : Blk w3 g4 X 23 ∧ Blk w3 g7 FA 43 ∧ Below w.heap.size w w3 := by
              have hw : w3 = ((w.alloc (.cells X 23)).alloc (.cells FA 43)) := hw1.symm
              have e1 : (w.alloc (.cells X 23)).heap.size = w.heap.size + 1 := by simp
              rw [hw, ← hg4, ← hg7]
              exact ⟨by exact (Blk.new _ _ _).alloc _, by rw [← e1]; exact Blk.new _ _ _, (((Below.refl _ _).alloc (Nat.le_refl _) _).alloc (by simp) _)⟩
            have HB4 := Lib.hid hf.1
            have HB7 := Lib.hid hf.2.1
            have HBW := Lib.hid hf.2.2
            have HG4 := Lib.hid (show w.heap.size ≤ g4 by omega)
            have HG7 := Lib.hid (show w.heap.size ≤ g7 by omega)
            clear hf hw1
            rw [hg7, hg4]
            clear hg4 hg7
            have HC2 := Lib.hid (fun W (hW : Below w3.heap.size w3 W) => (show W.cell? ⟨g7, 2, none⟩ = some (.bool false) by rw [(HB7.out.below hW HB7.out.lt).cell 2]; exact HF.out.2.2.2.1))
            have HC3 := Lib.hid (fun W (hW : Below w3.heap.size w3 W) => (show W.cell? ⟨g7, 3, none⟩ = some (.int .i64 lf) by rw [(HB7.out.below hW HB7.out.lt).cell 3]; exact HF.out.2.2.2.2.1))
            have HC4 := Lib.hid (fun W (hW : Below w3.heap.size w3 W) => (show W.cell? ⟨g7, 4, none⟩ = some (.int .i64 ch) by rw [(HB7.out.below hW HB7.out.lt).cell 4]; exact HF.out.2.2.2.2.2.1))
            have HC5 := Lib.hid (fun W (hW : Below w3.heap.size w3 W) => (show W.cell? ⟨g7, 5, none⟩ = some (.int .i64 pl) by rw [(HB7.out.below hW HB7.out.lt).cell 5]; exact HF.out.2.2.2.2.2.2.1))
            have HBX := Lib.hid (fun W (hW : Below w3.heap.size w3 W) => HB4.out.below hW HB4.out.lt)
            have HBF := Lib.hid (fun W (hW : Below w3.heap.size w3 W) => HB7.out.below hW HB7.out.lt)
            have HC0 := Lib.hid (fun W (hW : Below w3.heap.size w3 W) => (show W.cell? ⟨g7, 0, none⟩ = some (.slice A n c) by rw [(HB7.out.below hW HB7.out.lt).cell 0]; exact HF.out.2.1))
            have HC1 := Lib.hid (fun W (hW : Below w3.heap.size w3 W) => (show W.cell? ⟨g7, 1, none⟩ = some (.slice B m d) by rw [(HB7.out.below hW HB7.out.lt).cell 1]; exact HF.out.2.2.1))
            refine wp_region_loose 18 0 (fun i => false) (promises [.is (.pointer (some ⟨g7, 3, none⟩)), .is (.int .i64 lf), .is (.int .i64 h), .is (.int .i64 (N : Int)), .is (.bool true), .is (.bool false), .is (.bool false), .is (.pointer (some ⟨g7, 4, none⟩)), .is (.int .i64 ch), .is (.bool true), .is (.bool false), .is (.bool false), .is (.bool false), .is (.pointer (some ⟨g7, 5, none⟩)), .is (.int .i64 pl), .is (.bool true), .is (.bool false), .is (.bool false)]) (by kernel_rfl) rfl (by kernel_rfl) (fun i v w w' h hb => Spec.keep h hb) ⟨?_, ?_, ?_, ?_, ?_, ?_, ?_, ?_, ?_, ?_, ?_, ?_, ?_, ?_, ?_, ?_, ?_, ?_, trivial⟩ ?_
            · refine StepOKl.of ?_
              intro ac w hb hu hk
              refine ⟨wanted_none rfl, ?_⟩
              have e7 : ac.eval (.tmp 7) = .pointer (some ⟨g7, 0, none⟩) := hu.is (t := 7) (by kernel_rfl)
              refine step_value (w' := w) (v := (.pointer (some ⟨g7, 3, none⟩))) ?_ (Below.refl _ _) rfl
              generalize ac.eval = ρ at e7 ⊢
              go_simp
            · refine StepOKl.of ?_
              intro ac w hb hu hk
              refine ⟨wanted_none rfl, ?_⟩
              have e9 : ac.eval (.tmp 9) = (.pointer (some ⟨g7, 3, none⟩)) := (hk ⟨0, .data⟩ (by simp) rfl).is rfl rfl
              have hc := HC3.out w hb
              refine step_value (w' := w) (v := .int .i64 lf) ?_ (Below.refl _ _) rfl
              generalize ac.eval = ρ at e9 ⊢
              go_simp
            · refine StepOKl.of ?_
              intro ac w hb hu hk
              refine ⟨wanted_none rfl, ?_⟩
              have e1 : ac.eval (.tmp 1) = .int .i64 h := hu.is (t := 1) (by kernel_rfl)
              exact step_value (BigFrame.run_move (.tmp 1) rfl w) (Below.refl _ _) e1
            · refine StepOKl.of ?_
              intro ac w hb hu hk
              refine ⟨wanted_none rfl, ?_⟩
              have e11 : ac.eval (.tmp 11) = (.int .i64 h) := (hk ⟨2, .data⟩ (by simp) rfl).is rfl rfl
              have ef : ac.eval (.func 52) = .func (.func 52) #[] #[] := rfl
              refine step_enter (f := 52) (args := #[.int .i64 h]) ?_ ?_
              · generalize ac.eval = ρ at e11 ef ⊢
                go_simp
              · exact (HCT.out w).mono fun e w' ⟨he, hq⟩ => ⟨_, he, rfl, hq ▸ Below.refl _ _⟩
            · refine StepOKl.of ?_
              intro ac w hb hu hk
              refine ⟨wanted_none rfl, ?_⟩
              have e10 : ac.eval (.tmp 10) = (.int .i64 lf) := (hk ⟨1, .data⟩ (by simp) rfl).is rfl rfl
              have e12 : ac.eval (.tmp 12) = (.int .i64 (N : Int)) := (hk ⟨3, .data⟩ (by simp) rfl).is rfl rfl
              have ef : ac.eval (.func 51) = .func (.func 51) #[] #[] := rfl
              refine step_enter (f := 51) (args := #[.int .i64 lf, .int .i64 (N : Int)]) ?_ ?_
              · generalize ac.eval = ρ at e10 e12 ef ⊢
                go_simp
              · exact (HL1.out w).mono fun e w' ⟨he, hq⟩ => ⟨_, he, rfl, hq ▸ Below.refl _ _⟩
            · refine StepOKl.of ?_
              intro ac w hb hu hk
              refine ⟨wanted_none rfl, ?_⟩
              have e13 : ac.eval (.tmp 13) = (.bool true) := (hk ⟨4, .data⟩ (by simp) rfl).is rfl rfl
              exact step_value (run_not e13 rfl w) (Below.refl _ _) rfl
            · refine StepOKl.of ?_
              intro ac w hb hu hk
              refine ⟨wanted_none rfl, ?_⟩
              have e14 : ac.eval (.tmp 14) = (.bool false) := (hk ⟨5, .data⟩ (by simp) rfl).is rfl rfl
              exact step_value (BigFrame.run_move (.tmp 14) rfl w) (Below.refl _ _) e14
            · refine StepOKl.of ?_
              intro ac w hb hu hk
              refine ⟨wanted_some rfl (hk ⟨6, .guard⟩ (by simp) rfl) rfl rfl (fun _ h => h), ?_⟩
              have e7 : ac.eval (.tmp 7) = .pointer (some ⟨g7, 0, none⟩) := hu.is (t := 7) (by kernel_rfl)
              refine step_value (w' := w) (v := (.pointer (some ⟨g7, 4, none⟩))) ?_ (Below.refl _ _) rfl
              generalize ac.eval = ρ at e7 ⊢
              go_simp
            · refine StepOKl.of ?_
              intro ac w hb hu hk
              refine ⟨wanted_some rfl (hk ⟨6, .guard⟩ (by simp) rfl) rfl rfl (fun _ h => h), ?_⟩
              have e16 : ac.eval (.tmp 16) = (.pointer (some ⟨g7, 4, none⟩)) := (hk ⟨7, .data⟩ (by simp) rfl).is rfl rfl
              have hc := HC4.out w hb
              refine step_value (w' := w) (v := .int .i64 ch) ?_ (Below.refl _ _) rfl
              generalize ac.eval = ρ at e16 ⊢
              go_simp
            · refine StepOKl.of ?_
              intro ac w hb hu hk
              refine ⟨wanted_some rfl (hk ⟨6, .chain⟩ (by simp) rfl) rfl rfl (fun _ h => h), ?_⟩
              have e17 : ac.eval (.tmp 17) = (.int .i64 ch) := (hk ⟨8, .data⟩ (by simp) rfl).is rfl rfl
              have ec0 : ac.eval (.const (Value.int IntKind.i64 67)) = Value.int IntKind.i64 67 := rfl
              have ef : ac.eval (.func 51) = .func (.func 51) #[] #[] := rfl
              refine step_enter (f := 51) (args := #[.int .i64 ch, .int .i64 67]) ?_ ?_
              · generalize ac.eval = ρ at e17 ec0 ef ⊢
                go_simp
              · exact (HL2.out w).mono fun e w' ⟨he, hq⟩ => ⟨_, he, rfl, hq ▸ Below.refl _ _⟩
            · refine StepOKl.of ?_
              intro ac w hb hu hk
              refine ⟨wanted_some rfl (hk ⟨6, .guard⟩ (by simp) rfl) rfl rfl (fun _ h => h), ?_⟩
              have e18 : ac.eval (.tmp 18) = (.bool true) := (hk ⟨9, .data⟩ (by simp) rfl).is rfl rfl
              exact step_value (run_not e18 rfl w) (Below.refl _ _) rfl
            · refine StepOKl.of ?_
              intro ac w hb hu hk
              refine ⟨wanted_none rfl, ?_⟩
              have e15 : ac.eval (.tmp 15) = (.bool false) := (hk ⟨6, .data⟩ (by simp) rfl).is rfl rfl
              have e19 : ac.eval (.tmp 19) = (.bool false) := (hk ⟨10, .data⟩ (by simp) rfl).is rfl rfl
              exact step_value (run_pick_false e15 rfl w) (Below.refl _ _) e19
            · refine StepOKl.of ?_
              intro ac w hb hu hk
              refine ⟨wanted_none rfl, ?_⟩
              have e20 : ac.eval (.tmp 20) = (.bool false) := (hk ⟨11, .data⟩ (by simp) rfl).is rfl rfl
              exact step_value (BigFrame.run_move (.tmp 20) rfl w) (Below.refl _ _) e20
            · refine StepOKl.of ?_
              intro ac w hb hu hk
              refine ⟨wanted_some rfl (hk ⟨12, .guard⟩ (by simp) rfl) rfl rfl (fun _ h => h), ?_⟩
              have e7 : ac.eval (.tmp 7) = .pointer (some ⟨g7, 0, none⟩) := hu.is (t := 7) (by kernel_rfl)
              refine step_value (w' := w) (v := (.pointer (some ⟨g7, 5, none⟩))) ?_ (Below.refl _ _) rfl
              generalize ac.eval = ρ at e7 ⊢
              go_simp
            · refine StepOKl.of ?_
              intro ac w hb hu hk
              refine ⟨wanted_some rfl (hk ⟨12, .guard⟩ (by simp) rfl) rfl rfl (fun _ h => h), ?_⟩
              have e22 : ac.eval (.tmp 22) = (.pointer (some ⟨g7, 5, none⟩)) := (hk ⟨13, .data⟩ (by simp) rfl).is rfl rfl
              have hc := HC5.out w hb
              refine step_value (w' := w) (v := .int .i64 pl) ?_ (Below.refl _ _) rfl
              generalize ac.eval = ρ at e22 ⊢
              go_simp
            · refine StepOKl.of ?_
              intro ac w hb hu hk
              refine ⟨wanted_some rfl (hk ⟨12, .chain⟩ (by simp) rfl) rfl rfl (fun _ h => h), ?_⟩
              have e23 : ac.eval (.tmp 23) = (.int .i64 pl) := (hk ⟨14, .data⟩ (by simp) rfl).is rfl rfl
              have ec0 : ac.eval (.const (Value.int IntKind.i64 16)) = Value.int IntKind.i64 16 := rfl
              have ef : ac.eval (.func 51) = .func (.func 51) #[] #[] := rfl
              refine step_enter (f := 51) (args := #[.int .i64 pl, .int .i64 16]) ?_ ?_
              · generalize ac.eval = ρ at e23 ec0 ef ⊢
                go_simp
              · exact (HL3.out w).mono fun e w' ⟨he, hq⟩ => ⟨_, he, rfl, hq ▸ Below.refl _ _⟩
            · refine StepOKl.of ?_
              intro ac w hb hu hk
              refine ⟨wanted_some rfl (hk ⟨12, .guard⟩ (by simp) rfl) rfl rfl (fun _ h => h), ?_⟩
              have e24 : ac.eval (.tmp 24) = (.bool true) := (hk ⟨15, .data⟩ (by simp) rfl).is rfl rfl
              exact step_value (run_not e24 rfl w) (Below.refl _ _) rfl
            · refine StepOKl.of ?_
              intro ac w hb hu hk
              refine ⟨wanted_none rfl, ?_⟩
              have e21 : ac.eval (.tmp 21) = (.bool false) := (hk ⟨12, .data⟩ (by simp) rfl).is rfl rfl
              have e25 : ac.eval (.tmp 25) = (.bool false) := (hk ⟨16, .data⟩ (by simp) rfl).is rfl rfl
              exact step_value (run_pick_false e21 rfl w) (Below.refl _ _) e25
            · intro ac w' hb hu hk hap
              obtain ⟨_, h9, rfl⟩ := (hk 0 (by decide)).put rfl rfl
              obtain ⟨_, h10, rfl⟩ := (hk 1 (by decide)).put rfl rfl
              obtain ⟨_, h11, rfl⟩ := (hk 2 (by decide)).put rfl rfl
              obtain ⟨_, h12, rfl⟩ := (hk 3 (by decide)).put rfl rfl
              obtain ⟨_, h13, rfl⟩ := (hk 4 (by decide)).put rfl rfl
              obtain ⟨_, h14, rfl⟩ := (hk 5 (by decide)).put rfl rfl
              obtain ⟨_, h15, rfl⟩ := (hk 6 (by decide)).put rfl rfl
              obtain ⟨_, h16, rfl⟩ := (hk 7 (by decide)).put rfl rfl
              obtain ⟨_, h17, rfl⟩ := (hk 8 (by decide)).put rfl rfl
              obtain ⟨_, h18, rfl⟩ := (hk 9 (by decide)).put rfl rfl
              obtain ⟨_, h19, rfl⟩ := (hk 10 (by decide)).put rfl rfl
              obtain ⟨_, h20, rfl⟩ := (hk 11 (by decide)).put rfl rfl
              obtain ⟨_, h21, rfl⟩ := (hk 12 (by decide)).put rfl rfl
              obtain ⟨_, h22, rfl⟩ := (hk 13 (by decide)).put rfl rfl
              obtain ⟨_, h23, rfl⟩ := (hk 14 (by decide)).put rfl rfl
              obtain ⟨_, h24, rfl⟩ := (hk 15 (by decide)).put rfl rfl
              obtain ⟨_, h25, rfl⟩ := (hk 16 (by decide)).put rfl rfl
              obtain ⟨_, h26, rfl⟩ := (hk 17 (by decide)).put rfl rfl
              clear hap
              have hF : AllPuts ac.tmps ((9, _) :: (10, _) :: (11, _) :: (12, _) :: (13, _) :: (14, _) :: (15, _) :: (16, _) :: (17, _) :: (18, _) :: (19, _) :: (20, _) :: (21, _) :: (22, _) :: (23, _) :: (24, _) :: (25, _) :: (26, _) :: []) := ⟨h9, h10, h11, h12, h13, h14, h15, h16, h17, h18, h19, h20, h21, h22, h23, h24, h25, h26, trivial⟩
              obtain rfl := frame_puts hu (by kernel_rfl) hF
              simp only [puts, Act.put, List.setIfInBounds_toArray, List.set_cons_zero, List.set_cons_succ, List.drop_succ_cons, List.drop_nil]
              clear hk hu hF h9 h10 h11 h12 h13 h14 h15 h16 h17 h18 h19 h20 h21 h22 h23 h24 h25 h26
              have HK := Lib.hid (fun W (hW : Below w'.heap.size w' W) => HC0.out W (hb.trans (hW.mono hb.size)))
              replace HC0 := HK
              clear HK
              have HK := Lib.hid (fun W (hW : Below w'.heap.size w' W) => HC1.out W (hb.trans (hW.mono hb.size)))
              replace HC1 := HK
              clear HK
              have HK := Lib.hid (fun W (hW : Below w'.heap.size w' W) => HC2.out W (hb.trans (hW.mono hb.size)))
              replace HC2 := HK
              clear HK
              have HK := Lib.hid (fun W (hW : Below w'.heap.size w' W) => HC3.out W (hb.trans (hW.mono hb.size)))
              replace HC3 := HK
              clear HK
              have HK := Lib.hid (fun W (hW : Below w'.heap.size w' W) => HC4.out W (hb.trans (hW.mono hb.size)))
              replace HC4 := HK
              clear HK
              have HK := Lib.hid (fun W (hW : Below w'.heap.size w' W) => HC5.out W (hb.trans (hW.mono hb.size)))
              replace HC5 := HK
              clear HK
              have HK := Lib.hid (fun W (hW : Below w'.heap.size w' W) => HBX.out W (hb.trans (hW.mono hb.size)))
              replace HBX := HK
              clear HK
              have HK := Lib.hid (fun W (hW : Below w'.heap.size w' W) => HBF.out W (hb.trans (hW.mono hb.size)))
              replace HBF := HK
              clear HK
              have HBQ := Lib.hid hb
              have HBZ := Lib.hid (HBW.out.trans (hb.mono HBW.out.size))
              clear hb
              go_wp2_with fail
              refine wp_region_skip 17 1 (fun i => false) (promises [.is (.pointer (some ⟨g7, 0, none⟩)), .is (.agg #[.slice A n c, .slice B m d]), .is (.bool true), .is (.bool true), .is (undef), .is (undef), .is (undef), .is (undef), .is (undef), .is (undef), .is (undef), .is (undef), .is (undef), .is (undef), .is (undef), .is (undef), .is (.bool true)]) (by kernel_rfl) rfl (by kernel_rfl) (fun i v w w' h hb => Spec.keep h hb) ⟨?_, ?_, ?_, ?_, ?_, ?_, ?_, ?_, ?_, ?_, ?_, ?_, ?_, ?_, ?_, ?_, ?_, trivial⟩ ?_
              · refine StepOKs.of ?_
                intro ac w hb hu hk
                refine ⟨wanted_none rfl, ?_⟩
                have e7 : ac.eval (.tmp 7) = .pointer (some ⟨g7, 0, none⟩) := hu.is (t := 7) (by kernel_rfl)
                refine step_value (w' := w) (v := (.pointer (some ⟨g7, 0, none⟩))) ?_ (Below.refl _ _) rfl
                generalize ac.eval = ρ at e7 ⊢
                go_simp
              · refine StepOKs.of ?_
                intro ac w hb hu hk
                refine ⟨wanted_none rfl, ?_⟩
                have e27 : ac.eval (.tmp 27) = (.pointer (some ⟨g7, 0, none⟩)) := (hk ⟨0, .data⟩ (by simp) rfl).is rfl rfl
                have hc0 := HC0.out w hb
                have hc1 := HC1.out w hb
                refine step_value (w' := w) (v := .agg #[.slice A n c, .slice B m d]) ?_ (Below.refl _ _) rfl
                generalize ac.eval = ρ at e27 ⊢
                go_simp
              · refine StepOKs.of ?_
                intro ac w hb hu hk
                refine ⟨wanted_none rfl, ?_⟩
                have e28 : ac.eval (.tmp 28) = (.agg #[.slice A n c, .slice B m d]) := (hk ⟨1, .data⟩ (by simp) rfl).is rfl rfl
                have ef : ac.eval (.func 38) = .func (.func 38) #[] #[] := rfl
                refine step_enter (f := 38) (args := #[.agg #[.slice A n c, .slice B m d]]) ?_ ?_
                · generalize ac.eval = ρ at e28 ef ⊢
                  go_simp
                · exact (HSM.out w (HBZ.out.trans (hb.mono HBZ.out.size))).mono fun e w' ⟨he, hq⟩ => ⟨_, he, rfl, hq⟩
              · refine StepOKs.of ?_
                intro ac w hb hu hk
                refine ⟨wanted_none rfl, ?_⟩
                have e29 : ac.eval (.tmp 29) = (.bool true) := (hk ⟨2, .data⟩ (by simp) rfl).is rfl rfl
                exact step_value (BigFrame.run_move (.tmp 29) rfl w) (Below.refl _ _) e29
              · refine StepOKs.skip ?_
                intro ac w hb hu hk
                exact ⟨unwanted_bool rfl (hk ⟨3, .guard⟩ (by simp) rfl) rfl rfl (fun _ h => h) (by decide), rfl⟩
              · refine StepOKs.skip ?_
                intro ac w hb hu hk
                exact ⟨unwanted_bool rfl (hk ⟨3, .guard⟩ (by simp) rfl) rfl rfl (fun _ h => h) (by decide), rfl⟩
              · refine StepOKs.skip ?_
                intro ac w hb hu hk
                exact ⟨unwanted_bool rfl (hk ⟨3, .chain⟩ (by simp) rfl) rfl rfl (fun _ h => h) (by decide), rfl⟩
              · refine StepOKs.skip ?_
                intro ac w hb hu hk
                exact ⟨unwanted_undef rfl (hk ⟨6, .guard⟩ (by simp) rfl) rfl rfl (fun _ h => h), rfl⟩
              · refine StepOKs.skip ?_
                intro ac w hb hu hk
                exact ⟨unwanted_undef rfl (hk ⟨6, .guard⟩ (by simp) rfl) rfl rfl (fun _ h => h), rfl⟩
              · refine StepOKs.skip ?_
                intro ac w hb hu hk
                exact ⟨unwanted_undef rfl (hk ⟨6, .guard⟩ (by simp) rfl) rfl rfl (fun _ h => h), rfl⟩
              · refine StepOKs.skip ?_
                intro ac w hb hu hk
                exact ⟨unwanted_undef rfl (hk ⟨6, .guard⟩ (by simp) rfl) rfl rfl (fun _ h => h), rfl⟩
              · refine StepOKs.skip ?_
                intro ac w hb hu hk
                exact ⟨unwanted_undef rfl (hk ⟨6, .guard⟩ (by simp) rfl) rfl rfl (fun _ h => h), rfl⟩
              · refine StepOKs.skip ?_
                intro ac w hb hu hk
                exact ⟨unwanted_undef rfl (hk ⟨6, .chain⟩ (by simp) rfl) rfl rfl (fun _ h => h), rfl⟩
              · refine StepOKs.skip ?_
                intro ac w hb hu hk
                exact ⟨unwanted_undef rfl (hk ⟨6, .guard⟩ (by simp) rfl) rfl rfl (fun _ h => h), rfl⟩
              · refine StepOKs.skip ?_
                intro ac w hb hu hk
                exact ⟨unwanted_undef rfl (hk ⟨6, .guard⟩ (by simp) rfl) rfl rfl (fun _ h => h), rfl⟩
              · refine StepOKs.skip ?_
                intro ac w hb hu hk
                exact ⟨unwanted_bool rfl (hk ⟨3, .guard⟩ (by simp) rfl) rfl rfl (fun _ h => h) (by decide), rfl⟩
              · refine StepOKs.of ?_
                intro ac w hb hu hk
                refine ⟨wanted_none rfl, ?_⟩
                have e30 : ac.eval (.tmp 30) = (.bool true) := (hk ⟨3, .data⟩ (by simp) rfl).is rfl rfl
                have e42 : ac.eval (.tmp 42) = (undef) := (hk ⟨15, .data⟩ (by simp) rfl).is rfl rfl
                refine step_value (w' := w) (v := .bool true) ?_ (Below.refl _ _) rfl
                exact run_pick_true (a := .const (.bool true)) e30 rfl w
              · intro ac w' hb hu hk hap
                obtain ⟨_, h27, rfl⟩ := (hk 0 (by decide)).put rfl rfl
                obtain ⟨_, h28, rfl⟩ := (hk 1 (by decide)).put rfl rfl
                obtain ⟨_, h29, rfl⟩ := (hk 2 (by decide)).put rfl rfl
                obtain ⟨_, h30, rfl⟩ := (hk 3 (by decide)).put rfl rfl
                obtain ⟨_, h31, rfl⟩ := (hk 4 (by decide)).put rfl rfl
                obtain ⟨_, h32, rfl⟩ := (hk 5 (by decide)).put rfl rfl
                obtain ⟨_, h33, rfl⟩ := (hk 6 (by decide)).put rfl rfl
                obtain ⟨_, h34, rfl⟩ := (hk 7 (by decide)).put rfl rfl
                obtain ⟨_, h35, rfl⟩ := (hk 8 (by decide)).put rfl rfl
                obtain ⟨_, h36, rfl⟩ := (hk 9 (by decide)).put rfl rfl
                obtain ⟨_, h37, rfl⟩ := (hk 10 (by decide)).put rfl rfl
                obtain ⟨_, h38, rfl⟩ := (hk 11 (by decide)).put rfl rfl
                obtain ⟨_, h39, rfl⟩ := (hk 12 (by decide)).put rfl rfl
                obtain ⟨_, h40, rfl⟩ := (hk 13 (by decide)).put rfl rfl
                obtain ⟨_, h41, rfl⟩ := (hk 14 (by decide)).put rfl rfl
                obtain ⟨_, h42, rfl⟩ := (hk 15 (by decide)).put rfl rfl
                obtain ⟨_, h43, rfl⟩ := (hk 16 (by decide)).put rfl rfl
                clear hap
                have hF : AllPuts ac.tmps ((27, _) :: (28, _) :: (29, _) :: (30, _) :: (31, _) :: (32, _) :: (33, _) :: (34, _) :: (35, _) :: (36, _) :: (37, _) :: (38, _) :: (39, _) :: (40, _) :: (41, _) :: (42, _) :: (43, _) :: []) := ⟨h27, h28, h29, h30, h31, h32, h33, h34, h35, h36, h37, h38, h39, h40, h41, h42, h43, trivial⟩
                obtain rfl := frame_puts hu (by kernel_rfl) hF
                simp only [puts, Act.put, List.setIfInBounds_toArray, List.set_cons_zero, List.set_cons_succ, List.drop_succ_cons, List.drop_zero]
                clear hk hu hF h27 h28 h29 h30 h31 h32 h33 h34 h35 h36 h37 h38 h39 h40 h41 h42 h43
                have HBE := Lib.hid (HBW.out.trans ((HBQ.out.trans (hb.mono HBQ.out.size)).mono HBW.out.size))
                clear hb
                go_wp2_with fail
                go_ret
                exact ⟨rfl, HBE.out⟩
          · have hlk3 : lk = true := by assumption
            subst hlk3
            have HSM := Lib.hid (fun W (hW : Below w.heap.size w W) => (show Calls Tryd.prog 38 #[.agg #[.slice A n c, .slice B m d]] W fun e w' => e = .returned (.bool true) ∧ Below W.heap.size W w' from by
              have hx := breakS A B n m c d a b W ha hbn hac hbd ha8 hb8 (HRA.out W hW) (HRB.out W hW)
              rwa [show (!(a == b) && decide (shaL a = shaL b)) = true from hbr] at hx))
            have HD := Lib.hid (show decide (holdsX sd h rows true lf ch pl vv a b) = true from decide_eq_true (HRX.out.2 ⟨hb1, hb2, hb3, .inl hbr⟩))
            rw [HD.out]
            rw [decide_eq_true hb1] at HL1
            rw [decide_eq_true hb2] at HL2
            rw [decide_eq_true hb3] at HL3
            clear HRX HRR HRA HRB HD hX hrr hra hrb htab hF hbr hb1 hb2 hb3
            generalize cntN h = N at *
            go_enter Tryd.func19, Tryd.ntmps19
            go_upto_region 1 with fail
            generalize hw1 : World.alloc _ _ = w3
            obtain ⟨g4, hg4⟩ : ∃ g, w.heap.size = g := ⟨_, rfl⟩
            obtain ⟨g7, hg7⟩ : ∃ g, w.heap.size + 1 = g := ⟨_, rfl⟩
            have hf : Blk w3 g4 X 23 ∧ Blk w3 g7 FA 43 ∧ Below w.heap.size w w3 := by
              have hw : w3 = ((w.alloc (.cells X 23)).alloc (.cells FA 43)) := hw1.symm
              have e1 : (w.alloc (.cells X 23)).heap.size = w.heap.size + 1 := by simp
              rw [hw, ← hg4, ← hg7]
              exact ⟨by exact (Blk.new _ _ _).alloc _, by rw [← e1]; exact Blk.new _ _ _, (((Below.refl _ _).alloc (Nat.le_refl _) _).alloc (by simp) _)⟩
            have HB4 := Lib.hid hf.1
            have HB7 := Lib.hid hf.2.1
            have HBW := Lib.hid hf.2.2
            have HG4 := Lib.hid (show w.heap.size ≤ g4 by omega)
            have HG7 := Lib.hid (show w.heap.size ≤ g7 by omega)
            clear hf hw1
            rw [hg7, hg4]
            clear hg4 hg7
            have HC2 := Lib.hid (fun W (hW : Below w3.heap.size w3 W) => (show W.cell? ⟨g7, 2, none⟩ = some (.bool true) by rw [(HB7.out.below hW HB7.out.lt).cell 2]; exact HF.out.2.2.2.1))
            have HC3 := Lib.hid (fun W (hW : Below w3.heap.size w3 W) => (show W.cell? ⟨g7, 3, none⟩ = some (.int .i64 lf) by rw [(HB7.out.below hW HB7.out.lt).cell 3]; exact HF.out.2.2.2.2.1))
            have HC4 := Lib.hid (fun W (hW : Below w3.heap.size w3 W) => (show W.cell? ⟨g7, 4, none⟩ = some (.int .i64 ch) by rw [(HB7.out.below hW HB7.out.lt).cell 4]; exact HF.out.2.2.2.2.2.1))
            have HC5 := Lib.hid (fun W (hW : Below w3.heap.size w3 W) => (show W.cell? ⟨g7, 5, none⟩ = some (.int .i64 pl) by rw [(HB7.out.below hW HB7.out.lt).cell 5]; exact HF.out.2.2.2.2.2.2.1))
            have HBX := Lib.hid (fun W (hW : Below w3.heap.size w3 W) => HB4.out.below hW HB4.out.lt)
            have HBF := Lib.hid (fun W (hW : Below w3.heap.size w3 W) => HB7.out.below hW HB7.out.lt)
            have HC0 := Lib.hid (fun W (hW : Below w3.heap.size w3 W) => (show W.cell? ⟨g7, 0, none⟩ = some (.slice A n c) by rw [(HB7.out.below hW HB7.out.lt).cell 0]; exact HF.out.2.1))
            have HC1 := Lib.hid (fun W (hW : Below w3.heap.size w3 W) => (show W.cell? ⟨g7, 1, none⟩ = some (.slice B m d) by rw [(HB7.out.below hW HB7.out.lt).cell 1]; exact HF.out.2.2.1))
            refine wp_region_loose 18 0 (fun i => false) (promises [.is (.pointer (some ⟨g7, 3, none⟩)), .is (.int .i64 lf), .is (.int .i64 h), .is (.int .i64 (N : Int)), .is (.bool true), .is (.bool false), .is (.bool false), .is (.pointer (some ⟨g7, 4, none⟩)), .is (.int .i64 ch), .is (.bool true), .is (.bool false), .is (.bool false), .is (.bool false), .is (.pointer (some ⟨g7, 5, none⟩)), .is (.int .i64 pl), .is (.bool true), .is (.bool false), .is (.bool false)]) (by kernel_rfl) rfl (by kernel_rfl) (fun i v w w' h hb => Spec.keep h hb) ⟨?_, ?_, ?_, ?_, ?_, ?_, ?_, ?_, ?_, ?_, ?_, ?_, ?_, ?_, ?_, ?_, ?_, ?_, trivial⟩ ?_
            · refine StepOKl.of ?_
              intro ac w hb hu hk
              refine ⟨wanted_none rfl, ?_⟩
              have e7 : ac.eval (.tmp 7) = .pointer (some ⟨g7, 0, none⟩) := hu.is (t := 7) (by kernel_rfl)
              refine step_value (w' := w) (v := (.pointer (some ⟨g7, 3, none⟩))) ?_ (Below.refl _ _) rfl
              generalize ac.eval = ρ at e7 ⊢
              go_simp
            · refine StepOKl.of ?_
              intro ac w hb hu hk
              refine ⟨wanted_none rfl, ?_⟩
              have e9 : ac.eval (.tmp 9) = (.pointer (some ⟨g7, 3, none⟩)) := (hk ⟨0, .data⟩ (by simp) rfl).is rfl rfl
              have hc := HC3.out w hb
              refine step_value (w' := w) (v := .int .i64 lf) ?_ (Below.refl _ _) rfl
              generalize ac.eval = ρ at e9 ⊢
              go_simp
            · refine StepOKl.of ?_
              intro ac w hb hu hk
              refine ⟨wanted_none rfl, ?_⟩
              have e1 : ac.eval (.tmp 1) = .int .i64 h := hu.is (t := 1) (by kernel_rfl)
              exact step_value (BigFrame.run_move (.tmp 1) rfl w) (Below.refl _ _) e1
            · refine StepOKl.of ?_
              intro ac w hb hu hk
              refine ⟨wanted_none rfl, ?_⟩
              have e11 : ac.eval (.tmp 11) = (.int .i64 h) := (hk ⟨2, .data⟩ (by simp) rfl).is rfl rfl
              have ef : ac.eval (.func 52) = .func (.func 52) #[] #[] := rfl
              refine step_enter (f := 52) (args := #[.int .i64 h]) ?_ ?_
              · generalize ac.eval = ρ at e11 ef ⊢
                go_simp
              · exact (HCT.out w).mono fun e w' ⟨he, hq⟩ => ⟨_, he, rfl, hq ▸ Below.refl _ _⟩
            · refine StepOKl.of ?_
              intro ac w hb hu hk
              refine ⟨wanted_none rfl, ?_⟩
              have e10 : ac.eval (.tmp 10) = (.int .i64 lf) := (hk ⟨1, .data⟩ (by simp) rfl).is rfl rfl
              have e12 : ac.eval (.tmp 12) = (.int .i64 (N : Int)) := (hk ⟨3, .data⟩ (by simp) rfl).is rfl rfl
              have ef : ac.eval (.func 51) = .func (.func 51) #[] #[] := rfl
              refine step_enter (f := 51) (args := #[.int .i64 lf, .int .i64 (N : Int)]) ?_ ?_
              · generalize ac.eval = ρ at e10 e12 ef ⊢
                go_simp
              · exact (HL1.out w).mono fun e w' ⟨he, hq⟩ => ⟨_, he, rfl, hq ▸ Below.refl _ _⟩
            · refine StepOKl.of ?_
              intro ac w hb hu hk
              refine ⟨wanted_none rfl, ?_⟩
              have e13 : ac.eval (.tmp 13) = (.bool true) := (hk ⟨4, .data⟩ (by simp) rfl).is rfl rfl
              exact step_value (run_not e13 rfl w) (Below.refl _ _) rfl
            · refine StepOKl.of ?_
              intro ac w hb hu hk
              refine ⟨wanted_none rfl, ?_⟩
              have e14 : ac.eval (.tmp 14) = (.bool false) := (hk ⟨5, .data⟩ (by simp) rfl).is rfl rfl
              exact step_value (BigFrame.run_move (.tmp 14) rfl w) (Below.refl _ _) e14
            · refine StepOKl.of ?_
              intro ac w hb hu hk
              refine ⟨wanted_some rfl (hk ⟨6, .guard⟩ (by simp) rfl) rfl rfl (fun _ h => h), ?_⟩
              have e7 : ac.eval (.tmp 7) = .pointer (some ⟨g7, 0, none⟩) := hu.is (t := 7) (by kernel_rfl)
              refine step_value (w' := w) (v := (.pointer (some ⟨g7, 4, none⟩))) ?_ (Below.refl _ _) rfl
              generalize ac.eval = ρ at e7 ⊢
              go_simp
            · refine StepOKl.of ?_
              intro ac w hb hu hk
              refine ⟨wanted_some rfl (hk ⟨6, .guard⟩ (by simp) rfl) rfl rfl (fun _ h => h), ?_⟩
              have e16 : ac.eval (.tmp 16) = (.pointer (some ⟨g7, 4, none⟩)) := (hk ⟨7, .data⟩ (by simp) rfl).is rfl rfl
              have hc := HC4.out w hb
              refine step_value (w' := w) (v := .int .i64 ch) ?_ (Below.refl _ _) rfl
              generalize ac.eval = ρ at e16 ⊢
              go_simp
            · refine StepOKl.of ?_
              intro ac w hb hu hk
              refine ⟨wanted_some rfl (hk ⟨6, .chain⟩ (by simp) rfl) rfl rfl (fun _ h => h), ?_⟩
              have e17 : ac.eval (.tmp 17) = (.int .i64 ch) := (hk ⟨8, .data⟩ (by simp) rfl).is rfl rfl
              have ec0 : ac.eval (.const (Value.int IntKind.i64 67)) = Value.int IntKind.i64 67 := rfl
              have ef : ac.eval (.func 51) = .func (.func 51) #[] #[] := rfl
              refine step_enter (f := 51) (args := #[.int .i64 ch, .int .i64 67]) ?_ ?_
              · generalize ac.eval = ρ at e17 ec0 ef ⊢
                go_simp
              · exact (HL2.out w).mono fun e w' ⟨he, hq⟩ => ⟨_, he, rfl, hq ▸ Below.refl _ _⟩
            · refine StepOKl.of ?_
              intro ac w hb hu hk
              refine ⟨wanted_some rfl (hk ⟨6, .guard⟩ (by simp) rfl) rfl rfl (fun _ h => h), ?_⟩
              have e18 : ac.eval (.tmp 18) = (.bool true) := (hk ⟨9, .data⟩ (by simp) rfl).is rfl rfl
              exact step_value (run_not e18 rfl w) (Below.refl _ _) rfl
            · refine StepOKl.of ?_
              intro ac w hb hu hk
              refine ⟨wanted_none rfl, ?_⟩
              have e15 : ac.eval (.tmp 15) = (.bool false) := (hk ⟨6, .data⟩ (by simp) rfl).is rfl rfl
              have e19 : ac.eval (.tmp 19) = (.bool false) := (hk ⟨10, .data⟩ (by simp) rfl).is rfl rfl
              exact step_value (run_pick_false e15 rfl w) (Below.refl _ _) e19
            · refine StepOKl.of ?_
              intro ac w hb hu hk
              refine ⟨wanted_none rfl, ?_⟩
              have e20 : ac.eval (.tmp 20) = (.bool false) := (hk ⟨11, .data⟩ (by simp) rfl).is rfl rfl
              exact step_value (BigFrame.run_move (.tmp 20) rfl w) (Below.refl _ _) e20
            · refine StepOKl.of ?_
              intro ac w hb hu hk
              refine ⟨wanted_some rfl (hk ⟨12, .guard⟩ (by simp) rfl) rfl rfl (fun _ h => h), ?_⟩
              have e7 : ac.eval (.tmp 7) = .pointer (some ⟨g7, 0, none⟩) := hu.is (t := 7) (by kernel_rfl)
              refine step_value (w' := w) (v := (.pointer (some ⟨g7, 5, none⟩))) ?_ (Below.refl _ _) rfl
              generalize ac.eval = ρ at e7 ⊢
              go_simp
            · refine StepOKl.of ?_
              intro ac w hb hu hk
              refine ⟨wanted_some rfl (hk ⟨12, .guard⟩ (by simp) rfl) rfl rfl (fun _ h => h), ?_⟩
              have e22 : ac.eval (.tmp 22) = (.pointer (some ⟨g7, 5, none⟩)) := (hk ⟨13, .data⟩ (by simp) rfl).is rfl rfl
              have hc := HC5.out w hb
              refine step_value (w' := w) (v := .int .i64 pl) ?_ (Below.refl _ _) rfl
              generalize ac.eval = ρ at e22 ⊢
              go_simp
            · refine StepOKl.of ?_
              intro ac w hb hu hk
              refine ⟨wanted_some rfl (hk ⟨12, .chain⟩ (by simp) rfl) rfl rfl (fun _ h => h), ?_⟩
              have e23 : ac.eval (.tmp 23) = (.int .i64 pl) := (hk ⟨14, .data⟩ (by simp) rfl).is rfl rfl
              have ec0 : ac.eval (.const (Value.int IntKind.i64 16)) = Value.int IntKind.i64 16 := rfl
              have ef : ac.eval (.func 51) = .func (.func 51) #[] #[] := rfl
              refine step_enter (f := 51) (args := #[.int .i64 pl, .int .i64 16]) ?_ ?_
              · generalize ac.eval = ρ at e23 ec0 ef ⊢
                go_simp
              · exact (HL3.out w).mono fun e w' ⟨he, hq⟩ => ⟨_, he, rfl, hq ▸ Below.refl _ _⟩
            · refine StepOKl.of ?_
              intro ac w hb hu hk
              refine ⟨wanted_some rfl (hk ⟨12, .guard⟩ (by simp) rfl) rfl rfl (fun _ h => h), ?_⟩
              have e24 : ac.eval (.tmp 24) = (.bool true) := (hk ⟨15, .data⟩ (by simp) rfl).is rfl rfl
              exact step_value (run_not e24 rfl w) (Below.refl _ _) rfl
            · refine StepOKl.of ?_
              intro ac w hb hu hk
              refine ⟨wanted_none rfl, ?_⟩
              have e21 : ac.eval (.tmp 21) = (.bool false) := (hk ⟨12, .data⟩ (by simp) rfl).is rfl rfl
              have e25 : ac.eval (.tmp 25) = (.bool false) := (hk ⟨16, .data⟩ (by simp) rfl).is rfl rfl
              exact step_value (run_pick_false e21 rfl w) (Below.refl _ _) e25
            · intro ac w' hb hu hk hap
              obtain ⟨_, h9, rfl⟩ := (hk 0 (by decide)).put rfl rfl
              obtain ⟨_, h10, rfl⟩ := (hk 1 (by decide)).put rfl rfl
              obtain ⟨_, h11, rfl⟩ := (hk 2 (by decide)).put rfl rfl
              obtain ⟨_, h12, rfl⟩ := (hk 3 (by decide)).put rfl rfl
              obtain ⟨_, h13, rfl⟩ := (hk 4 (by decide)).put rfl rfl
              obtain ⟨_, h14, rfl⟩ := (hk 5 (by decide)).put rfl rfl
              obtain ⟨_, h15, rfl⟩ := (hk 6 (by decide)).put rfl rfl
              obtain ⟨_, h16, rfl⟩ := (hk 7 (by decide)).put rfl rfl
              obtain ⟨_, h17, rfl⟩ := (hk 8 (by decide)).put rfl rfl
              obtain ⟨_, h18, rfl⟩ := (hk 9 (by decide)).put rfl rfl
              obtain ⟨_, h19, rfl⟩ := (hk 10 (by decide)).put rfl rfl
              obtain ⟨_, h20, rfl⟩ := (hk 11 (by decide)).put rfl rfl
              obtain ⟨_, h21, rfl⟩ := (hk 12 (by decide)).put rfl rfl
              obtain ⟨_, h22, rfl⟩ := (hk 13 (by decide)).put rfl rfl
              obtain ⟨_, h23, rfl⟩ := (hk 14 (by decide)).put rfl rfl
              obtain ⟨_, h24, rfl⟩ := (hk 15 (by decide)).put rfl rfl
              obtain ⟨_, h25, rfl⟩ := (hk 16 (by decide)).put rfl rfl
              obtain ⟨_, h26, rfl⟩ := (hk 17 (by decide)).put rfl rfl
              clear hap
              have hF : AllPuts ac.tmps ((9, _) :: (10, _) :: (11, _) :: (12, _) :: (13, _) :: (14, _) :: (15, _) :: (16, _) :: (17, _) :: (18, _) :: (19, _) :: (20, _) :: (21, _) :: (22, _) :: (23, _) :: (24, _) :: (25, _) :: (26, _) :: []) := ⟨h9, h10, h11, h12, h13, h14, h15, h16, h17, h18, h19, h20, h21, h22, h23, h24, h25, h26, trivial⟩
              obtain rfl := frame_puts hu (by kernel_rfl) hF
              simp only [puts, Act.put, List.setIfInBounds_toArray, List.set_cons_zero, List.set_cons_succ, List.drop_succ_cons, List.drop_nil]
              clear hk hu hF h9 h10 h11 h12 h13 h14 h15 h16 h17 h18 h19 h20 h21 h22 h23 h24 h25 h26
              have HK := Lib.hid (fun W (hW : Below w'.heap.size w' W) => HC0.out W (hb.trans (hW.mono hb.size)))
              replace HC0 := HK
              clear HK
              have HK := Lib.hid (fun W (hW : Below w'.heap.size w' W) => HC1.out W (hb.trans (hW.mono hb.size)))
              replace HC1 := HK
              clear HK
              have HK := Lib.hid (fun W (hW : Below w'.heap.size w' W) => HC2.out W (hb.trans (hW.mono hb.size)))
              replace HC2 := HK
              clear HK
              have HK := Lib.hid (fun W (hW : Below w'.heap.size w' W) => HC3.out W (hb.trans (hW.mono hb.size)))
              replace HC3 := HK
              clear HK
              have HK := Lib.hid (fun W (hW : Below w'.heap.size w' W) => HC4.out W (hb.trans (hW.mono hb.size)))
              replace HC4 := HK
              clear HK
              have HK := Lib.hid (fun W (hW : Below w'.heap.size w' W) => HC5.out W (hb.trans (hW.mono hb.size)))
              replace HC5 := HK
              clear HK
              have HK := Lib.hid (fun W (hW : Below w'.heap.size w' W) => HBX.out W (hb.trans (hW.mono hb.size)))
              replace HBX := HK
              clear HK
              have HK := Lib.hid (fun W (hW : Below w'.heap.size w' W) => HBF.out W (hb.trans (hW.mono hb.size)))
              replace HBF := HK
              clear HK
              have HBQ := Lib.hid hb
              have HBZ := Lib.hid (HBW.out.trans (hb.mono HBW.out.size))
              clear hb
              go_wp2_with fail
              refine wp_region_skip 17 1 (fun i => false) (promises [.is (.pointer (some ⟨g7, 0, none⟩)), .is (.agg #[.slice A n c, .slice B m d]), .is (.bool true), .is (.bool true), .is (undef), .is (undef), .is (undef), .is (undef), .is (undef), .is (undef), .is (undef), .is (undef), .is (undef), .is (undef), .is (undef), .is (undef), .is (.bool true)]) (by kernel_rfl) rfl (by kernel_rfl) (fun i v w w' h hb => Spec.keep h hb) ⟨?_, ?_, ?_, ?_, ?_, ?_, ?_, ?_, ?_, ?_, ?_, ?_, ?_, ?_, ?_, ?_, ?_, trivial⟩ ?_
              · refine StepOKs.of ?_
                intro ac w hb hu hk
                refine ⟨wanted_none rfl, ?_⟩
                have e7 : ac.eval (.tmp 7) = .pointer (some ⟨g7, 0, none⟩) := hu.is (t := 7) (by kernel_rfl)
                refine step_value (w' := w) (v := (.pointer (some ⟨g7, 0, none⟩))) ?_ (Below.refl _ _) rfl
                generalize ac.eval = ρ at e7 ⊢
                go_simp
              · refine StepOKs.of ?_
                intro ac w hb hu hk
                refine ⟨wanted_none rfl, ?_⟩
                have e27 : ac.eval (.tmp 27) = (.pointer (some ⟨g7, 0, none⟩)) := (hk ⟨0, .data⟩ (by simp) rfl).is rfl rfl
                have hc0 := HC0.out w hb
                have hc1 := HC1.out w hb
                refine step_value (w' := w) (v := .agg #[.slice A n c, .slice B m d]) ?_ (Below.refl _ _) rfl
                generalize ac.eval = ρ at e27 ⊢
                go_simp
              · refine StepOKs.of ?_
                intro ac w hb hu hk
                refine ⟨wanted_none rfl, ?_⟩
                have e28 : ac.eval (.tmp 28) = (.agg #[.slice A n c, .slice B m d]) := (hk ⟨1, .data⟩ (by simp) rfl).is rfl rfl
                have ef : ac.eval (.func 38) = .func (.func 38) #[] #[] := rfl
                refine step_enter (f := 38) (args := #[.agg #[.slice A n c, .slice B m d]]) ?_ ?_
                · generalize ac.eval = ρ at e28 ef ⊢
                  go_simp
                · exact (HSM.out w (HBZ.out.trans (hb.mono HBZ.out.size))).mono fun e w' ⟨he, hq⟩ => ⟨_, he, rfl, hq⟩
              · refine StepOKs.of ?_
                intro ac w hb hu hk
                refine ⟨wanted_none rfl, ?_⟩
                have e29 : ac.eval (.tmp 29) = (.bool true) := (hk ⟨2, .data⟩ (by simp) rfl).is rfl rfl
                exact step_value (BigFrame.run_move (.tmp 29) rfl w) (Below.refl _ _) e29
              · refine StepOKs.skip ?_
                intro ac w hb hu hk
                exact ⟨unwanted_bool rfl (hk ⟨3, .guard⟩ (by simp) rfl) rfl rfl (fun _ h => h) (by decide), rfl⟩
              · refine StepOKs.skip ?_
                intro ac w hb hu hk
                exact ⟨unwanted_bool rfl (hk ⟨3, .guard⟩ (by simp) rfl) rfl rfl (fun _ h => h) (by decide), rfl⟩
              · refine StepOKs.skip ?_
                intro ac w hb hu hk
                exact ⟨unwanted_bool rfl (hk ⟨3, .chain⟩ (by simp) rfl) rfl rfl (fun _ h => h) (by decide), rfl⟩
              · refine StepOKs.skip ?_
                intro ac w hb hu hk
                exact ⟨unwanted_undef rfl (hk ⟨6, .guard⟩ (by simp) rfl) rfl rfl (fun _ h => h), rfl⟩
              · refine StepOKs.skip ?_
                intro ac w hb hu hk
                exact ⟨unwanted_undef rfl (hk ⟨6, .guard⟩ (by simp) rfl) rfl rfl (fun _ h => h), rfl⟩
              · refine StepOKs.skip ?_
                intro ac w hb hu hk
                exact ⟨unwanted_undef rfl (hk ⟨6, .guard⟩ (by simp) rfl) rfl rfl (fun _ h => h), rfl⟩
              · refine StepOKs.skip ?_
                intro ac w hb hu hk
                exact ⟨unwanted_undef rfl (hk ⟨6, .guard⟩ (by simp) rfl) rfl rfl (fun _ h => h), rfl⟩
              · refine StepOKs.skip ?_
                intro ac w hb hu hk
                exact ⟨unwanted_undef rfl (hk ⟨6, .guard⟩ (by simp) rfl) rfl rfl (fun _ h => h), rfl⟩
              · refine StepOKs.skip ?_
                intro ac w hb hu hk
                exact ⟨unwanted_undef rfl (hk ⟨6, .chain⟩ (by simp) rfl) rfl rfl (fun _ h => h), rfl⟩
              · refine StepOKs.skip ?_
                intro ac w hb hu hk
                exact ⟨unwanted_undef rfl (hk ⟨6, .guard⟩ (by simp) rfl) rfl rfl (fun _ h => h), rfl⟩
              · refine StepOKs.skip ?_
                intro ac w hb hu hk
                exact ⟨unwanted_undef rfl (hk ⟨6, .guard⟩ (by simp) rfl) rfl rfl (fun _ h => h), rfl⟩
              · refine StepOKs.skip ?_
                intro ac w hb hu hk
                exact ⟨unwanted_bool rfl (hk ⟨3, .guard⟩ (by simp) rfl) rfl rfl (fun _ h => h) (by decide), rfl⟩
              · refine StepOKs.of ?_
                intro ac w hb hu hk
                refine ⟨wanted_none rfl, ?_⟩
                have e30 : ac.eval (.tmp 30) = (.bool true) := (hk ⟨3, .data⟩ (by simp) rfl).is rfl rfl
                have e42 : ac.eval (.tmp 42) = (undef) := (hk ⟨15, .data⟩ (by simp) rfl).is rfl rfl
                refine step_value (w' := w) (v := .bool true) ?_ (Below.refl _ _) rfl
                exact run_pick_true (a := .const (.bool true)) e30 rfl w
              · intro ac w' hb hu hk hap
                obtain ⟨_, h27, rfl⟩ := (hk 0 (by decide)).put rfl rfl
                obtain ⟨_, h28, rfl⟩ := (hk 1 (by decide)).put rfl rfl
                obtain ⟨_, h29, rfl⟩ := (hk 2 (by decide)).put rfl rfl
                obtain ⟨_, h30, rfl⟩ := (hk 3 (by decide)).put rfl rfl
                obtain ⟨_, h31, rfl⟩ := (hk 4 (by decide)).put rfl rfl
                obtain ⟨_, h32, rfl⟩ := (hk 5 (by decide)).put rfl rfl
                obtain ⟨_, h33, rfl⟩ := (hk 6 (by decide)).put rfl rfl
                obtain ⟨_, h34, rfl⟩ := (hk 7 (by decide)).put rfl rfl
                obtain ⟨_, h35, rfl⟩ := (hk 8 (by decide)).put rfl rfl
                obtain ⟨_, h36, rfl⟩ := (hk 9 (by decide)).put rfl rfl
                obtain ⟨_, h37, rfl⟩ := (hk 10 (by decide)).put rfl rfl
                obtain ⟨_, h38, rfl⟩ := (hk 11 (by decide)).put rfl rfl
                obtain ⟨_, h39, rfl⟩ := (hk 12 (by decide)).put rfl rfl
                obtain ⟨_, h40, rfl⟩ := (hk 13 (by decide)).put rfl rfl
                obtain ⟨_, h41, rfl⟩ := (hk 14 (by decide)).put rfl rfl
                obtain ⟨_, h42, rfl⟩ := (hk 15 (by decide)).put rfl rfl
                obtain ⟨_, h43, rfl⟩ := (hk 16 (by decide)).put rfl rfl
                clear hap
                have hF : AllPuts ac.tmps ((27, _) :: (28, _) :: (29, _) :: (30, _) :: (31, _) :: (32, _) :: (33, _) :: (34, _) :: (35, _) :: (36, _) :: (37, _) :: (38, _) :: (39, _) :: (40, _) :: (41, _) :: (42, _) :: (43, _) :: []) := ⟨h27, h28, h29, h30, h31, h32, h33, h34, h35, h36, h37, h38, h39, h40, h41, h42, h43, trivial⟩
                obtain rfl := frame_puts hu (by kernel_rfl) hF
                simp only [puts, Act.put, List.setIfInBounds_toArray, List.set_cons_zero, List.set_cons_succ, List.drop_succ_cons, List.drop_zero]
                clear hk hu hF h27 h28 h29 h30 h31 h32 h33 h34 h35 h36 h37 h38 h39 h40 h41 h42 h43
                have HBE := Lib.hid (HBW.out.trans ((HBQ.out.trans (hb.mono HBQ.out.size)).mono HBW.out.size))
                clear hb
                go_wp2_with fail
                go_ret
                exact ⟨rfl, HBE.out⟩
      · have HD := Lib.hid (show decide (holdsX sd h rows lk lf ch pl vv a b) = false from decide_eq_false (fun hx => hb3 (HRX.out.1 hx).2.2.1))
        rw [HD.out]
        rw [decide_eq_true hb1] at HL1
        rw [decide_eq_true hb2] at HL2
        rw [decide_eq_false hb3] at HL3
        clear HRX HRR HRA HRB HD hX hrr hra hrb htab hF hb1 hb2 hb3
        generalize cntN h = N at *
        go_enter Tryd.func19, Tryd.ntmps19
        go_upto_region 1 with fail
        generalize hw1 : World.alloc _ _ = w3
        obtain ⟨g4, hg4⟩ : ∃ g, w.heap.size = g := ⟨_, rfl⟩
        obtain ⟨g7, hg7⟩ : ∃ g, w.heap.size + 1 = g := ⟨_, rfl⟩
        have hf : Blk w3 g4 X 23 ∧ Blk w3 g7 FA 43 ∧ Below w.heap.size w w3 := by
          have hw : w3 = ((w.alloc (.cells X 23)).alloc (.cells FA 43)) := hw1.symm
          have e1 : (w.alloc (.cells X 23)).heap.size = w.heap.size + 1 := by simp
          rw [hw, ← hg4, ← hg7]
          exact ⟨by exact (Blk.new _ _ _).alloc _, by rw [← e1]; exact Blk.new _ _ _, (((Below.refl _ _).alloc (Nat.le_refl _) _).alloc (by simp) _)⟩
        have HB4 := Lib.hid hf.1
        have HB7 := Lib.hid hf.2.1
        have HBW := Lib.hid hf.2.2
        have HG4 := Lib.hid (show w.heap.size ≤ g4 by omega)
        have HG7 := Lib.hid (show w.heap.size ≤ g7 by omega)
        clear hf hw1
        rw [hg7, hg4]
        clear hg4 hg7
        have HC2 := Lib.hid (fun W (hW : Below w3.heap.size w3 W) => (show W.cell? ⟨g7, 2, none⟩ = some (.bool lk) by rw [(HB7.out.below hW HB7.out.lt).cell 2]; exact HF.out.2.2.2.1))
        have HC3 := Lib.hid (fun W (hW : Below w3.heap.size w3 W) => (show W.cell? ⟨g7, 3, none⟩ = some (.int .i64 lf) by rw [(HB7.out.below hW HB7.out.lt).cell 3]; exact HF.out.2.2.2.2.1))
        have HC4 := Lib.hid (fun W (hW : Below w3.heap.size w3 W) => (show W.cell? ⟨g7, 4, none⟩ = some (.int .i64 ch) by rw [(HB7.out.below hW HB7.out.lt).cell 4]; exact HF.out.2.2.2.2.2.1))
        have HC5 := Lib.hid (fun W (hW : Below w3.heap.size w3 W) => (show W.cell? ⟨g7, 5, none⟩ = some (.int .i64 pl) by rw [(HB7.out.below hW HB7.out.lt).cell 5]; exact HF.out.2.2.2.2.2.2.1))
        have HBX := Lib.hid (fun W (hW : Below w3.heap.size w3 W) => HB4.out.below hW HB4.out.lt)
        have HBF := Lib.hid (fun W (hW : Below w3.heap.size w3 W) => HB7.out.below hW HB7.out.lt)
        refine wp_region_loose 18 0 (fun i => false) (promises [.is (.pointer (some ⟨g7, 3, none⟩)), .is (.int .i64 lf), .is (.int .i64 h), .is (.int .i64 (N : Int)), .is (.bool true), .is (.bool false), .is (.bool false), .is (.pointer (some ⟨g7, 4, none⟩)), .is (.int .i64 ch), .is (.bool true), .is (.bool false), .is (.bool false), .is (.bool false), .is (.pointer (some ⟨g7, 5, none⟩)), .is (.int .i64 pl), .is (.bool false), .is (.bool true), .is (.bool true)]) (by kernel_rfl) rfl (by kernel_rfl) (fun i v w w' h hb => Spec.keep h hb) ⟨?_, ?_, ?_, ?_, ?_, ?_, ?_, ?_, ?_, ?_, ?_, ?_, ?_, ?_, ?_, ?_, ?_, ?_, trivial⟩ ?_
        · refine StepOKl.of ?_
          intro ac w hb hu hk
          refine ⟨wanted_none rfl, ?_⟩
          have e7 : ac.eval (.tmp 7) = .pointer (some ⟨g7, 0, none⟩) := hu.is (t := 7) (by kernel_rfl)
          refine step_value (w' := w) (v := (.pointer (some ⟨g7, 3, none⟩))) ?_ (Below.refl _ _) rfl
          generalize ac.eval = ρ at e7 ⊢
          go_simp
        · refine StepOKl.of ?_
          intro ac w hb hu hk
          refine ⟨wanted_none rfl, ?_⟩
          have e9 : ac.eval (.tmp 9) = (.pointer (some ⟨g7, 3, none⟩)) := (hk ⟨0, .data⟩ (by simp) rfl).is rfl rfl
          have hc := HC3.out w hb
          refine step_value (w' := w) (v := .int .i64 lf) ?_ (Below.refl _ _) rfl
          generalize ac.eval = ρ at e9 ⊢
          go_simp
        · refine StepOKl.of ?_
          intro ac w hb hu hk
          refine ⟨wanted_none rfl, ?_⟩
          have e1 : ac.eval (.tmp 1) = .int .i64 h := hu.is (t := 1) (by kernel_rfl)
          exact step_value (BigFrame.run_move (.tmp 1) rfl w) (Below.refl _ _) e1
        · refine StepOKl.of ?_
          intro ac w hb hu hk
          refine ⟨wanted_none rfl, ?_⟩
          have e11 : ac.eval (.tmp 11) = (.int .i64 h) := (hk ⟨2, .data⟩ (by simp) rfl).is rfl rfl
          have ef : ac.eval (.func 52) = .func (.func 52) #[] #[] := rfl
          refine step_enter (f := 52) (args := #[.int .i64 h]) ?_ ?_
          · generalize ac.eval = ρ at e11 ef ⊢
            go_simp
          · exact (HCT.out w).mono fun e w' ⟨he, hq⟩ => ⟨_, he, rfl, hq ▸ Below.refl _ _⟩
        · refine StepOKl.of ?_
          intro ac w hb hu hk
          refine ⟨wanted_none rfl, ?_⟩
          have e10 : ac.eval (.tmp 10) = (.int .i64 lf) := (hk ⟨1, .data⟩ (by simp) rfl).is rfl rfl
          have e12 : ac.eval (.tmp 12) = (.int .i64 (N : Int)) := (hk ⟨3, .data⟩ (by simp) rfl).is rfl rfl
          have ef : ac.eval (.func 51) = .func (.func 51) #[] #[] := rfl
          refine step_enter (f := 51) (args := #[.int .i64 lf, .int .i64 (N : Int)]) ?_ ?_
          · generalize ac.eval = ρ at e10 e12 ef ⊢
            go_simp
          · exact (HL1.out w).mono fun e w' ⟨he, hq⟩ => ⟨_, he, rfl, hq ▸ Below.refl _ _⟩
        · refine StepOKl.of ?_
          intro ac w hb hu hk
          refine ⟨wanted_none rfl, ?_⟩
          have e13 : ac.eval (.tmp 13) = (.bool true) := (hk ⟨4, .data⟩ (by simp) rfl).is rfl rfl
          exact step_value (run_not e13 rfl w) (Below.refl _ _) rfl
        · refine StepOKl.of ?_
          intro ac w hb hu hk
          refine ⟨wanted_none rfl, ?_⟩
          have e14 : ac.eval (.tmp 14) = (.bool false) := (hk ⟨5, .data⟩ (by simp) rfl).is rfl rfl
          exact step_value (BigFrame.run_move (.tmp 14) rfl w) (Below.refl _ _) e14
        · refine StepOKl.of ?_
          intro ac w hb hu hk
          refine ⟨wanted_some rfl (hk ⟨6, .guard⟩ (by simp) rfl) rfl rfl (fun _ h => h), ?_⟩
          have e7 : ac.eval (.tmp 7) = .pointer (some ⟨g7, 0, none⟩) := hu.is (t := 7) (by kernel_rfl)
          refine step_value (w' := w) (v := (.pointer (some ⟨g7, 4, none⟩))) ?_ (Below.refl _ _) rfl
          generalize ac.eval = ρ at e7 ⊢
          go_simp
        · refine StepOKl.of ?_
          intro ac w hb hu hk
          refine ⟨wanted_some rfl (hk ⟨6, .guard⟩ (by simp) rfl) rfl rfl (fun _ h => h), ?_⟩
          have e16 : ac.eval (.tmp 16) = (.pointer (some ⟨g7, 4, none⟩)) := (hk ⟨7, .data⟩ (by simp) rfl).is rfl rfl
          have hc := HC4.out w hb
          refine step_value (w' := w) (v := .int .i64 ch) ?_ (Below.refl _ _) rfl
          generalize ac.eval = ρ at e16 ⊢
          go_simp
        · refine StepOKl.of ?_
          intro ac w hb hu hk
          refine ⟨wanted_some rfl (hk ⟨6, .chain⟩ (by simp) rfl) rfl rfl (fun _ h => h), ?_⟩
          have e17 : ac.eval (.tmp 17) = (.int .i64 ch) := (hk ⟨8, .data⟩ (by simp) rfl).is rfl rfl
          have ec0 : ac.eval (.const (Value.int IntKind.i64 67)) = Value.int IntKind.i64 67 := rfl
          have ef : ac.eval (.func 51) = .func (.func 51) #[] #[] := rfl
          refine step_enter (f := 51) (args := #[.int .i64 ch, .int .i64 67]) ?_ ?_
          · generalize ac.eval = ρ at e17 ec0 ef ⊢
            go_simp
          · exact (HL2.out w).mono fun e w' ⟨he, hq⟩ => ⟨_, he, rfl, hq ▸ Below.refl _ _⟩
        · refine StepOKl.of ?_
          intro ac w hb hu hk
          refine ⟨wanted_some rfl (hk ⟨6, .guard⟩ (by simp) rfl) rfl rfl (fun _ h => h), ?_⟩
          have e18 : ac.eval (.tmp 18) = (.bool true) := (hk ⟨9, .data⟩ (by simp) rfl).is rfl rfl
          exact step_value (run_not e18 rfl w) (Below.refl _ _) rfl
        · refine StepOKl.of ?_
          intro ac w hb hu hk
          refine ⟨wanted_none rfl, ?_⟩
          have e15 : ac.eval (.tmp 15) = (.bool false) := (hk ⟨6, .data⟩ (by simp) rfl).is rfl rfl
          have e19 : ac.eval (.tmp 19) = (.bool false) := (hk ⟨10, .data⟩ (by simp) rfl).is rfl rfl
          exact step_value (run_pick_false e15 rfl w) (Below.refl _ _) e19
        · refine StepOKl.of ?_
          intro ac w hb hu hk
          refine ⟨wanted_none rfl, ?_⟩
          have e20 : ac.eval (.tmp 20) = (.bool false) := (hk ⟨11, .data⟩ (by simp) rfl).is rfl rfl
          exact step_value (BigFrame.run_move (.tmp 20) rfl w) (Below.refl _ _) e20
        · refine StepOKl.of ?_
          intro ac w hb hu hk
          refine ⟨wanted_some rfl (hk ⟨12, .guard⟩ (by simp) rfl) rfl rfl (fun _ h => h), ?_⟩
          have e7 : ac.eval (.tmp 7) = .pointer (some ⟨g7, 0, none⟩) := hu.is (t := 7) (by kernel_rfl)
          refine step_value (w' := w) (v := (.pointer (some ⟨g7, 5, none⟩))) ?_ (Below.refl _ _) rfl
          generalize ac.eval = ρ at e7 ⊢
          go_simp
        · refine StepOKl.of ?_
          intro ac w hb hu hk
          refine ⟨wanted_some rfl (hk ⟨12, .guard⟩ (by simp) rfl) rfl rfl (fun _ h => h), ?_⟩
          have e22 : ac.eval (.tmp 22) = (.pointer (some ⟨g7, 5, none⟩)) := (hk ⟨13, .data⟩ (by simp) rfl).is rfl rfl
          have hc := HC5.out w hb
          refine step_value (w' := w) (v := .int .i64 pl) ?_ (Below.refl _ _) rfl
          generalize ac.eval = ρ at e22 ⊢
          go_simp
        · refine StepOKl.of ?_
          intro ac w hb hu hk
          refine ⟨wanted_some rfl (hk ⟨12, .chain⟩ (by simp) rfl) rfl rfl (fun _ h => h), ?_⟩
          have e23 : ac.eval (.tmp 23) = (.int .i64 pl) := (hk ⟨14, .data⟩ (by simp) rfl).is rfl rfl
          have ec0 : ac.eval (.const (Value.int IntKind.i64 16)) = Value.int IntKind.i64 16 := rfl
          have ef : ac.eval (.func 51) = .func (.func 51) #[] #[] := rfl
          refine step_enter (f := 51) (args := #[.int .i64 pl, .int .i64 16]) ?_ ?_
          · generalize ac.eval = ρ at e23 ec0 ef ⊢
            go_simp
          · exact (HL3.out w).mono fun e w' ⟨he, hq⟩ => ⟨_, he, rfl, hq ▸ Below.refl _ _⟩
        · refine StepOKl.of ?_
          intro ac w hb hu hk
          refine ⟨wanted_some rfl (hk ⟨12, .guard⟩ (by simp) rfl) rfl rfl (fun _ h => h), ?_⟩
          have e24 : ac.eval (.tmp 24) = (.bool false) := (hk ⟨15, .data⟩ (by simp) rfl).is rfl rfl
          exact step_value (run_not e24 rfl w) (Below.refl _ _) rfl
        · refine StepOKl.of ?_
          intro ac w hb hu hk
          refine ⟨wanted_none rfl, ?_⟩
          have e21 : ac.eval (.tmp 21) = (.bool false) := (hk ⟨12, .data⟩ (by simp) rfl).is rfl rfl
          have e25 : ac.eval (.tmp 25) = (.bool true) := (hk ⟨16, .data⟩ (by simp) rfl).is rfl rfl
          exact step_value (run_pick_false e21 rfl w) (Below.refl _ _) e25
        · intro ac w' hb hu hk hap
          obtain ⟨_, h9, rfl⟩ := (hk 0 (by decide)).put rfl rfl
          obtain ⟨_, h10, rfl⟩ := (hk 1 (by decide)).put rfl rfl
          obtain ⟨_, h11, rfl⟩ := (hk 2 (by decide)).put rfl rfl
          obtain ⟨_, h12, rfl⟩ := (hk 3 (by decide)).put rfl rfl
          obtain ⟨_, h13, rfl⟩ := (hk 4 (by decide)).put rfl rfl
          obtain ⟨_, h14, rfl⟩ := (hk 5 (by decide)).put rfl rfl
          obtain ⟨_, h15, rfl⟩ := (hk 6 (by decide)).put rfl rfl
          obtain ⟨_, h16, rfl⟩ := (hk 7 (by decide)).put rfl rfl
          obtain ⟨_, h17, rfl⟩ := (hk 8 (by decide)).put rfl rfl
          obtain ⟨_, h18, rfl⟩ := (hk 9 (by decide)).put rfl rfl
          obtain ⟨_, h19, rfl⟩ := (hk 10 (by decide)).put rfl rfl
          obtain ⟨_, h20, rfl⟩ := (hk 11 (by decide)).put rfl rfl
          obtain ⟨_, h21, rfl⟩ := (hk 12 (by decide)).put rfl rfl
          obtain ⟨_, h22, rfl⟩ := (hk 13 (by decide)).put rfl rfl
          obtain ⟨_, h23, rfl⟩ := (hk 14 (by decide)).put rfl rfl
          obtain ⟨_, h24, rfl⟩ := (hk 15 (by decide)).put rfl rfl
          obtain ⟨_, h25, rfl⟩ := (hk 16 (by decide)).put rfl rfl
          obtain ⟨_, h26, rfl⟩ := (hk 17 (by decide)).put rfl rfl
          clear hap
          have hF : AllPuts ac.tmps ((9, _) :: (10, _) :: (11, _) :: (12, _) :: (13, _) :: (14, _) :: (15, _) :: (16, _) :: (17, _) :: (18, _) :: (19, _) :: (20, _) :: (21, _) :: (22, _) :: (23, _) :: (24, _) :: (25, _) :: (26, _) :: []) := ⟨h9, h10, h11, h12, h13, h14, h15, h16, h17, h18, h19, h20, h21, h22, h23, h24, h25, h26, trivial⟩
          obtain rfl := frame_puts hu (by kernel_rfl) hF
          simp only [puts, Act.put, List.setIfInBounds_toArray, List.set_cons_zero, List.set_cons_succ, List.drop_succ_cons, List.drop_nil]
          clear hk hu hF h9 h10 h11 h12 h13 h14 h15 h16 h17 h18 h19 h20 h21 h22 h23 h24 h25 h26
          have HBE := Lib.hid (HBW.out.trans (hb.mono HBW.out.size))
          clear hb
          go_wp2_with fail
          go_ret
          exact ⟨rfl, HBE.out⟩
    · have HD := Lib.hid (show decide (holdsX sd h rows lk lf ch pl vv a b) = false from decide_eq_false (fun hx => hb2 (HRX.out.1 hx).2.1))
      rw [HD.out]
      rw [decide_eq_true hb1] at HL1
      rw [decide_eq_false hb2] at HL2
      clear HRX HRR HRA HRB HD hX hrr hra hrb htab hF hb1 hb2
      generalize cntN h = N at *
      go_enter Tryd.func19, Tryd.ntmps19
      go_upto_region 1 with fail
      generalize hw1 : World.alloc _ _ = w3
      obtain ⟨g4, hg4⟩ : ∃ g, w.heap.size = g := ⟨_, rfl⟩
      obtain ⟨g7, hg7⟩ : ∃ g, w.heap.size + 1 = g := ⟨_, rfl⟩
      have hf : Blk w3 g4 X 23 ∧ Blk w3 g7 FA 43 ∧ Below w.heap.size w w3 := by
        have hw : w3 = ((w.alloc (.cells X 23)).alloc (.cells FA 43)) := hw1.symm
        have e1 : (w.alloc (.cells X 23)).heap.size = w.heap.size + 1 := by simp
        rw [hw, ← hg4, ← hg7]
        exact ⟨by exact (Blk.new _ _ _).alloc _, by rw [← e1]; exact Blk.new _ _ _, (((Below.refl _ _).alloc (Nat.le_refl _) _).alloc (by simp) _)⟩
      have HB4 := Lib.hid hf.1
      have HB7 := Lib.hid hf.2.1
      have HBW := Lib.hid hf.2.2
      have HG4 := Lib.hid (show w.heap.size ≤ g4 by omega)
      have HG7 := Lib.hid (show w.heap.size ≤ g7 by omega)
      clear hf hw1
      rw [hg7, hg4]
      clear hg4 hg7
      have HC2 := Lib.hid (fun W (hW : Below w3.heap.size w3 W) => (show W.cell? ⟨g7, 2, none⟩ = some (.bool lk) by rw [(HB7.out.below hW HB7.out.lt).cell 2]; exact HF.out.2.2.2.1))
      have HC3 := Lib.hid (fun W (hW : Below w3.heap.size w3 W) => (show W.cell? ⟨g7, 3, none⟩ = some (.int .i64 lf) by rw [(HB7.out.below hW HB7.out.lt).cell 3]; exact HF.out.2.2.2.2.1))
      have HC4 := Lib.hid (fun W (hW : Below w3.heap.size w3 W) => (show W.cell? ⟨g7, 4, none⟩ = some (.int .i64 ch) by rw [(HB7.out.below hW HB7.out.lt).cell 4]; exact HF.out.2.2.2.2.2.1))
      have HC5 := Lib.hid (fun W (hW : Below w3.heap.size w3 W) => (show W.cell? ⟨g7, 5, none⟩ = some (.int .i64 pl) by rw [(HB7.out.below hW HB7.out.lt).cell 5]; exact HF.out.2.2.2.2.2.2.1))
      have HBX := Lib.hid (fun W (hW : Below w3.heap.size w3 W) => HB4.out.below hW HB4.out.lt)
      have HBF := Lib.hid (fun W (hW : Below w3.heap.size w3 W) => HB7.out.below hW HB7.out.lt)
      refine wp_region_skip 18 0 (fun i => false) (promises [.is (.pointer (some ⟨g7, 3, none⟩)), .is (.int .i64 lf), .is (.int .i64 h), .is (.int .i64 (N : Int)), .is (.bool true), .is (.bool false), .is (.bool false), .is (.pointer (some ⟨g7, 4, none⟩)), .is (.int .i64 ch), .is (.bool false), .is (.bool true), .is (.bool true), .is (.bool true), .is (undef), .is (undef), .is (undef), .is (undef), .is (.bool true)]) (by kernel_rfl) rfl (by kernel_rfl) (fun i v w w' h hb => Spec.keep h hb) ⟨?_, ?_, ?_, ?_, ?_, ?_, ?_, ?_, ?_, ?_, ?_, ?_, ?_, ?_, ?_, ?_, ?_, ?_, trivial⟩ ?_
      · refine StepOKs.of ?_
        intro ac w hb hu hk
        refine ⟨wanted_none rfl, ?_⟩
        have e7 : ac.eval (.tmp 7) = .pointer (some ⟨g7, 0, none⟩) := hu.is (t := 7) (by kernel_rfl)
        refine step_value (w' := w) (v := (.pointer (some ⟨g7, 3, none⟩))) ?_ (Below.refl _ _) rfl
        generalize ac.eval = ρ at e7 ⊢
        go_simp
      · refine StepOKs.of ?_
        intro ac w hb hu hk
        refine ⟨wanted_none rfl, ?_⟩
        have e9 : ac.eval (.tmp 9) = (.pointer (some ⟨g7, 3, none⟩)) := (hk ⟨0, .data⟩ (by simp) rfl).is rfl rfl
        have hc := HC3.out w hb
        refine step_value (w' := w) (v := .int .i64 lf) ?_ (Below.refl _ _) rfl
        generalize ac.eval = ρ at e9 ⊢
        go_simp
      · refine StepOKs.of ?_
        intro ac w hb hu hk
        refine ⟨wanted_none rfl, ?_⟩
        have e1 : ac.eval (.tmp 1) = .int .i64 h := hu.is (t := 1) (by kernel_rfl)
        exact step_value (BigFrame.run_move (.tmp 1) rfl w) (Below.refl _ _) e1
      · refine StepOKs.of ?_
        intro ac w hb hu hk
        refine ⟨wanted_none rfl, ?_⟩
        have e11 : ac.eval (.tmp 11) = (.int .i64 h) := (hk ⟨2, .data⟩ (by simp) rfl).is rfl rfl
        have ef : ac.eval (.func 52) = .func (.func 52) #[] #[] := rfl
        refine step_enter (f := 52) (args := #[.int .i64 h]) ?_ ?_
        · generalize ac.eval = ρ at e11 ef ⊢
          go_simp
        · exact (HCT.out w).mono fun e w' ⟨he, hq⟩ => ⟨_, he, rfl, hq ▸ Below.refl _ _⟩
      · refine StepOKs.of ?_
        intro ac w hb hu hk
        refine ⟨wanted_none rfl, ?_⟩
        have e10 : ac.eval (.tmp 10) = (.int .i64 lf) := (hk ⟨1, .data⟩ (by simp) rfl).is rfl rfl
        have e12 : ac.eval (.tmp 12) = (.int .i64 (N : Int)) := (hk ⟨3, .data⟩ (by simp) rfl).is rfl rfl
        have ef : ac.eval (.func 51) = .func (.func 51) #[] #[] := rfl
        refine step_enter (f := 51) (args := #[.int .i64 lf, .int .i64 (N : Int)]) ?_ ?_
        · generalize ac.eval = ρ at e10 e12 ef ⊢
          go_simp
        · exact (HL1.out w).mono fun e w' ⟨he, hq⟩ => ⟨_, he, rfl, hq ▸ Below.refl _ _⟩
      · refine StepOKs.of ?_
        intro ac w hb hu hk
        refine ⟨wanted_none rfl, ?_⟩
        have e13 : ac.eval (.tmp 13) = (.bool true) := (hk ⟨4, .data⟩ (by simp) rfl).is rfl rfl
        exact step_value (run_not e13 rfl w) (Below.refl _ _) rfl
      · refine StepOKs.of ?_
        intro ac w hb hu hk
        refine ⟨wanted_none rfl, ?_⟩
        have e14 : ac.eval (.tmp 14) = (.bool false) := (hk ⟨5, .data⟩ (by simp) rfl).is rfl rfl
        exact step_value (BigFrame.run_move (.tmp 14) rfl w) (Below.refl _ _) e14
      · refine StepOKs.of ?_
        intro ac w hb hu hk
        refine ⟨wanted_some rfl (hk ⟨6, .guard⟩ (by simp) rfl) rfl rfl (fun _ h => h), ?_⟩
        have e7 : ac.eval (.tmp 7) = .pointer (some ⟨g7, 0, none⟩) := hu.is (t := 7) (by kernel_rfl)
        refine step_value (w' := w) (v := (.pointer (some ⟨g7, 4, none⟩))) ?_ (Below.refl _ _) rfl
        generalize ac.eval = ρ at e7 ⊢
        go_simp
      · refine StepOKs.of ?_
        intro ac w hb hu hk
        refine ⟨wanted_some rfl (hk ⟨6, .guard⟩ (by simp) rfl) rfl rfl (fun _ h => h), ?_⟩
        have e16 : ac.eval (.tmp 16) = (.pointer (some ⟨g7, 4, none⟩)) := (hk ⟨7, .data⟩ (by simp) rfl).is rfl rfl
        have hc := HC4.out w hb
        refine step_value (w' := w) (v := .int .i64 ch) ?_ (Below.refl _ _) rfl
        generalize ac.eval = ρ at e16 ⊢
        go_simp
      · refine StepOKs.of ?_
        intro ac w hb hu hk
        refine ⟨wanted_some rfl (hk ⟨6, .chain⟩ (by simp) rfl) rfl rfl (fun _ h => h), ?_⟩
        have e17 : ac.eval (.tmp 17) = (.int .i64 ch) := (hk ⟨8, .data⟩ (by simp) rfl).is rfl rfl
        have ec0 : ac.eval (.const (Value.int IntKind.i64 67)) = Value.int IntKind.i64 67 := rfl
        have ef : ac.eval (.func 51) = .func (.func 51) #[] #[] := rfl
        refine step_enter (f := 51) (args := #[.int .i64 ch, .int .i64 67]) ?_ ?_
        · generalize ac.eval = ρ at e17 ec0 ef ⊢
          go_simp
        · exact (HL2.out w).mono fun e w' ⟨he, hq⟩ => ⟨_, he, rfl, hq ▸ Below.refl _ _⟩
      · refine StepOKs.of ?_
        intro ac w hb hu hk
        refine ⟨wanted_some rfl (hk ⟨6, .guard⟩ (by simp) rfl) rfl rfl (fun _ h => h), ?_⟩
        have e18 : ac.eval (.tmp 18) = (.bool false) := (hk ⟨9, .data⟩ (by simp) rfl).is rfl rfl
        exact step_value (run_not e18 rfl w) (Below.refl _ _) rfl
      · refine StepOKs.of ?_
        intro ac w hb hu hk
        refine ⟨wanted_none rfl, ?_⟩
        have e15 : ac.eval (.tmp 15) = (.bool false) := (hk ⟨6, .data⟩ (by simp) rfl).is rfl rfl
        have e19 : ac.eval (.tmp 19) = (.bool true) := (hk ⟨10, .data⟩ (by simp) rfl).is rfl rfl
        exact step_value (run_pick_false e15 rfl w) (Below.refl _ _) e19
      · refine StepOKs.of ?_
        intro ac w hb hu hk
        refine ⟨wanted_none rfl, ?_⟩
        have e20 : ac.eval (.tmp 20) = (.bool true) := (hk ⟨11, .data⟩ (by simp) rfl).is rfl rfl
        exact step_value (BigFrame.run_move (.tmp 20) rfl w) (Below.refl _ _) e20
      · refine StepOKs.skip ?_
        intro ac w hb hu hk
        exact ⟨unwanted_bool rfl (hk ⟨12, .guard⟩ (by simp) rfl) rfl rfl (fun _ h => h) (by decide), rfl⟩
      · refine StepOKs.skip ?_
        intro ac w hb hu hk
        exact ⟨unwanted_bool rfl (hk ⟨12, .guard⟩ (by simp) rfl) rfl rfl (fun _ h => h) (by decide), rfl⟩
      · refine StepOKs.skip ?_
        intro ac w hb hu hk
        exact ⟨unwanted_bool rfl (hk ⟨12, .chain⟩ (by simp) rfl) rfl rfl (fun _ h => h) (by decide), rfl⟩
      · refine StepOKs.skip ?_
        intro ac w hb hu hk
        exact ⟨unwanted_bool rfl (hk ⟨12, .guard⟩ (by simp) rfl) rfl rfl (fun _ h => h) (by decide), rfl⟩
      · refine StepOKs.of ?_
        intro ac w hb hu hk
        refine ⟨wanted_none rfl, ?_⟩
        have e21 : ac.eval (.tmp 21) = (.bool true) := (hk ⟨12, .data⟩ (by simp) rfl).is rfl rfl
        have e25 : ac.eval (.tmp 25) = (undef) := (hk ⟨16, .data⟩ (by simp) rfl).is rfl rfl
        refine step_value (w' := w) (v := .bool true) ?_ (Below.refl _ _) rfl
        exact run_pick_true (a := .const (.bool true)) e21 rfl w
      · intro ac w' hb hu hk hap
        obtain ⟨_, h9, rfl⟩ := (hk 0 (by decide)).put rfl rfl
        obtain ⟨_, h10, rfl⟩ := (hk 1 (by decide)).put rfl rfl
        obtain ⟨_, h11, rfl⟩ := (hk 2 (by decide)).put rfl rfl
        obtain ⟨_, h12, rfl⟩ := (hk 3 (by decide)).put rfl rfl
        obtain ⟨_, h13, rfl⟩ := (hk 4 (by decide)).put rfl rfl
        obtain ⟨_, h14, rfl⟩ := (hk 5 (by decide)).put rfl rfl
        obtain ⟨_, h15, rfl⟩ := (hk 6 (by decide)).put rfl rfl
        obtain ⟨_, h16, rfl⟩ := (hk 7 (by decide)).put rfl rfl
        obtain ⟨_, h17, rfl⟩ := (hk 8 (by decide)).put rfl rfl
        obtain ⟨_, h18, rfl⟩ := (hk 9 (by decide)).put rfl rfl
        obtain ⟨_, h19, rfl⟩ := (hk 10 (by decide)).put rfl rfl
        obtain ⟨_, h20, rfl⟩ := (hk 11 (by decide)).put rfl rfl
        obtain ⟨_, h21, rfl⟩ := (hk 12 (by decide)).put rfl rfl
        obtain ⟨_, h22, rfl⟩ := (hk 13 (by decide)).put rfl rfl
        obtain ⟨_, h23, rfl⟩ := (hk 14 (by decide)).put rfl rfl
        obtain ⟨_, h24, rfl⟩ := (hk 15 (by decide)).put rfl rfl
        obtain ⟨_, h25, rfl⟩ := (hk 16 (by decide)).put rfl rfl
        obtain ⟨_, h26, rfl⟩ := (hk 17 (by decide)).put rfl rfl
        clear hap
        have hF : AllPuts ac.tmps ((9, _) :: (10, _) :: (11, _) :: (12, _) :: (13, _) :: (14, _) :: (15, _) :: (16, _) :: (17, _) :: (18, _) :: (19, _) :: (20, _) :: (21, _) :: (22, _) :: (23, _) :: (24, _) :: (25, _) :: (26, _) :: []) := ⟨h9, h10, h11, h12, h13, h14, h15, h16, h17, h18, h19, h20, h21, h22, h23, h24, h25, h26, trivial⟩
        obtain rfl := frame_puts hu (by kernel_rfl) hF
        simp only [puts, Act.put, List.setIfInBounds_toArray, List.set_cons_zero, List.set_cons_succ, List.drop_succ_cons, List.drop_nil]
        clear hk hu hF h9 h10 h11 h12 h13 h14 h15 h16 h17 h18 h19 h20 h21 h22 h23 h24 h25 h26
        have HBE := Lib.hid (HBW.out.trans (hb.mono HBW.out.size))
        clear hb
        go_wp2_with fail
        go_ret
        exact ⟨rfl, HBE.out⟩
  · have HD := Lib.hid (show decide (holdsX sd h rows lk lf ch pl vv a b) = false from decide_eq_false (fun hx => hb1 (HRX.out.1 hx).1))
    rw [HD.out]
    rw [decide_eq_false hb1] at HL1
    clear HRX HRR HRA HRB HD hX hrr hra hrb htab hF hb1
    generalize cntN h = N at *
    go_enter Tryd.func19, Tryd.ntmps19
    go_upto_region 1 with fail
    generalize hw1 : World.alloc _ _ = w3
    obtain ⟨g4, hg4⟩ : ∃ g, w.heap.size = g := ⟨_, rfl⟩
    obtain ⟨g7, hg7⟩ : ∃ g, w.heap.size + 1 = g := ⟨_, rfl⟩
    have hf : Blk w3 g4 X 23 ∧ Blk w3 g7 FA 43 ∧ Below w.heap.size w w3 := by
      have hw : w3 = ((w.alloc (.cells X 23)).alloc (.cells FA 43)) := hw1.symm
      have e1 : (w.alloc (.cells X 23)).heap.size = w.heap.size + 1 := by simp
      rw [hw, ← hg4, ← hg7]
      exact ⟨by exact (Blk.new _ _ _).alloc _, by rw [← e1]; exact Blk.new _ _ _, (((Below.refl _ _).alloc (Nat.le_refl _) _).alloc (by simp) _)⟩
    have HB4 := Lib.hid hf.1
    have HB7 := Lib.hid hf.2.1
    have HBW := Lib.hid hf.2.2
    have HG4 := Lib.hid (show w.heap.size ≤ g4 by omega)
    have HG7 := Lib.hid (show w.heap.size ≤ g7 by omega)
    clear hf hw1
    rw [hg7, hg4]
    clear hg4 hg7
    have HC2 := Lib.hid (fun W (hW : Below w3.heap.size w3 W) => (show W.cell? ⟨g7, 2, none⟩ = some (.bool lk) by rw [(HB7.out.below hW HB7.out.lt).cell 2]; exact HF.out.2.2.2.1))
    have HC3 := Lib.hid (fun W (hW : Below w3.heap.size w3 W) => (show W.cell? ⟨g7, 3, none⟩ = some (.int .i64 lf) by rw [(HB7.out.below hW HB7.out.lt).cell 3]; exact HF.out.2.2.2.2.1))
    have HC4 := Lib.hid (fun W (hW : Below w3.heap.size w3 W) => (show W.cell? ⟨g7, 4, none⟩ = some (.int .i64 ch) by rw [(HB7.out.below hW HB7.out.lt).cell 4]; exact HF.out.2.2.2.2.2.1))
    have HC5 := Lib.hid (fun W (hW : Below w3.heap.size w3 W) => (show W.cell? ⟨g7, 5, none⟩ = some (.int .i64 pl) by rw [(HB7.out.below hW HB7.out.lt).cell 5]; exact HF.out.2.2.2.2.2.2.1))
    have HBX := Lib.hid (fun W (hW : Below w3.heap.size w3 W) => HB4.out.below hW HB4.out.lt)
    have HBF := Lib.hid (fun W (hW : Below w3.heap.size w3 W) => HB7.out.below hW HB7.out.lt)
    refine wp_region_skip 18 0 (fun i => false) (promises [.is (.pointer (some ⟨g7, 3, none⟩)), .is (.int .i64 lf), .is (.int .i64 h), .is (.int .i64 (N : Int)), .is (.bool false), .is (.bool true), .is (.bool true), .is (undef), .is (undef), .is (undef), .is (undef), .is (.bool true), .is (.bool true), .is (undef), .is (undef), .is (undef), .is (undef), .is (.bool true)]) (by kernel_rfl) rfl (by kernel_rfl) (fun i v w w' h hb => Spec.keep h hb) ⟨?_, ?_, ?_, ?_, ?_, ?_, ?_, ?_, ?_, ?_, ?_, ?_, ?_, ?_, ?_, ?_, ?_, ?_, trivial⟩ ?_
    · refine StepOKs.of ?_
      intro ac w hb hu hk
      refine ⟨wanted_none rfl, ?_⟩
      have e7 : ac.eval (.tmp 7) = .pointer (some ⟨g7, 0, none⟩) := hu.is (t := 7) (by kernel_rfl)
      refine step_value (w' := w) (v := (.pointer (some ⟨g7, 3, none⟩))) ?_ (Below.refl _ _) rfl
      generalize ac.eval = ρ at e7 ⊢
      go_simp
    · refine StepOKs.of ?_
      intro ac w hb hu hk
      refine ⟨wanted_none rfl, ?_⟩
      have e9 : ac.eval (.tmp 9) = (.pointer (some ⟨g7, 3, none⟩)) := (hk ⟨0, .data⟩ (by simp) rfl).is rfl rfl
      have hc := HC3.out w hb
      refine step_value (w' := w) (v := .int .i64 lf) ?_ (Below.refl _ _) rfl
      generalize ac.eval = ρ at e9 ⊢
      go_simp
    · refine StepOKs.of ?_
      intro ac w hb hu hk
      refine ⟨wanted_none rfl, ?_⟩
      have e1 : ac.eval (.tmp 1) = .int .i64 h := hu.is (t := 1) (by kernel_rfl)
      exact step_value (BigFrame.run_move (.tmp 1) rfl w) (Below.refl _ _) e1
    · refine StepOKs.of ?_
      intro ac w hb hu hk
      refine ⟨wanted_none rfl, ?_⟩
      have e11 : ac.eval (.tmp 11) = (.int .i64 h) := (hk ⟨2, .data⟩ (by simp) rfl).is rfl rfl
      have ef : ac.eval (.func 52) = .func (.func 52) #[] #[] := rfl
      refine step_enter (f := 52) (args := #[.int .i64 h]) ?_ ?_
      · generalize ac.eval = ρ at e11 ef ⊢
        go_simp
      · exact (HCT.out w).mono fun e w' ⟨he, hq⟩ => ⟨_, he, rfl, hq ▸ Below.refl _ _⟩
    · refine StepOKs.of ?_
      intro ac w hb hu hk
      refine ⟨wanted_none rfl, ?_⟩
      have e10 : ac.eval (.tmp 10) = (.int .i64 lf) := (hk ⟨1, .data⟩ (by simp) rfl).is rfl rfl
      have e12 : ac.eval (.tmp 12) = (.int .i64 (N : Int)) := (hk ⟨3, .data⟩ (by simp) rfl).is rfl rfl
      have ef : ac.eval (.func 51) = .func (.func 51) #[] #[] := rfl
      refine step_enter (f := 51) (args := #[.int .i64 lf, .int .i64 (N : Int)]) ?_ ?_
      · generalize ac.eval = ρ at e10 e12 ef ⊢
        go_simp
      · exact (HL1.out w).mono fun e w' ⟨he, hq⟩ => ⟨_, he, rfl, hq ▸ Below.refl _ _⟩
    · refine StepOKs.of ?_
      intro ac w hb hu hk
      refine ⟨wanted_none rfl, ?_⟩
      have e13 : ac.eval (.tmp 13) = (.bool false) := (hk ⟨4, .data⟩ (by simp) rfl).is rfl rfl
      exact step_value (run_not e13 rfl w) (Below.refl _ _) rfl
    · refine StepOKs.of ?_
      intro ac w hb hu hk
      refine ⟨wanted_none rfl, ?_⟩
      have e14 : ac.eval (.tmp 14) = (.bool true) := (hk ⟨5, .data⟩ (by simp) rfl).is rfl rfl
      exact step_value (BigFrame.run_move (.tmp 14) rfl w) (Below.refl _ _) e14
    · refine StepOKs.skip ?_
      intro ac w hb hu hk
      exact ⟨unwanted_bool rfl (hk ⟨6, .guard⟩ (by simp) rfl) rfl rfl (fun _ h => h) (by decide), rfl⟩
    · refine StepOKs.skip ?_
      intro ac w hb hu hk
      exact ⟨unwanted_bool rfl (hk ⟨6, .guard⟩ (by simp) rfl) rfl rfl (fun _ h => h) (by decide), rfl⟩
    · refine StepOKs.skip ?_
      intro ac w hb hu hk
      exact ⟨unwanted_bool rfl (hk ⟨6, .chain⟩ (by simp) rfl) rfl rfl (fun _ h => h) (by decide), rfl⟩
    · refine StepOKs.skip ?_
      intro ac w hb hu hk
      exact ⟨unwanted_bool rfl (hk ⟨6, .guard⟩ (by simp) rfl) rfl rfl (fun _ h => h) (by decide), rfl⟩
    · refine StepOKs.of ?_
      intro ac w hb hu hk
      refine ⟨wanted_none rfl, ?_⟩
      have e15 : ac.eval (.tmp 15) = (.bool true) := (hk ⟨6, .data⟩ (by simp) rfl).is rfl rfl
      have e19 : ac.eval (.tmp 19) = (undef) := (hk ⟨10, .data⟩ (by simp) rfl).is rfl rfl
      refine step_value (w' := w) (v := .bool true) ?_ (Below.refl _ _) rfl
      exact run_pick_true (a := .const (.bool true)) e15 rfl w
    · refine StepOKs.of ?_
      intro ac w hb hu hk
      refine ⟨wanted_none rfl, ?_⟩
      have e20 : ac.eval (.tmp 20) = (.bool true) := (hk ⟨11, .data⟩ (by simp) rfl).is rfl rfl
      exact step_value (BigFrame.run_move (.tmp 20) rfl w) (Below.refl _ _) e20
    · refine StepOKs.skip ?_
      intro ac w hb hu hk
      exact ⟨unwanted_bool rfl (hk ⟨12, .guard⟩ (by simp) rfl) rfl rfl (fun _ h => h) (by decide), rfl⟩
    · refine StepOKs.skip ?_
      intro ac w hb hu hk
      exact ⟨unwanted_bool rfl (hk ⟨12, .guard⟩ (by simp) rfl) rfl rfl (fun _ h => h) (by decide), rfl⟩
    · refine StepOKs.skip ?_
      intro ac w hb hu hk
      exact ⟨unwanted_bool rfl (hk ⟨12, .chain⟩ (by simp) rfl) rfl rfl (fun _ h => h) (by decide), rfl⟩
    · refine StepOKs.skip ?_
      intro ac w hb hu hk
      exact ⟨unwanted_bool rfl (hk ⟨12, .guard⟩ (by simp) rfl) rfl rfl (fun _ h => h) (by decide), rfl⟩
    · refine StepOKs.of ?_
      intro ac w hb hu hk
      refine ⟨wanted_none rfl, ?_⟩
      have e21 : ac.eval (.tmp 21) = (.bool true) := (hk ⟨12, .data⟩ (by simp) rfl).is rfl rfl
      have e25 : ac.eval (.tmp 25) = (undef) := (hk ⟨16, .data⟩ (by simp) rfl).is rfl rfl
      refine step_value (w' := w) (v := .bool true) ?_ (Below.refl _ _) rfl
      exact run_pick_true (a := .const (.bool true)) e21 rfl w
    · intro ac w' hb hu hk hap
      obtain ⟨_, h9, rfl⟩ := (hk 0 (by decide)).put rfl rfl
      obtain ⟨_, h10, rfl⟩ := (hk 1 (by decide)).put rfl rfl
      obtain ⟨_, h11, rfl⟩ := (hk 2 (by decide)).put rfl rfl
      obtain ⟨_, h12, rfl⟩ := (hk 3 (by decide)).put rfl rfl
      obtain ⟨_, h13, rfl⟩ := (hk 4 (by decide)).put rfl rfl
      obtain ⟨_, h14, rfl⟩ := (hk 5 (by decide)).put rfl rfl
      obtain ⟨_, h15, rfl⟩ := (hk 6 (by decide)).put rfl rfl
      obtain ⟨_, h16, rfl⟩ := (hk 7 (by decide)).put rfl rfl
      obtain ⟨_, h17, rfl⟩ := (hk 8 (by decide)).put rfl rfl
      obtain ⟨_, h18, rfl⟩ := (hk 9 (by decide)).put rfl rfl
      obtain ⟨_, h19, rfl⟩ := (hk 10 (by decide)).put rfl rfl
      obtain ⟨_, h20, rfl⟩ := (hk 11 (by decide)).put rfl rfl
      obtain ⟨_, h21, rfl⟩ := (hk 12 (by decide)).put rfl rfl
      obtain ⟨_, h22, rfl⟩ := (hk 13 (by decide)).put rfl rfl
      obtain ⟨_, h23, rfl⟩ := (hk 14 (by decide)).put rfl rfl
      obtain ⟨_, h24, rfl⟩ := (hk 15 (by decide)).put rfl rfl
      obtain ⟨_, h25, rfl⟩ := (hk 16 (by decide)).put rfl rfl
      obtain ⟨_, h26, rfl⟩ := (hk 17 (by decide)).put rfl rfl
      clear hap
      have hF : AllPuts ac.tmps ((9, _) :: (10, _) :: (11, _) :: (12, _) :: (13, _) :: (14, _) :: (15, _) :: (16, _) :: (17, _) :: (18, _) :: (19, _) :: (20, _) :: (21, _) :: (22, _) :: (23, _) :: (24, _) :: (25, _) :: (26, _) :: []) := ⟨h9, h10, h11, h12, h13, h14, h15, h16, h17, h18, h19, h20, h21, h22, h23, h24, h25, h26, trivial⟩
      obtain rfl := frame_puts hu (by kernel_rfl) hF
      simp only [puts, Act.put, List.setIfInBounds_toArray, List.set_cons_zero, List.set_cons_succ, List.drop_succ_cons, List.drop_nil]
      clear hk hu hF h9 h10 h11 h12 h13 h14 h15 h16 h17 h18 h19 h20 h21 h22 h23 h24 h25 h26
      have HBE := Lib.hid (HBW.out.trans (hb.mono HBW.out.size))
      clear hb
      go_wp2_with fail
      go_ret
      exact ⟨rfl, HBE.out⟩
end Go.Proofs.YtfgieebccjoboaaDoor
