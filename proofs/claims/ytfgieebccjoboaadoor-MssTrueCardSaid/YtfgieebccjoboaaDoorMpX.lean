/- Where there is nothing to be explained, as the program says. -/
import Derived.Test.YtfgieebccjoboaaDoorMpD
import Derived.Test.YtfgieebccjoboaaDoorMpJ
import Derived.Test.YtfgieebccjoboaaDoorBreaks
namespace Go.Proofs.YtfgieebccjoboaaDoor
open Go.RowKit

/-- An explanation of nothing. -/
def forge0 : Array Value := forgeA none none 0 0 0 0 false 0 0 0 zeroH
theorem forge0_size : forge0.size = 38 := by unfold forge0 forgeA; rw [Array.size_append, u8A_size]; rfl
theorem forge0_info : (Tryd.prog.info? 43 ).map (·.size) = some forge0.size := by rw [forge0_size]; kernel_rfl
theorem forgeA_one (A B : Option Addr) (n c m d : Nat) (lk : Bool) (lf ch pl : Int) (v : List UInt8) : (forgeA A B n c m d lk lf ch pl v).all (·.oneCell') = true := by
  unfold forgeA
  rw [Array.all_append, u8A_one]
  simp [Value.oneCell']
theorem built_forge0 : Tryd.prog.built 43 [] = some forge0 := by kernel_rfl
theorem wpList_build_forge0 {w : World} {ops : Array Oper} {rest : List Oper} {o : Oper} {a : Act} {Q : Exit → Act → World → Prop} (hgd : o.guard = none) (ho : o.op = .build 43 #[]) (Z : Array Value) (hZ : forge0 = Z)
    (hk : wpList Tryd.prog ops Q rest (a.put o.dst (.agg Z)) w) : wpList Tryd.prog ops Q (o :: rest) a w := by
  have hb : Tryd.prog.built 43 ((#[] : Array (Nat × Operand)).map fun (i, x) => (i, a.eval x)).toList = some Z := by
    have h := built_forge0
    rw [hZ] at h
    simp only [List.map_toArray, List.map_nil]
    exact h
  refine wpList_build (P := Tryd.prog) hgd 43 #[] ho (by rw [hb]; rfl) ?_
  rw [hb]
  exact hk
set_option maxRecDepth 100000 in
set_option maxHeartbeats 16000000 in
theorem pexplain9_no (sd : List UInt8) (k : Nat) (R : Option Addr) (rn rc : Nat) (rows : List (List UInt8)) (B : Option Addr) (nb cb : Nat) (m : List UInt8) (s : SigV) (V P : Option Addr) (nv cv np cp : Nat) (w : World) (hs : sd.length = 16) (hk4 : k ≤ 4) (hrn : rows.length = rn) (_hrl : ∀ r ∈ rows, r.length ≤ 1000) (hrr : RdR w w.heap.size R rows) (hm : m.length = nb) (h1 : nb ≤ 1000) (hc : nb ≤ cb) (hcm : cb ≤ maxLen) (hrm : Rd w w.heap.size B m) (hv : HV w (.slice V nv cv) s.vs) (hvl : s.vs.length = nv) (hp : HV w (.slice P np cp) s.ps) (hpl : s.ps.length = np) (hnp : np ≤ 1024) (htab : Pow10 w.heap.size w) (hno : ¬ verP (printH (k : Int) (keyRoot sd k)) m s ∨ (msgV rows (k : Int) s.l ≠ [] ∧ msgV rows (k : Int) s.l = m)) :
    Calls Tryd.prog 16 #[.agg (u8A sd), .int .i64 (k : Int), .slice R rn rc, .slice B nb cb, .agg (sigA s.h s.l V P nv cv np cp)] w fun e w' => e = .returned (.tuple #[.agg forge0, .bool false]) ∧ Below w.heap.size w w' := by
  obtain ⟨X, hX⟩ : ∃ x, u8A sd = x := ⟨_, rfl⟩
  have HEX := Lib.hid hX
  have HZX := Lib.hid (show X.size = 16 by rw [← hX, u8A_size]; exact hs)
  have HOX := Lib.hid (show X.all (·.oneCell') = true by rw [← hX]; exact u8A_one _)
  obtain ⟨K, hK⟩ : ∃ x, u8A (keyRoot sd k) = x := ⟨_, rfl⟩
  have HEK := Lib.hid hK
  have HZK := Lib.hid (show K.size = 32 by rw [← hK, u8A_size]; exact keyRoot_len _ _)
  have HOK := Lib.hid (show K.all (·.oneCell') = true by rw [← hK]; exact u8A_one _)
  obtain ⟨Z, hZ⟩ : ∃ x, u8A (printH (k : Int) (keyRoot sd k)) = x := ⟨_, rfl⟩
  have HEZ := Lib.hid hZ
  have HZZ := Lib.hid (show Z.size = 32 by rw [← hZ, u8A_size]; exact printH_len _ _)
  have HOZ := Lib.hid (show Z.all (·.oneCell') = true by rw [← hZ]; exact u8A_one _)
  obtain ⟨sh, sl, vs, ps⟩ := s
  have HTAB := Lib.hid htab
  have hN16 : 2 ^ k ≤ 16 := Nat.pow_le_pow_right (n := 2) (by omega) hk4
  have hN1 : 1 ≤ 2 ^ k := Nat.pos_of_ne_zero (by simp)
  obtain ⟨SA, hSA⟩ : ∃ x, sigA sh sl V P nv cv np cp = x := ⟨_, rfl⟩
  have HSA := Lib.hid hSA
  have HZSA := Lib.hid (show SA.size = 4 by rw [← hSA]; rfl)
  have HS0 := Lib.hid (show SA[0]? = some (.int .i64 sh) by rw [← hSA]; rfl)
  have HS1 := Lib.hid (show SA[1]? = some (.int .i64 sl) by rw [← hSA]; rfl)
  obtain ⟨FZ, hFZ⟩ : ∃ x, forge0 = x := ⟨_, rfl⟩
  have HEFZ := Lib.hid hFZ
  have HZFZ := Lib.hid (show FZ.size = 38 by rw [← hFZ]; exact forge0_size)
  have HOFZ := Lib.hid (show FZ.all (·.oneCell') = true by rw [← hFZ]; exact forgeA_one _ _ _ _ _ _ _ _ _ _ _)
  have HLV := Lib.hid (fun W (hW : Below w.heap.size w W) => (show Calls Tryd.prog 21 #[.agg X, .int .i64 (k : Int)] W fun e w' => ∃ A c, e = .returned (.slice A (2 ^ k) c) ∧ HV w' (.slice A (2 ^ k) c) (pubsL sd (2 ^ k)) ∧ Below W.heap.size W w' from by
    have := pleaves9_any sd (k : Int) W hs (tab_on htab hW hW.size)
    rw [cntN_nat hk4, hX] at this
    refine this.mono ?_
    rintro e w' ⟨v, rfl, ho, hb⟩
    obtain ⟨A, c, rfl, _, _⟩ := ho.form (n := 2 ^ k) (pubsL_len _ _)
    exact ⟨A, c, rfl, ho.hv, hb⟩))
  have HRO := Lib.hid (fun A c W (hW : Below w.heap.size w W) (hv : HV W (.slice A (2 ^ k) c) (pubsL sd (2 ^ k))) => (show Calls Tryd.prog 41 #[.slice A (2 ^ k) c] W fun e w' => e = .returned (.agg K) ∧ Below W.heap.size W w' from by
    rw [← hK]
    exact proot_any A (2 ^ k) c (pubsL sd (2 ^ k)) W (pubsL_len _ _) (by omega) (pubsL_32 _ _) hv.rd8 (tab_on htab hW hW.size)))
  have HPO := Lib.hid (fun W (hW : Below w.heap.size w W) => (show Calls Tryd.prog 40 #[.int .i64 (k : Int), .agg K] W fun e w' => e = .returned (.agg Z) ∧ Below W.heap.size W w' from by
    rw [← hK, ← hZ]
    exact pprintof9_any (k : Int) (keyRoot sd k) W (keyRoot_len _ _) (by omega) (tab_on htab hW hW.size)))
  have HVE := Lib.hid (fun W (hW : Below w.heap.size w W) => (show Calls Tryd.prog 15 #[.agg Z, .slice B nb cb, .agg SA] W fun e w' => e = .returned (.bool (decide (verP (printH (k : Int) (keyRoot sd k)) m ⟨sh, sl, vs, ps⟩))) ∧ Below W.heap.size W w' from by
    rw [← hZ, ← hSA]
    exact pverify9_any (printH (k : Int) (keyRoot sd k)) B nb cb m ⟨sh, sl, vs, ps⟩ V P nv cv np cp W hm h1 hc hcm (hrm.on hW) (hv.on hW) hvl (hp.on hW) hpl hnp (tab_on htab hW hW.size) (printH_len _ _)))
  have HMS := Lib.hid (fun W (hW : Below w.heap.size w W) (h0 : 0 ≤ sl) => (show Calls Tryd.prog 44 #[.slice R rn rc, .int .i64 (k : Int), .int .i64 sl] W _ from pmessage9_any R rn rc rows (k : Int) sl W hrn h0 ((hrr.below hW (Nat.le_refl _)).more hW.size)))
  by_cases hver : verP (printH (k : Int) (keyRoot sd k)) m ⟨sh, sl, vs, ps⟩
  · rw [decide_eq_true hver] at HVE
    have hsl0 : 0 ≤ sl := hver.1.2.2.2.1
    obtain ⟨hne, heq⟩ : msgV rows (k : Int) sl ≠ [] ∧ msgV rows (k : Int) sl = m := by
      rcases hno with h | h
      · exact absurd hver h
      · exact h
    have HMC := Lib.hid (fun W (hW : Below w.heap.size w W) => (show Calls Tryd.prog 44 #[.slice R rn rc, .int .i64 (k : Int), .int .i64 sl] W fun e w' => ∃ X c, e = .returned (.slice X nb c) ∧ Rd w' w'.heap.size X m ∧ W = w' from by
      refine (HMS.out W hW hsl0).mono ?_
      rintro e w' ⟨X, c, rfl, _, _, hr, rfl⟩
      rw [heq] at hr
      exact ⟨X, c, by rw [heq, hm], hr, rfl⟩))
    have HN0 := Lib.hid (show 0 < nb by
      rcases Nat.eq_zero_or_pos nb with h | h
      · exact absurd (heq.trans (List.eq_nil_of_length_eq_zero (by rw [hm, h]))) hne
      · exact h)
    have HEQ := Lib.hid (fun X c W (hW : Below w.heap.size w W) (hr : Rd W W.heap.size X m) => (show Calls Tryd.prog 45 #[.slice X nb c, .slice B nb cb] W fun e w' => e = .returned (.bool true) ∧ W = w' from by
      have := equal_any X B nb nb c cb _ _ m m W hm hm hr (hrm.on hW)
      rwa [show (m == m) = true by simp] at this))
    obtain ⟨N, hN⟩ : ∃ N, 2 ^ k = N := ⟨_, rfl⟩
    rw [hN] at HLV HRO hN16 hN1
    have HNE := Lib.hid (show ¬ (N : Int) = 0 by omega)
    generalize pubsL sd N = lv at HLV HRO
    rw [hX, hSA]
    clear hX hK hZ hSA hFZ htab hv hp hrm hrr hN hno hver hne heq
    go_enter Tryd.func16, Tryd.ntmps16
    go_upto_region 1 with fail
    generalize hw1 : World.alloc _ _ = w3
    obtain ⟨g5, hg5⟩ : ∃ g, w.heap.size = g := ⟨_, rfl⟩
    obtain ⟨g9, hg9⟩ : ∃ g, w.heap.size + 1 = g := ⟨_, rfl⟩
    obtain ⟨g10, hg10⟩ : ∃ g, w.heap.size + 1 + 1 = g := ⟨_, rfl⟩
    have hf : Blk w3 g5 X 23 ∧ Blk w3 g9 SA 35 ∧ (∃ rs, Blk w3 g10 rs 43 ∧ rs.size = 38) ∧ Below w.heap.size w w3 := by
      obtain ⟨Y10, hw, hY10⟩ : ∃ Y10, w3 = (((w.alloc (.cells X 23)).alloc (.cells SA 35)).alloc (.cells Y10 43)) ∧ Y10.size = 38 := ⟨_, hw1.symm, rfl⟩
      have e1 : (w.alloc (.cells X 23)).heap.size = w.heap.size + 1 := by simp
      have e2 : ((w.alloc (.cells X 23)).alloc (.cells SA 35)).heap.size = w.heap.size + 1 + 1 := by simp
      rw [hw, ← hg5, ← hg9, ← hg10]
      exact ⟨by exact ((Blk.new _ _ _).alloc _).alloc _, by rw [← e1]; exact (Blk.new _ _ _).alloc _, ⟨Y10, by rw [← e2]; exact Blk.new _ _ _, hY10⟩, ((((Below.refl _ _).alloc (Nat.le_refl _) _).alloc (by simp) _).alloc (by simp; omega) _)⟩
    have HB5 := Lib.hid hf.1
    have HB9 := Lib.hid hf.2.1
    obtain ⟨rs10, hrs10, hrz10⟩ := hf.2.2.1
    have HB10 := Lib.hid hrs10
    have HRZ10 := Lib.hid hrz10
    have HBW := Lib.hid hf.2.2.2
    have HG5 := Lib.hid (show w.heap.size ≤ g5 by omega)
    have HG9 := Lib.hid (show w.heap.size ≤ g9 by omega)
    have HG10 := Lib.hid (show w.heap.size ≤ g10 by omega)
    clear hf hw1 hrs10 hrz10
    rw [hg10, hg9, hg5]
    clear hg5 hg9 hg10
    go_wp2_with (with_reducible refine wpList_load_blk rfl 23 (.tmp 5) rfl g5 rfl 23 X _ HB5.out Tryd.underlying23 rfl (by rw [HZX.out]; kernel_rfl) ?_)
    with_reducible refine (HLV.out w3 HBW.out).mono ?_
    rintro e w4 ⟨A4, c4, rfl, hv4, hb⟩
    replace HB5 := Lib.hid (HB5.out.below hb HB5.out.lt)
    replace HB9 := Lib.hid (HB9.out.below hb HB9.out.lt)
    replace HB10 := Lib.hid (HB10.out.below hb HB10.out.lt)
    replace HBW := Lib.hid (HBW.out.trans (hb.mono HBW.out.size))
    have HRC := Lib.hid (HRO.out A4 c4 w4 HBW.out hv4)
    have HV4 := Lib.hid hv4
    clear hb HLV HRO hv4
    go_wp2_with fail
    with_reducible refine (HRC.out).mono ?_
    rintro e w5 ⟨rfl, hb⟩
    replace HV4 := Lib.hid (HV4.out.on hb)
    replace HB5 := Lib.hid (HB5.out.below hb HB5.out.lt)
    replace HB9 := Lib.hid (HB9.out.below hb HB9.out.lt)
    replace HB10 := Lib.hid (HB10.out.below hb HB10.out.lt)
    replace HBW := Lib.hid (HBW.out.trans (hb.mono HBW.out.size))
    clear hb HRC
    go_upto_region 3 with (with_reducible refine wpList_store_blk rfl 29 (.tmp 13) (.tmp 27) rfl w5.heap.size K rfl rfl 29 _ (Blk.new _ _ _) (by rw [HZK.out]; kernel_rfl) (by rw [HZK.out]; kernel_rfl) HOK.out ?_)
    generalize hwn : World.setRow _ _ _ = w6
    have hal : Below w5.heap.size w5 w6 := by
      rw [← hwn]
      exact below_row ((Below.refl _ _).alloc (Nat.le_refl _) _) (by simp) (Nat.le_refl _) _
    have HB13 := Lib.hid (show Blk w6 w5.heap.size K 29 by
      rw [← hwn]
      exact (Blk.new _ _ _).row _)
    obtain ⟨g13, hgn⟩ : ∃ g, w5.heap.size = g := ⟨_, rfl⟩
    replace HV4 := Lib.hid (HV4.out.on hal)
    replace HB5 := Lib.hid (HB5.out.below hal HB5.out.lt)
    replace HB9 := Lib.hid (HB9.out.below hal HB9.out.lt)
    replace HB10 := Lib.hid (HB10.out.below hal HB10.out.lt)
    replace HBW := Lib.hid (HBW.out.trans (hal.mono HBW.out.size))
    rw [hgn] at HB13 ⊢
    clear hal hwn hgn
    have HBK := Lib.hid (fun W (hW : Below w6.heap.size w6 W) => HB13.out.below hW HB13.out.lt)
    have HBS := Lib.hid (fun W (hW : Below w6.heap.size w6 W) => HB9.out.below hW HB9.out.lt)
    refine wp_region_loose 12 0 (fun i => false) (promises [.is (.slice A4 N c4), .is (.int .i64 (N : Int)), .is (.bool false), .is (.bool false), .is (.int .i64 (k : Int)), .is (.agg K), .is (.agg Z), .is (.slice B nb cb), .is (.agg SA), .is (.bool true), .is (.bool false), .is (.bool false)]) (by kernel_rfl) rfl (by kernel_rfl) (fun i v w w' h hb => Spec.keep h hb) ⟨?_, ?_, ?_, ?_, ?_, ?_, ?_, ?_, ?_, ?_, ?_, ?_, trivial⟩ ?_
    · refine StepOKl.of ?_
      intro ac w hb hu hk
      refine ⟨wanted_none rfl, ?_⟩
      have e12 : ac.eval (.tmp 12) = .slice A4 N c4 := hu.is (t := 12) (by kernel_rfl)
      exact step_value (BigFrame.run_move (.tmp 12) rfl w) (Below.refl _ _) e12
    · refine StepOKl.of ?_
      intro ac w hb hu hk
      refine ⟨wanted_none rfl, ?_⟩
      have e28 : ac.eval (.tmp 28) = (.slice A4 N c4) := (hk ⟨0, .data⟩ (by simp) rfl).is rfl rfl
      refine step_value (w' := w) (v := (.int .i64 (N : Int))) ?_ (Below.refl _ _) rfl
      generalize ac.eval = ρ at e28 ⊢
      go_simp
    · refine StepOKl.of ?_
      intro ac w hb hu hk
      refine ⟨wanted_none rfl, ?_⟩
      have e29 : ac.eval (.tmp 29) = (.int .i64 (N : Int)) := (hk ⟨1, .data⟩ (by simp) rfl).is rfl rfl
      have hq := HNE.out
      refine step_value (w' := w) (v := .bool false) ?_ (Below.refl _ _) rfl
      have ec : ac.eval (.const (.int .i64 0)) = .int .i64 0 := rfl
      generalize ac.eval = ρ at e29 ec ⊢
      go_simp
      omega
    · refine StepOKl.of ?_
      intro ac w hb hu hk
      refine ⟨wanted_none rfl, ?_⟩
      have e30 : ac.eval (.tmp 30) = (.bool false) := (hk ⟨2, .data⟩ (by simp) rfl).is rfl rfl
      exact step_value (BigFrame.run_move (.tmp 30) rfl w) (Below.refl _ _) e30
    · refine StepOKl.of ?_
      intro ac w hb hu hk
      refine ⟨wanted_some rfl (hk ⟨3, .guard⟩ (by simp) rfl) rfl rfl (fun _ h => h), ?_⟩
      have e1 : ac.eval (.tmp 1) = .int .i64 (k : Int) := hu.is (t := 1) (by kernel_rfl)
      exact step_value (BigFrame.run_move (.tmp 1) rfl w) (Below.refl _ _) e1
    · refine StepOKl.of ?_
      intro ac w hb hu hk
      refine ⟨wanted_some rfl (hk ⟨3, .guard⟩ (by simp) rfl) rfl rfl (fun _ h => h), ?_⟩
      have e13 : ac.eval (.tmp 13) = .pointer (some ⟨g13, 0, none⟩) := hu.is (t := 13) (by kernel_rfl)
      exact wp_load_row 29 (.tmp 13) rfl g13 e13 29 K (0, 0) _ (HBK.out w hb) Tryd.underlying29 rfl (by rw [HZK.out]; kernel_rfl) ⟨_, rfl, rfl, Below.refl _ _⟩
    · refine StepOKl.of ?_
      intro ac w hb hu hk
      refine ⟨wanted_some rfl (hk ⟨3, .chain⟩ (by simp) rfl) rfl rfl (fun _ h => h), ?_⟩
      have e32 : ac.eval (.tmp 32) = (.int .i64 (k : Int)) := (hk ⟨4, .data⟩ (by simp) rfl).is rfl rfl
      have e33 : ac.eval (.tmp 33) = (.agg K) := (hk ⟨5, .data⟩ (by simp) rfl).is rfl rfl
      have ef : ac.eval (.func 40) = .func (.func 40) #[] #[] := rfl
      refine step_enter (f := 40) (args := #[.int .i64 (k : Int), .agg K]) ?_ ?_
      · generalize ac.eval = ρ at e32 e33 ef ⊢
        go_simp
      · exact (HPO.out w (HBW.out.trans (hb.mono HBW.out.size))).mono fun e w' ⟨he, hq⟩ => ⟨_, he, rfl, hq⟩
    · refine StepOKl.of ?_
      intro ac w hb hu hk
      refine ⟨wanted_some rfl (hk ⟨3, .guard⟩ (by simp) rfl) rfl rfl (fun _ h => h), ?_⟩
      have e3 : ac.eval (.tmp 3) = .slice B nb cb := hu.is (t := 3) (by kernel_rfl)
      exact step_value (BigFrame.run_move (.tmp 3) rfl w) (Below.refl _ _) e3
    · refine StepOKl.of ?_
      intro ac w hb hu hk
      refine ⟨wanted_some rfl (hk ⟨3, .guard⟩ (by simp) rfl) rfl rfl (fun _ h => h), ?_⟩
      have e9 : ac.eval (.tmp 9) = .pointer (some ⟨g9, 0, none⟩) := hu.is (t := 9) (by kernel_rfl)
      exact wp_load_row 35 (.tmp 9) rfl g9 e9 35 SA (0, 0) _ (HBS.out w hb) Tryd.underlying35 rfl (by rw [HZSA.out]; kernel_rfl) ⟨_, rfl, rfl, Below.refl _ _⟩
    · refine StepOKl.of ?_
      intro ac w hb hu hk
      refine ⟨wanted_some rfl (hk ⟨3, .guard⟩ (by simp) rfl) rfl rfl (fun _ h => h), ?_⟩
      have e34 : ac.eval (.tmp 34) = (.agg Z) := (hk ⟨6, .data⟩ (by simp) rfl).is rfl rfl
      have e35 : ac.eval (.tmp 35) = (.slice B nb cb) := (hk ⟨7, .data⟩ (by simp) rfl).is rfl rfl
      have e36 : ac.eval (.tmp 36) = (.agg SA) := (hk ⟨8, .data⟩ (by simp) rfl).is rfl rfl
      have ef : ac.eval (.func 15) = .func (.func 15) #[] #[] := rfl
      refine step_enter (f := 15) (args := #[.agg Z, .slice B nb cb, .agg SA]) ?_ ?_
      · generalize ac.eval = ρ at e34 e35 e36 ef ⊢
        go_simp
      · exact (HVE.out w (HBW.out.trans (hb.mono HBW.out.size))).mono fun e w' ⟨he, hq⟩ => ⟨_, he, rfl, hq⟩
    · refine StepOKl.of ?_
      intro ac w hb hu hk
      refine ⟨wanted_some rfl (hk ⟨3, .guard⟩ (by simp) rfl) rfl rfl (fun _ h => h), ?_⟩
      have e37 : ac.eval (.tmp 37) = (.bool true) := (hk ⟨9, .data⟩ (by simp) rfl).is rfl rfl
      exact step_value (run_not e37 rfl w) (Below.refl _ _) rfl
    · refine StepOKl.of ?_
      intro ac w hb hu hk
      refine ⟨wanted_none rfl, ?_⟩
      have e31 : ac.eval (.tmp 31) = (.bool false) := (hk ⟨3, .data⟩ (by simp) rfl).is rfl rfl
      have e38 : ac.eval (.tmp 38) = (.bool false) := (hk ⟨10, .data⟩ (by simp) rfl).is rfl rfl
      exact step_value (run_pick_false e31 rfl w) (Below.refl _ _) e38
    · intro ac w' hb hu hk hap
      obtain ⟨_, h28, rfl⟩ := (hk 0 (by decide)).put rfl rfl
      obtain ⟨_, h29, rfl⟩ := (hk 1 (by decide)).put rfl rfl
      obtain ⟨_, h30, rfl⟩ := (hk 2 (by decide)).put rfl rfl
      obtain ⟨_, h31, rfl⟩ := (hk 3 (by decide)).put rfl rfl
      obtain ⟨_, h32, rfl⟩ := (hk 4 (by decide)).put rfl rfl
      obtain ⟨_, h33, rfl⟩ := (hk 5 (by decide)).put rfl rfl
      obtain ⟨_, h34, rfl⟩ := (hk 6 (by decide)).put rfl rfl
      obtain ⟨_, h35, rfl⟩ := (hk 7 (by decide)).put rfl rfl
      obtain ⟨_, h36, rfl⟩ := (hk 8 (by decide)).put rfl rfl
      obtain ⟨_, h37, rfl⟩ := (hk 9 (by decide)).put rfl rfl
      obtain ⟨_, h38, rfl⟩ := (hk 10 (by decide)).put rfl rfl
      obtain ⟨_, h39, rfl⟩ := (hk 11 (by decide)).put rfl rfl
      clear hap
      have hF : AllPuts ac.tmps ((28, _) :: (29, _) :: (30, _) :: (31, _) :: (32, _) :: (33, _) :: (34, _) :: (35, _) :: (36, _) :: (37, _) :: (38, _) :: (39, _) :: []) := ⟨h28, h29, h30, h31, h32, h33, h34, h35, h36, h37, h38, h39, trivial⟩
      obtain rfl := frame_puts hu (by kernel_rfl) hF
      simp only [puts, Act.put, List.setIfInBounds_toArray, List.set_cons_zero, List.set_cons_succ, List.drop_succ_cons, List.drop_nil]
      clear hk hu hF h28 h29 h30 h31 h32 h33 h34 h35 h36 h37 h38 h39
      have HBQ := Lib.hid hb
      replace HB10 := Lib.hid (HB10.out.below hb HB10.out.lt)
      replace HBW := Lib.hid (HBW.out.trans (hb.mono HBW.out.size))
      have hs1 : w'.cell? ⟨g9, 1, none⟩ = some (.int .i64 sl) := ((HBS.out w' hb).cell 1).trans HS1.out
      have hn0 := HN0.out
      have hni : (0 : Int) < (nb : Int) := by omega
      have HMW := Lib.hid (HMC.out w' HBW.out)
      clear hb HPO HVE HBK HBS HB5 HB9 HB13 HV4
      go_wp2_with fail
      with_reducible refine (HMW.out).mono ?_
      rintro e wx ⟨X5, x5, rfl, hr5, rfl⟩
      have HEW := Lib.hid (HEQ.out X5 x5 w' HBW.out hr5)
      clear hr5 HMW HMC
      go_wp2_with fail
      with_reducible refine (HEW.out).mono ?_
      rintro e wx ⟨rfl, rfl⟩
      clear HEW
      go_wp2_with (first
        | (with_reducible refine wpList_build_forge0 rfl rfl FZ HEFZ.out ?_)
        | (with_reducible refine wpList_store_blk rfl 43 (.tmp 10) (.tmp 54) rfl g10 FZ rfl rfl 43 rs10 HB10.out (by rw [HZFZ.out]; kernel_rfl) (by rw [HZFZ.out, HRZ10.out]) HOFZ.out ?_))
      refine bodyPost_ret (v := .tuple #[.agg FZ, .bool false]) (results_cell_tmp (p := 10) (q := 11) (ty := 43) (by kernel_rfl) _ _ g10 43 _ (0, 0) _ (.bool false) rfl rfl (HB10.out.row FZ) Tryd.underlying43 rfl (by rw [HZFZ.out]; kernel_rfl)) rfl ⟨by rw [HEFZ.out], below_row HBW.out HBW.out.size HG10.out _⟩
  · rw [decide_eq_false hver] at HVE
    obtain ⟨N, hN⟩ : ∃ N, 2 ^ k = N := ⟨_, rfl⟩
    rw [hN] at HLV HRO hN16 hN1
    have HNE := Lib.hid (show ¬ (N : Int) = 0 by omega)
    generalize pubsL sd N = lv at HLV HRO
    rw [hX, hSA]
    clear hX hK hZ hSA hFZ htab hv hp hrm hrr hN hno hver
    go_enter Tryd.func16, Tryd.ntmps16
    go_upto_region 1 with fail
    generalize hw1 : World.alloc _ _ = w3
    obtain ⟨g5, hg5⟩ : ∃ g, w.heap.size = g := ⟨_, rfl⟩
    obtain ⟨g9, hg9⟩ : ∃ g, w.heap.size + 1 = g := ⟨_, rfl⟩
    obtain ⟨g10, hg10⟩ : ∃ g, w.heap.size + 1 + 1 = g := ⟨_, rfl⟩
    have hf : Blk w3 g5 X 23 ∧ Blk w3 g9 SA 35 ∧ (∃ rs, Blk w3 g10 rs 43 ∧ rs.size = 38) ∧ Below w.heap.size w w3 := by
      obtain ⟨Y10, hw, hY10⟩ : ∃ Y10, w3 = (((w.alloc (.cells X 23)).alloc (.cells SA 35)).alloc (.cells Y10 43)) ∧ Y10.size = 38 := ⟨_, hw1.symm, rfl⟩
      have e1 : (w.alloc (.cells X 23)).heap.size = w.heap.size + 1 := by simp
      have e2 : ((w.alloc (.cells X 23)).alloc (.cells SA 35)).heap.size = w.heap.size + 1 + 1 := by simp
      rw [hw, ← hg5, ← hg9, ← hg10]
      exact ⟨by exact ((Blk.new _ _ _).alloc _).alloc _, by rw [← e1]; exact (Blk.new _ _ _).alloc _, ⟨Y10, by rw [← e2]; exact Blk.new _ _ _, hY10⟩, ((((Below.refl _ _).alloc (Nat.le_refl _) _).alloc (by simp) _).alloc (by simp; omega) _)⟩
    have HB5 := Lib.hid hf.1
    have HB9 := Lib.hid hf.2.1
    obtain ⟨rs10, hrs10, hrz10⟩ := hf.2.2.1
    have HB10 := Lib.hid hrs10
    have HRZ10 := Lib.hid hrz10
    have HBW := Lib.hid hf.2.2.2
    have HG5 := Lib.hid (show w.heap.size ≤ g5 by omega)
    have HG9 := Lib.hid (show w.heap.size ≤ g9 by omega)
    have HG10 := Lib.hid (show w.heap.size ≤ g10 by omega)
    clear hf hw1 hrs10 hrz10
    rw [hg10, hg9, hg5]
    clear hg5 hg9 hg10
    go_wp2_with (with_reducible refine wpList_load_blk rfl 23 (.tmp 5) rfl g5 rfl 23 X _ HB5.out Tryd.underlying23 rfl (by rw [HZX.out]; kernel_rfl) ?_)
    with_reducible refine (HLV.out w3 HBW.out).mono ?_
    rintro e w4 ⟨A4, c4, rfl, hv4, hb⟩
    replace HB5 := Lib.hid (HB5.out.below hb HB5.out.lt)
    replace HB9 := Lib.hid (HB9.out.below hb HB9.out.lt)
    replace HB10 := Lib.hid (HB10.out.below hb HB10.out.lt)
    replace HBW := Lib.hid (HBW.out.trans (hb.mono HBW.out.size))
    have HRC := Lib.hid (HRO.out A4 c4 w4 HBW.out hv4)
    have HV4 := Lib.hid hv4
    clear hb HLV HRO hv4
    go_wp2_with fail
    with_reducible refine (HRC.out).mono ?_
    rintro e w5 ⟨rfl, hb⟩
    replace HV4 := Lib.hid (HV4.out.on hb)
    replace HB5 := Lib.hid (HB5.out.below hb HB5.out.lt)
    replace HB9 := Lib.hid (HB9.out.below hb HB9.out.lt)
    replace HB10 := Lib.hid (HB10.out.below hb HB10.out.lt)
    replace HBW := Lib.hid (HBW.out.trans (hb.mono HBW.out.size))
    clear hb HRC
    go_upto_region 3 with (with_reducible refine wpList_store_blk rfl 29 (.tmp 13) (.tmp 27) rfl w5.heap.size K rfl rfl 29 _ (Blk.new _ _ _) (by rw [HZK.out]; kernel_rfl) (by rw [HZK.out]; kernel_rfl) HOK.out ?_)
    generalize hwn : World.setRow _ _ _ = w6
    have hal : Below w5.heap.size w5 w6 := by
      rw [← hwn]
      exact below_row ((Below.refl _ _).alloc (Nat.le_refl _) _) (by simp) (Nat.le_refl _) _
    have HB13 := Lib.hid (show Blk w6 w5.heap.size K 29 by
      rw [← hwn]
      exact (Blk.new _ _ _).row _)
    obtain ⟨g13, hgn⟩ : ∃ g, w5.heap.size = g := ⟨_, rfl⟩
    replace HV4 := Lib.hid (HV4.out.on hal)
    replace HB5 := Lib.hid (HB5.out.below hal HB5.out.lt)
    replace HB9 := Lib.hid (HB9.out.below hal HB9.out.lt)
    replace HB10 := Lib.hid (HB10.out.below hal HB10.out.lt)
    replace HBW := Lib.hid (HBW.out.trans (hal.mono HBW.out.size))
    rw [hgn] at HB13 ⊢
    clear hal hwn hgn
    have HBK := Lib.hid (fun W (hW : Below w6.heap.size w6 W) => HB13.out.below hW HB13.out.lt)
    have HBS := Lib.hid (fun W (hW : Below w6.heap.size w6 W) => HB9.out.below hW HB9.out.lt)
    refine wp_region_loose 12 0 (fun i => false) (promises [.is (.slice A4 N c4), .is (.int .i64 (N : Int)), .is (.bool false), .is (.bool false), .is (.int .i64 (k : Int)), .is (.agg K), .is (.agg Z), .is (.slice B nb cb), .is (.agg SA), .is (.bool false), .is (.bool true), .is (.bool true)]) (by kernel_rfl) rfl (by kernel_rfl) (fun i v w w' h hb => Spec.keep h hb) ⟨?_, ?_, ?_, ?_, ?_, ?_, ?_, ?_, ?_, ?_, ?_, ?_, trivial⟩ ?_
    · refine StepOKl.of ?_
      intro ac w hb hu hk
      refine ⟨wanted_none rfl, ?_⟩
      have e12 : ac.eval (.tmp 12) = .slice A4 N c4 := hu.is (t := 12) (by kernel_rfl)
      exact step_value (BigFrame.run_move (.tmp 12) rfl w) (Below.refl _ _) e12
    · refine StepOKl.of ?_
      intro ac w hb hu hk
      refine ⟨wanted_none rfl, ?_⟩
      have e28 : ac.eval (.tmp 28) = (.slice A4 N c4) := (hk ⟨0, .data⟩ (by simp) rfl).is rfl rfl
      refine step_value (w' := w) (v := (.int .i64 (N : Int))) ?_ (Below.refl _ _) rfl
      generalize ac.eval = ρ at e28 ⊢
      go_simp
    · refine StepOKl.of ?_
      intro ac w hb hu hk
      refine ⟨wanted_none rfl, ?_⟩
      have e29 : ac.eval (.tmp 29) = (.int .i64 (N : Int)) := (hk ⟨1, .data⟩ (by simp) rfl).is rfl rfl
      have hq := HNE.out
      refine step_value (w' := w) (v := .bool false) ?_ (Below.refl _ _) rfl
      have ec : ac.eval (.const (.int .i64 0)) = .int .i64 0 := rfl
      generalize ac.eval = ρ at e29 ec ⊢
      go_simp
      omega
    · refine StepOKl.of ?_
      intro ac w hb hu hk
      refine ⟨wanted_none rfl, ?_⟩
      have e30 : ac.eval (.tmp 30) = (.bool false) := (hk ⟨2, .data⟩ (by simp) rfl).is rfl rfl
      exact step_value (BigFrame.run_move (.tmp 30) rfl w) (Below.refl _ _) e30
    · refine StepOKl.of ?_
      intro ac w hb hu hk
      refine ⟨wanted_some rfl (hk ⟨3, .guard⟩ (by simp) rfl) rfl rfl (fun _ h => h), ?_⟩
      have e1 : ac.eval (.tmp 1) = .int .i64 (k : Int) := hu.is (t := 1) (by kernel_rfl)
      exact step_value (BigFrame.run_move (.tmp 1) rfl w) (Below.refl _ _) e1
    · refine StepOKl.of ?_
      intro ac w hb hu hk
      refine ⟨wanted_some rfl (hk ⟨3, .guard⟩ (by simp) rfl) rfl rfl (fun _ h => h), ?_⟩
      have e13 : ac.eval (.tmp 13) = .pointer (some ⟨g13, 0, none⟩) := hu.is (t := 13) (by kernel_rfl)
      exact wp_load_row 29 (.tmp 13) rfl g13 e13 29 K (0, 0) _ (HBK.out w hb) Tryd.underlying29 rfl (by rw [HZK.out]; kernel_rfl) ⟨_, rfl, rfl, Below.refl _ _⟩
    · refine StepOKl.of ?_
      intro ac w hb hu hk
      refine ⟨wanted_some rfl (hk ⟨3, .chain⟩ (by simp) rfl) rfl rfl (fun _ h => h), ?_⟩
      have e32 : ac.eval (.tmp 32) = (.int .i64 (k : Int)) := (hk ⟨4, .data⟩ (by simp) rfl).is rfl rfl
      have e33 : ac.eval (.tmp 33) = (.agg K) := (hk ⟨5, .data⟩ (by simp) rfl).is rfl rfl
      have ef : ac.eval (.func 40) = .func (.func 40) #[] #[] := rfl
      refine step_enter (f := 40) (args := #[.int .i64 (k : Int), .agg K]) ?_ ?_
      · generalize ac.eval = ρ at e32 e33 ef ⊢
        go_simp
      · exact (HPO.out w (HBW.out.trans (hb.mono HBW.out.size))).mono fun e w' ⟨he, hq⟩ => ⟨_, he, rfl, hq⟩
    · refine StepOKl.of ?_
      intro ac w hb hu hk
      refine ⟨wanted_some rfl (hk ⟨3, .guard⟩ (by simp) rfl) rfl rfl (fun _ h => h), ?_⟩
      have e3 : ac.eval (.tmp 3) = .slice B nb cb := hu.is (t := 3) (by kernel_rfl)
      exact step_value (BigFrame.run_move (.tmp 3) rfl w) (Below.refl _ _) e3
    · refine StepOKl.of ?_
      intro ac w hb hu hk
      refine ⟨wanted_some rfl (hk ⟨3, .guard⟩ (by simp) rfl) rfl rfl (fun _ h => h), ?_⟩
      have e9 : ac.eval (.tmp 9) = .pointer (some ⟨g9, 0, none⟩) := hu.is (t := 9) (by kernel_rfl)
      exact wp_load_row 35 (.tmp 9) rfl g9 e9 35 SA (0, 0) _ (HBS.out w hb) Tryd.underlying35 rfl (by rw [HZSA.out]; kernel_rfl) ⟨_, rfl, rfl, Below.refl _ _⟩
    · refine StepOKl.of ?_
      intro ac w hb hu hk
      refine ⟨wanted_some rfl (hk ⟨3, .guard⟩ (by simp) rfl) rfl rfl (fun _ h => h), ?_⟩
      have e34 : ac.eval (.tmp 34) = (.agg Z) := (hk ⟨6, .data⟩ (by simp) rfl).is rfl rfl
      have e35 : ac.eval (.tmp 35) = (.slice B nb cb) := (hk ⟨7, .data⟩ (by simp) rfl).is rfl rfl
      have e36 : ac.eval (.tmp 36) = (.agg SA) := (hk ⟨8, .data⟩ (by simp) rfl).is rfl rfl
      have ef : ac.eval (.func 15) = .func (.func 15) #[] #[] := rfl
      refine step_enter (f := 15) (args := #[.agg Z, .slice B nb cb, .agg SA]) ?_ ?_
      · generalize ac.eval = ρ at e34 e35 e36 ef ⊢
        go_simp
      · exact (HVE.out w (HBW.out.trans (hb.mono HBW.out.size))).mono fun e w' ⟨he, hq⟩ => ⟨_, he, rfl, hq⟩
    · refine StepOKl.of ?_
      intro ac w hb hu hk
      refine ⟨wanted_some rfl (hk ⟨3, .guard⟩ (by simp) rfl) rfl rfl (fun _ h => h), ?_⟩
      have e37 : ac.eval (.tmp 37) = (.bool false) := (hk ⟨9, .data⟩ (by simp) rfl).is rfl rfl
      exact step_value (run_not e37 rfl w) (Below.refl _ _) rfl
    · refine StepOKl.of ?_
      intro ac w hb hu hk
      refine ⟨wanted_none rfl, ?_⟩
      have e31 : ac.eval (.tmp 31) = (.bool false) := (hk ⟨3, .data⟩ (by simp) rfl).is rfl rfl
      have e38 : ac.eval (.tmp 38) = (.bool true) := (hk ⟨10, .data⟩ (by simp) rfl).is rfl rfl
      exact step_value (run_pick_false e31 rfl w) (Below.refl _ _) e38
    · intro ac w' hb hu hk hap
      obtain ⟨_, h28, rfl⟩ := (hk 0 (by decide)).put rfl rfl
      obtain ⟨_, h29, rfl⟩ := (hk 1 (by decide)).put rfl rfl
      obtain ⟨_, h30, rfl⟩ := (hk 2 (by decide)).put rfl rfl
      obtain ⟨_, h31, rfl⟩ := (hk 3 (by decide)).put rfl rfl
      obtain ⟨_, h32, rfl⟩ := (hk 4 (by decide)).put rfl rfl
      obtain ⟨_, h33, rfl⟩ := (hk 5 (by decide)).put rfl rfl
      obtain ⟨_, h34, rfl⟩ := (hk 6 (by decide)).put rfl rfl
      obtain ⟨_, h35, rfl⟩ := (hk 7 (by decide)).put rfl rfl
      obtain ⟨_, h36, rfl⟩ := (hk 8 (by decide)).put rfl rfl
      obtain ⟨_, h37, rfl⟩ := (hk 9 (by decide)).put rfl rfl
      obtain ⟨_, h38, rfl⟩ := (hk 10 (by decide)).put rfl rfl
      obtain ⟨_, h39, rfl⟩ := (hk 11 (by decide)).put rfl rfl
      clear hap
      have hF : AllPuts ac.tmps ((28, _) :: (29, _) :: (30, _) :: (31, _) :: (32, _) :: (33, _) :: (34, _) :: (35, _) :: (36, _) :: (37, _) :: (38, _) :: (39, _) :: []) := ⟨h28, h29, h30, h31, h32, h33, h34, h35, h36, h37, h38, h39, trivial⟩
      obtain rfl := frame_puts hu (by kernel_rfl) hF
      simp only [puts, Act.put, List.setIfInBounds_toArray, List.set_cons_zero, List.set_cons_succ, List.drop_succ_cons, List.drop_nil]
      clear hk hu hF h28 h29 h30 h31 h32 h33 h34 h35 h36 h37 h38 h39
      replace HB10 := Lib.hid (HB10.out.below hb HB10.out.lt)
      replace HBW := Lib.hid (HBW.out.trans (hb.mono HBW.out.size))
      clear hb HPO HVE HBK HBS HB5 HB9 HB13 HV4
      go_wp2_with (first
        | (with_reducible refine wpList_build_forge0 rfl rfl FZ HEFZ.out ?_)
        | (with_reducible refine wpList_store_blk rfl 43 (.tmp 10) (.tmp 40) rfl g10 FZ rfl rfl 43 rs10 HB10.out (by rw [HZFZ.out]; kernel_rfl) (by rw [HZFZ.out, HRZ10.out]) HOFZ.out ?_))
      refine bodyPost_ret (v := .tuple #[.agg FZ, .bool false]) (results_cell_tmp (p := 10) (q := 11) (ty := 43) (by kernel_rfl) _ _ g10 43 _ (0, 0) _ (.bool false) rfl rfl (HB10.out.row FZ) Tryd.underlying43 rfl (by rw [HZFZ.out]; kernel_rfl)) rfl ⟨by rw [HEFZ.out], below_row HBW.out HBW.out.size HG10.out _⟩
end Go.Proofs.YtfgieebccjoboaaDoor
