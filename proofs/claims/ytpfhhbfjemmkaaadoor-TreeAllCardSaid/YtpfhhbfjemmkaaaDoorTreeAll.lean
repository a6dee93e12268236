/- TreeAll: each leaf's proof leads to the root; another leaf, another place, a hash turned does not. For all leaves, places and bits. -/
import Derived.Test.YtpfhhbfjemmkaaaDoorLaw7
import Derived.Test.YtpfhhbfjemmkaaaDoorPTAll
import Derived.Test.YtpfhhbfjemmkaaaDoorTree7
import Derived.Test.YtpfhhbfjemmkaaaDoorRTMay
import Derived.Test.YtpfhhbfjemmkaaaDoorPutH
import Derived.Test.YtpfhhbfjemmkaaaDoorAesB
namespace Go.Proofs.YtpfhhbfjemmkaaaDoor.treeAll
open Go.ChangeShapes Go.WideShapes Go.ChangeAt Go.RowKit

theorem set_getD {α : Type} {l : List α} {i : Nat} (x d : α) (h : i < l.length) : (l.set i x).getD i d = x := by
  simp [List.getD_eq_getElem?_getD, h]
theorem xor_one_ne (a : UInt8) : a ^^^ 1 ≠ a := fun h => by
  have h1 := congrArg (fun b => a ^^^ b) h
  simp only [← UInt8.xor_assoc, UInt8.xor_self, UInt8.zero_xor] at h1
  exact absurd h1 (by decide)
theorem own_some {w : World} {B n c : Nat} {A : Option Addr} {hs : List (List UInt8)} (h : OwnH w B (.slice A n c) hs) (hn : hs.length = n) (h0 : 0 < n) : ∃ g, A = some ⟨g, 0, none⟩ ∧ B ≤ g := by
  rcases h.2.2 with ⟨e, hl⟩ | ⟨g, cap, cur, e, h2, _⟩
  · injection e with e1 e2
    omega
  · injection e with e1
    exact ⟨g, e1, h2⟩
theorem own_byte {w : World} {B g n c i : Nat} {hs : List (List UInt8)} (h : OwnH w B (.slice (some ⟨g, 0, none⟩) n c) hs) (hi : i < n) : w.cell? ⟨g, i * 32, none⟩ = some (.int .u8 ((((hs.getD i []).getD 0 0).toNat : Nat) : Int)) := by
  obtain ⟨b, off, e, _, hra, hl⟩ := h.hv.at_ (i := i) hi
  injection e with e
  injection e with e1 e2
  subst e1 e2
  generalize hs.getD i [] = l at *
  have hl0 : l[0]? = some (l.getD 0 0) := by
    rw [List.getD_eq_getElem?_getD, List.getElem?_eq_getElem (show 0 < l.length by omega)]
    rfl
  have h2 := hra 0 (.int .u8 (((l.getD 0 0).toNat : Nat) : Int)) (by
    rw [Lib.byteCells, List.getElem?_map, hl0]
    rfl)
  rw [Nat.zero_add, Nat.add_zero] at h2
  exact h2
/-- A block as new as the cell isn't read. -/
def FarR (p : Addr) (A : Option Addr) (ps : List (List UInt8)) : Prop := ps = [] ∨ ∃ b o, A = some ⟨b, o, none⟩ ∧ b ≠ p.block
theorem far_rd {w : World} {A : Option Addr} {ps : List (List UInt8)} {p : Addr} (h : RdH w w.heap.size A ps) (hp : w.heap.size ≤ p.block) : FarR p A ps := by
  rcases h with h | ⟨b, o, e, hb, _⟩
  · exact .inl h
  · exact .inr ⟨b, o, e, by omega⟩
theorem hv_other {w : World} {A : Option Addr} {n c : Nat} {ps : List (List UInt8)} {p : Addr} (h : HV w (.slice A n c) ps) (u : Value) (hf : FarR p A ps) : HV (w.setCell p u) (.slice A n c) ps := by
  obtain ⟨h0, X, d, e, h1, h2⟩ := h
  injection e with e1 e2 e3
  subst e1 e2 e3
  refine ⟨h0, A, c, rfl, h1, ?_⟩
  rcases h2 with h2 | ⟨b, o, e, hb, hc⟩
  · exact .inl h2
  · refine .inr ⟨b, o, e, by simpa using hb, fun i hi => rangeAt_keep (hc i hi) fun j => ?_⟩
    rcases hf with hf | ⟨b', o', e', hne⟩
    · rw [hf] at hi; simp at hi
    · rw [e] at e'
      injection e' with e'
      injection e' with e1 e2
      exact World.cell?_setCell_far _ _ _ _ (fun e2 => hne (by rw [← e1]; exact e2.symm))
theorem blk_other {w : World} {g : Nat} {cs : Array Value} {T : TypeId} (h : Blk w g cs T) (p : Addr) (u : Value) (hne : p.block ≠ g) : Blk (w.setCell p u) g cs T := (Below.heap_setCell w p u g (fun e => hne e.symm)).trans h
set_option maxRecDepth 100000 in
set_option maxHeartbeats 16000000 in
theorem walk (A : Option Addr) (m c : Nat) (l : List (List UInt8)) (i0 k0 b0 : Int) (w : World) (hl : l.length = m) (hc : m ≤ c) (hz : ∀ r ∈ l, r.length = 32) (hr : RdH w w.heap.size A l) (hi0 : -9223372036854775808 ≤ i0) (hi1 : i0 ≤ 9223372036854775807) (hk0 : -9223372036854775808 ≤ k0) (hk1 : k0 ≤ 9223372036854775807) (hb0 : -9223372036854775808 ≤ b0) (hb1 : b0 ≤ 9223372036854775807) (htab : Pow10 w.heap.size w) :
    Calls Tryd.prog 8 #[.slice A m c, .int .i64 i0, .int .i64 k0, .int .i64 b0] w fun e w' => e = .returned (.bool true) ∧ Below w.heap.size w w' := by
  obtain ⟨z, ks, hcut, hkz, hz18, hzc, hkl, hkr⟩ := cut7 A m c 18 18 rfl l w hl hc hz hr
  have HCUT := Lib.hid hcut
  have HT := Lib.hid htab
  have HKZ := Lib.hid hkz
  have HKL := Lib.hid hkl
  have HKR := Lib.hid hkr
  have HBW := Lib.hid (Below.refl w.heap.size w)
  have HBO := Lib.hid (Below.refl w.heap.size w)
  clear hcut hl hc hz hr htab hkz hkl hkr
  by_cases hz0 : z = 0
  · subst hz0
    clear HKR HKL HKZ
    go_enter Tryd.func8, Tryd.ntmps8
    go_wp2_with fail
    with_reducible refine (HCUT.out _).mono ?_
    rintro e wx ⟨rfl, rfl⟩
    go_wp2_with fail
    with_reducible refine (wakes7_any w (tab_in HT.out HBW.out)).mono ?_
    rintro e wz ⟨rfl, hb⟩
    replace HBW := Lib.hid (HBW.out.trans (hb.mono HBW.out.size))
    clear hb
    go_wp2_with fail
    go_ret
    exact ⟨by kernel_rfl, HBO.out.trans (HBW.out.mono HBO.out.size)⟩
  · have hzi0 : ¬ (z : Int) = 0 := by omega
    have HW1 := Lib.hid (fun W => within_any i0 (z : Int) W hi0 hi1 (by omega))
    have HW2 := Lib.hid (fun W => within_any k0 (z : Int) W hk0 hk1 (by omega))
    have HW3 := Lib.hid (fun W => within_any b0 32 W hb0 hb1 (by omega))
    obtain ⟨q1, q2⟩ := withinI_range i0 (z : Int) (by omega)
    obtain ⟨q3, q4⟩ := withinI_range k0 (z : Int) (by omega)
    obtain ⟨q5, q6⟩ := withinI_range b0 32 (by omega)
    obtain ⟨I, hI⟩ : ∃ I : Nat, withinI i0 (z : Int) = (I : Int) := ⟨(withinI i0 (z : Int)).toNat, by omega⟩
    obtain ⟨k1, hk⟩ : ∃ J : Nat, withinI k0 (z : Int) = (J : Int) := ⟨(withinI k0 (z : Int)).toNat, by omega⟩
    obtain ⟨bt, hbt⟩ : ∃ J : Nat, withinI b0 32 = (J : Int) := ⟨(withinI b0 32).toNat, by omega⟩
    rw [hI] at HW1
    rw [hk] at HW2
    rw [hbt] at HW3
    have hIz : I < z := by omega
    have hIi : (I : Int) < (z : Int) := by omega
    have hI0 : (0 : Int) ≤ (I : Int) := by omega
    have hbt32 : bt < 32 := by omega
    have hbti : (bt : Int) < 32 := by omega
    have hbt0 : (0 : Int) ≤ (bt : Int) := by omega
    have hk1z : k1 < z := by omega
    clear q1 q2 q3 q4 q5 q6 hI hk hbt hi0 hi1 hk0 hk1 hb0 hb1
    obtain ⟨V, hV⟩ : ∃ X, u8A (rootV ks) = X := ⟨_, rfl⟩
    have HEV := Lib.hid hV
    obtain ⟨q, hq⟩ : ∃ X, tree.high z = X := ⟨_, rfl⟩
    have HEq := Lib.hid hq
    have hvl : (rootV ks).length = 32 := rootV_len HKL.out
    have HLV := Lib.hid hvl
    have HZV := Lib.hid (show V.size = 32 by rw [← hV, u8A_size]; exact hvl)
    have HIV := Lib.hid (show (Tryd.prog.info? 25).map (·.size) = some V.size by rw [HZV.out]; kernel_rfl)
    have HOV := Lib.hid (show V.all (·.oneCell') = true by rw [← hV]; exact u8A_one _)
    have hq5 : q ≤ 5 := by rw [← hq]; exact tree.high_least 5 z (by omega)
    have HPL := Lib.hid (fun i => (show (proofV ks i).length = q by rw [proofV_len, HKZ.out, hq]))
    have HRT := Lib.hid (show Calls Tryd.prog 14 #[.slice A z c] w fun e w' => e = .returned (.agg V) ∧ Below w.heap.size w w' by
      rw [← hV]
      exact proot_any A z c ks w HKZ.out (by omega) HKL.out HKR.out HT.out)
    have HPF := Lib.hid (fun W i (hi : i < z) (h : Below w.heap.size w W) => (show Calls Tryd.prog 15 #[.int .i64 (i : Int), .slice A z c] W fun e w' => ∃ v, e = .returned (.tuple #[v, .int .i64 0]) ∧ OwnH w' W.heap.size v (proofV ks i) ∧ Below W.heap.size W w' from
      pproof_yes A z c i ks W HKZ.out (by omega) hi HKL.out (HKR.out.on h) (tab_in HT.out h)))
    -- Check of any leaf with any proof of the right length at any place
    have HCKA := Lib.hid (fun W (i : Int) A1 n1 c1 y p (hy : y.length = 32) (hp : p.length = n1) (hn1 : n1 ≤ 1024) (h : Below w.heap.size w W) (hv : HV W (.slice A1 n1 c1) p) => (show Calls Tryd.prog 17 #[.agg V, .int .i64 (z : Int), .int .i64 i, .agg (u8A y), .slice A1 n1 c1] W fun e w' => e = .returned (.bool (decide (climbOK (z : Int) i p.length ∧ climbV (z : Int) i y p = rootV ks))) ∧ Below W.heap.size W w' from by
      rw [← hV]
      exact pcheck_any (rootV ks) (z : Int) i y A1 n1 c1 p W hvl hp hn1 hy hv.1 hv.rd (tab_in HT.out h)))
    have HOK := Lib.hid (fun (i : Nat) (hi : i < z) => (show climbOK (z : Int) (i : Int) q ∧ climbV (z : Int) (i : Int) (ks.getD i []) (proofV ks i) = rootV ks by
      have h1 := own_climb (l := ks) (i := i) (by rw [HKZ.out]; exact hi) (by rw [HKZ.out]; omega)
      have h2 := own_ok (l := ks) (i := i) (by rw [HKZ.out]; exact hi) (by rw [HKZ.out]; omega)
      rw [HKZ.out] at h1 h2
      rw [HPL.out] at h2
      exact ⟨h2, h1⟩))
    have hv0 := HKR.out.hv (c := c) HKZ.out hzc HKL.out
    obtain ⟨gb, off, hA, hgb, _, _⟩ := hv0.at_ (i := I) hIz
    subst hA
    have HAT := Lib.hid (fun (i : Nat) (hi : i < z) => (show (ks.getD i []).length = 32 ∧ ∀ W, Below w.heap.size w W → W.rangeAt gb (off + i * 32) (Lib.byteCells (ks.getD i [])) from by
      obtain ⟨_, _, e1, hb1, hx, hl⟩ := hv0.at_ (i := i) hi
      injection e1 with e1
      injection e1 with e1 e2
      subst e1 e2
      exact ⟨hl, fun W h => rangeAt_keep hx fun j => h.cell (p := ⟨gb, _, none⟩) hb1⟩))
    clear hV hvl hv0 hgb hq
    go_enter Tryd.func8, Tryd.ntmps8
    go_wp2_with fail
    with_reducible refine (HCUT.out _).mono ?_
    rintro e wx ⟨rfl, rfl⟩
    clear HCUT
    go_wp2_with fail
    with_reducible refine (HRT.out).mono ?_
    rintro e w3 ⟨rfl, hb⟩
    replace HBW := Lib.hid hb
    clear hb HRT
    go_upto_region 5 with (with_reducible refine wpList_store_blk rfl 25 (.tmp 9) (.tmp 28) rfl w3.heap.size V rfl rfl 25 _ (Blk.new _ _ _) (by rw [HZV.out]; kernel_rfl) (by rw [HZV.out]; kernel_rfl) HOV.out ?_)
    generalize hww4 : World.setRow _ _ _ = w4
    have hal : Below w3.heap.size w3 w4 := by
      rw [← hww4]
      exact below_row ((Below.refl _ _).alloc (Nat.le_refl _) _) (by simp) (Nat.le_refl _) _
    have HB9 := Lib.hid (show Blk w4 w3.heap.size V 25 by
      rw [← hww4]
      exact (Blk.new _ _ _).row _)
    replace HBW := Lib.hid (HBW.out.trans (hal.mono HBW.out.size))
    clear hal hww4
    go_wp2_with fail
    go_loopw [10, 11, 12, 31] (fun _ _ _ t wq => ∃ j : Nat, j ≤ z ∧ t = .int .i64 (j : Int) ∧ Hid (Blk wq w3.heap.size V 25) ∧ Hid (Below w.heap.size w wq)) (fun _ _ _ t _ => z - (intOf t).toNat)
    case atStart => exact ⟨0, Nat.zero_le _, rfl, HB9, HBW⟩
    case round =>
      clear HB9 HBW
      obtain ⟨j, hjz, rfl, HB9, HBW⟩ := hrel
      by_cases hlt : j < z
      · have hji : (j : Int) < (z : Int) := by omega
        have hj0 : (0 : Int) ≤ (j : Int) := by omega
        have hPj := HPF.out wr j hlt HBW.out
        have HPJ := Lib.hid hPj
        obtain ⟨hyl, hyr⟩ := HAT.out j hlt
        obtain ⟨ho1, ho2⟩ := HOK.out j hlt
        have HLJ := Lib.hid (HPL.out j)
        generalize proofV ks j = pj at *
        generalize ks.getD j [] = y at *
        have HLY := Lib.hid hyl
        have HYR := Lib.hid hyr
        obtain ⟨Y, hY⟩ : ∃ X, u8A y = X := ⟨_, rfl⟩
        have HEY := Lib.hid hY
        have HCJ := Lib.hid (fun W A1 c1 (h : Below w.heap.size w W) (hv : HV W (.slice A1 q c1) pj) => (show Calls Tryd.prog 17 #[.agg V, .int .i64 (z : Int), .int .i64 (j : Int), .agg Y, .slice A1 q c1] W fun e w' => e = .returned (.bool true) ∧ Below W.heap.size W w' from by
          have h2 := HCKA.out W (j : Int) A1 q c1 y pj HLY.out HLJ.out (by omega) h hv
          rw [decide_eq_true ⟨by rw [HLJ.out]; exact ho1, ho2⟩, HEY.out] at h2
          exact h2))
        clear hPj hyl hyr ho1 ho2 hY
        go_wp2_with fail
        with_reducible refine (HPJ.out).mono ?_
        rintro e w6 ⟨vj, rfl, hown, hb⟩
        obtain ⟨Aj, cj, rfl, _, _⟩ := hown.form HLJ.out
        have HVJ := Lib.hid hown.hv
        replace HB9 := Lib.hid (HB9.out.below hb HB9.out.lt)
        replace HBW := Lib.hid (HBW.out.trans (hb.mono HBW.out.size))
        clear hb hown HPJ
        have HRY := Lib.hid (fun W (h : Below w6.heap.size w6 W) => HYR.out W (HBW.out.trans (h.mono HBW.out.size)))
        have HCK := Lib.hid (fun W (h : Below w6.heap.size w6 W) => HCJ.out W Aj cj (HBW.out.trans (h.mono HBW.out.size)) (HVJ.out.on h))
        have HB9L := Lib.hid (show Blk w6 w3.heap.size (u8A (rootV ks)) 25 by rw [HEV.out]; exact HB9.out)
        have HRV := Lib.hid (fun W (h : Below w6.heap.size w6 W) => range_of_blk (HB9L.out.below h HB9L.out.lt))
        clear HCJ HYR
        go_wp2_with fail
        refine wp_region_loose 15 0 (fun i => false) (promises [.is (.int .i64 0), .is (.bool false), .is (.bool false), .is (.agg V), .is (.slice (some ⟨gb, off, none⟩) z c), .is (.int .i64 (z : Int)), .is (.int .i64 (j : Int)), .is (.slice (some ⟨gb, off, none⟩) z c), .is (.int .i64 (j : Int)), .is (.pointer (some ⟨gb, off + j * 32, none⟩)), .is (.agg Y), .is (.slice Aj q cj), .is (.bool true), .is (.bool false), .is (.bool false)]) (by kernel_rfl) rfl (by kernel_rfl) (fun i v w w' h hb => Spec.keep h hb) ⟨?_, ?_, ?_, ?_, ?_, ?_, ?_, ?_, ?_, ?_, ?_, ?_, ?_, ?_, ?_, trivial⟩ ?_
        · refine StepOKl.of ?_
          intro ac w hb hu hk
          refine ⟨wanted_none rfl, ?_⟩
          have e12 : ac.eval (.tmp 12) = .int .i64 0 := hu.is (t := 12) (by kernel_rfl)
          exact step_value (BigFrame.run_move (.tmp 12) rfl w) (Below.refl _ _) e12
        · refine StepOKl.of ?_
          intro ac w hb hu hk
          refine ⟨wanted_none rfl, ?_⟩
          have e40 : ac.eval (.tmp 40) = (.int .i64 0) := (hk ⟨0, .data⟩ (by simp) rfl).is rfl rfl
          refine step_value (w' := w) (v := (.bool false)) ?_ (Below.refl _ _) rfl
          have ec0 : ac.eval (.const (Value.int IntKind.i64 0)) = Value.int IntKind.i64 0 := rfl
          generalize ac.eval = ρ at e40 ec0 ⊢
          go_simp
        · refine StepOKl.of ?_
          intro ac w hb hu hk
          refine ⟨wanted_none rfl, ?_⟩
          have e41 : ac.eval (.tmp 41) = (.bool false) := (hk ⟨1, .data⟩ (by simp) rfl).is rfl rfl
          exact step_value (BigFrame.run_move (.tmp 41) rfl w) (Below.refl _ _) e41
        · refine StepOKl.of ?_
          intro ac w hb hu hk
          refine ⟨wanted_some rfl (hk ⟨2, .guard⟩ (by simp) rfl) rfl rfl (fun _ h => h), ?_⟩
          have e9 : ac.eval (.tmp 9) = .pointer (some ⟨w3.heap.size, 0, none⟩) := hu.is (t := 9) (by kernel_rfl)
          refine step_value (w' := w) (v := .agg V) (run_load_hash (.tmp 9) rfl w3.heap.size (0) e9 (rootV ks) HLV.out (HRV.out w hb) HEV.out) (Below.refl _ _) rfl
        · refine StepOKl.of ?_
          intro ac w hb hu hk
          refine ⟨wanted_some rfl (hk ⟨2, .guard⟩ (by simp) rfl) rfl rfl (fun _ h => h), ?_⟩
          have e0 : ac.eval (.tmp 0) = .slice (some ⟨gb, off, none⟩) z c := hu.is (t := 0) (by kernel_rfl)
          exact step_value (BigFrame.run_move (.tmp 0) rfl w) (Below.refl _ _) e0
        · refine StepOKl.of ?_
          intro ac w hb hu hk
          refine ⟨wanted_some rfl (hk ⟨2, .guard⟩ (by simp) rfl) rfl rfl (fun _ h => h), ?_⟩
          have e44 : ac.eval (.tmp 44) = (.slice (some ⟨gb, off, none⟩) z c) := (hk ⟨4, .data⟩ (by simp) rfl).is rfl rfl
          refine step_value (w' := w) (v := (.int .i64 (z : Int))) ?_ (Below.refl _ _) rfl
          generalize ac.eval = ρ at e44 ⊢
          go_simp
        · refine StepOKl.of ?_
          intro ac w hb hu hk
          refine ⟨wanted_some rfl (hk ⟨2, .guard⟩ (by simp) rfl) rfl rfl (fun _ h => h), ?_⟩
          have e10 : ac.eval (.tmp 10) = .int .i64 (j : Int) := hu.is (t := 10) (by kernel_rfl)
          exact step_value (BigFrame.run_move (.tmp 10) rfl w) (Below.refl _ _) e10
        · refine StepOKl.of ?_
          intro ac w hb hu hk
          refine ⟨wanted_some rfl (hk ⟨2, .guard⟩ (by simp) rfl) rfl rfl (fun _ h => h), ?_⟩
          have e0 : ac.eval (.tmp 0) = .slice (some ⟨gb, off, none⟩) z c := hu.is (t := 0) (by kernel_rfl)
          exact step_value (BigFrame.run_move (.tmp 0) rfl w) (Below.refl _ _) e0
        · refine StepOKl.of ?_
          intro ac w hb hu hk
          refine ⟨wanted_some rfl (hk ⟨2, .guard⟩ (by simp) rfl) rfl rfl (fun _ h => h), ?_⟩
          have e10 : ac.eval (.tmp 10) = .int .i64 (j : Int) := hu.is (t := 10) (by kernel_rfl)
          exact step_value (BigFrame.run_move (.tmp 10) rfl w) (Below.refl _ _) e10
        · refine StepOKl.of ?_
          intro ac w hb hu hk
          refine ⟨wanted_some rfl (hk ⟨2, .guard⟩ (by simp) rfl) rfl rfl (fun _ h => h), ?_⟩
          have e47 : ac.eval (.tmp 47) = (.slice (some ⟨gb, off, none⟩) z c) := (hk ⟨7, .data⟩ (by simp) rfl).is rfl rfl
          have e48 : ac.eval (.tmp 48) = (.int .i64 (j : Int)) := (hk ⟨8, .data⟩ (by simp) rfl).is rfl rfl
          refine step_value (w' := w) (v := (.pointer (some ⟨gb, off + j * 32, none⟩))) ?_ (Below.refl _ _) rfl
          generalize ac.eval = ρ at e47 e48 ⊢
          go_simp
        · refine StepOKl.of ?_
          intro ac w hb hu hk
          refine ⟨wanted_some rfl (hk ⟨2, .guard⟩ (by simp) rfl) rfl rfl (fun _ h => h), ?_⟩
          have e49 : ac.eval (.tmp 49) = (.pointer (some ⟨gb, off + j * 32, none⟩)) := (hk ⟨9, .data⟩ (by simp) rfl).is rfl rfl
          refine step_value (w' := w) (v := .agg Y) (run_load_hash (.tmp 49) rfl gb (off + j * 32) e49 y HLY.out (HRY.out w hb) HEY.out) (Below.refl _ _) rfl
        · refine StepOKl.of ?_
          intro ac w hb hu hk
          refine ⟨wanted_some rfl (hk ⟨2, .guard⟩ (by simp) rfl) rfl rfl (fun _ h => h), ?_⟩
          have e11 : ac.eval (.tmp 11) = .slice Aj q cj := hu.is (t := 11) (by kernel_rfl)
          exact step_value (BigFrame.run_move (.tmp 11) rfl w) (Below.refl _ _) e11
        · refine StepOKl.of ?_
          intro ac w hb hu hk
          refine ⟨wanted_some rfl (hk ⟨2, .chain⟩ (by simp) rfl) rfl rfl (fun _ h => h), ?_⟩
          have e43 : ac.eval (.tmp 43) = (.agg V) := (hk ⟨3, .data⟩ (by simp) rfl).is rfl rfl
          have e45 : ac.eval (.tmp 45) = (.int .i64 (z : Int)) := (hk ⟨5, .data⟩ (by simp) rfl).is rfl rfl
          have e46 : ac.eval (.tmp 46) = (.int .i64 (j : Int)) := (hk ⟨6, .data⟩ (by simp) rfl).is rfl rfl
          have e50 : ac.eval (.tmp 50) = (.agg Y) := (hk ⟨10, .data⟩ (by simp) rfl).is rfl rfl
          have e51 : ac.eval (.tmp 51) = (.slice Aj q cj) := (hk ⟨11, .data⟩ (by simp) rfl).is rfl rfl
          have ef : ac.eval (.func 17) = .func (.func 17) #[] #[] := rfl
          refine step_enter (f := 17) (args := #[.agg V, .int .i64 (z : Int), .int .i64 (j : Int), .agg Y, .slice Aj q cj]) ?_ ?_
          · generalize ac.eval = ρ at e43 e45 e46 e50 e51 ef ⊢
            go_simp
          · exact (HCK.out w hb).mono fun e w' ⟨he, hq⟩ => ⟨_, he, rfl, hq⟩
        · refine StepOKl.of ?_
          intro ac w hb hu hk
          refine ⟨wanted_some rfl (hk ⟨2, .guard⟩ (by simp) rfl) rfl rfl (fun _ h => h), ?_⟩
          have e52 : ac.eval (.tmp 52) = (.bool true) := (hk ⟨12, .data⟩ (by simp) rfl).is rfl rfl
          exact step_value (run_not e52 rfl w) (Below.refl _ _) rfl
        · refine StepOKl.of ?_
          intro ac w hb hu hk
          refine ⟨wanted_none rfl, ?_⟩
          have e42 : ac.eval (.tmp 42) = (.bool false) := (hk ⟨2, .data⟩ (by simp) rfl).is rfl rfl
          have e53 : ac.eval (.tmp 53) = (.bool false) := (hk ⟨13, .data⟩ (by simp) rfl).is rfl rfl
          refine step_value (w' := w) (v := .bool false) ?_ (Below.refl _ _) rfl
          generalize ac.eval = ρ at e42 e53 ⊢
          go_simp
        · intro ac w' hb hu hk hap
          obtain ⟨_, h40, rfl⟩ := (hk 0 (by decide)).put rfl rfl
          obtain ⟨_, h41, rfl⟩ := (hk 1 (by decide)).put rfl rfl
          obtain ⟨_, h42, rfl⟩ := (hk 2 (by decide)).put rfl rfl
          obtain ⟨_, h43, rfl⟩ := (hk 3 (by decide)).put rfl rfl
          obtain ⟨_, h44, rfl⟩ := (hk 4 (by decide)).put rfl rfl
          obtain ⟨_, h45, rfl⟩ := (hk 5 (by decide)).put rfl rfl
          obtain ⟨_, h46, rfl⟩ := (hk 6 (by decide)).put rfl rfl
          obtain ⟨_, h47, rfl⟩ := (hk 7 (by decide)).put rfl rfl
          obtain ⟨_, h48, rfl⟩ := (hk 8 (by decide)).put rfl rfl
          obtain ⟨_, h49, rfl⟩ := (hk 9 (by decide)).put rfl rfl
          obtain ⟨_, h50, rfl⟩ := (hk 10 (by decide)).put rfl rfl
          obtain ⟨_, h51, rfl⟩ := (hk 11 (by decide)).put rfl rfl
          obtain ⟨_, h52, rfl⟩ := (hk 12 (by decide)).put rfl rfl
          obtain ⟨_, h53, rfl⟩ := (hk 13 (by decide)).put rfl rfl
          obtain ⟨_, h54, rfl⟩ := (hk 14 (by decide)).put rfl rfl
          clear hap
          have hF : AllPuts ac.tmps ((40, _) :: (41, _) :: (42, _) :: (43, _) :: (44, _) :: (45, _) :: (46, _) :: (47, _) :: (48, _) :: (49, _) :: (50, _) :: (51, _) :: (52, _) :: (53, _) :: (54, _) :: []) := ⟨h40, h41, h42, h43, h44, h45, h46, h47, h48, h49, h50, h51, h52, h53, h54, trivial⟩
          obtain rfl := frame_puts hu (by kernel_rfl) hF
          simp only [puts, Act.put, List.setIfInBounds_toArray, List.set_cons_zero, List.set_cons_succ, List.drop_succ_cons, List.drop_nil]
          clear hk hu hF h40 h41 h42 h43 h44 h45 h46 h47 h48 h49 h50 h51 h52 h53 h54
          have hbb := hb
          replace HBW := Lib.hid (HBW.out.trans (hb.mono HBW.out.size))
          replace HB9 := Lib.hid (HB9.out.below hbb HB9.out.lt)
          clear hb hbb HCK HRY HRV HB9L
          go_wp2_with fail
          go_roundw
          case rel => exact ⟨j + 1, hlt, by go_num, HB9, HBW⟩
          case measure => simp [intOf]; omega
      · obtain rfl : z = j := by omega
        have hji : ¬ (z : Int) < (z : Int) := by omega
        obtain ⟨w5, rfl⟩ : ∃ y : World, y = wr := ⟨_, rfl⟩
        obtain ⟨hxl, hxr⟩ := HAT.out I hIz
        obtain ⟨ho1, ho2⟩ := HOK.out I hIz
        have HPI := Lib.hid (HPF.out w5 I hIz HBW.out)
        have HLP := Lib.hid (HPL.out I)
        have HRP : ∃ p, proofV ks I = p := ⟨_, rfl⟩
        obtain ⟨ps, hps⟩ := HRP
        obtain ⟨x, hx⟩ : ∃ x, ks.getD I [] = x := ⟨_, rfl⟩
        rw [hps] at HPI HLP ho2
        rw [hx] at hxl hxr ho2
        have HLX := Lib.hid hxl
        have HO1 := Lib.hid ho1
        have HO2 := Lib.hid ho2
        have HRG0 := Lib.hid (fun W (h : Below w.heap.size w W) => hxr W h)
        obtain ⟨X, hX⟩ : ∃ X, u8A x = X := ⟨_, rfl⟩
        have HEX := Lib.hid hX
        have HZX := Lib.hid (show X.size = 32 by rw [← hX, u8A_size]; exact hxl)
        have HIX := Lib.hid (show (Tryd.prog.info? 25).map (·.size) = some X.size by rw [HZX.out]; kernel_rfl)
        have HOX := Lib.hid (show X.all (·.oneCell') = true by rw [← hX]; exact u8A_one _)
        clear hX hxl hxr hx hps ho1 ho2 HAT HOK HPF HPL
        go_wp2_with fail
        with_reducible refine (HW1.out _).mono ?_
        rintro e wx ⟨rfl, rfl⟩
        go_wp2_with fail
        with_reducible refine (HW2.out _).mono ?_
        rintro e wx ⟨rfl, rfl⟩
        clear HW1 HW2
        go_wp2_with fail
        with_reducible refine (HPI.out).mono ?_
        rintro e wb ⟨v1, rfl, hown, hb⟩
        obtain ⟨A1, c1, rfl, hqc1, _⟩ := hown.form HLP.out
        have HV1 := Lib.hid hown.hv
        replace HB9 := Lib.hid (HB9.out.below hb HB9.out.lt)
        replace HBW := Lib.hid (HBW.out.trans (hb.mono HBW.out.size))
        have HXR := Lib.hid (HRG0.out wb HBW.out)
        clear hb hown HPI
        have HB9p := Lib.hid HB9.out.lt
        have HBWp := Lib.hid HBW.out.size
        have HV1p := HV1
        go_upto_region 15 with (first
            | (with_reducible refine wpList_load_hash rfl (.tmp 72) rfl gb (off + I * 32) rfl x HLX.out HXR.out X HEX.out ?_)
            | (with_reducible refine wpList_store_blk rfl 25 (.tmp 15) (.tmp 73) rfl wb.heap.size X rfl rfl 25 _ (Blk.new _ _ _) (by rw [HZX.out]; kernel_rfl) (by rw [HZX.out]; kernel_rfl) HOX.out ?_))
        generalize hwwd : World.setRow _ _ _ = wd
        have hal : Below wb.heap.size wb wd := by
          rw [← hwwd]
          exact below_row ((Below.refl _ _).alloc (Nat.le_refl _) _) (by simp) (Nat.le_refl _) _
        have HB15 := Lib.hid (show Blk wd wb.heap.size X 25 by
          rw [← hwwd]
          exact (Blk.new _ _ _).row _)
        replace HB9 := Lib.hid (HB9.out.below hal HB9.out.lt)
        replace HBW := Lib.hid (HBW.out.trans (hal.mono HBW.out.size))
        replace HV1 := Lib.hid (HV1.out.on hal)
        have HGL := Lib.hid (show w3.heap.size < wb.heap.size ∧ w.heap.size ≤ wb.heap.size from ⟨HB9p.out, HBWp.out⟩)
        have HFV := Lib.hid (far_rd (p := ⟨wb.heap.size, bt, none⟩) HV1p.out.rd (Nat.le_refl _))
        clear HB9p HBWp HV1p
        clear hal hwwd
        obtain ⟨xb, hxb⟩ : ∃ b, x.getD bt 0 = b := ⟨_, rfl⟩
        have HB15L := Lib.hid (show Blk wd wb.heap.size (u8A x) 25 by rw [HEX.out]; exact HB15.out)
        have hcx := HB15L.out.byteAt (i := bt) (by rw [HLX.out]; exact hbt32)
        have hfx := HB15L.out.frozen bt
        rw [hxb] at hcx
        obtain ⟨xc, hxc⟩ : ∃ c, xb ^^^ 1 = c := ⟨_, rfl⟩
        have hx1 : bits BinOp.xor IntKind.u8 ((xb.toNat : Nat) : Int) 1 = ((xc.toNat : Nat) : Int) := by rw [← hxc]; exact xor_byte8 xb 1
        obtain ⟨x', hx'⟩ : ∃ y, x.set bt xc = y := ⟨_, rfl⟩
        have HXN := Lib.hid (show ¬ x = x' from fun h => by
          have h1 := congrArg (fun l : List UInt8 => l.getD bt 0) h
          simp only [← hx'] at h1
          rw [hxb, set_getD _ _ (by rw [HLX.out]; exact hbt32)] at h1
          exact xor_one_ne xb (hxc.trans h1.symm))
        have hxl' : x'.length = 32 := by rw [← hx', List.length_set]; exact HLX.out
        have HLX' := Lib.hid hxl'
        obtain ⟨X', hX'⟩ : ∃ X, u8A x' = X := ⟨_, rfl⟩
        have HEX' := Lib.hid hX'
        have HZX' := Lib.hid (show X'.size = 32 by rw [← hX', u8A_size]; exact hxl')
        have HIX' := Lib.hid (show (Tryd.prog.info? 25).map (·.size) = some X'.size by rw [HZX'.out]; kernel_rfl)
        have HOX' := Lib.hid (show X'.all (·.oneCell') = true by rw [← hX']; exact u8A_one _)
        have HPUT := Lib.hid (show Blk (wd.setCell ⟨wb.heap.size, bt, none⟩ (.int .u8 ((xc.toNat : Nat) : Int))) wb.heap.size X' 25 by
          have h := HB15L.out.put bt (x := ((xc.toNat : Nat) : Int)) (y := xc) rfl
          rw [hx', hX'] at h
          exact h)
        have HV1s := Lib.hid (hv_other HV1.out (.int .u8 ((xc.toNat : Nat) : Int)) HFV.out (p := ⟨wb.heap.size, bt, none⟩))
        have HB9s := Lib.hid (blk_other HB9.out ⟨wb.heap.size, bt, none⟩ (.int .u8 ((xc.toNat : Nat) : Int)) (by have h1 := HGL.out.1; show wb.heap.size ≠ _; omega))
        have HBWs := Lib.hid (HBW.out.setCell (p := ⟨wb.heap.size, bt, none⟩) HGL.out.2 (.int .u8 ((xc.toNat : Nat) : Int)))
        clear hX' hxl' hx' hxb hxc HB15L HB15 HB9 HBW HV1 HFV
        go_wp2_with fail
        with_reducible refine (HW3.out _).mono ?_
        rintro e wx ⟨rfl, rfl⟩
        go_upto_region 16 with fail
        clear hcx hfx hx1 HW3
        have HB9 := HB9s
        have HBW := HBWs
        have HB15 := HPUT
        have HV1 := HV1s
        clear HB9s HBWs HPUT HV1s
        generalize wd.setCell ⟨wb.heap.size, bt, none⟩ (.int .u8 ((xc.toNat : Nat) : Int)) = we at *
        obtain ⟨D1, hD1⟩ : ∃ X, decide (climbOK (z : Int) (I : Int) ps.length ∧ climbV (z : Int) (I : Int) x' ps = rootV ks) = X := ⟨_, rfl⟩
        have HED1 := Lib.hid hD1
        have HC1 := Lib.hid (show Calls Tryd.prog 17 #[.agg V, .int .i64 (z : Int), .int .i64 (I : Int), .agg X', .slice A1 q c1] we fun e w' => e = .returned (.bool D1) ∧ Below we.heap.size we w' by
          have h2 := HCKA.out we (I : Int) A1 q c1 x' ps HLX'.out HLP.out (by omega) HBW.out HV1.out
          rw [HED1.out, HEX'.out] at h2
          exact h2)
        have HKN := Lib.hid (fun W (i : Int) A1 c1 (h : Below w.heap.size w W) (hv : HV W (.slice A1 q c1) ps) (hno : ¬ (0 ≤ i ∧ i < (z : Int))) => (show Calls Tryd.prog 17 #[.agg V, .int .i64 (z : Int), .int .i64 i, .agg X, .slice A1 q c1] W fun e w' => e = .returned (.bool false) ∧ Below W.heap.size W w' from by
          have h2 := HCKA.out W i A1 q c1 x ps HLX.out HLP.out (by omega) h hv
          rw [decide_eq_false (fun hh => hno ⟨hh.1.1, hh.1.2.1⟩), HEX.out] at h2
          exact h2))
        clear hD1
        go_wp2_with (first
            | (refine wpList_load_w (.tmp 9) rfl w3.heap.size rfl V HB9.out HZV.out ?_ ?_; · rfl)
            | (refine wpList_load_w (.tmp 15) rfl wb.heap.size rfl X' HB15.out HZX'.out ?_ ?_; · rfl))
        with_reducible refine (HC1.out).mono ?_
        rintro e wf ⟨rfl, hb⟩
        replace HB9 := Lib.hid (HB9.out.below hb HB9.out.lt)
        replace HB15 := Lib.hid (HB15.out.below hb HB15.out.lt)
        replace HBW := Lib.hid (HBW.out.trans (hb.mono HBW.out.size))
        replace HV1 := Lib.hid (HV1.out.on hb)
        clear hb HC1
        cases D1 with
        | true =>
          obtain ⟨hd1, hd2⟩ := of_decide_eq_true HED1.out
          have hbok : brkOK (z : Int) (I : Int) x x' ps ps := ⟨hd1, hd1, HO2.out.trans hd2.symm, fun h => HXN.out h.1⟩
          obtain ⟨r, hr⟩ : ∃ r, brkV (z : Int) (I : Int) x x' ps ps = r := ⟨_, rfl⟩
          have HTOLD := Lib.hid (show Told r by rw [← hr]; exact brk_told HLX.out HLX'.out HV1.out.1 HV1.out.1)
          obtain ⟨s1, hs1⟩ : ∃ s, (r.getD ([], [])).1 = s := ⟨_, rfl⟩
          obtain ⟨s2, hs2⟩ : ∃ s, (r.getD ([], [])).2 = s := ⟨_, rfl⟩
          obtain ⟨n1, hn1⟩ : ∃ n, s1.length = n := ⟨_, rfl⟩
          obtain ⟨n2, hn2⟩ : ∃ n, s2.length = n := ⟨_, rfl⟩
          obtain ⟨K, hk⟩ : ∃ k, r.isSome = k := ⟨_, rfl⟩
          have HS1 := Lib.hid hs1
          have HS2 := Lib.hid hs2
          have HN1 := Lib.hid hn1
          have HN2 := Lib.hid hn2
          have HK := Lib.hid hk
          have HSM := Lib.hid (show s1.length ≤ 800000 ∧ s2.length ≤ 800000 by
            rw [← hs1, ← hs2]
            exact told_small HTOLD.out)
          have HKT := Lib.hid (show K = true by rw [← hk, ← hr, brkV_isSome]; exact decide_eq_true hbok)
          have HBR := Lib.hid (show isBr (s1, s2) = true from by
            rw [← hs1, ← hs2]
            exact told_br HTOLD.out (hk.trans HKT.out))
          have HRG := Lib.hid (fun W (h : Below wf.heap.size wf W) => HRG0.out W (HBW.out.trans (h.mono HBW.out.size)))
          have HB9L := Lib.hid (show Blk wf w3.heap.size (u8A (rootV ks)) 25 by rw [HEV.out]; exact HB9.out)
          have HRV := Lib.hid (fun W (h : Below wf.heap.size wf W) => range_of_blk (HB9L.out.below h HB9L.out.lt))
          have HB15L := Lib.hid (show Blk wf wb.heap.size (u8A x') 25 by rw [HEX'.out]; exact HB15.out)
          have HRX := Lib.hid (fun W (h : Below wf.heap.size wf W) => range_of_blk (HB15L.out.below h HB15L.out.lt))
          have HU := Lib.hid (fun W (h : Below wf.heap.size wf W) => (show Calls Tryd.prog 21 #[.int .i64 (z : Int), .int .i64 (I : Int), .agg X, .agg X', .slice A1 q c1, .slice A1 q c1] W (BrkSaid W r) from by
            rw [← hr, ← HEX.out, ← HEX'.out]
            exact pbreak_any _ _ x x' A1 A1 q q c1 c1 ps ps W HLP.out HLP.out (by omega) (by omega) HLX.out HLX'.out HV1.out.1 HV1.out.1 (HV1.out.on h).rd (HV1.out.on h).rd (tab_in HT.out (HBW.out.trans (h.mono HBW.out.size)))))
          clear hbok hd1 hd2 hr hs1 hs2 hn1 hn2 hk HTOLD HB15L HKN HRG0 HCKA
          go_wp2_with fail
          go_cut [16, 17] from 87 to 100 (fun r k wx => ∃ g X4 x4 Y4 y4, r = .pointer (some ⟨g, 0, none⟩) ∧ k = .bool K ∧ Hid (Blk wx g #[.slice X4 n1 x4, .slice Y4 n2 y4] 41) ∧ Hid (TV wx (.slice X4 n1 x4) s1) ∧ Hid (TV wx (.slice Y4 n2 y4) s2) ∧ Below wf.heap.size wf wx)
          case first =>
            refine wp_region_held_drew (S := fun W => Below wf.heap.size wf W) (by kernel_rfl) ((Below.refl _ _).drew) (fun hHeld => ?_)
            generalize wf.drew = WW at *
            refine wpAnyH_takeL (i := 0) (v := .slice (some ⟨gb, off, none⟩) z c) rfl (by kernel_rfl) (by kernel_rfl) (by kernel_rfl) (fun _ _ _ h => h) (Or.inl ⟨by rfl, fun W hW => by go_simp⟩) hHeld ?_
            try simp only [Act.put, List.setIfInBounds_toArray, List.set_cons_zero, List.set_cons_succ]
            refine wpAnyH_takeL (i := 1) (v := .int .i64 (z : Int)) rfl (by kernel_rfl) (by kernel_rfl) (by kernel_rfl) (fun _ _ _ h => h) (Or.inl ⟨by rfl, fun W hW => by go_simp⟩) hHeld ?_
            try simp only [Act.put, List.setIfInBounds_toArray, List.set_cons_zero, List.set_cons_succ]
            refine wpAnyH_takeL (i := 2) (v := .int .i64 (I : Int)) rfl (by kernel_rfl) (by kernel_rfl) (by kernel_rfl) (fun _ _ _ h => h) (Or.inl ⟨by rfl, fun W hW => by go_simp⟩) hHeld ?_
            try simp only [Act.put, List.setIfInBounds_toArray, List.set_cons_zero, List.set_cons_succ]
            refine wpAnyH_takeL (i := 3) (v := .slice (some ⟨gb, off, none⟩) z c) rfl (by kernel_rfl) (by kernel_rfl) (by kernel_rfl) (fun _ _ _ h => h) (Or.inl ⟨by rfl, fun W hW => by go_simp⟩) hHeld ?_
            try simp only [Act.put, List.setIfInBounds_toArray, List.set_cons_zero, List.set_cons_succ]
            refine wpAnyH_takeL (i := 4) (v := .int .i64 (I : Int)) rfl (by kernel_rfl) (by kernel_rfl) (by kernel_rfl) (fun _ _ _ h => h) (Or.inl ⟨by rfl, fun W hW => by go_simp⟩) hHeld ?_
            try simp only [Act.put, List.setIfInBounds_toArray, List.set_cons_zero, List.set_cons_succ]
            refine wpAnyH_takeL (i := 5) (v := .pointer (some ⟨gb, off + I * 32, none⟩)) rfl (by kernel_rfl) (by kernel_rfl) (by kernel_rfl) (fun _ _ _ h => h) (Or.inl ⟨by rfl, fun W hW => by go_simp⟩) hHeld ?_
            try simp only [Act.put, List.setIfInBounds_toArray, List.set_cons_zero, List.set_cons_succ]
            refine wpAnyH_takeL (i := 6) (v := .agg X) rfl (by kernel_rfl) (by kernel_rfl) (by kernel_rfl) (fun _ _ _ h => h) ?_ hHeld ?_
            · exact yieldsIf_load_hash (by rfl) (.tmp 93) rfl gb (off + I * 32) (by kernel_rfl) x HLX.out (fun W hW => HRG.out W hW) X HEX.out
            try simp only [Act.put, List.setIfInBounds_toArray, List.set_cons_zero, List.set_cons_succ]
            refine wpAnyH_takeL (i := 7) (v := .agg X') rfl (by kernel_rfl) (by kernel_rfl) (by kernel_rfl) (fun _ _ _ h => h) ?_ hHeld ?_
            · exact yieldsIf_load_hash (by rfl) (.tmp 15) rfl wb.heap.size (0) (by kernel_rfl) x' HLX'.out (fun W hW => HRX.out W hW) X' HEX'.out
            try simp only [Act.put, List.setIfInBounds_toArray, List.set_cons_zero, List.set_cons_succ]
            refine wpAnyH_takeL (i := 8) (v := .slice A1 q c1) rfl (by kernel_rfl) (by kernel_rfl) (by kernel_rfl) (fun _ _ _ h => h) (Or.inl ⟨by rfl, fun W hW => by go_simp⟩) hHeld ?_
            try simp only [Act.put, List.setIfInBounds_toArray, List.set_cons_zero, List.set_cons_succ]
            refine wpAnyH_takeL (i := 9) (v := .slice A1 q c1) rfl (by kernel_rfl) (by kernel_rfl) (by kernel_rfl) (fun _ _ _ h => h) (Or.inl ⟨by rfl, fun W hW => by go_simp⟩) hHeld ?_
            try simp only [Act.put, List.setIfInBounds_toArray, List.set_cons_zero, List.set_cons_succ]
            refine wpAnyH_ready (rs := [10, 14]) (by kernel_rfl) (by simp) ?_
            refine allReadyH_two rfl rfl (fun KK hK => ?_) (fun KK hK => ?_)
            · rw [if_pos (by rfl)]
              go_simp
              with_reducible refine (HU.out _ hHeld).mono ?_
              rintro e w4 ⟨A0, B0, rfl, hA0, hB0, hb⟩
              rw [HS1.out] at hA0
              rw [HS2.out] at hB0
              obtain ⟨X4, x4, rfl, _, _⟩ := id hA0
              obtain ⟨Y4, y4, rfl, _, _⟩ := id hB0
              have HTA := Lib.hid hA0
              have HTB := Lib.hid hB0
              clear hA0 hB0
              rw [HN1.out] at HTA ⊢
              rw [HN2.out] at HTB ⊢
              rw [HK.out]
              have HW4 := Lib.hid (show Below wf.heap.size wf w4 from hHeld.trans (hb.mono hHeld.size))
              go_wp2_with fail
              refine hK.out _ _ (HW4.out) (fun hHeld => ?_)
              clear hK KK
              try simp only [Act.put, List.setIfInBounds_toArray, List.set_cons_zero, List.set_cons_succ]
              refine wpAnyH_takeL (i := 11) (v := .tuple #[.agg #[.slice X4 n1 x4, .slice Y4 n2 y4], .bool K]) rfl (by kernel_rfl) (by kernel_rfl) (by kernel_rfl) (fun _ _ _ h => h) (Or.inl ⟨by rfl, fun W hW => by go_simp⟩) hHeld ?_
              try simp only [Act.put, List.setIfInBounds_toArray, List.set_cons_zero, List.set_cons_succ]
              refine wpAnyH_takeL (i := 12) (v := .agg #[.slice X4 n1 x4, .slice Y4 n2 y4]) rfl (by kernel_rfl) (by kernel_rfl) (by kernel_rfl) (fun _ _ _ h => h) (Or.inl ⟨by rfl, fun W hW => by go_simp⟩) hHeld ?_
              try simp only [Act.put, List.setIfInBounds_toArray, List.set_cons_zero, List.set_cons_succ]
              refine wpAnyH_takeL (i := 13) (v := .bool K) rfl (by kernel_rfl) (by kernel_rfl) (by kernel_rfl) (fun _ _ _ h => h) (Or.inl ⟨by rfl, fun W hW => by go_simp⟩) hHeld ?_
              try simp only [Act.put, List.setIfInBounds_toArray, List.set_cons_zero, List.set_cons_succ]
              refine wpAnyH_ready (rs := [14]) (by kernel_rfl) (by simp) ?_
              refine allReadyH_consL rfl fun KK hK => ?_
              rw [if_pos (by rfl)]
              go_simp
              have hal := (Below.refl w4.heap.size w4).alloc (Nat.le_refl _) (.cells #[.slice none 0 0, .slice none 0 0] 41)
              have HAL := Lib.hid (show Below wf.heap.size wf (w4.alloc (.cells #[.slice none 0 0, .slice none 0 0] 41)) from hHeld.trans (hal.mono hHeld.size))
              have HBB := Lib.hid (show Blk (w4.alloc (.cells #[.slice none 0 0, .slice none 0 0] 41)) w4.heap.size #[.slice none 0 0, .slice none 0 0] 41 from Blk.new _ _ _)
              have HGB := Lib.hid (show wf.heap.size ≤ w4.heap.size from hHeld.size)
              replace HTA := Lib.hid (HTA.out.on hal)
              replace HTB := Lib.hid (HTB.out.on hal)
              refine hK.out _ _ (HAL.out) (fun hHeld => ?_)
              clear hK KK
              try simp only [Act.put, List.setIfInBounds_toArray, List.set_cons_zero, List.set_cons_succ]
              obtain ⟨gk, hgk⟩ : ∃ g, w4.heap.size = g := ⟨_, rfl⟩
              rw [hgk] at HBB HGB ⊢
              clear hgk hal
              have hc0 := HBB.out.cell 0
              have hc1 := HBB.out.cell 1
              have hf0 := HBB.out.frozen 0
              have hf1 := HBB.out.frozen 1
              simp at hc0 hc1
              refine wpAnyH_ready (rs := [15]) (by kernel_rfl) (by simp) ?_
              refine allReadyH_consL rfl fun KK hK => ?_
              rw [if_pos (by rfl)]
              go_simp
              refine hK.out _ _ ((hHeld.setCell (p := ⟨gk, 0, none⟩) HGB.out _).setCell (p := ⟨gk, 1, none⟩) HGB.out _) (fun hHeld => ?_)
              clear hK KK
              try simp only [Act.put, List.setIfInBounds_toArray, List.set_cons_zero, List.set_cons_succ]
              have HF1 := Lib.hid (tv_sets HTA.out HBB.out X4 Y4 n1 n2 x4 y4)
              have HF2 := Lib.hid (tv_sets HTB.out HBB.out X4 Y4 n1 n2 x4 y4)
              have HF3 := Lib.hid (show Blk _ gk #[.slice X4 n1 x4, .slice Y4 n2 y4] 41 from ((HBB.out.set 0 (.slice X4 n1 x4)).set 1 (.slice Y4 n2 y4)))
              clear hc0 hc1 hf0 hf1
              refine wpAnyH_ready (rs := [16]) (by kernel_rfl) (by simp) ?_
              refine allReadyH_consL rfl fun KK hK => ?_
              rw [if_pos (by rfl)]
              go_simp
              refine hK.out _ _ hHeld (fun hHeld => ?_)
              clear hK KK
              try simp only [Act.put, List.setIfInBounds_toArray, List.set_cons_zero, List.set_cons_succ]
              refine wpAnyH_done (by kernel_rfl) ?_ _
              go_wp2_with fail
              go_meet
              case rel => exact ⟨gk, X4, x4, Y4, y4, rfl, rfl, HF3, HF1, HF2, hHeld⟩
            · rw [if_pos (by rfl)]
              go_simp
              have hal := (Below.refl WW.heap.size WW).alloc (Nat.le_refl _) (.cells #[.slice none 0 0, .slice none 0 0] 41)
              have HAL := Lib.hid (show Below wf.heap.size wf (WW.alloc (.cells #[.slice none 0 0, .slice none 0 0] 41)) from hHeld.trans (hal.mono hHeld.size))
              have HBB := Lib.hid (show Blk (WW.alloc (.cells #[.slice none 0 0, .slice none 0 0] 41)) WW.heap.size #[.slice none 0 0, .slice none 0 0] 41 from Blk.new _ _ _)
              have HGB := Lib.hid (show wf.heap.size ≤ WW.heap.size from hHeld.size)
              refine hK.out _ _ (HAL.out) (fun hHeld => ?_)
              clear hK KK
              try simp only [Act.put, List.setIfInBounds_toArray, List.set_cons_zero, List.set_cons_succ]
              obtain ⟨gk, hgk⟩ : ∃ g, WW.heap.size = g := ⟨_, rfl⟩
              rw [hgk] at HBB HGB ⊢
              clear hgk hal
              refine wpAnyH_ready (rs := [10]) (by kernel_rfl) (by simp) ?_
              refine allReadyH_consL rfl fun KK hK => ?_
              rw [if_pos (by rfl)]
              go_simp
              with_reducible refine (HU.out _ hHeld).mono ?_
              rintro e w4 ⟨A0, B0, rfl, hA0, hB0, hb⟩
              rw [HS1.out] at hA0
              rw [HS2.out] at hB0
              obtain ⟨X4, x4, rfl, _, _⟩ := id hA0
              obtain ⟨Y4, y4, rfl, _, _⟩ := id hB0
              have HTA := Lib.hid hA0
              have HTB := Lib.hid hB0
              clear hA0 hB0
              rw [HN1.out] at HTA ⊢
              rw [HN2.out] at HTB ⊢
              rw [HK.out]
              have HW4 := Lib.hid (show Below wf.heap.size wf w4 from hHeld.trans (hb.mono hHeld.size))
              replace HBB := Lib.hid (HBB.out.below hb HBB.out.lt)
              go_wp2_with fail
              refine hK.out _ _ (HW4.out) (fun hHeld => ?_)
              clear hK KK
              try simp only [Act.put, List.setIfInBounds_toArray, List.set_cons_zero, List.set_cons_succ]
              refine wpAnyH_takeL (i := 11) (v := .tuple #[.agg #[.slice X4 n1 x4, .slice Y4 n2 y4], .bool K]) rfl (by kernel_rfl) (by kernel_rfl) (by kernel_rfl) (fun _ _ _ h => h) (Or.inl ⟨by rfl, fun W hW => by go_simp⟩) hHeld ?_
              try simp only [Act.put, List.setIfInBounds_toArray, List.set_cons_zero, List.set_cons_succ]
              refine wpAnyH_takeL (i := 12) (v := .agg #[.slice X4 n1 x4, .slice Y4 n2 y4]) rfl (by kernel_rfl) (by kernel_rfl) (by kernel_rfl) (fun _ _ _ h => h) (Or.inl ⟨by rfl, fun W hW => by go_simp⟩) hHeld ?_
              try simp only [Act.put, List.setIfInBounds_toArray, List.set_cons_zero, List.set_cons_succ]
              refine wpAnyH_takeL (i := 13) (v := .bool K) rfl (by kernel_rfl) (by kernel_rfl) (by kernel_rfl) (fun _ _ _ h => h) (Or.inl ⟨by rfl, fun W hW => by go_simp⟩) hHeld ?_
              try simp only [Act.put, List.setIfInBounds_toArray, List.set_cons_zero, List.set_cons_succ]
              have hc0 := HBB.out.cell 0
              have hc1 := HBB.out.cell 1
              have hf0 := HBB.out.frozen 0
              have hf1 := HBB.out.frozen 1
              simp at hc0 hc1
              refine wpAnyH_ready (rs := [15]) (by kernel_rfl) (by simp) ?_
              refine allReadyH_consL rfl fun KK hK => ?_
              rw [if_pos (by rfl)]
              go_simp
              refine hK.out _ _ ((hHeld.setCell (p := ⟨gk, 0, none⟩) HGB.out _).setCell (p := ⟨gk, 1, none⟩) HGB.out _) (fun hHeld => ?_)
              clear hK KK
              try simp only [Act.put, List.setIfInBounds_toArray, List.set_cons_zero, List.set_cons_succ]
              have HF1 := Lib.hid (tv_sets HTA.out HBB.out X4 Y4 n1 n2 x4 y4)
              have HF2 := Lib.hid (tv_sets HTB.out HBB.out X4 Y4 n1 n2 x4 y4)
              have HF3 := Lib.hid (show Blk _ gk #[.slice X4 n1 x4, .slice Y4 n2 y4] 41 from ((HBB.out.set 0 (.slice X4 n1 x4)).set 1 (.slice Y4 n2 y4)))
              clear hc0 hc1 hf0 hf1
              refine wpAnyH_ready (rs := [16]) (by kernel_rfl) (by simp) ?_
              refine allReadyH_consL rfl fun KK hK => ?_
              rw [if_pos (by rfl)]
              go_simp
              refine hK.out _ _ hHeld (fun hHeld => ?_)
              clear hK KK
              try simp only [Act.put, List.setIfInBounds_toArray, List.set_cons_zero, List.set_cons_succ]
              refine wpAnyH_done (by kernel_rfl) ?_ _
              go_wp2_with fail
              go_meet
              case rel => exact ⟨gk, X4, x4, Y4, y4, rfl, rfl, HF3, HF1, HF2, hHeld⟩
          case rest =>
            obtain ⟨gk, X4, x4, Y4, y4, rfl, rfl, HBK, HTA, HTB, hbk⟩ := hcut
            replace HBW := Lib.hid (HBW.out.trans (hbk.mono HBW.out.size))
            obtain rfl : K = true := HKT.out
            have HB16 := HBK
            have HIB := Lib.hid (is_brS (x := (s1, s2)) HTA.out HTB.out HSM.out.1 HSM.out.2 HBR.out)
            clear hbk
            go_wp2_with (refine wpList_load_wb (.tmp 16) rfl gk rfl (.slice X4 n1 x4) (.slice Y4 n2 y4) HB16.out ?_ ?_; · rfl)
            with_reducible refine (HIB.out).mono ?_
            rintro e wz ⟨rfl, hb⟩
            replace HBW := Lib.hid (HBW.out.trans (hb.mono HBW.out.size))
            clear hb
            go_wp2_with fail
            go_ret
            exact ⟨by kernel_rfl, HBO.out.trans (HBW.out.mono HBO.out.size)⟩
        | false =>
          clear HED1 HXN
          by_cases hq0 : 0 < q
          · have hqi : (0 : Int) < (q : Int) := by omega
            have HCPY := Lib.hid (copyH_any A1 q c1 wf.heap.size ps wf HLP.out (by omega) HV1.out.1 HV1.out.rd)
            go_wp2_with fail
            with_reducible refine (HCPY.out).mono ?_
            rintro e wg ⟨vq, rfl, hown, hb⟩
            obtain ⟨Aq, cq, rfl, _, _⟩ := hown.form HLP.out
            obtain ⟨gq, rfl, hgq⟩ := own_some hown HLP.out hq0
            have HOQ := Lib.hid hown
            have HBQ := Lib.hid (show wf.heap.size ≤ gq from hgq)
            have HB9f := Lib.hid (show w3.heap.size < wf.heap.size from HB9.out.lt)
            have HBf := Lib.hid (show w.heap.size ≤ wf.heap.size from HBW.out.size)
            have HFV := Lib.hid (show gq ≥ wf.heap.size ∧ RdH wf wf.heap.size A1 ps from ⟨hgq, HV1.out.rd⟩)
            replace HFV := Lib.hid (far_rd (p := ⟨gq, 0, none⟩) HFV.out.2 HFV.out.1)
            replace HB9 := Lib.hid (HB9.out.below hb HB9.out.lt)
            replace HBW := Lib.hid (HBW.out.trans (hb.mono HBW.out.size))
            replace HV1 := Lib.hid (HV1.out.on hb)
            clear hb hown HCPY hgq
            have HW4 := Lib.hid (fun W => within_any (k1 : Int) (q : Int) W (by omega) (by omega) (by omega))
            obtain ⟨q7, q8⟩ := withinI_range (k1 : Int) (q : Int) (by omega)
            obtain ⟨kk, hkk⟩ : ∃ J : Nat, withinI (k1 : Int) (q : Int) = (J : Int) := ⟨(withinI (k1 : Int) (q : Int)).toNat, by omega⟩
            rw [hkk] at HW4
            have hkq : kk < q := by omega
            have hkqi : (kk : Int) < (q : Int) := by omega
            have hkq0 : (0 : Int) ≤ (kk : Int) := by omega
            clear q7 q8 hkk
            obtain ⟨pk, hpk⟩ : ∃ p, ps.getD kk [] = p := ⟨_, rfl⟩
            have hpkl : pk.length = 32 := by
              obtain ⟨_, _, _, _, _, h⟩ := HV1.out.at_ (i := kk) hkq
              rw [hpk] at h
              exact h
            obtain ⟨bx, hbx⟩ : ∃ b, pk.getD 0 0 = b := ⟨_, rfl⟩
            obtain ⟨bc, hbc⟩ : ∃ c, bx ^^^ 1 = c := ⟨_, rfl⟩
            have HBC := Lib.hid hbc
            have HX1 := Lib.hid (show bits BinOp.xor IntKind.u8 ((bx.toNat : Nat) : Int) 1 = ((bc.toNat : Nat) : Int) by rw [← hbc]; exact xor_byte8 bx 1)
            clear hbc
            have HCB := Lib.hid (fun W (h : Below wg.heap.size wg W) => (show W.cell? ⟨gq, kk * 32, none⟩ = some (.int .u8 ((bx.toNat : Nat) : Int)) from by
              have h2 := own_byte (HOQ.out.on h) hkq
              rw [hpk, hbx] at h2
              exact h2))
            obtain ⟨qs, hqs⟩ : ∃ q, ps.set kk (pk.set 0 bc) = q := ⟨_, rfl⟩
            have HQS := Lib.hid (show ps.set kk ((ps.getD kk []).set 0 bc) = qs by rw [hpk]; exact hqs)
            have HQL := Lib.hid (show qs.length = q by rw [← hqs, List.length_set, HLP.out])
            have HQN := Lib.hid (show ¬ ps = qs from fun h => by
              have h1 := congrArg (fun l : List (List UInt8) => (l.getD kk []).getD 0 0) h
              simp only [← hqs] at h1
              rw [hpk, set_getD _ _ (by rw [HLP.out]; exact hkq), set_getD _ _ (by omega), hbx] at h1
              exact xor_one_ne bx (HBC.out.trans h1.symm))
            obtain ⟨D2, hD2⟩ : ∃ X, decide (climbOK (z : Int) (I : Int) qs.length ∧ climbV (z : Int) (I : Int) x qs = rootV ks) = X := ⟨_, rfl⟩
            have HED2 := Lib.hid hD2
            clear hD2 hqs hpk hpkl hbx
            go_wp2_with fail
            refine wp_region_loose 11 1 (fun i => false) (promises [.is (.slice (some ⟨gq, 0, none⟩) q cq), .is (.int .i64 (k1 : Int)), .is (.slice (some ⟨gq, 0, none⟩) q cq), .is (.int .i64 (q : Int)), .is (.int .i64 (kk : Int)), .is (.pointer (some ⟨gq, kk * 32, none⟩)), .is (.pointer (some ⟨gq, kk * 32, none⟩)), .is (.int .u8 ((bx.toNat : Nat) : Int)), .is (.int .u8 ((bc.toNat : Nat) : Int)), .is (.pointer (some ⟨gq, kk * 32, none⟩)), .is (.pointer (some ⟨gq, kk * 32, none⟩))]) (by kernel_rfl) rfl (by kernel_rfl) (fun i v w w' h hb => Spec.keep h hb) ⟨?_, ?_, ?_, ?_, ?_, ?_, ?_, ?_, ?_, ?_, ?_, trivial⟩ ?_
            · refine StepOKl.of ?_
              intro ac w hb hu hk
              refine ⟨wanted_none rfl, ?_⟩
              have e18 : ac.eval (.tmp 18) = .slice (some ⟨gq, 0, none⟩) q cq := hu.is (t := 18) (by kernel_rfl)
              exact step_value (BigFrame.run_move (.tmp 18) rfl w) (Below.refl _ _) e18
            · refine StepOKl.of ?_
              intro ac w hb hu hk
              refine ⟨wanted_none rfl, ?_⟩
              have e2 : ac.eval (.tmp 2) = .int .i64 (k1 : Int) := hu.is (t := 2) (by kernel_rfl)
              exact step_value (BigFrame.run_move (.tmp 2) rfl w) (Below.refl _ _) e2
            · refine StepOKl.of ?_
              intro ac w hb hu hk
              refine ⟨wanted_none rfl, ?_⟩
              have e18 : ac.eval (.tmp 18) = .slice (some ⟨gq, 0, none⟩) q cq := hu.is (t := 18) (by kernel_rfl)
              exact step_value (BigFrame.run_move (.tmp 18) rfl w) (Below.refl _ _) e18
            · refine StepOKl.of ?_
              intro ac w hb hu hk
              refine ⟨wanted_none rfl, ?_⟩
              have e113 : ac.eval (.tmp 113) = (.slice (some ⟨gq, 0, none⟩) q cq) := (hk ⟨2, .data⟩ (by simp) rfl).is rfl rfl
              refine step_value (w' := w) (v := (.int .i64 (q : Int))) ?_ (Below.refl _ _) rfl
              generalize ac.eval = ρ at e113 ⊢
              go_simp
            · refine StepOKl.of ?_
              intro ac w hb hu hk
              refine ⟨wanted_none rfl, ?_⟩
              have e112 : ac.eval (.tmp 112) = (.int .i64 (k1 : Int)) := (hk ⟨1, .data⟩ (by simp) rfl).is rfl rfl
              have e114 : ac.eval (.tmp 114) = (.int .i64 (q : Int)) := (hk ⟨3, .data⟩ (by simp) rfl).is rfl rfl
              have ef : ac.eval (.func 12) = .func (.func 12) #[] #[] := rfl
              refine step_enter (f := 12) (args := #[.int .i64 (k1 : Int), .int .i64 (q : Int)]) ?_ ?_
              · generalize ac.eval = ρ at e112 e114 ef ⊢
                go_simp
              · exact (HW4.out w).mono fun e w' ⟨he, hq⟩ => ⟨_, he, rfl, hq ▸ Below.refl _ _⟩
            · refine StepOKl.of ?_
              intro ac w hb hu hk
              refine ⟨wanted_none rfl, ?_⟩
              have e111 : ac.eval (.tmp 111) = (.slice (some ⟨gq, 0, none⟩) q cq) := (hk ⟨0, .data⟩ (by simp) rfl).is rfl rfl
              have e115 : ac.eval (.tmp 115) = (.int .i64 (kk : Int)) := (hk ⟨4, .data⟩ (by simp) rfl).is rfl rfl
              refine step_value (w' := w) (v := (.pointer (some ⟨gq, kk * 32, none⟩))) ?_ (Below.refl _ _) rfl
              generalize ac.eval = ρ at e111 e115 ⊢
              go_simp
            · refine StepOKl.of ?_
              intro ac w hb hu hk
              refine ⟨wanted_none rfl, ?_⟩
              have e116 : ac.eval (.tmp 116) = (.pointer (some ⟨gq, kk * 32, none⟩)) := (hk ⟨5, .data⟩ (by simp) rfl).is rfl rfl
              refine step_value (w' := w) (v := (.pointer (some ⟨gq, kk * 32, none⟩))) ?_ (Below.refl _ _) rfl
              have ec0 : ac.eval (.const (Value.int IntKind.i64 0)) = Value.int IntKind.i64 0 := rfl
              generalize ac.eval = ρ at e116 ec0 ⊢
              go_simp
            · refine StepOKl.of ?_
              intro ac w hb hu hk
              refine ⟨wanted_none rfl, ?_⟩
              have e117 : ac.eval (.tmp 117) = (.pointer (some ⟨gq, kk * 32, none⟩)) := (hk ⟨6, .data⟩ (by simp) rfl).is rfl rfl
              refine step_value (w' := w) (v := .int .u8 ((bx.toNat : Nat) : Int)) ?_ (Below.refl _ _) rfl
              have hc := HCB.out w hb
              generalize ac.eval = ρ at e117 ⊢
              go_simp
            · refine StepOKl.of ?_
              intro ac w hb hu hk
              refine ⟨wanted_none rfl, ?_⟩
              have e118 : ac.eval (.tmp 118) = (.int .u8 ((bx.toNat : Nat) : Int)) := (hk ⟨7, .data⟩ (by simp) rfl).is rfl rfl
              refine step_value (w' := w) (v := .int .u8 ((bc.toNat : Nat) : Int)) ?_ (Below.refl _ _) rfl
              have hx1 := HX1.out
              have ec : ac.eval (.const (.int .u8 1)) = .int .u8 1 := rfl
              generalize ac.eval = ρ at e118 ec ⊢
              go_simp
            · refine StepOKl.of ?_
              intro ac w hb hu hk
              refine ⟨wanted_none rfl, ?_⟩
              have e111 : ac.eval (.tmp 111) = (.slice (some ⟨gq, 0, none⟩) q cq) := (hk ⟨0, .data⟩ (by simp) rfl).is rfl rfl
              have e115 : ac.eval (.tmp 115) = (.int .i64 (kk : Int)) := (hk ⟨4, .data⟩ (by simp) rfl).is rfl rfl
              refine step_value (w' := w) (v := (.pointer (some ⟨gq, kk * 32, none⟩))) ?_ (Below.refl _ _) rfl
              generalize ac.eval = ρ at e111 e115 ⊢
              go_simp
            · refine StepOKl.of ?_
              intro ac w hb hu hk
              refine ⟨wanted_none rfl, ?_⟩
              have e120 : ac.eval (.tmp 120) = (.pointer (some ⟨gq, kk * 32, none⟩)) := (hk ⟨9, .data⟩ (by simp) rfl).is rfl rfl
              refine step_value (w' := w) (v := (.pointer (some ⟨gq, kk * 32, none⟩))) ?_ (Below.refl _ _) rfl
              have ec0 : ac.eval (.const (Value.int IntKind.i64 0)) = Value.int IntKind.i64 0 := rfl
              generalize ac.eval = ρ at e120 ec0 ⊢
              go_simp
            · intro ac w' hb hu hk hap
              obtain ⟨_, h111, rfl⟩ := (hk 0 (by decide)).put rfl rfl
              obtain ⟨_, h112, rfl⟩ := (hk 1 (by decide)).put rfl rfl
              obtain ⟨_, h113, rfl⟩ := (hk 2 (by decide)).put rfl rfl
              obtain ⟨_, h114, rfl⟩ := (hk 3 (by decide)).put rfl rfl
              obtain ⟨_, h115, rfl⟩ := (hk 4 (by decide)).put rfl rfl
              obtain ⟨_, h116, rfl⟩ := (hk 5 (by decide)).put rfl rfl
              obtain ⟨_, h117, rfl⟩ := (hk 6 (by decide)).put rfl rfl
              obtain ⟨_, h118, rfl⟩ := (hk 7 (by decide)).put rfl rfl
              obtain ⟨_, h119, rfl⟩ := (hk 8 (by decide)).put rfl rfl
              obtain ⟨_, h120, rfl⟩ := (hk 9 (by decide)).put rfl rfl
              obtain ⟨_, h121, rfl⟩ := (hk 10 (by decide)).put rfl rfl
              clear hap
              have hF : AllPuts ac.tmps ((111, _) :: (112, _) :: (113, _) :: (114, _) :: (115, _) :: (116, _) :: (117, _) :: (118, _) :: (119, _) :: (120, _) :: (121, _) :: []) := ⟨h111, h112, h113, h114, h115, h116, h117, h118, h119, h120, h121, trivial⟩
              obtain rfl := frame_puts hu (by kernel_rfl) hF
              simp only [puts, Act.put, List.setIfInBounds_toArray, List.set_cons_zero, List.set_cons_succ, List.drop_succ_cons, List.drop_zero]
              clear hk hu hF h111 h112 h113 h114 h115 h116 h117 h118 h119 h120 h121
              have hownq := HOQ.out.on hb
              obtain ⟨hBg, ⟨u, hu⟩, hf, hown2⟩ := own_put bc (j := 0) hownq HLP.out hkq (by omega)
              rw [Nat.add_zero] at hu hf hown2
              have hsw : Below wg.heap.size wg w' := hb
              have HB9c := Lib.hid (HB9.out.below hb HB9.out.lt)
              have HBWc := Lib.hid (HBW.out.trans (hb.mono HBW.out.size))
              have HV1c := Lib.hid (HV1.out.on hb)
              clear hb HCB HW4 HX1 HOQ hownq HB9 HBW HV1
              go_wp2_with fail
              have HVQ := Lib.hid (show HV _ (.slice (some ⟨gq, 0, none⟩) q cq) qs by
                have h := hown2.hv
                rw [HQS.out] at h
                exact h)
              have HB9 := Lib.hid (blk_other HB9c.out ⟨gq, kk * 32, none⟩ (.int .u8 ((bc.toNat : Nat) : Int)) (by have h1 := HB9f.out; have h2 := HBQ.out; show gq ≠ _; omega))
              have HBW := Lib.hid (HBWc.out.setCell (p := ⟨gq, kk * 32, none⟩) (by have h1 := HBQ.out; have h2 := HBf.out; show w.heap.size ≤ gq; omega) (.int .u8 ((bc.toNat : Nat) : Int)))
              have HV1 := Lib.hid (hv_other HV1c.out (.int .u8 ((bc.toNat : Nat) : Int)) HFV.out (p := ⟨gq, kk * 32, none⟩))
              clear hown2 hu hf hsw HB9c HBWc HV1c hBg
              generalize World.setCell _ ⟨gq, kk * 32, none⟩ _ = wj at *
              have HRG := Lib.hid (fun W (h : Below wj.heap.size wj W) => HRG0.out W (HBW.out.trans (h.mono HBW.out.size)))
              have HB9L := Lib.hid (show Blk wj w3.heap.size (u8A (rootV ks)) 25 by rw [HEV.out]; exact HB9.out)
              have HRV := Lib.hid (fun W (h : Below wj.heap.size wj W) => range_of_blk (HB9L.out.below h HB9L.out.lt))
              have HC2 := Lib.hid (fun W (h : Below wj.heap.size wj W) => (show Calls Tryd.prog 17 #[.agg V, .int .i64 (z : Int), .int .i64 (I : Int), .agg X, .slice (some ⟨gq, 0, none⟩) q cq] W fun e w' => e = .returned (.bool D2) ∧ Below W.heap.size W w' from by
                have h2 := HCKA.out W (I : Int) (some ⟨gq, 0, none⟩) q cq x qs HLX.out HQL.out (by omega) (HBW.out.trans (h.mono HBW.out.size)) (HVQ.out.on h)
                rw [HED2.out, HEX.out] at h2
                exact h2))
              refine wp_region_loose 10 0 (fun i => false) (promises [.is (.agg V), .is (.slice (some ⟨gb, off, none⟩) z c), .is (.int .i64 (z : Int)), .is (.int .i64 (I : Int)), .is (.slice (some ⟨gb, off, none⟩) z c), .is (.int .i64 (I : Int)), .is (.pointer (some ⟨gb, off + I * 32, none⟩)), .is (.agg X), .is (.slice (some ⟨gq, 0, none⟩) q cq), .is (.bool D2)]) (by kernel_rfl) rfl (by kernel_rfl) (fun i v w w' h hb => Spec.keep h hb) ⟨?_, ?_, ?_, ?_, ?_, ?_, ?_, ?_, ?_, ?_, trivial⟩ ?_
              · refine StepOKl.of ?_
                intro ac w hb hu hk
                refine ⟨wanted_none rfl, ?_⟩
                have e9 : ac.eval (.tmp 9) = .pointer (some ⟨w3.heap.size, 0, none⟩) := hu.is (t := 9) (by kernel_rfl)
                refine step_value (w' := w) (v := .agg V) (run_load_hash (.tmp 9) rfl w3.heap.size (0) e9 (rootV ks) HLV.out (HRV.out w hb) HEV.out) (Below.refl _ _) rfl
              · refine StepOKl.of ?_
                intro ac w hb hu hk
                refine ⟨wanted_none rfl, ?_⟩
                have e0 : ac.eval (.tmp 0) = .slice (some ⟨gb, off, none⟩) z c := hu.is (t := 0) (by kernel_rfl)
                exact step_value (BigFrame.run_move (.tmp 0) rfl w) (Below.refl _ _) e0
              · refine StepOKl.of ?_
                intro ac w hb hu hk
                refine ⟨wanted_none rfl, ?_⟩
                have e123 : ac.eval (.tmp 123) = (.slice (some ⟨gb, off, none⟩) z c) := (hk ⟨1, .data⟩ (by simp) rfl).is rfl rfl
                refine step_value (w' := w) (v := (.int .i64 (z : Int))) ?_ (Below.refl _ _) rfl
                generalize ac.eval = ρ at e123 ⊢
                go_simp
              · refine StepOKl.of ?_
                intro ac w hb hu hk
                refine ⟨wanted_none rfl, ?_⟩
                have e1 : ac.eval (.tmp 1) = .int .i64 (I : Int) := hu.is (t := 1) (by kernel_rfl)
                exact step_value (BigFrame.run_move (.tmp 1) rfl w) (Below.refl _ _) e1
              · refine StepOKl.of ?_
                intro ac w hb hu hk
                refine ⟨wanted_none rfl, ?_⟩
                have e0 : ac.eval (.tmp 0) = .slice (some ⟨gb, off, none⟩) z c := hu.is (t := 0) (by kernel_rfl)
                exact step_value (BigFrame.run_move (.tmp 0) rfl w) (Below.refl _ _) e0
              · refine StepOKl.of ?_
                intro ac w hb hu hk
                refine ⟨wanted_none rfl, ?_⟩
                have e1 : ac.eval (.tmp 1) = .int .i64 (I : Int) := hu.is (t := 1) (by kernel_rfl)
                exact step_value (BigFrame.run_move (.tmp 1) rfl w) (Below.refl _ _) e1
              · refine StepOKl.of ?_
                intro ac w hb hu hk
                refine ⟨wanted_none rfl, ?_⟩
                have e126 : ac.eval (.tmp 126) = (.slice (some ⟨gb, off, none⟩) z c) := (hk ⟨4, .data⟩ (by simp) rfl).is rfl rfl
                have e127 : ac.eval (.tmp 127) = (.int .i64 (I : Int)) := (hk ⟨5, .data⟩ (by simp) rfl).is rfl rfl
                refine step_value (w' := w) (v := (.pointer (some ⟨gb, off + I * 32, none⟩))) ?_ (Below.refl _ _) rfl
                generalize ac.eval = ρ at e126 e127 ⊢
                go_simp
              · refine StepOKl.of ?_
                intro ac w hb hu hk
                refine ⟨wanted_none rfl, ?_⟩
                have e128 : ac.eval (.tmp 128) = (.pointer (some ⟨gb, off + I * 32, none⟩)) := (hk ⟨6, .data⟩ (by simp) rfl).is rfl rfl
                refine step_value (w' := w) (v := .agg X) (run_load_hash (.tmp 128) rfl gb (off + I * 32) e128 x HLX.out (HRG.out w hb) HEX.out) (Below.refl _ _) rfl
              · refine StepOKl.of ?_
                intro ac w hb hu hk
                refine ⟨wanted_none rfl, ?_⟩
                have e18 : ac.eval (.tmp 18) = .slice (some ⟨gq, 0, none⟩) q cq := hu.is (t := 18) (by kernel_rfl)
                exact step_value (BigFrame.run_move (.tmp 18) rfl w) (Below.refl _ _) e18
              · refine StepOKl.of ?_
                intro ac w hb hu hk
                refine ⟨wanted_none rfl, ?_⟩
                have e122 : ac.eval (.tmp 122) = (.agg V) := (hk ⟨0, .data⟩ (by simp) rfl).is rfl rfl
                have e124 : ac.eval (.tmp 124) = (.int .i64 (z : Int)) := (hk ⟨2, .data⟩ (by simp) rfl).is rfl rfl
                have e125 : ac.eval (.tmp 125) = (.int .i64 (I : Int)) := (hk ⟨3, .data⟩ (by simp) rfl).is rfl rfl
                have e129 : ac.eval (.tmp 129) = (.agg X) := (hk ⟨7, .data⟩ (by simp) rfl).is rfl rfl
                have e130 : ac.eval (.tmp 130) = (.slice (some ⟨gq, 0, none⟩) q cq) := (hk ⟨8, .data⟩ (by simp) rfl).is rfl rfl
                have ef : ac.eval (.func 17) = .func (.func 17) #[] #[] := rfl
                refine step_enter (f := 17) (args := #[.agg V, .int .i64 (z : Int), .int .i64 (I : Int), .agg X, .slice (some ⟨gq, 0, none⟩) q cq]) ?_ ?_
                · generalize ac.eval = ρ at e122 e124 e125 e129 e130 ef ⊢
                  go_simp
                · exact (HC2.out w hb).mono fun e w' ⟨he, hq⟩ => ⟨_, he, rfl, hq⟩
              · intro ac w' hb hu hk hap
                obtain ⟨_, h122, rfl⟩ := (hk 0 (by decide)).put rfl rfl
                obtain ⟨_, h123, rfl⟩ := (hk 1 (by decide)).put rfl rfl
                obtain ⟨_, h124, rfl⟩ := (hk 2 (by decide)).put rfl rfl
                obtain ⟨_, h125, rfl⟩ := (hk 3 (by decide)).put rfl rfl
                obtain ⟨_, h126, rfl⟩ := (hk 4 (by decide)).put rfl rfl
                obtain ⟨_, h127, rfl⟩ := (hk 5 (by decide)).put rfl rfl
                obtain ⟨_, h128, rfl⟩ := (hk 6 (by decide)).put rfl rfl
                obtain ⟨_, h129, rfl⟩ := (hk 7 (by decide)).put rfl rfl
                obtain ⟨_, h130, rfl⟩ := (hk 8 (by decide)).put rfl rfl
                obtain ⟨_, h131, rfl⟩ := (hk 9 (by decide)).put rfl rfl
                clear hap
                have hF : AllPuts ac.tmps ((122, _) :: (123, _) :: (124, _) :: (125, _) :: (126, _) :: (127, _) :: (128, _) :: (129, _) :: (130, _) :: (131, _) :: []) := ⟨h122, h123, h124, h125, h126, h127, h128, h129, h130, h131, trivial⟩
                obtain rfl := frame_puts hu (by kernel_rfl) hF
                simp only [puts, Act.put, List.setIfInBounds_toArray, List.set_cons_zero, List.set_cons_succ, List.drop_succ_cons, List.drop_nil]
                clear hk hu hF h122 h123 h124 h125 h126 h127 h128 h129 h130 h131
                have hbb : Below wj.heap.size wj w' := hb
                replace HBW := Lib.hid (HBW.out.trans (hb.mono HBW.out.size))
                replace HB9 := Lib.hid (HB9.out.below hbb HB9.out.lt)
                replace HV1 := Lib.hid (HV1.out.on hbb)
                replace HVQ := Lib.hid (HVQ.out.on hbb)
                obtain ⟨wk, rfl⟩ : ∃ y : World, y = w' := ⟨_, rfl⟩
                clear hb hbb
                clear HRG HRV HB9L HC2
                cases D2 with
                | true =>
                  obtain ⟨hd1, hd2⟩ := of_decide_eq_true HED2.out
                  have hbok : brkOK (z : Int) (I : Int) x x ps qs := ⟨by rw [HLP.out]; exact HO1.out, by rw [HQL.out]; exact HO1.out, HO2.out.trans hd2.symm, fun h => HQN.out h.2⟩
                  obtain ⟨r, hr⟩ : ∃ r, brkV (z : Int) (I : Int) x x ps qs = r := ⟨_, rfl⟩
                  have HTOLD := Lib.hid (show Told r by rw [← hr]; exact brk_told HLX.out HLX.out HV1.out.1 HVQ.out.1)
                  obtain ⟨s1, hs1⟩ : ∃ s, (r.getD ([], [])).1 = s := ⟨_, rfl⟩
                  obtain ⟨s2, hs2⟩ : ∃ s, (r.getD ([], [])).2 = s := ⟨_, rfl⟩
                  obtain ⟨n1, hn1⟩ : ∃ n, s1.length = n := ⟨_, rfl⟩
                  obtain ⟨n2, hn2⟩ : ∃ n, s2.length = n := ⟨_, rfl⟩
                  obtain ⟨K, hk⟩ : ∃ k, r.isSome = k := ⟨_, rfl⟩
                  have HS1 := Lib.hid hs1
                  have HS2 := Lib.hid hs2
                  have HN1 := Lib.hid hn1
                  have HN2 := Lib.hid hn2
                  have HK := Lib.hid hk
                  have HSM := Lib.hid (show s1.length ≤ 800000 ∧ s2.length ≤ 800000 by
                    rw [← hs1, ← hs2]
                    exact told_small HTOLD.out)
                  have HKT := Lib.hid (show K = true by rw [← hk, ← hr, brkV_isSome]; exact decide_eq_true hbok)
                  have HBR := Lib.hid (show isBr (s1, s2) = true from by
                    rw [← hs1, ← hs2]
                    exact told_br HTOLD.out (hk.trans HKT.out))
                  have HRG := Lib.hid (fun W (h : Below wk.heap.size wk W) => HRG0.out W (HBW.out.trans (h.mono HBW.out.size)))
                  have HB9L := Lib.hid (show Blk wk w3.heap.size (u8A (rootV ks)) 25 by rw [HEV.out]; exact HB9.out)
                  have HRV := Lib.hid (fun W (h : Below wk.heap.size wk W) => range_of_blk (HB9L.out.below h HB9L.out.lt))
                  have HU := Lib.hid (fun W (h : Below wk.heap.size wk W) => (show Calls Tryd.prog 21 #[.int .i64 (z : Int), .int .i64 (I : Int), .agg X, .agg X, .slice A1 q c1, .slice (some ⟨gq, 0, none⟩) q cq] W (BrkSaid W r) from by
                    rw [← hr, ← HEX.out]
                    exact pbreak_any _ _ x x A1 (some ⟨gq, 0, none⟩) q q c1 cq ps qs W HLP.out HQL.out (by omega) (by omega) HLX.out HLX.out HV1.out.1 HVQ.out.1 (HV1.out.on h).rd (HVQ.out.on h).rd (tab_in HT.out (HBW.out.trans (h.mono HBW.out.size)))))
                  clear hbok hd1 hd2 hr hs1 hs2 hn1 hn2 hk HTOLD HKN HRG0
                  go_wp2_with fail
                  go_cut [19, 20] from 132 to 148 (fun r k wx => ∃ g X4 x4 Y4 y4, r = .pointer (some ⟨g, 0, none⟩) ∧ k = .bool K ∧ Hid (Blk wx g #[.slice X4 n1 x4, .slice Y4 n2 y4] 41) ∧ Hid (TV wx (.slice X4 n1 x4) s1) ∧ Hid (TV wx (.slice Y4 n2 y4) s2) ∧ Below wk.heap.size wk wx)
                  case first =>
                    refine wp_region_held_drew (S := fun W => Below wk.heap.size wk W) (by kernel_rfl) ((Below.refl _ _).drew) (fun hHeld => ?_)
                    generalize wk.drew = WW at *
                    refine wpAnyH_takeL (i := 0) (v := .slice (some ⟨gb, off, none⟩) z c) rfl (by kernel_rfl) (by kernel_rfl) (by kernel_rfl) (fun _ _ _ h => h) (Or.inl ⟨by rfl, fun W hW => by go_simp⟩) hHeld ?_
                    try simp only [Act.put, List.setIfInBounds_toArray, List.set_cons_zero, List.set_cons_succ]
                    refine wpAnyH_takeL (i := 1) (v := .int .i64 (z : Int)) rfl (by kernel_rfl) (by kernel_rfl) (by kernel_rfl) (fun _ _ _ h => h) (Or.inl ⟨by rfl, fun W hW => by go_simp⟩) hHeld ?_
                    try simp only [Act.put, List.setIfInBounds_toArray, List.set_cons_zero, List.set_cons_succ]
                    refine wpAnyH_takeL (i := 2) (v := .int .i64 (I : Int)) rfl (by kernel_rfl) (by kernel_rfl) (by kernel_rfl) (fun _ _ _ h => h) (Or.inl ⟨by rfl, fun W hW => by go_simp⟩) hHeld ?_
                    try simp only [Act.put, List.setIfInBounds_toArray, List.set_cons_zero, List.set_cons_succ]
                    refine wpAnyH_takeL (i := 3) (v := .slice (some ⟨gb, off, none⟩) z c) rfl (by kernel_rfl) (by kernel_rfl) (by kernel_rfl) (fun _ _ _ h => h) (Or.inl ⟨by rfl, fun W hW => by go_simp⟩) hHeld ?_
                    try simp only [Act.put, List.setIfInBounds_toArray, List.set_cons_zero, List.set_cons_succ]
                    refine wpAnyH_takeL (i := 4) (v := .int .i64 (I : Int)) rfl (by kernel_rfl) (by kernel_rfl) (by kernel_rfl) (fun _ _ _ h => h) (Or.inl ⟨by rfl, fun W hW => by go_simp⟩) hHeld ?_
                    try simp only [Act.put, List.setIfInBounds_toArray, List.set_cons_zero, List.set_cons_succ]
                    refine wpAnyH_takeL (i := 5) (v := .pointer (some ⟨gb, off + I * 32, none⟩)) rfl (by kernel_rfl) (by kernel_rfl) (by kernel_rfl) (fun _ _ _ h => h) (Or.inl ⟨by rfl, fun W hW => by go_simp⟩) hHeld ?_
                    try simp only [Act.put, List.setIfInBounds_toArray, List.set_cons_zero, List.set_cons_succ]
                    refine wpAnyH_takeL (i := 6) (v := .agg X) rfl (by kernel_rfl) (by kernel_rfl) (by kernel_rfl) (fun _ _ _ h => h) ?_ hHeld ?_
                    · exact yieldsIf_load_hash (by rfl) (.tmp 138) rfl gb (off + I * 32) (by kernel_rfl) x HLX.out (fun W hW => HRG.out W hW) X HEX.out
                    try simp only [Act.put, List.setIfInBounds_toArray, List.set_cons_zero, List.set_cons_succ]
                    refine wpAnyH_takeL (i := 7) (v := .slice (some ⟨gb, off, none⟩) z c) rfl (by kernel_rfl) (by kernel_rfl) (by kernel_rfl) (fun _ _ _ h => h) (Or.inl ⟨by rfl, fun W hW => by go_simp⟩) hHeld ?_
                    try simp only [Act.put, List.setIfInBounds_toArray, List.set_cons_zero, List.set_cons_succ]
                    refine wpAnyH_takeL (i := 8) (v := .int .i64 (I : Int)) rfl (by kernel_rfl) (by kernel_rfl) (by kernel_rfl) (fun _ _ _ h => h) (Or.inl ⟨by rfl, fun W hW => by go_simp⟩) hHeld ?_
                    try simp only [Act.put, List.setIfInBounds_toArray, List.set_cons_zero, List.set_cons_succ]
                    refine wpAnyH_takeL (i := 9) (v := .pointer (some ⟨gb, off + I * 32, none⟩)) rfl (by kernel_rfl) (by kernel_rfl) (by kernel_rfl) (fun _ _ _ h => h) (Or.inl ⟨by rfl, fun W hW => by go_simp⟩) hHeld ?_
                    try simp only [Act.put, List.setIfInBounds_toArray, List.set_cons_zero, List.set_cons_succ]
                    refine wpAnyH_takeL (i := 10) (v := .agg X) rfl (by kernel_rfl) (by kernel_rfl) (by kernel_rfl) (fun _ _ _ h => h) ?_ hHeld ?_
                    · exact yieldsIf_load_hash (by rfl) (.tmp 142) rfl gb (off + I * 32) (by kernel_rfl) x HLX.out (fun W hW => HRG.out W hW) X HEX.out
                    try simp only [Act.put, List.setIfInBounds_toArray, List.set_cons_zero, List.set_cons_succ]
                    refine wpAnyH_takeL (i := 11) (v := .slice A1 q c1) rfl (by kernel_rfl) (by kernel_rfl) (by kernel_rfl) (fun _ _ _ h => h) (Or.inl ⟨by rfl, fun W hW => by go_simp⟩) hHeld ?_
                    try simp only [Act.put, List.setIfInBounds_toArray, List.set_cons_zero, List.set_cons_succ]
                    refine wpAnyH_takeL (i := 12) (v := .slice (some ⟨gq, 0, none⟩) q cq) rfl (by kernel_rfl) (by kernel_rfl) (by kernel_rfl) (fun _ _ _ h => h) (Or.inl ⟨by rfl, fun W hW => by go_simp⟩) hHeld ?_
                    try simp only [Act.put, List.setIfInBounds_toArray, List.set_cons_zero, List.set_cons_succ]
                    refine wpAnyH_ready (rs := [13, 17]) (by kernel_rfl) (by simp) ?_
                    refine allReadyH_two rfl rfl (fun KK hK => ?_) (fun KK hK => ?_)
                    · rw [if_pos (by rfl)]
                      go_simp
                      with_reducible refine (HU.out _ hHeld).mono ?_
                      rintro e w4 ⟨A0, B0, rfl, hA0, hB0, hb⟩
                      rw [HS1.out] at hA0
                      rw [HS2.out] at hB0
                      obtain ⟨X4, x4, rfl, _, _⟩ := id hA0
                      obtain ⟨Y4, y4, rfl, _, _⟩ := id hB0
                      have HTA := Lib.hid hA0
                      have HTB := Lib.hid hB0
                      clear hA0 hB0
                      rw [HN1.out] at HTA ⊢
                      rw [HN2.out] at HTB ⊢
                      rw [HK.out]
                      have HW4 := Lib.hid (show Below wk.heap.size wk w4 from hHeld.trans (hb.mono hHeld.size))
                      go_wp2_with fail
                      refine hK.out _ _ (HW4.out) (fun hHeld => ?_)
                      clear hK KK
                      try simp only [Act.put, List.setIfInBounds_toArray, List.set_cons_zero, List.set_cons_succ]
                      refine wpAnyH_takeL (i := 14) (v := .tuple #[.agg #[.slice X4 n1 x4, .slice Y4 n2 y4], .bool K]) rfl (by kernel_rfl) (by kernel_rfl) (by kernel_rfl) (fun _ _ _ h => h) (Or.inl ⟨by rfl, fun W hW => by go_simp⟩) hHeld ?_
                      try simp only [Act.put, List.setIfInBounds_toArray, List.set_cons_zero, List.set_cons_succ]
                      refine wpAnyH_takeL (i := 15) (v := .agg #[.slice X4 n1 x4, .slice Y4 n2 y4]) rfl (by kernel_rfl) (by kernel_rfl) (by kernel_rfl) (fun _ _ _ h => h) (Or.inl ⟨by rfl, fun W hW => by go_simp⟩) hHeld ?_
                      try simp only [Act.put, List.setIfInBounds_toArray, List.set_cons_zero, List.set_cons_succ]
                      refine wpAnyH_takeL (i := 16) (v := .bool K) rfl (by kernel_rfl) (by kernel_rfl) (by kernel_rfl) (fun _ _ _ h => h) (Or.inl ⟨by rfl, fun W hW => by go_simp⟩) hHeld ?_
                      try simp only [Act.put, List.setIfInBounds_toArray, List.set_cons_zero, List.set_cons_succ]
                      refine wpAnyH_ready (rs := [17]) (by kernel_rfl) (by simp) ?_
                      refine allReadyH_consL rfl fun KK hK => ?_
                      rw [if_pos (by rfl)]
                      go_simp
                      have hal := (Below.refl w4.heap.size w4).alloc (Nat.le_refl _) (.cells #[.slice none 0 0, .slice none 0 0] 41)
                      have HAL := Lib.hid (show Below wk.heap.size wk (w4.alloc (.cells #[.slice none 0 0, .slice none 0 0] 41)) from hHeld.trans (hal.mono hHeld.size))
                      have HBB := Lib.hid (show Blk (w4.alloc (.cells #[.slice none 0 0, .slice none 0 0] 41)) w4.heap.size #[.slice none 0 0, .slice none 0 0] 41 from Blk.new _ _ _)
                      have HGB := Lib.hid (show wk.heap.size ≤ w4.heap.size from hHeld.size)
                      replace HTA := Lib.hid (HTA.out.on hal)
                      replace HTB := Lib.hid (HTB.out.on hal)
                      refine hK.out _ _ (HAL.out) (fun hHeld => ?_)
                      clear hK KK
                      try simp only [Act.put, List.setIfInBounds_toArray, List.set_cons_zero, List.set_cons_succ]
                      obtain ⟨gk, hgk⟩ : ∃ g, w4.heap.size = g := ⟨_, rfl⟩
                      rw [hgk] at HBB HGB ⊢
                      clear hgk hal
                      have hc0 := HBB.out.cell 0
                      have hc1 := HBB.out.cell 1
                      have hf0 := HBB.out.frozen 0
                      have hf1 := HBB.out.frozen 1
                      simp at hc0 hc1
                      refine wpAnyH_ready (rs := [18]) (by kernel_rfl) (by simp) ?_
                      refine allReadyH_consL rfl fun KK hK => ?_
                      rw [if_pos (by rfl)]
                      go_simp
                      refine hK.out _ _ ((hHeld.setCell (p := ⟨gk, 0, none⟩) HGB.out _).setCell (p := ⟨gk, 1, none⟩) HGB.out _) (fun hHeld => ?_)
                      clear hK KK
                      try simp only [Act.put, List.setIfInBounds_toArray, List.set_cons_zero, List.set_cons_succ]
                      have HF1 := Lib.hid (tv_sets HTA.out HBB.out X4 Y4 n1 n2 x4 y4)
                      have HF2 := Lib.hid (tv_sets HTB.out HBB.out X4 Y4 n1 n2 x4 y4)
                      have HF3 := Lib.hid (show Blk _ gk #[.slice X4 n1 x4, .slice Y4 n2 y4] 41 from ((HBB.out.set 0 (.slice X4 n1 x4)).set 1 (.slice Y4 n2 y4)))
                      clear hc0 hc1 hf0 hf1
                      refine wpAnyH_ready (rs := [19]) (by kernel_rfl) (by simp) ?_
                      refine allReadyH_consL rfl fun KK hK => ?_
                      rw [if_pos (by rfl)]
                      go_simp
                      refine hK.out _ _ hHeld (fun hHeld => ?_)
                      clear hK KK
                      try simp only [Act.put, List.setIfInBounds_toArray, List.set_cons_zero, List.set_cons_succ]
                      refine wpAnyH_done (by kernel_rfl) ?_ _
                      go_wp2_with fail
                      go_meet
                      case rel => exact ⟨gk, X4, x4, Y4, y4, rfl, rfl, HF3, HF1, HF2, hHeld⟩
                    · rw [if_pos (by rfl)]
                      go_simp
                      have hal := (Below.refl WW.heap.size WW).alloc (Nat.le_refl _) (.cells #[.slice none 0 0, .slice none 0 0] 41)
                      have HAL := Lib.hid (show Below wk.heap.size wk (WW.alloc (.cells #[.slice none 0 0, .slice none 0 0] 41)) from hHeld.trans (hal.mono hHeld.size))
                      have HBB := Lib.hid (show Blk (WW.alloc (.cells #[.slice none 0 0, .slice none 0 0] 41)) WW.heap.size #[.slice none 0 0, .slice none 0 0] 41 from Blk.new _ _ _)
                      have HGB := Lib.hid (show wk.heap.size ≤ WW.heap.size from hHeld.size)
                      refine hK.out _ _ (HAL.out) (fun hHeld => ?_)
                      clear hK KK
                      try simp only [Act.put, List.setIfInBounds_toArray, List.set_cons_zero, List.set_cons_succ]
                      obtain ⟨gk, hgk⟩ : ∃ g, WW.heap.size = g := ⟨_, rfl⟩
                      rw [hgk] at HBB HGB ⊢
                      clear hgk hal
                      refine wpAnyH_ready (rs := [13]) (by kernel_rfl) (by simp) ?_
                      refine allReadyH_consL rfl fun KK hK => ?_
                      rw [if_pos (by rfl)]
                      go_simp
                      with_reducible refine (HU.out _ hHeld).mono ?_
                      rintro e w4 ⟨A0, B0, rfl, hA0, hB0, hb⟩
                      rw [HS1.out] at hA0
                      rw [HS2.out] at hB0
                      obtain ⟨X4, x4, rfl, _, _⟩ := id hA0
                      obtain ⟨Y4, y4, rfl, _, _⟩ := id hB0
                      have HTA := Lib.hid hA0
                      have HTB := Lib.hid hB0
                      clear hA0 hB0
                      rw [HN1.out] at HTA ⊢
                      rw [HN2.out] at HTB ⊢
                      rw [HK.out]
                      have HW4 := Lib.hid (show Below wk.heap.size wk w4 from hHeld.trans (hb.mono hHeld.size))
                      replace HBB := Lib.hid (HBB.out.below hb HBB.out.lt)
                      go_wp2_with fail
                      refine hK.out _ _ (HW4.out) (fun hHeld => ?_)
                      clear hK KK
                      try simp only [Act.put, List.setIfInBounds_toArray, List.set_cons_zero, List.set_cons_succ]
                      refine wpAnyH_takeL (i := 14) (v := .tuple #[.agg #[.slice X4 n1 x4, .slice Y4 n2 y4], .bool K]) rfl (by kernel_rfl) (by kernel_rfl) (by kernel_rfl) (fun _ _ _ h => h) (Or.inl ⟨by rfl, fun W hW => by go_simp⟩) hHeld ?_
                      try simp only [Act.put, List.setIfInBounds_toArray, List.set_cons_zero, List.set_cons_succ]
                      refine wpAnyH_takeL (i := 15) (v := .agg #[.slice X4 n1 x4, .slice Y4 n2 y4]) rfl (by kernel_rfl) (by kernel_rfl) (by kernel_rfl) (fun _ _ _ h => h) (Or.inl ⟨by rfl, fun W hW => by go_simp⟩) hHeld ?_
                      try simp only [Act.put, List.setIfInBounds_toArray, List.set_cons_zero, List.set_cons_succ]
                      refine wpAnyH_takeL (i := 16) (v := .bool K) rfl (by kernel_rfl) (by kernel_rfl) (by kernel_rfl) (fun _ _ _ h => h) (Or.inl ⟨by rfl, fun W hW => by go_simp⟩) hHeld ?_
                      try simp only [Act.put, List.setIfInBounds_toArray, List.set_cons_zero, List.set_cons_succ]
                      have hc0 := HBB.out.cell 0
                      have hc1 := HBB.out.cell 1
                      have hf0 := HBB.out.frozen 0
                      have hf1 := HBB.out.frozen 1
                      simp at hc0 hc1
                      refine wpAnyH_ready (rs := [18]) (by kernel_rfl) (by simp) ?_
                      refine allReadyH_consL rfl fun KK hK => ?_
                      rw [if_pos (by rfl)]
                      go_simp
                      refine hK.out _ _ ((hHeld.setCell (p := ⟨gk, 0, none⟩) HGB.out _).setCell (p := ⟨gk, 1, none⟩) HGB.out _) (fun hHeld => ?_)
                      clear hK KK
                      try simp only [Act.put, List.setIfInBounds_toArray, List.set_cons_zero, List.set_cons_succ]
                      have HF1 := Lib.hid (tv_sets HTA.out HBB.out X4 Y4 n1 n2 x4 y4)
                      have HF2 := Lib.hid (tv_sets HTB.out HBB.out X4 Y4 n1 n2 x4 y4)
                      have HF3 := Lib.hid (show Blk _ gk #[.slice X4 n1 x4, .slice Y4 n2 y4] 41 from ((HBB.out.set 0 (.slice X4 n1 x4)).set 1 (.slice Y4 n2 y4)))
                      clear hc0 hc1 hf0 hf1
                      refine wpAnyH_ready (rs := [19]) (by kernel_rfl) (by simp) ?_
                      refine allReadyH_consL rfl fun KK hK => ?_
                      rw [if_pos (by rfl)]
                      go_simp
                      refine hK.out _ _ hHeld (fun hHeld => ?_)
                      clear hK KK
                      try simp only [Act.put, List.setIfInBounds_toArray, List.set_cons_zero, List.set_cons_succ]
                      refine wpAnyH_done (by kernel_rfl) ?_ _
                      go_wp2_with fail
                      go_meet
                      case rel => exact ⟨gk, X4, x4, Y4, y4, rfl, rfl, HF3, HF1, HF2, hHeld⟩
                  case rest =>
                    obtain ⟨gk, X4, x4, Y4, y4, rfl, rfl, HBK, HTA, HTB, hbk⟩ := hcut
                    replace HBW := Lib.hid (HBW.out.trans (hbk.mono HBW.out.size))
                    obtain rfl : K = true := HKT.out
                    have HB19 := HBK
                    have HIB := Lib.hid (is_brS (x := (s1, s2)) HTA.out HTB.out HSM.out.1 HSM.out.2 HBR.out)
                    clear hbk
                    go_wp2_with (refine wpList_load_wb (.tmp 19) rfl gk rfl (.slice X4 n1 x4) (.slice Y4 n2 y4) HB19.out ?_ ?_; · rfl)
                    with_reducible refine (HIB.out).mono ?_
                    rintro e wz ⟨rfl, hb⟩
                    replace HBW := Lib.hid (HBW.out.trans (hb.mono HBW.out.size))
                    clear hb
                    go_wp2_with fail
                    go_ret
                    exact ⟨by kernel_rfl, HBO.out.trans (HBW.out.mono HBO.out.size)⟩
                | false =>
                  clear HED2
                  obtain ⟨b1, o1, hA1, _⟩ := HV1.out.at_ (i := 0) hq0
                  subst hA1
                  obtain ⟨AT, hAT⟩ : ∃ X, (if c1 = 1 then some (⟨b1, o1, none⟩ : Addr) else some ⟨b1, o1 + 32, none⟩) = X := ⟨_, rfl⟩
                  have HAT := Lib.hid hAT
                  have hqc : q ≤ c1 := hqc1
                  have h1c : 1 ≤ c1 := by omega
                  have h1q : 1 ≤ q := by omega
                  have hq1i : (1 : Int) ≤ (q : Int) := by omega
                  have HVT := Lib.hid (fun W (hv : HV W (.slice (some ⟨b1, o1, none⟩) q c1) ps) => (show HV W (.slice AT (q - 1) (c1 - 1)) (ps.drop 1) from by
                    by_cases hc11 : c1 = 1
                    · have hq1 : q = 1 := by omega
                      have hd : ps.drop 1 = [] := List.drop_eq_nil_of_le (by rw [HLP.out]; omega)
                      rw [hd, hc11, hq1]
                      exact ⟨fun r hr => (by cases hr), AT, 0, rfl, Nat.le_refl _, .inl rfl⟩
                    · rw [if_neg hc11] at hAT
                      rw [← hAT]
                      have h := hv_rest (h := 1) hv h1q
                      rw [Nat.one_mul] at h
                      exact h))
                  have HTL := Lib.hid (show (ps.drop 1).length = q - 1 by rw [List.length_drop, HLP.out])
                  clear hAT
                  have HRG := Lib.hid (fun W (h : Below wk.heap.size wk W) => HRG0.out W (HBW.out.trans (h.mono HBW.out.size)))
                  have HB9L := Lib.hid (show Blk wk w3.heap.size (u8A (rootV ks)) 25 by rw [HEV.out]; exact HB9.out)
                  have HRV := Lib.hid (fun W (h : Below wk.heap.size wk W) => range_of_blk (HB9L.out.below h HB9L.out.lt))
                  have HC3 := Lib.hid (fun W (h : Below wk.heap.size wk W) => (show Calls Tryd.prog 17 #[.agg V, .int .i64 (z : Int), .int .i64 (I : Int), .agg X, .slice AT (q - 1) (c1 - 1)] W fun e w' => e = .returned (.bool false) ∧ Below W.heap.size W w' from by
                    have h2 := HCKA.out W (I : Int) AT (q - 1) (c1 - 1) x (ps.drop 1) HLX.out HTL.out (by omega) (HBW.out.trans (h.mono HBW.out.size)) (HVT.out W (HV1.out.on h))
                    rw [decide_eq_false (fun hh => by have e1 := hh.1.2.2.2; have e2 := HO1.out.2.2.2; rw [HTL.out] at e1; omega), HEX.out] at h2
                    exact h2))
                  go_wp2_with fail
                  refine wp_region_loose 11 0 (fun i => false) (promises [.is (.agg V), .is (.slice (some ⟨gb, off, none⟩) z c), .is (.int .i64 (z : Int)), .is (.int .i64 (I : Int)), .is (.slice (some ⟨gb, off, none⟩) z c), .is (.int .i64 (I : Int)), .is (.pointer (some ⟨gb, off + I * 32, none⟩)), .is (.agg X), .is (.slice (some ⟨b1, o1, none⟩) q c1), .is (.slice AT (q - 1) (c1 - 1)), .is (.bool false)]) (by kernel_rfl) rfl (by kernel_rfl) (fun i v w w' h hb => Spec.keep h hb) ⟨?_, ?_, ?_, ?_, ?_, ?_, ?_, ?_, ?_, ?_, ?_, trivial⟩ ?_
                  · refine StepOKl.of ?_
                    intro ac w hb hu hk
                    refine ⟨wanted_none rfl, ?_⟩
                    have e9 : ac.eval (.tmp 9) = .pointer (some ⟨w3.heap.size, 0, none⟩) := hu.is (t := 9) (by kernel_rfl)
                    refine step_value (w' := w) (v := .agg V) (run_load_hash (.tmp 9) rfl w3.heap.size (0) e9 (rootV ks) HLV.out (HRV.out w hb) HEV.out) (Below.refl _ _) rfl
                  · refine StepOKl.of ?_
                    intro ac w hb hu hk
                    refine ⟨wanted_none rfl, ?_⟩
                    have e0 : ac.eval (.tmp 0) = .slice (some ⟨gb, off, none⟩) z c := hu.is (t := 0) (by kernel_rfl)
                    exact step_value (BigFrame.run_move (.tmp 0) rfl w) (Below.refl _ _) e0
                  · refine StepOKl.of ?_
                    intro ac w hb hu hk
                    refine ⟨wanted_none rfl, ?_⟩
                    have e155 : ac.eval (.tmp 155) = (.slice (some ⟨gb, off, none⟩) z c) := (hk ⟨1, .data⟩ (by simp) rfl).is rfl rfl
                    refine step_value (w' := w) (v := (.int .i64 (z : Int))) ?_ (Below.refl _ _) rfl
                    generalize ac.eval = ρ at e155 ⊢
                    go_simp
                  · refine StepOKl.of ?_
                    intro ac w hb hu hk
                    refine ⟨wanted_none rfl, ?_⟩
                    have e1 : ac.eval (.tmp 1) = .int .i64 (I : Int) := hu.is (t := 1) (by kernel_rfl)
                    exact step_value (BigFrame.run_move (.tmp 1) rfl w) (Below.refl _ _) e1
                  · refine StepOKl.of ?_
                    intro ac w hb hu hk
                    refine ⟨wanted_none rfl, ?_⟩
                    have e0 : ac.eval (.tmp 0) = .slice (some ⟨gb, off, none⟩) z c := hu.is (t := 0) (by kernel_rfl)
                    exact step_value (BigFrame.run_move (.tmp 0) rfl w) (Below.refl _ _) e0
                  · refine StepOKl.of ?_
                    intro ac w hb hu hk
                    refine ⟨wanted_none rfl, ?_⟩
                    have e1 : ac.eval (.tmp 1) = .int .i64 (I : Int) := hu.is (t := 1) (by kernel_rfl)
                    exact step_value (BigFrame.run_move (.tmp 1) rfl w) (Below.refl _ _) e1
                  · refine StepOKl.of ?_
                    intro ac w hb hu hk
                    refine ⟨wanted_none rfl, ?_⟩
                    have e158 : ac.eval (.tmp 158) = (.slice (some ⟨gb, off, none⟩) z c) := (hk ⟨4, .data⟩ (by simp) rfl).is rfl rfl
                    have e159 : ac.eval (.tmp 159) = (.int .i64 (I : Int)) := (hk ⟨5, .data⟩ (by simp) rfl).is rfl rfl
                    refine step_value (w' := w) (v := (.pointer (some ⟨gb, off + I * 32, none⟩))) ?_ (Below.refl _ _) rfl
                    generalize ac.eval = ρ at e158 e159 ⊢
                    go_simp
                  · refine StepOKl.of ?_
                    intro ac w hb hu hk
                    refine ⟨wanted_none rfl, ?_⟩
                    have e160 : ac.eval (.tmp 160) = (.pointer (some ⟨gb, off + I * 32, none⟩)) := (hk ⟨6, .data⟩ (by simp) rfl).is rfl rfl
                    refine step_value (w' := w) (v := .agg X) (run_load_hash (.tmp 160) rfl gb (off + I * 32) e160 x HLX.out (HRG.out w hb) HEX.out) (Below.refl _ _) rfl
                  · refine StepOKl.of ?_
                    intro ac w hb hu hk
                    refine ⟨wanted_none rfl, ?_⟩
                    have e13 : ac.eval (.tmp 13) = .slice (some ⟨b1, o1, none⟩) q c1 := hu.is (t := 13) (by kernel_rfl)
                    exact step_value (BigFrame.run_move (.tmp 13) rfl w) (Below.refl _ _) e13
                  · refine StepOKl.of ?_
                    intro ac w hb hu hk
                    refine ⟨wanted_none rfl, ?_⟩
                    have e162 : ac.eval (.tmp 162) = (.slice (some ⟨b1, o1, none⟩) q c1) := (hk ⟨8, .data⟩ (by simp) rfl).is rfl rfl
                    refine step_value (w' := w) (v := .slice AT (q - 1) (c1 - 1)) ?_ (Below.refl _ _) rfl
                    have hat := HAT.out
                    have ec : ac.eval (.const (.int .i64 1)) = .int .i64 1 := rfl
                    generalize ac.eval = ρ at e162 ec ⊢
                    go_simp
                    try rw [← hat]
                  · refine StepOKl.of ?_
                    intro ac w hb hu hk
                    refine ⟨wanted_none rfl, ?_⟩
                    have e154 : ac.eval (.tmp 154) = (.agg V) := (hk ⟨0, .data⟩ (by simp) rfl).is rfl rfl
                    have e156 : ac.eval (.tmp 156) = (.int .i64 (z : Int)) := (hk ⟨2, .data⟩ (by simp) rfl).is rfl rfl
                    have e157 : ac.eval (.tmp 157) = (.int .i64 (I : Int)) := (hk ⟨3, .data⟩ (by simp) rfl).is rfl rfl
                    have e161 : ac.eval (.tmp 161) = (.agg X) := (hk ⟨7, .data⟩ (by simp) rfl).is rfl rfl
                    have e163 : ac.eval (.tmp 163) = (.slice AT (q - 1) (c1 - 1)) := (hk ⟨9, .data⟩ (by simp) rfl).is rfl rfl
                    have ef : ac.eval (.func 17) = .func (.func 17) #[] #[] := rfl
                    refine step_enter (f := 17) (args := #[.agg V, .int .i64 (z : Int), .int .i64 (I : Int), .agg X, .slice AT (q - 1) (c1 - 1)]) ?_ ?_
                    · generalize ac.eval = ρ at e154 e156 e157 e161 e163 ef ⊢
                      go_simp
                    · exact (HC3.out w hb).mono fun e w' ⟨he, hq⟩ => ⟨_, he, rfl, hq⟩
                  · intro ac w' hb hu hk hap
                    obtain ⟨_, h154, rfl⟩ := (hk 0 (by decide)).put rfl rfl
                    obtain ⟨_, h155, rfl⟩ := (hk 1 (by decide)).put rfl rfl
                    obtain ⟨_, h156, rfl⟩ := (hk 2 (by decide)).put rfl rfl
                    obtain ⟨_, h157, rfl⟩ := (hk 3 (by decide)).put rfl rfl
                    obtain ⟨_, h158, rfl⟩ := (hk 4 (by decide)).put rfl rfl
                    obtain ⟨_, h159, rfl⟩ := (hk 5 (by decide)).put rfl rfl
                    obtain ⟨_, h160, rfl⟩ := (hk 6 (by decide)).put rfl rfl
                    obtain ⟨_, h161, rfl⟩ := (hk 7 (by decide)).put rfl rfl
                    obtain ⟨_, h162, rfl⟩ := (hk 8 (by decide)).put rfl rfl
                    obtain ⟨_, h163, rfl⟩ := (hk 9 (by decide)).put rfl rfl
                    obtain ⟨_, h164, rfl⟩ := (hk 10 (by decide)).put rfl rfl
                    clear hap
                    have hF : AllPuts ac.tmps ((154, _) :: (155, _) :: (156, _) :: (157, _) :: (158, _) :: (159, _) :: (160, _) :: (161, _) :: (162, _) :: (163, _) :: (164, _) :: []) := ⟨h154, h155, h156, h157, h158, h159, h160, h161, h162, h163, h164, trivial⟩
                    obtain rfl := frame_puts hu (by kernel_rfl) hF
                    simp only [puts, Act.put, List.setIfInBounds_toArray, List.set_cons_zero, List.set_cons_succ, List.drop_succ_cons, List.drop_nil]
                    clear hk hu hF h154 h155 h156 h157 h158 h159 h160 h161 h162 h163 h164
                    have hbb : Below wk.heap.size wk w' := hb
                    replace HBW := Lib.hid (HBW.out.trans (hb.mono HBW.out.size))
                    replace HB9 := Lib.hid (HB9.out.below hbb HB9.out.lt)
                    replace HV1 := Lib.hid (HV1.out.on hbb)
                    obtain ⟨wl, rfl⟩ : ∃ y : World, y = w' := ⟨_, rfl⟩
                    clear hb hbb
                    clear HRG HRV HB9L HC3 HVT HAT
                    have HRG := Lib.hid (fun W (h : Below wl.heap.size wl W) => HRG0.out W (HBW.out.trans (h.mono HBW.out.size)))
                    have HB9L := Lib.hid (show Blk wl w3.heap.size (u8A (rootV ks)) 25 by rw [HEV.out]; exact HB9.out)
                    have HRV := Lib.hid (fun W (h : Below wl.heap.size wl W) => range_of_blk (HB9L.out.below h HB9L.out.lt))
                    have HK1 := Lib.hid (fun W (h : Below wl.heap.size wl W) => HKN.out W (z : Int) (some ⟨b1, o1, none⟩) c1 (HBW.out.trans (h.mono HBW.out.size)) (HV1.out.on h) (by omega))
                    have HK2 := Lib.hid (fun W (h : Below wl.heap.size wl W) => HKN.out W (-1) (some ⟨b1, o1, none⟩) c1 (HBW.out.trans (h.mono HBW.out.size)) (HV1.out.on h) (by omega))
                    have HWK := Lib.hid (fun W (h : Below wl.heap.size wl W) => wakes7_any W (tab_in HT.out (HBW.out.trans (h.mono HBW.out.size))))
                    clear HRG0 HKN HB9L
                    go_wp2_with fail
                    refine wp_region_loose 28 0 (fun i => false) (promises [.is (.agg V), .is (.slice (some ⟨gb, off, none⟩) z c), .is (.int .i64 (z : Int)), .is (.slice (some ⟨gb, off, none⟩) z c), .is (.int .i64 (z : Int)), .is (.slice (some ⟨gb, off, none⟩) z c), .is (.int .i64 (I : Int)), .is (.pointer (some ⟨gb, off + I * 32, none⟩)), .is (.agg X), .is (.slice (some ⟨b1, o1, none⟩) q c1), .is (.bool false), .is (.bool true), .is (.bool true), .is (.agg V), .is (.slice (some ⟨gb, off, none⟩) z c), .is (.int .i64 (z : Int)), .is (.slice (some ⟨gb, off, none⟩) z c), .is (.int .i64 (I : Int)), .is (.pointer (some ⟨gb, off + I * 32, none⟩)), .is (.agg X), .is (.slice (some ⟨b1, o1, none⟩) q c1), .is (.bool false), .is (.bool true), .is (.bool true), .is (.bool true), .is (.bool true), .is (.bool true), .is (.bool true)]) (by kernel_rfl) rfl (by kernel_rfl) (fun i v w w' h hb => Spec.keep h hb) ⟨?_, ?_, ?_, ?_, ?_, ?_, ?_, ?_, ?_, ?_, ?_, ?_, ?_, ?_, ?_, ?_, ?_, ?_, ?_, ?_, ?_, ?_, ?_, ?_, ?_, ?_, ?_, ?_, trivial⟩ ?_
                    · refine StepOKl.of ?_
                      intro ac w hb hu hk
                      refine ⟨wanted_none rfl, ?_⟩
                      have e9 : ac.eval (.tmp 9) = .pointer (some ⟨w3.heap.size, 0, none⟩) := hu.is (t := 9) (by kernel_rfl)
                      refine step_value (w' := w) (v := .agg V) (run_load_hash (.tmp 9) rfl w3.heap.size (0) e9 (rootV ks) HLV.out (HRV.out w hb) HEV.out) (Below.refl _ _) rfl
                    · refine StepOKl.of ?_
                      intro ac w hb hu hk
                      refine ⟨wanted_none rfl, ?_⟩
                      have e0 : ac.eval (.tmp 0) = .slice (some ⟨gb, off, none⟩) z c := hu.is (t := 0) (by kernel_rfl)
                      exact step_value (BigFrame.run_move (.tmp 0) rfl w) (Below.refl _ _) e0
                    · refine StepOKl.of ?_
                      intro ac w hb hu hk
                      refine ⟨wanted_none rfl, ?_⟩
                      have e166 : ac.eval (.tmp 166) = (.slice (some ⟨gb, off, none⟩) z c) := (hk ⟨1, .data⟩ (by simp) rfl).is rfl rfl
                      refine step_value (w' := w) (v := (.int .i64 (z : Int))) ?_ (Below.refl _ _) rfl
                      generalize ac.eval = ρ at e166 ⊢
                      go_simp
                    · refine StepOKl.of ?_
                      intro ac w hb hu hk
                      refine ⟨wanted_none rfl, ?_⟩
                      have e0 : ac.eval (.tmp 0) = .slice (some ⟨gb, off, none⟩) z c := hu.is (t := 0) (by kernel_rfl)
                      exact step_value (BigFrame.run_move (.tmp 0) rfl w) (Below.refl _ _) e0
                    · refine StepOKl.of ?_
                      intro ac w hb hu hk
                      refine ⟨wanted_none rfl, ?_⟩
                      have e168 : ac.eval (.tmp 168) = (.slice (some ⟨gb, off, none⟩) z c) := (hk ⟨3, .data⟩ (by simp) rfl).is rfl rfl
                      refine step_value (w' := w) (v := (.int .i64 (z : Int))) ?_ (Below.refl _ _) rfl
                      generalize ac.eval = ρ at e168 ⊢
                      go_simp
                    · refine StepOKl.of ?_
                      intro ac w hb hu hk
                      refine ⟨wanted_none rfl, ?_⟩
                      have e0 : ac.eval (.tmp 0) = .slice (some ⟨gb, off, none⟩) z c := hu.is (t := 0) (by kernel_rfl)
                      exact step_value (BigFrame.run_move (.tmp 0) rfl w) (Below.refl _ _) e0
                    · refine StepOKl.of ?_
                      intro ac w hb hu hk
                      refine ⟨wanted_none rfl, ?_⟩
                      have e1 : ac.eval (.tmp 1) = .int .i64 (I : Int) := hu.is (t := 1) (by kernel_rfl)
                      exact step_value (BigFrame.run_move (.tmp 1) rfl w) (Below.refl _ _) e1
                    · refine StepOKl.of ?_
                      intro ac w hb hu hk
                      refine ⟨wanted_none rfl, ?_⟩
                      have e170 : ac.eval (.tmp 170) = (.slice (some ⟨gb, off, none⟩) z c) := (hk ⟨5, .data⟩ (by simp) rfl).is rfl rfl
                      have e171 : ac.eval (.tmp 171) = (.int .i64 (I : Int)) := (hk ⟨6, .data⟩ (by simp) rfl).is rfl rfl
                      refine step_value (w' := w) (v := (.pointer (some ⟨gb, off + I * 32, none⟩))) ?_ (Below.refl _ _) rfl
                      generalize ac.eval = ρ at e170 e171 ⊢
                      go_simp
                    · refine StepOKl.of ?_
                      intro ac w hb hu hk
                      refine ⟨wanted_none rfl, ?_⟩
                      have e172 : ac.eval (.tmp 172) = (.pointer (some ⟨gb, off + I * 32, none⟩)) := (hk ⟨7, .data⟩ (by simp) rfl).is rfl rfl
                      refine step_value (w' := w) (v := .agg X) (run_load_hash (.tmp 172) rfl gb (off + I * 32) e172 x HLX.out (HRG.out w hb) HEX.out) (Below.refl _ _) rfl
                    · refine StepOKl.of ?_
                      intro ac w hb hu hk
                      refine ⟨wanted_none rfl, ?_⟩
                      have e13 : ac.eval (.tmp 13) = .slice (some ⟨b1, o1, none⟩) q c1 := hu.is (t := 13) (by kernel_rfl)
                      exact step_value (BigFrame.run_move (.tmp 13) rfl w) (Below.refl _ _) e13
                    · refine StepOKl.of ?_
                      intro ac w hb hu hk
                      refine ⟨wanted_none rfl, ?_⟩
                      have e165 : ac.eval (.tmp 165) = (.agg V) := (hk ⟨0, .data⟩ (by simp) rfl).is rfl rfl
                      have e167 : ac.eval (.tmp 167) = (.int .i64 (z : Int)) := (hk ⟨2, .data⟩ (by simp) rfl).is rfl rfl
                      have e169 : ac.eval (.tmp 169) = (.int .i64 (z : Int)) := (hk ⟨4, .data⟩ (by simp) rfl).is rfl rfl
                      have e173 : ac.eval (.tmp 173) = (.agg X) := (hk ⟨8, .data⟩ (by simp) rfl).is rfl rfl
                      have e174 : ac.eval (.tmp 174) = (.slice (some ⟨b1, o1, none⟩) q c1) := (hk ⟨9, .data⟩ (by simp) rfl).is rfl rfl
                      have ef : ac.eval (.func 17) = .func (.func 17) #[] #[] := rfl
                      refine step_enter (f := 17) (args := #[.agg V, .int .i64 (z : Int), .int .i64 (z : Int), .agg X, .slice (some ⟨b1, o1, none⟩) q c1]) ?_ ?_
                      · generalize ac.eval = ρ at e165 e167 e169 e173 e174 ef ⊢
                        go_simp
                      · exact (HK1.out w hb).mono fun e w' ⟨he, hq⟩ => ⟨_, he, rfl, hq⟩
                    · refine StepOKl.of ?_
                      intro ac w hb hu hk
                      refine ⟨wanted_none rfl, ?_⟩
                      have e175 : ac.eval (.tmp 175) = (.bool false) := (hk ⟨10, .data⟩ (by simp) rfl).is rfl rfl
                      exact step_value (run_not e175 rfl w) (Below.refl _ _) rfl
                    · refine StepOKl.of ?_
                      intro ac w hb hu hk
                      refine ⟨wanted_none rfl, ?_⟩
                      have e176 : ac.eval (.tmp 176) = (.bool true) := (hk ⟨11, .data⟩ (by simp) rfl).is rfl rfl
                      exact step_value (BigFrame.run_move (.tmp 176) rfl w) (Below.refl _ _) e176
                    · refine StepOKl.of ?_
                      intro ac w hb hu hk
                      refine ⟨wanted_some rfl (hk ⟨12, .guard⟩ (by simp) rfl) rfl rfl (fun _ h => h), ?_⟩
                      have e9 : ac.eval (.tmp 9) = .pointer (some ⟨w3.heap.size, 0, none⟩) := hu.is (t := 9) (by kernel_rfl)
                      refine step_value (w' := w) (v := .agg V) (run_load_hash (.tmp 9) rfl w3.heap.size (0) e9 (rootV ks) HLV.out (HRV.out w hb) HEV.out) (Below.refl _ _) rfl
                    · refine StepOKl.of ?_
                      intro ac w hb hu hk
                      refine ⟨wanted_some rfl (hk ⟨12, .guard⟩ (by simp) rfl) rfl rfl (fun _ h => h), ?_⟩
                      have e0 : ac.eval (.tmp 0) = .slice (some ⟨gb, off, none⟩) z c := hu.is (t := 0) (by kernel_rfl)
                      exact step_value (BigFrame.run_move (.tmp 0) rfl w) (Below.refl _ _) e0
                    · refine StepOKl.of ?_
                      intro ac w hb hu hk
                      refine ⟨wanted_some rfl (hk ⟨12, .guard⟩ (by simp) rfl) rfl rfl (fun _ h => h), ?_⟩
                      have e179 : ac.eval (.tmp 179) = (.slice (some ⟨gb, off, none⟩) z c) := (hk ⟨14, .data⟩ (by simp) rfl).is rfl rfl
                      refine step_value (w' := w) (v := (.int .i64 (z : Int))) ?_ (Below.refl _ _) rfl
                      generalize ac.eval = ρ at e179 ⊢
                      go_simp
                    · refine StepOKl.of ?_
                      intro ac w hb hu hk
                      refine ⟨wanted_some rfl (hk ⟨12, .guard⟩ (by simp) rfl) rfl rfl (fun _ h => h), ?_⟩
                      have e0 : ac.eval (.tmp 0) = .slice (some ⟨gb, off, none⟩) z c := hu.is (t := 0) (by kernel_rfl)
                      exact step_value (BigFrame.run_move (.tmp 0) rfl w) (Below.refl _ _) e0
                    · refine StepOKl.of ?_
                      intro ac w hb hu hk
                      refine ⟨wanted_some rfl (hk ⟨12, .guard⟩ (by simp) rfl) rfl rfl (fun _ h => h), ?_⟩
                      have e1 : ac.eval (.tmp 1) = .int .i64 (I : Int) := hu.is (t := 1) (by kernel_rfl)
                      exact step_value (BigFrame.run_move (.tmp 1) rfl w) (Below.refl _ _) e1
                    · refine StepOKl.of ?_
                      intro ac w hb hu hk
                      refine ⟨wanted_some rfl (hk ⟨12, .guard⟩ (by simp) rfl) rfl rfl (fun _ h => h), ?_⟩
                      have e181 : ac.eval (.tmp 181) = (.slice (some ⟨gb, off, none⟩) z c) := (hk ⟨16, .data⟩ (by simp) rfl).is rfl rfl
                      have e182 : ac.eval (.tmp 182) = (.int .i64 (I : Int)) := (hk ⟨17, .data⟩ (by simp) rfl).is rfl rfl
                      refine step_value (w' := w) (v := (.pointer (some ⟨gb, off + I * 32, none⟩))) ?_ (Below.refl _ _) rfl
                      generalize ac.eval = ρ at e181 e182 ⊢
                      go_simp
                    · refine StepOKl.of ?_
                      intro ac w hb hu hk
                      refine ⟨wanted_some rfl (hk ⟨12, .guard⟩ (by simp) rfl) rfl rfl (fun _ h => h), ?_⟩
                      have e183 : ac.eval (.tmp 183) = (.pointer (some ⟨gb, off + I * 32, none⟩)) := (hk ⟨18, .data⟩ (by simp) rfl).is rfl rfl
                      refine step_value (w' := w) (v := .agg X) (run_load_hash (.tmp 183) rfl gb (off + I * 32) e183 x HLX.out (HRG.out w hb) HEX.out) (Below.refl _ _) rfl
                    · refine StepOKl.of ?_
                      intro ac w hb hu hk
                      refine ⟨wanted_some rfl (hk ⟨12, .guard⟩ (by simp) rfl) rfl rfl (fun _ h => h), ?_⟩
                      have e13 : ac.eval (.tmp 13) = .slice (some ⟨b1, o1, none⟩) q c1 := hu.is (t := 13) (by kernel_rfl)
                      exact step_value (BigFrame.run_move (.tmp 13) rfl w) (Below.refl _ _) e13
                    · refine StepOKl.of ?_
                      intro ac w hb hu hk
                      refine ⟨wanted_some rfl (hk ⟨12, .chain⟩ (by simp) rfl) rfl rfl (fun _ h => h), ?_⟩
                      have e178 : ac.eval (.tmp 178) = (.agg V) := (hk ⟨13, .data⟩ (by simp) rfl).is rfl rfl
                      have e180 : ac.eval (.tmp 180) = (.int .i64 (z : Int)) := (hk ⟨15, .data⟩ (by simp) rfl).is rfl rfl
                      have e184 : ac.eval (.tmp 184) = (.agg X) := (hk ⟨19, .data⟩ (by simp) rfl).is rfl rfl
                      have e185 : ac.eval (.tmp 185) = (.slice (some ⟨b1, o1, none⟩) q c1) := (hk ⟨20, .data⟩ (by simp) rfl).is rfl rfl
                      have ec : ac.eval (.const (.int .i64 (-1))) = .int .i64 (-1) := rfl
                      have ef : ac.eval (.func 17) = .func (.func 17) #[] #[] := rfl
                      refine step_enter (f := 17) (args := #[.agg V, .int .i64 (z : Int), .int .i64 (-1), .agg X, .slice (some ⟨b1, o1, none⟩) q c1]) ?_ ?_
                      · generalize ac.eval = ρ at e178 e180 e184 e185 ec ef ⊢
                        go_simp
                      · exact (HK2.out w hb).mono fun e w' ⟨he, hq⟩ => ⟨_, he, rfl, hq⟩
                    · refine StepOKl.of ?_
                      intro ac w hb hu hk
                      refine ⟨wanted_some rfl (hk ⟨12, .guard⟩ (by simp) rfl) rfl rfl (fun _ h => h), ?_⟩
                      have e186 : ac.eval (.tmp 186) = (.bool false) := (hk ⟨21, .data⟩ (by simp) rfl).is rfl rfl
                      exact step_value (run_not e186 rfl w) (Below.refl _ _) rfl
                    · refine StepOKl.of ?_
                      intro ac w hb hu hk
                      refine ⟨wanted_none rfl, ?_⟩
                      have e177 : ac.eval (.tmp 177) = (.bool true) := (hk ⟨12, .data⟩ (by simp) rfl).is rfl rfl
                      have e187 : ac.eval (.tmp 187) = (.bool true) := (hk ⟨22, .data⟩ (by simp) rfl).is rfl rfl
                      exact step_value (run_pick_true e177 rfl w) (Below.refl _ _) e187
                    · refine StepOKl.of ?_
                      intro ac w hb hu hk
                      refine ⟨wanted_none rfl, ?_⟩
                      have e188 : ac.eval (.tmp 188) = (.bool true) := (hk ⟨23, .data⟩ (by simp) rfl).is rfl rfl
                      exact step_value (BigFrame.run_move (.tmp 188) rfl w) (Below.refl _ _) e188
                    · refine StepOKl.of ?_
                      intro ac w hb hu hk
                      refine ⟨wanted_some rfl (hk ⟨24, .chain⟩ (by simp) rfl) rfl rfl (fun _ h => h), ?_⟩
                      have ef : ac.eval (.func 19) = .func (.func 19) #[] #[] := rfl
                      refine step_enter (f := 19) (args := #[]) ?_ ?_
                      · generalize ac.eval = ρ at ef ⊢
                        go_simp
                      · exact (HWK.out w hb).mono fun e w' ⟨he, hq⟩ => ⟨_, he, rfl, hq⟩
                    · refine StepOKl.of ?_
                      intro ac w hb hu hk
                      refine ⟨wanted_none rfl, ?_⟩
                      have e189 : ac.eval (.tmp 189) = (.bool true) := (hk ⟨24, .data⟩ (by simp) rfl).is rfl rfl
                      have e190 : ac.eval (.tmp 190) = (.bool true) := (hk ⟨25, .data⟩ (by simp) rfl).is rfl rfl
                      exact step_value (run_pick_true e189 rfl w) (Below.refl _ _) e190
                    · refine StepOKl.of ?_
                      intro ac w hb hu hk
                      refine ⟨wanted_none rfl, ?_⟩
                      have e191 : ac.eval (.tmp 191) = (.bool true) := (hk ⟨26, .data⟩ (by simp) rfl).is rfl rfl
                      exact step_value (BigFrame.run_assign (.tmp 191) rfl w) (Below.refl _ _) e191
                    · intro ac w' hb hu hk hap
                      obtain ⟨_, h8, rfl⟩ := (hk 27 (by decide)).put rfl rfl
                      obtain ⟨_, h165, rfl⟩ := (hk 0 (by decide)).put rfl rfl
                      obtain ⟨_, h166, rfl⟩ := (hk 1 (by decide)).put rfl rfl
                      obtain ⟨_, h167, rfl⟩ := (hk 2 (by decide)).put rfl rfl
                      obtain ⟨_, h168, rfl⟩ := (hk 3 (by decide)).put rfl rfl
                      obtain ⟨_, h169, rfl⟩ := (hk 4 (by decide)).put rfl rfl
                      obtain ⟨_, h170, rfl⟩ := (hk 5 (by decide)).put rfl rfl
                      obtain ⟨_, h171, rfl⟩ := (hk 6 (by decide)).put rfl rfl
                      obtain ⟨_, h172, rfl⟩ := (hk 7 (by decide)).put rfl rfl
                      obtain ⟨_, h173, rfl⟩ := (hk 8 (by decide)).put rfl rfl
                      obtain ⟨_, h174, rfl⟩ := (hk 9 (by decide)).put rfl rfl
                      obtain ⟨_, h175, rfl⟩ := (hk 10 (by decide)).put rfl rfl
                      obtain ⟨_, h176, rfl⟩ := (hk 11 (by decide)).put rfl rfl
                      obtain ⟨_, h177, rfl⟩ := (hk 12 (by decide)).put rfl rfl
                      obtain ⟨_, h178, rfl⟩ := (hk 13 (by decide)).put rfl rfl
                      obtain ⟨_, h179, rfl⟩ := (hk 14 (by decide)).put rfl rfl
                      obtain ⟨_, h180, rfl⟩ := (hk 15 (by decide)).put rfl rfl
                      obtain ⟨_, h181, rfl⟩ := (hk 16 (by decide)).put rfl rfl
                      obtain ⟨_, h182, rfl⟩ := (hk 17 (by decide)).put rfl rfl
                      obtain ⟨_, h183, rfl⟩ := (hk 18 (by decide)).put rfl rfl
                      obtain ⟨_, h184, rfl⟩ := (hk 19 (by decide)).put rfl rfl
                      obtain ⟨_, h185, rfl⟩ := (hk 20 (by decide)).put rfl rfl
                      obtain ⟨_, h186, rfl⟩ := (hk 21 (by decide)).put rfl rfl
                      obtain ⟨_, h187, rfl⟩ := (hk 22 (by decide)).put rfl rfl
                      obtain ⟨_, h188, rfl⟩ := (hk 23 (by decide)).put rfl rfl
                      obtain ⟨_, h189, rfl⟩ := (hk 24 (by decide)).put rfl rfl
                      obtain ⟨_, h190, rfl⟩ := (hk 25 (by decide)).put rfl rfl
                      obtain ⟨_, h191, rfl⟩ := (hk 26 (by decide)).put rfl rfl
                      clear hap
                      have hF : AllPuts ac.tmps ((8, _) :: (165, _) :: (166, _) :: (167, _) :: (168, _) :: (169, _) :: (170, _) :: (171, _) :: (172, _) :: (173, _) :: (174, _) :: (175, _) :: (176, _) :: (177, _) :: (178, _) :: (179, _) :: (180, _) :: (181, _) :: (182, _) :: (183, _) :: (184, _) :: (185, _) :: (186, _) :: (187, _) :: (188, _) :: (189, _) :: (190, _) :: (191, _) :: []) := ⟨h8, h165, h166, h167, h168, h169, h170, h171, h172, h173, h174, h175, h176, h177, h178, h179, h180, h181, h182, h183, h184, h185, h186, h187, h188, h189, h190, h191, trivial⟩
                      obtain rfl := frame_puts hu (by kernel_rfl) hF
                      simp only [puts, Act.put, List.setIfInBounds_toArray, List.set_cons_zero, List.set_cons_succ, List.drop_succ_cons, List.drop_nil]
                      clear hk hu hF h8 h165 h166 h167 h168 h169 h170 h171 h172 h173 h174 h175 h176 h177 h178 h179 h180 h181 h182 h183 h184 h185 h186 h187 h188 h189 h190 h191
                      have HBE := Lib.hid (HBO.out.trans ((HBW.out.trans (hb.mono HBW.out.size)).mono HBO.out.size))
                      clear hb HK1 HK2 HWK
                      go_wp2_with fail
                      go_ret
                      exact ⟨by kernel_rfl, HBE.out⟩
          · have hqi : ¬ (0 : Int) < (q : Int) := by omega
            clear HCKA HO1 HO2
            have HRG := Lib.hid (fun W (h : Below wf.heap.size wf W) => HRG0.out W (HBW.out.trans (h.mono HBW.out.size)))
            have HB9L := Lib.hid (show Blk wf w3.heap.size (u8A (rootV ks)) 25 by rw [HEV.out]; exact HB9.out)
            have HRV := Lib.hid (fun W (h : Below wf.heap.size wf W) => range_of_blk (HB9L.out.below h HB9L.out.lt))
            have HK1 := Lib.hid (fun W (h : Below wf.heap.size wf W) => HKN.out W (z : Int) A1 c1 (HBW.out.trans (h.mono HBW.out.size)) (HV1.out.on h) (by omega))
            have HK2 := Lib.hid (fun W (h : Below wf.heap.size wf W) => HKN.out W (-1) A1 c1 (HBW.out.trans (h.mono HBW.out.size)) (HV1.out.on h) (by omega))
            have HWK := Lib.hid (fun W (h : Below wf.heap.size wf W) => wakes7_any W (tab_in HT.out (HBW.out.trans (h.mono HBW.out.size))))
            clear HRG0 HKN HB9L
            go_wp2_with fail
            refine wp_region_loose 28 0 (fun i => false) (promises [.is (.agg V), .is (.slice (some ⟨gb, off, none⟩) z c), .is (.int .i64 (z : Int)), .is (.slice (some ⟨gb, off, none⟩) z c), .is (.int .i64 (z : Int)), .is (.slice (some ⟨gb, off, none⟩) z c), .is (.int .i64 (I : Int)), .is (.pointer (some ⟨gb, off + I * 32, none⟩)), .is (.agg X), .is (.slice A1 q c1), .is (.bool false), .is (.bool true), .is (.bool true), .is (.agg V), .is (.slice (some ⟨gb, off, none⟩) z c), .is (.int .i64 (z : Int)), .is (.slice (some ⟨gb, off, none⟩) z c), .is (.int .i64 (I : Int)), .is (.pointer (some ⟨gb, off + I * 32, none⟩)), .is (.agg X), .is (.slice A1 q c1), .is (.bool false), .is (.bool true), .is (.bool true), .is (.bool true), .is (.bool true), .is (.bool true), .is (.bool true)]) (by kernel_rfl) rfl (by kernel_rfl) (fun i v w w' h hb => Spec.keep h hb) ⟨?_, ?_, ?_, ?_, ?_, ?_, ?_, ?_, ?_, ?_, ?_, ?_, ?_, ?_, ?_, ?_, ?_, ?_, ?_, ?_, ?_, ?_, ?_, ?_, ?_, ?_, ?_, ?_, trivial⟩ ?_
            · refine StepOKl.of ?_
              intro ac w hb hu hk
              refine ⟨wanted_none rfl, ?_⟩
              have e9 : ac.eval (.tmp 9) = .pointer (some ⟨w3.heap.size, 0, none⟩) := hu.is (t := 9) (by kernel_rfl)
              refine step_value (w' := w) (v := .agg V) (run_load_hash (.tmp 9) rfl w3.heap.size (0) e9 (rootV ks) HLV.out (HRV.out w hb) HEV.out) (Below.refl _ _) rfl
            · refine StepOKl.of ?_
              intro ac w hb hu hk
              refine ⟨wanted_none rfl, ?_⟩
              have e0 : ac.eval (.tmp 0) = .slice (some ⟨gb, off, none⟩) z c := hu.is (t := 0) (by kernel_rfl)
              exact step_value (BigFrame.run_move (.tmp 0) rfl w) (Below.refl _ _) e0
            · refine StepOKl.of ?_
              intro ac w hb hu hk
              refine ⟨wanted_none rfl, ?_⟩
              have e166 : ac.eval (.tmp 166) = (.slice (some ⟨gb, off, none⟩) z c) := (hk ⟨1, .data⟩ (by simp) rfl).is rfl rfl
              refine step_value (w' := w) (v := (.int .i64 (z : Int))) ?_ (Below.refl _ _) rfl
              generalize ac.eval = ρ at e166 ⊢
              go_simp
            · refine StepOKl.of ?_
              intro ac w hb hu hk
              refine ⟨wanted_none rfl, ?_⟩
              have e0 : ac.eval (.tmp 0) = .slice (some ⟨gb, off, none⟩) z c := hu.is (t := 0) (by kernel_rfl)
              exact step_value (BigFrame.run_move (.tmp 0) rfl w) (Below.refl _ _) e0
            · refine StepOKl.of ?_
              intro ac w hb hu hk
              refine ⟨wanted_none rfl, ?_⟩
              have e168 : ac.eval (.tmp 168) = (.slice (some ⟨gb, off, none⟩) z c) := (hk ⟨3, .data⟩ (by simp) rfl).is rfl rfl
              refine step_value (w' := w) (v := (.int .i64 (z : Int))) ?_ (Below.refl _ _) rfl
              generalize ac.eval = ρ at e168 ⊢
              go_simp
            · refine StepOKl.of ?_
              intro ac w hb hu hk
              refine ⟨wanted_none rfl, ?_⟩
              have e0 : ac.eval (.tmp 0) = .slice (some ⟨gb, off, none⟩) z c := hu.is (t := 0) (by kernel_rfl)
              exact step_value (BigFrame.run_move (.tmp 0) rfl w) (Below.refl _ _) e0
            · refine StepOKl.of ?_
              intro ac w hb hu hk
              refine ⟨wanted_none rfl, ?_⟩
              have e1 : ac.eval (.tmp 1) = .int .i64 (I : Int) := hu.is (t := 1) (by kernel_rfl)
              exact step_value (BigFrame.run_move (.tmp 1) rfl w) (Below.refl _ _) e1
            · refine StepOKl.of ?_
              intro ac w hb hu hk
              refine ⟨wanted_none rfl, ?_⟩
              have e170 : ac.eval (.tmp 170) = (.slice (some ⟨gb, off, none⟩) z c) := (hk ⟨5, .data⟩ (by simp) rfl).is rfl rfl
              have e171 : ac.eval (.tmp 171) = (.int .i64 (I : Int)) := (hk ⟨6, .data⟩ (by simp) rfl).is rfl rfl
              refine step_value (w' := w) (v := (.pointer (some ⟨gb, off + I * 32, none⟩))) ?_ (Below.refl _ _) rfl
              generalize ac.eval = ρ at e170 e171 ⊢
              go_simp
            · refine StepOKl.of ?_
              intro ac w hb hu hk
              refine ⟨wanted_none rfl, ?_⟩
              have e172 : ac.eval (.tmp 172) = (.pointer (some ⟨gb, off + I * 32, none⟩)) := (hk ⟨7, .data⟩ (by simp) rfl).is rfl rfl
              refine step_value (w' := w) (v := .agg X) (run_load_hash (.tmp 172) rfl gb (off + I * 32) e172 x HLX.out (HRG.out w hb) HEX.out) (Below.refl _ _) rfl
            · refine StepOKl.of ?_
              intro ac w hb hu hk
              refine ⟨wanted_none rfl, ?_⟩
              have e13 : ac.eval (.tmp 13) = .slice A1 q c1 := hu.is (t := 13) (by kernel_rfl)
              exact step_value (BigFrame.run_move (.tmp 13) rfl w) (Below.refl _ _) e13
            · refine StepOKl.of ?_
              intro ac w hb hu hk
              refine ⟨wanted_none rfl, ?_⟩
              have e165 : ac.eval (.tmp 165) = (.agg V) := (hk ⟨0, .data⟩ (by simp) rfl).is rfl rfl
              have e167 : ac.eval (.tmp 167) = (.int .i64 (z : Int)) := (hk ⟨2, .data⟩ (by simp) rfl).is rfl rfl
              have e169 : ac.eval (.tmp 169) = (.int .i64 (z : Int)) := (hk ⟨4, .data⟩ (by simp) rfl).is rfl rfl
              have e173 : ac.eval (.tmp 173) = (.agg X) := (hk ⟨8, .data⟩ (by simp) rfl).is rfl rfl
              have e174 : ac.eval (.tmp 174) = (.slice A1 q c1) := (hk ⟨9, .data⟩ (by simp) rfl).is rfl rfl
              have ef : ac.eval (.func 17) = .func (.func 17) #[] #[] := rfl
              refine step_enter (f := 17) (args := #[.agg V, .int .i64 (z : Int), .int .i64 (z : Int), .agg X, .slice A1 q c1]) ?_ ?_
              · generalize ac.eval = ρ at e165 e167 e169 e173 e174 ef ⊢
                go_simp
              · exact (HK1.out w hb).mono fun e w' ⟨he, hq⟩ => ⟨_, he, rfl, hq⟩
            · refine StepOKl.of ?_
              intro ac w hb hu hk
              refine ⟨wanted_none rfl, ?_⟩
              have e175 : ac.eval (.tmp 175) = (.bool false) := (hk ⟨10, .data⟩ (by simp) rfl).is rfl rfl
              exact step_value (run_not e175 rfl w) (Below.refl _ _) rfl
            · refine StepOKl.of ?_
              intro ac w hb hu hk
              refine ⟨wanted_none rfl, ?_⟩
              have e176 : ac.eval (.tmp 176) = (.bool true) := (hk ⟨11, .data⟩ (by simp) rfl).is rfl rfl
              exact step_value (BigFrame.run_move (.tmp 176) rfl w) (Below.refl _ _) e176
            · refine StepOKl.of ?_
              intro ac w hb hu hk
              refine ⟨wanted_some rfl (hk ⟨12, .guard⟩ (by simp) rfl) rfl rfl (fun _ h => h), ?_⟩
              have e9 : ac.eval (.tmp 9) = .pointer (some ⟨w3.heap.size, 0, none⟩) := hu.is (t := 9) (by kernel_rfl)
              refine step_value (w' := w) (v := .agg V) (run_load_hash (.tmp 9) rfl w3.heap.size (0) e9 (rootV ks) HLV.out (HRV.out w hb) HEV.out) (Below.refl _ _) rfl
            · refine StepOKl.of ?_
              intro ac w hb hu hk
              refine ⟨wanted_some rfl (hk ⟨12, .guard⟩ (by simp) rfl) rfl rfl (fun _ h => h), ?_⟩
              have e0 : ac.eval (.tmp 0) = .slice (some ⟨gb, off, none⟩) z c := hu.is (t := 0) (by kernel_rfl)
              exact step_value (BigFrame.run_move (.tmp 0) rfl w) (Below.refl _ _) e0
            · refine StepOKl.of ?_
              intro ac w hb hu hk
              refine ⟨wanted_some rfl (hk ⟨12, .guard⟩ (by simp) rfl) rfl rfl (fun _ h => h), ?_⟩
              have e179 : ac.eval (.tmp 179) = (.slice (some ⟨gb, off, none⟩) z c) := (hk ⟨14, .data⟩ (by simp) rfl).is rfl rfl
              refine step_value (w' := w) (v := (.int .i64 (z : Int))) ?_ (Below.refl _ _) rfl
              generalize ac.eval = ρ at e179 ⊢
              go_simp
            · refine StepOKl.of ?_
              intro ac w hb hu hk
              refine ⟨wanted_some rfl (hk ⟨12, .guard⟩ (by simp) rfl) rfl rfl (fun _ h => h), ?_⟩
              have e0 : ac.eval (.tmp 0) = .slice (some ⟨gb, off, none⟩) z c := hu.is (t := 0) (by kernel_rfl)
              exact step_value (BigFrame.run_move (.tmp 0) rfl w) (Below.refl _ _) e0
            · refine StepOKl.of ?_
              intro ac w hb hu hk
              refine ⟨wanted_some rfl (hk ⟨12, .guard⟩ (by simp) rfl) rfl rfl (fun _ h => h), ?_⟩
              have e1 : ac.eval (.tmp 1) = .int .i64 (I : Int) := hu.is (t := 1) (by kernel_rfl)
              exact step_value (BigFrame.run_move (.tmp 1) rfl w) (Below.refl _ _) e1
            · refine StepOKl.of ?_
              intro ac w hb hu hk
              refine ⟨wanted_some rfl (hk ⟨12, .guard⟩ (by simp) rfl) rfl rfl (fun _ h => h), ?_⟩
              have e181 : ac.eval (.tmp 181) = (.slice (some ⟨gb, off, none⟩) z c) := (hk ⟨16, .data⟩ (by simp) rfl).is rfl rfl
              have e182 : ac.eval (.tmp 182) = (.int .i64 (I : Int)) := (hk ⟨17, .data⟩ (by simp) rfl).is rfl rfl
              refine step_value (w' := w) (v := (.pointer (some ⟨gb, off + I * 32, none⟩))) ?_ (Below.refl _ _) rfl
              generalize ac.eval = ρ at e181 e182 ⊢
              go_simp
            · refine StepOKl.of ?_
              intro ac w hb hu hk
              refine ⟨wanted_some rfl (hk ⟨12, .guard⟩ (by simp) rfl) rfl rfl (fun _ h => h), ?_⟩
              have e183 : ac.eval (.tmp 183) = (.pointer (some ⟨gb, off + I * 32, none⟩)) := (hk ⟨18, .data⟩ (by simp) rfl).is rfl rfl
              refine step_value (w' := w) (v := .agg X) (run_load_hash (.tmp 183) rfl gb (off + I * 32) e183 x HLX.out (HRG.out w hb) HEX.out) (Below.refl _ _) rfl
            · refine StepOKl.of ?_
              intro ac w hb hu hk
              refine ⟨wanted_some rfl (hk ⟨12, .guard⟩ (by simp) rfl) rfl rfl (fun _ h => h), ?_⟩
              have e13 : ac.eval (.tmp 13) = .slice A1 q c1 := hu.is (t := 13) (by kernel_rfl)
              exact step_value (BigFrame.run_move (.tmp 13) rfl w) (Below.refl _ _) e13
            · refine StepOKl.of ?_
              intro ac w hb hu hk
              refine ⟨wanted_some rfl (hk ⟨12, .chain⟩ (by simp) rfl) rfl rfl (fun _ h => h), ?_⟩
              have e178 : ac.eval (.tmp 178) = (.agg V) := (hk ⟨13, .data⟩ (by simp) rfl).is rfl rfl
              have e180 : ac.eval (.tmp 180) = (.int .i64 (z : Int)) := (hk ⟨15, .data⟩ (by simp) rfl).is rfl rfl
              have e184 : ac.eval (.tmp 184) = (.agg X) := (hk ⟨19, .data⟩ (by simp) rfl).is rfl rfl
              have e185 : ac.eval (.tmp 185) = (.slice A1 q c1) := (hk ⟨20, .data⟩ (by simp) rfl).is rfl rfl
              have ec : ac.eval (.const (.int .i64 (-1))) = .int .i64 (-1) := rfl
              have ef : ac.eval (.func 17) = .func (.func 17) #[] #[] := rfl
              refine step_enter (f := 17) (args := #[.agg V, .int .i64 (z : Int), .int .i64 (-1), .agg X, .slice A1 q c1]) ?_ ?_
              · generalize ac.eval = ρ at e178 e180 e184 e185 ec ef ⊢
                go_simp
              · exact (HK2.out w hb).mono fun e w' ⟨he, hq⟩ => ⟨_, he, rfl, hq⟩
            · refine StepOKl.of ?_
              intro ac w hb hu hk
              refine ⟨wanted_some rfl (hk ⟨12, .guard⟩ (by simp) rfl) rfl rfl (fun _ h => h), ?_⟩
              have e186 : ac.eval (.tmp 186) = (.bool false) := (hk ⟨21, .data⟩ (by simp) rfl).is rfl rfl
              exact step_value (run_not e186 rfl w) (Below.refl _ _) rfl
            · refine StepOKl.of ?_
              intro ac w hb hu hk
              refine ⟨wanted_none rfl, ?_⟩
              have e177 : ac.eval (.tmp 177) = (.bool true) := (hk ⟨12, .data⟩ (by simp) rfl).is rfl rfl
              have e187 : ac.eval (.tmp 187) = (.bool true) := (hk ⟨22, .data⟩ (by simp) rfl).is rfl rfl
              exact step_value (run_pick_true e177 rfl w) (Below.refl _ _) e187
            · refine StepOKl.of ?_
              intro ac w hb hu hk
              refine ⟨wanted_none rfl, ?_⟩
              have e188 : ac.eval (.tmp 188) = (.bool true) := (hk ⟨23, .data⟩ (by simp) rfl).is rfl rfl
              exact step_value (BigFrame.run_move (.tmp 188) rfl w) (Below.refl _ _) e188
            · refine StepOKl.of ?_
              intro ac w hb hu hk
              refine ⟨wanted_some rfl (hk ⟨24, .chain⟩ (by simp) rfl) rfl rfl (fun _ h => h), ?_⟩
              have ef : ac.eval (.func 19) = .func (.func 19) #[] #[] := rfl
              refine step_enter (f := 19) (args := #[]) ?_ ?_
              · generalize ac.eval = ρ at ef ⊢
                go_simp
              · exact (HWK.out w hb).mono fun e w' ⟨he, hq⟩ => ⟨_, he, rfl, hq⟩
            · refine StepOKl.of ?_
              intro ac w hb hu hk
              refine ⟨wanted_none rfl, ?_⟩
              have e189 : ac.eval (.tmp 189) = (.bool true) := (hk ⟨24, .data⟩ (by simp) rfl).is rfl rfl
              have e190 : ac.eval (.tmp 190) = (.bool true) := (hk ⟨25, .data⟩ (by simp) rfl).is rfl rfl
              exact step_value (run_pick_true e189 rfl w) (Below.refl _ _) e190
            · refine StepOKl.of ?_
              intro ac w hb hu hk
              refine ⟨wanted_none rfl, ?_⟩
              have e191 : ac.eval (.tmp 191) = (.bool true) := (hk ⟨26, .data⟩ (by simp) rfl).is rfl rfl
              exact step_value (BigFrame.run_assign (.tmp 191) rfl w) (Below.refl _ _) e191
            · intro ac w' hb hu hk hap
              obtain ⟨_, h8, rfl⟩ := (hk 27 (by decide)).put rfl rfl
              obtain ⟨_, h165, rfl⟩ := (hk 0 (by decide)).put rfl rfl
              obtain ⟨_, h166, rfl⟩ := (hk 1 (by decide)).put rfl rfl
              obtain ⟨_, h167, rfl⟩ := (hk 2 (by decide)).put rfl rfl
              obtain ⟨_, h168, rfl⟩ := (hk 3 (by decide)).put rfl rfl
              obtain ⟨_, h169, rfl⟩ := (hk 4 (by decide)).put rfl rfl
              obtain ⟨_, h170, rfl⟩ := (hk 5 (by decide)).put rfl rfl
              obtain ⟨_, h171, rfl⟩ := (hk 6 (by decide)).put rfl rfl
              obtain ⟨_, h172, rfl⟩ := (hk 7 (by decide)).put rfl rfl
              obtain ⟨_, h173, rfl⟩ := (hk 8 (by decide)).put rfl rfl
              obtain ⟨_, h174, rfl⟩ := (hk 9 (by decide)).put rfl rfl
              obtain ⟨_, h175, rfl⟩ := (hk 10 (by decide)).put rfl rfl
              obtain ⟨_, h176, rfl⟩ := (hk 11 (by decide)).put rfl rfl
              obtain ⟨_, h177, rfl⟩ := (hk 12 (by decide)).put rfl rfl
              obtain ⟨_, h178, rfl⟩ := (hk 13 (by decide)).put rfl rfl
              obtain ⟨_, h179, rfl⟩ := (hk 14 (by decide)).put rfl rfl
              obtain ⟨_, h180, rfl⟩ := (hk 15 (by decide)).put rfl rfl
              obtain ⟨_, h181, rfl⟩ := (hk 16 (by decide)).put rfl rfl
              obtain ⟨_, h182, rfl⟩ := (hk 17 (by decide)).put rfl rfl
              obtain ⟨_, h183, rfl⟩ := (hk 18 (by decide)).put rfl rfl
              obtain ⟨_, h184, rfl⟩ := (hk 19 (by decide)).put rfl rfl
              obtain ⟨_, h185, rfl⟩ := (hk 20 (by decide)).put rfl rfl
              obtain ⟨_, h186, rfl⟩ := (hk 21 (by decide)).put rfl rfl
              obtain ⟨_, h187, rfl⟩ := (hk 22 (by decide)).put rfl rfl
              obtain ⟨_, h188, rfl⟩ := (hk 23 (by decide)).put rfl rfl
              obtain ⟨_, h189, rfl⟩ := (hk 24 (by decide)).put rfl rfl
              obtain ⟨_, h190, rfl⟩ := (hk 25 (by decide)).put rfl rfl
              obtain ⟨_, h191, rfl⟩ := (hk 26 (by decide)).put rfl rfl
              clear hap
              have hF : AllPuts ac.tmps ((8, _) :: (165, _) :: (166, _) :: (167, _) :: (168, _) :: (169, _) :: (170, _) :: (171, _) :: (172, _) :: (173, _) :: (174, _) :: (175, _) :: (176, _) :: (177, _) :: (178, _) :: (179, _) :: (180, _) :: (181, _) :: (182, _) :: (183, _) :: (184, _) :: (185, _) :: (186, _) :: (187, _) :: (188, _) :: (189, _) :: (190, _) :: (191, _) :: []) := ⟨h8, h165, h166, h167, h168, h169, h170, h171, h172, h173, h174, h175, h176, h177, h178, h179, h180, h181, h182, h183, h184, h185, h186, h187, h188, h189, h190, h191, trivial⟩
              obtain rfl := frame_puts hu (by kernel_rfl) hF
              simp only [puts, Act.put, List.setIfInBounds_toArray, List.set_cons_zero, List.set_cons_succ, List.drop_succ_cons, List.drop_nil]
              clear hk hu hF h8 h165 h166 h167 h168 h169 h170 h171 h172 h173 h174 h175 h176 h177 h178 h179 h180 h181 h182 h183 h184 h185 h186 h187 h188 h189 h190 h191
              have HBE := Lib.hid (HBO.out.trans ((HBW.out.trans (hb.mono HBW.out.size)).mono HBO.out.size))
              clear hb HK1 HK2 HWK
              go_wp2_with fail
              go_ret
              exact ⟨by kernel_rfl, HBE.out⟩

set_option maxRecDepth 100000 in
theorem contract (H : Type) (enc : TypeId × Value → H) (W : World) (base : Nat) (args : Array Value) (ds gs : List (DataW H)) (before : List MemPlace)
    (hval : ∀ (j : Nat) t v, Tryd.f8.params[j]? = some t → args[j]? = some v → Value.okWide Tryd.prog W .any base t v)
    (hW : DataW.Whole enc Tryd.prog Tryd.f8.params.toList Rows.treeAllSpec.vars false W args.toList ds gs before) (hL : laidMetH Tryd.prog Rows.treeAllRow.laid W) :
    Calls Tryd.prog 8 args W fun e W' => ∃ v, e = .returned v ∧ Rows.treeAllSpec.post enc Tryd.prog Tryd.f8 false true false false W args v W' := by
  have hW' := hW
  obtain ⟨p, q, hA0, hV, rfl, hfz, hnd⟩ := hW
  have hA : DataW.TrodAll enc Tryd.prog W 0 (fun _ => true) true Tryd.f8.params.toList args.toList ds p := hA0
  rw [Tryd.params8] at hA hval
  obtain ⟨v0, v1, v2, v3, d0, d1, d2, d3, p0, p1, p2, p3, rfl, rfl, rfl, h0, h1, h2, h3⟩ := trodAll_four hA
  obtain ⟨rfl, rfl⟩ := trodVars_none hV
  obtain ⟨A0, m0, c0, l0, rfl, hl0, hc0, hm0, hz0, hr0⟩ := open_hashes (hval 0 23 v0 rfl rfl) h0
  obtain ⟨n1, rfl, rfl, rfl, wf1⟩ := open_int Tryd.underlying3 (hval 1 3 v1 rfl rfl) h1
  have b1 := bounds_i64 wf1
  obtain ⟨n2, rfl, rfl, rfl, wf2⟩ := open_int Tryd.underlying3 (hval 2 3 v2 rfl rfl) h2
  have b2 := bounds_i64 wf2
  obtain ⟨n3, rfl, rfl, rfl, wf3⟩ := open_int Tryd.underlying3 (hval 3 3 v3 rfl rfl) h3
  have b3 := bounds_i64 wf3
  clear hA0
  refine (walk A0 m0 c0 l0 n1 n2 n3 W hl0 hc0 hz0 hr0 b1.1 b1.2 b2.1 b2.2 b3.1 b3.2 (pow10 hL)).mono fun e W' ⟨he, hb⟩ => ?_
  exact ⟨_, he, law_post hW' rfl (by kernel_rfl) rfl (by kernel_rfl) hb⟩

theorem laid_met (os : Os) : laidMet Tryd.prog Rows.treeAllRow.laid ((laidWorld os).forCall (fun _ _ => 0) ⟨#[], #[.slice none 0 0, .int .i64 0, .int .i64 0, .int .i64 0], []⟩).memory :=
  laidMet_of_run' 8 (by kernel_rfl) (by kernel_rfl)
theorem reads (os : Os) {H : Type} (enc : TypeId × Value → H) : ∃ places, DataW.whole enc Tryd.prog ((laidWorld os).forCall (fun _ _ => 0) ⟨#[], #[.slice none 0 0, .int .i64 0, .int .i64 0, .int .i64 0], []⟩).memory Tryd.f8.params.toList Rows.treeAllSpec.vars false #[Value.slice none 0 0, Value.int .i64 0, Value.int .i64 0, Value.int .i64 0].toList 8 = some ([.nil, .lit (.int .i64 0), .lit (.int .i64 0), .lit (.int .i64 0)], [], places) :=
  ⟨[], by kernel_rfl⟩

set_option maxRecDepth 100000 in
theorem lifted (os : Os) (started : os.Started) (H : Type) (enc : TypeId × Value → H) (F : Stop.Interp) :
    ReturnsInHanded {} Tryd.checked os 8 .any ((OpenSpec.ofChange Rows.treeAllSpec).preRow enc Tryd.prog Tryd.f8 Rows.treeAllRow.domain false Rows.treeAllRow.laid) (((OpenSpec.ofChange Rows.treeAllSpec).at F).post enc Tryd.prog Tryd.f8 false true false false) := by
  obtain ⟨places, hx⟩ := reads os enc
  refine returnsInHanded_of_row (C := Tryd.checked) (s := OpenSpec.ofChange Rows.treeAllSpec) own started (by kernel_rfl) Tryd.func8
    (witness_row_at (enc := enc) (C := Tryd.checked) false (laidWorld os) #[.slice none 0 0, .int .i64 0, .int .i64 0, .int .i64 0] rfl (by kernel_rfl) (by kernel_rfl) (by kernel_rfl)
      (OpenSpec.preRow_of_cond 8 hx (by kernel_rfl) (fun k hk => by cases hk) (by kernel_rfl) (laid_met os))) ?_
  intro W base args ds gs before hval hW _ _ _ hL _ _
  exact contract H enc W base args ds gs before hval hW hL

theorem said : Rows.TreeAllSaid :=
  OpenClaim.holds_of_cond 8 Tryd.f8 rfl rfl rfl rfl rfl rfl rfl ⟨rfl, rfl, rfl, rfl, rfl⟩ rfl rfl rfl rfl rfl (by kernel_rfl) Tryd.func8 (by kernel_rfl)
    (of_decide_eq_true (by kernel_rfl)) (by unfold Func.isWrapper; first | (rw [if_pos (by decide +kernel)]; kernel_rfl) | (rw [if_neg (by decide +kernel)]; exact ⟨rfl, rfl⟩))
    (fun os started H enc _ F => by rw [OpenClaim.pre_eq_preRow]; exact lifted os started H enc F)

theorem plain (f : FuncId) (fn : Func) (hf : Tryd.pinned.checked.prog.funcNamed "aumbry/aumbrylaw07.TreeAll" = some f) (hfn : Tryd.pinned.checked.prog.funcs[f]? = some fn) :
    false = Tryd.pinned.checked.prog.looks [] ∧ ∀ (j : Nat) t, fn.params[j]? = some t → Tryd.pinned.checked.prog.wantsStandIn t = false := by
  obtain rfl : f = 8 := Option.some.inj ((show Tryd.prog.funcNamed "aumbry/aumbrylaw07.TreeAll" = some 8 by kernel_rfl).symm.trans hf) |>.symm
  obtain rfl : fn = Tryd.f8 := (Option.some.inj (Tryd.func8.symm.trans hfn)).symm
  refine ⟨by kernel_rfl, fun j t ht => ?_⟩
  exact wants_none (by kernel_rfl) (Array.mem_of_getElem? ht)

/-- The card: the statement holds, its listed tables tied to the program's text. -/
theorem card : Rows.TreeAllCardSaid :=
  Claim7.holds_tied_plain_at .later [] _ _ _ _ said (fun _ h => by cases h) (by kernel_rfl) (fun _ h => by cases h) treeAll_row_tie rfl ⟨rfl, rfl⟩ (by kernel_rfl) rfl plain (by kernel_rfl)
end Go.Proofs.YtpfhhbfjemmkaaaDoor.treeAll
