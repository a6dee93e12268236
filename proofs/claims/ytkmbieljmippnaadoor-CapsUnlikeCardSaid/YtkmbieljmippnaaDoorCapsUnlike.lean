/- CapsUnlike: unlike capabilities have unlike texts, like ones one. For all capabilities. -/
import Derived.Test.YtkmbieljmippnaaDoorLaw
import Derived.Test.YtkmbieljmippnaaDoorCapX
import Derived.Deep.CutRange
namespace Go.Proofs.YtkmbieljmippnaaDoor.capsUnlike
open Go.ChangeShapes Go.WideShapes Go.ChangeAt Go.RowKit

set_option maxRecDepth 100000 in
set_option maxHeartbeats 16000000 in
theorem walk (c0 c1 : Cap13) (A0 A1 : Option Addr) (m0 m1 k0 k1 : Nat) (t2 : Bool) (w : World) (hw0 : c0.wf) (hw1 : c1.wf) (hb0 : c0.bd) (hb1 : c1.bd) (hl0 : c0.lit.length = m0) (hl1 : c1.lit.length = m1) (hc0 : m0 ≤ k0) (hc1 : m1 ≤ k1) (hr0 : Rd w w.heap.size A0 c0.lit) (hr1 : Rd w w.heap.size A1 c1.lit) (htab : Pow10 w.heap.size w) :
    Calls Tryd.prog 3 #[.agg (capA c0 (.slice A0 m0 k0)), .agg (capA c1 (.slice A1 m1 k1)), .bool t2] w fun e w' => e = .returned (.bool true) ∧ Below w.heap.size w w' := by
  have HT := Lib.hid htab
  obtain ⟨AX, hAX⟩ : ∃ x, capA c0 (.slice A0 m0 k0) = x := ⟨_, rfl⟩
  obtain ⟨BX, hBX⟩ : ∃ x, capA c1 (.slice A1 m1 k1) = x := ⟨_, rfl⟩
  have HVA := Lib.hid (fun (W : World) (hW : Below w.heap.size w W) => (show Calls Tryd.prog 12 #[.agg AX] W fun e w' => (∃ v, e = .returned v ∧ CapV w' W.heap.size v (mk13 c0)) ∧ Below W.heap.size W w' from by
    rw [← hAX]
    exact mk13_any hw0 hb0 hl0 hc0 (hr0.on hW)))
  have HVB := Lib.hid (fun (W : World) (hW : Below w.heap.size w W) => (show Calls Tryd.prog 12 #[.agg BX] W fun e w' => (∃ v, e = .returned v ∧ CapV w' W.heap.size v (mk13 c1)) ∧ Below W.heap.size W w' from by
    rw [← hBX]
    exact mk13_any hw1 hb1 hl1 hc1 (hr1.on hW)))
  have HZA := Lib.hid (show AX.size = 53 by rw [← hAX]; exact capA_size hw0 _)
  have HZB := Lib.hid (show BX.size = 53 by rw [← hBX]; exact capA_size hw1 _)
  rw [hAX, hBX]
  have HM0 := Lib.hid (And.intro (mk13_ok c0) (mk13_wf hw0))
  have HM1 := Lib.hid (And.intro (mk13_ok c1) (mk13_wf hw1))
  clear htab hAX hBX hw0 hw1 hb0 hb1 hl0 hl1 hc0 hc1 hr0 hr1
  generalize mk13 c0 = a at *
  generalize mk13 c1 = b at *
  go_enter Tryd.func3, Tryd.ntmps3
  go_upto_region 1 with fail
  have hsz : (w.alloc (.cells AX 28)).heap.size = w.heap.size + 1 := by simp
  have hf : Blk ((w.alloc (.cells AX 28)).alloc (.cells BX 28)) w.heap.size AX 28 ∧ Blk ((w.alloc (.cells AX 28)).alloc (.cells BX 28)) (w.heap.size + 1) BX 28 ∧ Below w.heap.size w ((w.alloc (.cells AX 28)).alloc (.cells BX 28)) :=
    ⟨(Blk.new w AX _).alloc _, by rw [← hsz]; exact Blk.new _ _ _, ((Below.refl _ _).alloc (Nat.le_refl _) _).alloc (by simp) _⟩
  generalize (w.alloc (.cells AX 28)).alloc (.cells BX 28) = w1 at *
  obtain ⟨ga, hga⟩ : ∃ g, w.heap.size = g := ⟨_, rfl⟩
  obtain ⟨gb, hgb⟩ : ∃ g, w.heap.size + 1 = g := ⟨_, rfl⟩
  have HGE := Lib.hid (show w.heap.size ≤ ga ∧ w.heap.size ≤ gb ∧ ga ≠ gb by omega)
  rw [show (Value.pointer (some ⟨w.heap.size, 0, none⟩)) = .pointer (some ⟨ga, 0, none⟩) by rw [hga], show (Value.pointer (some ⟨w.heap.size + 1, 0, none⟩)) = .pointer (some ⟨gb, 0, none⟩) by rw [hgb]]
  have HPA := Lib.hid (show Blk w1 ga AX 28 by rw [← hga]; exact hf.1)
  have HPB := Lib.hid (show Blk w1 gb BX 28 by rw [← hgb]; exact hf.2.1)
  have HBW := Lib.hid hf.2.2
  have HBA := Lib.hid (fun (W : World) (hW : Below w1.heap.size w1 W) => HPA.out.below hW HPA.out.lt)
  have HBB := Lib.hid (fun (W : World) (hW : Below w1.heap.size w1 W) => HPB.out.below hW HPB.out.lt)
  have HVA1 := Lib.hid (fun (W : World) (hW : Below w1.heap.size w1 W) => HVA.out W (HBW.out.trans (hW.mono HBW.out.size)))
  have HVB1 := Lib.hid (fun (W : World) (hW : Below w1.heap.size w1 W) => HVB.out W (HBW.out.trans (hW.mono HBW.out.size)))
  clear hf hga hgb hsz HVA HVB
  refine wp_region_loose 4 2 (fun i => false) (promises [.is (.agg AX), Spec.cv w1.heap.size a, .is (.agg BX), Spec.cv w1.heap.size b]) (by kernel_rfl) rfl (by kernel_rfl) (fun i v w w' h hb => Spec.keep h hb) ⟨?_, ?_, ?_, ?_, trivial⟩ ?_
  · refine StepOKl.of ?_
    intro ac w hb hu hk
    refine ⟨wanted_none rfl, ?_⟩
    have e3 : ac.eval (.tmp 3) = .pointer (some ⟨ga, 0, none⟩) := hu.is (t := 3) (by kernel_rfl)
    exact wp_load_row 28 (.tmp 3) rfl ga e3 28 AX (0, 0) _ (HBA.out w hb) Tryd.underlying28 rfl (by rw [HZA.out]; kernel_rfl) ⟨_, rfl, rfl, Below.refl _ _⟩
  · refine StepOKl.of ?_
    intro ac w hb hu hk
    refine ⟨wanted_none rfl, ?_⟩
    have e11 : ac.eval (.tmp 11) = .agg AX := (hk ⟨0, .data⟩ (by simp) rfl).is rfl rfl
    have ef : ac.eval (.func 12) = .func (.func 12) #[] #[] := rfl
    refine step_enter (f := 12) (args := #[.agg AX]) ?_ ?_
    · generalize ac.eval = ρ at e11 ef ⊢
      go_simp
    · exact (HVA1.out w hb).mono fun e w' ⟨⟨v, he, hv⟩, hq⟩ => ⟨_, he, hv.low hb.size, hq⟩
  · refine StepOKl.of ?_
    intro ac w hb hu hk
    refine ⟨wanted_none rfl, ?_⟩
    have e4 : ac.eval (.tmp 4) = .pointer (some ⟨gb, 0, none⟩) := hu.is (t := 4) (by kernel_rfl)
    exact wp_load_row 28 (.tmp 4) rfl gb e4 28 BX (0, 0) _ (HBB.out w hb) Tryd.underlying28 rfl (by rw [HZB.out]; kernel_rfl) ⟨_, rfl, rfl, Below.refl _ _⟩
  · refine StepOKl.of ?_
    intro ac w hb hu hk
    refine ⟨wanted_none rfl, ?_⟩
    have e13 : ac.eval (.tmp 13) = .agg BX := (hk ⟨2, .data⟩ (by simp) rfl).is rfl rfl
    have ef : ac.eval (.func 12) = .func (.func 12) #[] #[] := rfl
    refine step_enter (f := 12) (args := #[.agg BX]) ?_ ?_
    · generalize ac.eval = ρ at e13 ef ⊢
      go_simp
    · exact (HVB1.out w hb).mono fun e w' ⟨⟨v, he, hv⟩, hq⟩ => ⟨_, he, hv.low hb.size, hq⟩
  · intro ac w' hb hu hk hap
    obtain ⟨_, h11, rfl⟩ := (hk 0 (by decide)).put rfl rfl
    obtain ⟨vA, h12, hvA⟩ := (hk 1 (by decide)).put rfl rfl
    obtain ⟨_, h13, rfl⟩ := (hk 2 (by decide)).put rfl rfl
    obtain ⟨vB, h14, hvB⟩ := (hk 3 (by decide)).put rfl rfl
    clear hap
    have hF : AllPuts ac.tmps ((11, _) :: (12, _) :: (13, _) :: (14, _) :: []) := ⟨h11, h12, h13, h14, trivial⟩
    obtain rfl := frame_puts hu (by kernel_rfl) hF
    simp only [puts, Act.put, List.setIfInBounds_toArray, List.set_cons_zero, List.set_cons_succ, List.drop_succ_cons, List.drop_zero]
    clear hk hu hF h11 h12 h13 h14
    have hvA : CapV w' w1.heap.size vA a := hvA
    have hvB : CapV w' w1.heap.size vB b := hvB
    have HXA := Lib.hid (HBA.out w' hb)
    have HXB := Lib.hid (HBB.out w' hb)
    replace HBW := Lib.hid (HBW.out.trans (hb.mono HBW.out.size))
    have HLA := Lib.hid HPA.out.lt
    have HLB := Lib.hid HPB.out.lt
    clear hb HVA1 HVB1 HPA HPB HBA HBB
    generalize w1.heap.size = B at *
    obtain ⟨ha0, A, m, k, rfl, ha1, ha2, ha3, ha4⟩ := hvA
    obtain ⟨hb0, D, n, l, rfl, hb1, hb2, hb3, hb4⟩ := hvB
    obtain ⟨CA, hCA⟩ : ∃ x, capA a (.slice A m k) = x := ⟨_, rfl⟩
    obtain ⟨CB, hCB⟩ : ∃ x, capA b (.slice D n l) = x := ⟨_, rfl⟩
    rw [hCA, hCB]
    have HCA := Lib.hid hCA
    have HCB := Lib.hid hCB
    have HSA := Lib.hid (show CA.size = 53 by rw [← hCA]; exact capA_size ha0 _)
    have HSB := Lib.hid (show CB.size = 53 by rw [← hCB]; exact capA_size hb0 _)
    have HOA := Lib.hid (show CA.all (·.oneCell') = true by rw [← hCA]; exact capA_one)
    have HOB := Lib.hid (show CB.all (·.oneCell') = true by rw [← hCB]; exact capA_one)
    have HA := Lib.hid (And.intro ha1 (And.intro ha2 (And.intro ha3 ha4)))
    have HB := Lib.hid (And.intro hb1 (And.intro hb2 (And.intro hb3 hb4)))
    clear hCA hCB ha0 ha1 ha2 ha3 ha4 hb0 hb1 hb2 hb3 hb4
    have HXB2 := Lib.hid (HXB.out.rowOther HGE.out.2.2 CA)
    go_upto_region 2 with (first
      | (with_reducible refine wpList_store_blkTo rfl 28 (.tmp 3) (.tmp 12) rfl rfl ga CA rfl rfl 28 AX HXA.out (by rw [HSA.out]; kernel_rfl) (by rw [HSA.out, HZA.out]) HOA.out ?_)
      | (with_reducible refine wpList_store_blkTo rfl 28 (.tmp 4) (.tmp 14) rfl rfl gb CB rfl rfl 28 BX HXB2.out (by rw [HSB.out]; kernel_rfl) (by rw [HSB.out, HZB.out]) HOB.out ?_))
    have hka : ∀ g, B ≤ g → ((w'.setRow ga CA).setRow gb CB).heap[g]? = w'.heap[g]? := fun g hg => by
      have := HLA.out
      have := HLB.out
      rw [setRow_other _ _ _ _ (by omega), setRow_other _ _ _ _ (by omega)]
    have hsz5 : w'.heap.size ≤ ((w'.setRow ga CA).setRow gb CB).heap.size := by simp
    have HA5 := Lib.hid (rd_keepB hka hsz5 HA.out.2.2.1 HA.out.2.2.2)
    have HB5 := Lib.hid (rd_keepB hka hsz5 HB.out.2.2.1 HB.out.2.2.2)
    have hbw5 : Below w.heap.size w ((w'.setRow ga CA).setRow gb CB) := below_row (below_row HBW.out HBW.out.size HGE.out.1 _) (by have := HBW.out.size; simpa using this) HGE.out.2.1 _
    have HX5 := Lib.hid (show Blk ((w'.setRow ga CA).setRow gb CB) ga CA 28 ∧ Blk ((w'.setRow ga CA).setRow gb CB) gb CB 28 from ⟨(HXA.out.row CA).rowOther (fun e => HGE.out.2.2 e.symm) CB, (HXB2.out).row CB⟩)
    have HBW5 := Lib.hid hbw5
    clear hka hsz5 hbw5 HXA HXB HXB2 HBW HLA hvA hvB
    generalize (w'.setRow ga CA).setRow gb CB = w5 at *
    have key : ∀ (t : Bool), ∃ (w6 : World) (b2 : Cap13) (D2 : Option Addr) (n2 l2 : Nat) (C2 : Array Value), (w6 = if t then w5.setRow gb CA else w5) ∧ Hid (b2.ok ∧ b2.wf) ∧ Hid (capA b2 (.slice D2 n2 l2) = C2 ∧ b2.lit.length = n2 ∧ n2 ≤ l2 ∧ Rd w6 w6.heap.size D2 b2.lit ∧ Rd w6 w6.heap.size A a.lit ∧ CapAt w6 ga a (.slice A m k) ∧ CapAt w6 gb b2 (.slice D2 n2 l2) ∧ Below w.heap.size w w6) := by
      intro t
      cases t with
      | false => exact ⟨w5, b, D, n, l, CB, rfl, HM1, Lib.hid ⟨HCB.out, HB.out.1, HB.out.2.1, HB5.out, HA5.out, ⟨HCA.out ▸ HX5.out.1, HM0.out.2⟩, ⟨HCB.out ▸ HX5.out.2, HM1.out.2⟩, HBW5.out⟩⟩
      | true =>
        have hr := rd_keepB (w' := w5.setRow gb CA) (fun g hg => by
          have := HLB.out
          exact setRow_other _ _ _ _ (by omega)) (by simp) HA5.out HA.out.2.2.2
        exact ⟨w5.setRow gb CA, a, A, m, k, CA, rfl, HM0, Lib.hid ⟨HCA.out, HA.out.1, HA.out.2.1, hr, hr, ⟨HCA.out ▸ (HX5.out.1.rowOther (fun e => HGE.out.2.2 e.symm) CA), HM0.out.2⟩, ⟨HCA.out ▸ HX5.out.2.row CA, HM0.out.2⟩, below_row HBW5.out HBW5.out.size HGE.out.2.1 _⟩⟩
    have HKEY := Lib.hid key
    clear key
    have HCS := Lib.hid (show CA.size = 53 ∧ CB.size = 53 from ⟨HSA.out, HSB.out⟩)
    obtain ⟨w6, b2, D2, n2, l2, C2, e6, HM2, H6⟩ := HKEY.out t2
    obtain ⟨TA, hTA⟩ : ∃ x, (⟨a.text.toArray⟩ : ByteArray) = x := ⟨_, rfl⟩
    obtain ⟨TB, hTB⟩ : ∃ x, (⟨b2.text.toArray⟩ : ByteArray) = x := ⟨_, rfl⟩
    have HPA := Lib.hid (fun (W : World) (hW : Below w6.heap.size w6 W) => (show Calls Tryd.prog 13 #[.agg CA] W fun e w' => e = .returned (.tuple #[.string TA, .int .i64 0]) ∧ Below W.heap.size W w' from by
      have h := pprint_any (w := W) (A := A) (n := m) (cc := k) HM0.out.2 HA.out.1 (ok_small HM0.out.1 HA.out.1) (H6.out.2.2.2.2.1.on hW) (tab_on HT.out (H6.out.2.2.2.2.2.2.2.trans (hW.mono H6.out.2.2.2.2.2.2.2.size)) (Nat.le_trans H6.out.2.2.2.2.2.2.2.size hW.size))
      unfold printV at h
      rw [if_pos HM0.out.1, HCA.out, hTA] at h
      exact h))
    have HPB := Lib.hid (fun (W : World) (hW : Below w6.heap.size w6 W) => (show Calls Tryd.prog 13 #[.agg C2] W fun e w' => e = .returned (.tuple #[.string TB, .int .i64 0]) ∧ Below W.heap.size W w' from by
      have h := pprint_any (w := W) (A := D2) (n := n2) (cc := l2) HM2.out.2 H6.out.2.1 (ok_small HM2.out.1 H6.out.2.1) (H6.out.2.2.2.1.on hW) (tab_on HT.out (H6.out.2.2.2.2.2.2.2.trans (hW.mono H6.out.2.2.2.2.2.2.2.size)) (Nat.le_trans H6.out.2.2.2.2.2.2.2.size hW.size))
      unfold printV at h
      rw [if_pos HM2.out.1, H6.out.1, hTB] at h
      exact h))
    obtain ⟨E, hE⟩ : ∃ x, decide (a = b2) = x := ⟨_, rfl⟩
    have hiff : TA = TB ↔ a = b2 := by
      constructor
      · intro e
        rw [← hTA, ← hTB] at e
        injection e with e
        exact text_inj HM0.out.2 HM2.out.2 HM0.out.1 HM2.out.1 (by simpa using congrArg Array.toList e)
      · intro e
        rw [← hTA, ← hTB, e]
    have hTE : (TA.toList == TB.toList) = E := by
      rw [ByteArray.toList_eq, ByteArray.toList_eq]
      have e1 : decide (TA = TB) = E := by rw [← hE]; exact decide_eq_decide.2 hiff
      have e2 : (TA.data == TB.data) = E := by
        rw [← e1]
        by_cases h : TA = TB
        · rw [decide_eq_true h, h]; exact beq_self_eq_true _
        · rw [decide_eq_false h, beq_eq_false_iff_ne]; exact fun e => h (ByteArray.ext e)
      rw [← e2]
      by_cases h : TA.data = TB.data
      · rw [h, beq_self_eq_true, beq_self_eq_true]
      · rw [beq_eq_false_iff_ne.2 h, beq_eq_false_iff_ne]
        exact fun e => h (Array.toList_inj.1 e)
    clear hiff
    have HTE := Lib.hid hTE
    have HSM := Lib.hid (fun (W : World) (hW : Below w6.heap.size w6 W) => (show Calls Tryd.prog 14 #[.agg CA, .agg C2] W fun e w' => e = .returned (.bool E) ∧ Below W.heap.size W w' from by
      rw [← hE, ← HCA.out, ← H6.out.1]
      exact psame_any HM0.out.2 HM2.out.2 HA.out.1 H6.out.2.1 (H6.out.2.2.2.2.1.on hW) (H6.out.2.2.2.1.on hW)))
    have HWK := Lib.hid (fun (W : World) (hW : Below w6.heap.size w6 W) => wakes13_any W (tab_on HT.out (H6.out.2.2.2.2.2.2.2.trans (hW.mono H6.out.2.2.2.2.2.2.2.size)) (Nat.le_trans H6.out.2.2.2.2.2.2.2.size hW.size)))
    clear hTA hTB hTE hE
    cases t2
    all_goals
      go_upto_region 4 with (first
        | (refine wpList_load_whenC ?_ 28 (.tmp 3) rfl ga rfl 28 CA _ HX5.out.1 Tryd.underlying28 rfl (by rw [HSA.out]; kernel_rfl) ?_; · rfl)
        | (with_reducible refine wpList_store_blkTo rfl 28 (.tmp 4) (.tmp 16) rfl rfl gb CA rfl rfl 28 CB HX5.out.2 (by rw [HSA.out]; kernel_rfl) (by rw [HSA.out, HSB.out]) HOA.out ?_))
      first
        | rw [show w5.setRow gb CA = w6 from e6.symm]
        | rw [show w5 = w6 from e6.symm]
      clear e6 HX5 HKEY HCS HBW5 HA5 HB5 HB
      go_upto_region 5 with (first
        | (refine wpList_load_capC ?_ (.tmp 3) rfl ga rfl H6.out.2.2.2.2.2.1 HCA.out ?_; · rfl)
        | (with_reducible refine (HPA.out _ (Below.refl _ _)).mono ?_; rintro e w7 ⟨rfl, hb7⟩))
      have H7 := Lib.hid (show CapAt w7 ga a (.slice A m k) ∧ CapAt w7 gb b2 (.slice D2 n2 l2) ∧ Below w6.heap.size w6 w7 from ⟨H6.out.2.2.2.2.2.1.below hb7, H6.out.2.2.2.2.2.2.1.below hb7, hb7⟩)
      clear hb7
      go_upto_region 6 with (first
        | (refine wpList_load_capC ?_ (.tmp 4) rfl gb rfl H7.out.2.1 H6.out.1 ?_; · rfl)
        | (with_reducible refine (HPB.out _ H7.out.2.2).mono ?_; rintro e w8 ⟨rfl, hb8⟩))
      have H8 := Lib.hid (show CapAt w8 ga a (.slice A m k) ∧ CapAt w8 gb b2 (.slice D2 n2 l2) ∧ Below w6.heap.size w6 w8 from ⟨H7.out.1.below hb8, H7.out.2.1.below hb8, H7.out.2.2.trans (hb8.mono H7.out.2.2.size)⟩)
      clear hb8 H7 HPA HPB
      have hte := HTE.out
      go_wp2_with (first
        | (refine wpList_load_capC ?_ (.tmp 3) rfl ga rfl H8.out.1 HCA.out ?_; · rfl)
        | (refine wpList_load_capC ?_ (.tmp 4) rfl gb rfl H8.out.2.1 H6.out.1 ?_; · rfl)
        | (with_reducible refine (HSM.out _ H8.out.2.2).mono ?_; rintro e w9 ⟨rfl, hb9⟩))
      have HB9 := Lib.hid (H8.out.2.2.trans (hb9.mono H8.out.2.2.size))
      clear hb9 hte
      have hee : (E == E) = true := beq_self_eq_true E
      go_wp2_with (first
        | (with_reducible refine (HWK.out _ HB9.out).mono ?_; rintro e w10 ⟨rfl, hb10⟩))
      have hfin := H6.out.2.2.2.2.2.2.2.trans ((HB9.out.trans (hb10.mono HB9.out.size)).mono H6.out.2.2.2.2.2.2.2.size)
      clear hb10
      go_wp2_with fail
      go_ret
      exact ⟨rfl, hfin⟩

set_option maxRecDepth 100000 in
theorem contract (H : Type) (enc : TypeId × Value → H) (W : World) (base : Nat) (args : Array Value) (ds gs : List (DataW H)) (before : List MemPlace)
    (hval : ∀ (j : Nat) t v, Tryd.f3.params[j]? = some t → args[j]? = some v → Value.okWide Tryd.prog W .any base t v)
    (hW : DataW.Whole enc Tryd.prog Tryd.f3.params.toList Rows.capsUnlikeSpec.vars false W args.toList ds gs before) (hL : laidMetH Tryd.prog Rows.capsUnlikeRow.laid W) :
    Calls Tryd.prog 3 args W fun e W' => ∃ v, e = .returned v ∧ Rows.capsUnlikeSpec.post enc Tryd.prog Tryd.f3 false true false false W args v W' := by
  have hW' := hW
  obtain ⟨p, q, hA0, hV, rfl, hfz, hnd⟩ := hW
  have hA : DataW.TrodAll enc Tryd.prog W 0 (fun _ => true) true Tryd.f3.params.toList args.toList ds p := hA0
  rw [Tryd.params3] at hA hval
  obtain ⟨v0, v1, v2, d0, d1, d2, p0, p1, p2, rfl, rfl, rfl, h0, h1, h2⟩ := trodAll_three hA
  obtain ⟨rfl, rfl⟩ := trodVars_none hV
  obtain ⟨c0, A0, m0, k0, rfl, hw0, hb0, hl0, hc0, hm0, hr0⟩ := open_cap (hval 0 28 v0 rfl rfl) h0
  obtain ⟨c1, A1, m1, k1, rfl, hw1, hb1, hl1, hc1, hm1, hr1⟩ := open_cap (hval 1 28 v1 rfl rfl) h1
  obtain ⟨t2, rfl, rfl, rfl⟩ := open_bool Tryd.underlying4 (hval 2 4 v2 rfl rfl) h2
  clear hA0
  refine (walk c0 c1 A0 A1 m0 m1 k0 k1 t2 W hw0 hw1 hb0 hb1 hl0 hl1 hc0 hc1 hr0 hr1 (pow10 hL)).mono fun e W' ⟨he, hb⟩ => ?_
  exact ⟨_, he, law_post hW' rfl (by kernel_rfl) rfl (by kernel_rfl) hb⟩

theorem laid_met (os : Os) : laidMet Tryd.prog Rows.capsUnlikeRow.laid ((laidWorld os).forCall (fun _ _ => 0) ⟨#[], #[.agg (capA cap0 (.slice none 0 0)), .agg (capA cap0 (.slice none 0 0)), .bool false], []⟩).memory :=
  laidMet_of_run' 8 (by kernel_rfl) (by kernel_rfl)
theorem reads (os : Os) {H : Type} (enc : TypeId × Value → H) : ∃ places, DataW.whole enc Tryd.prog ((laidWorld os).forCall (fun _ _ => 0) ⟨#[], #[.agg (capA cap0 (.slice none 0 0)), .agg (capA cap0 (.slice none 0 0)), .bool false], []⟩).memory Tryd.f3.params.toList Rows.capsUnlikeSpec.vars false #[Value.agg (capA cap0 (.slice none 0 0)), Value.agg (capA cap0 (.slice none 0 0)), Value.bool false].toList 8 = some ([.agg [.lit (.int .i64 0), .agg [.lit (.int .u8 0), .lit (.int .u8 0), .lit (.int .u8 0), .lit (.int .u8 0), .lit (.int .u8 0), .lit (.int .u8 0), .lit (.int .u8 0), .lit (.int .u8 0), .lit (.int .u8 0), .lit (.int .u8 0), .lit (.int .u8 0), .lit (.int .u8 0), .lit (.int .u8 0), .lit (.int .u8 0), .lit (.int .u8 0), .lit (.int .u8 0)], .agg [.lit (.int .u8 0), .lit (.int .u8 0), .lit (.int .u8 0), .lit (.int .u8 0), .lit (.int .u8 0), .lit (.int .u8 0), .lit (.int .u8 0), .lit (.int .u8 0), .lit (.int .u8 0), .lit (.int .u8 0), .lit (.int .u8 0), .lit (.int .u8 0), .lit (.int .u8 0), .lit (.int .u8 0), .lit (.int .u8 0), .lit (.int .u8 0), .lit (.int .u8 0), .lit (.int .u8 0), .lit (.int .u8 0), .lit (.int .u8 0), .lit (.int .u8 0), .lit (.int .u8 0), .lit (.int .u8 0), .lit (.int .u8 0), .lit (.int .u8 0), .lit (.int .u8 0), .lit (.int .u8 0), .lit (.int .u8 0), .lit (.int .u8 0), .lit (.int .u8 0), .lit (.int .u8 0), .lit (.int .u8 0)], .lit (.int .i64 0), .lit (.int .i64 0), .lit (.int .i64 0), .nil], .agg [.lit (.int .i64 0), .agg [.lit (.int .u8 0), .lit (.int .u8 0), .lit (.int .u8 0), .lit (.int .u8 0), .lit (.int .u8 0), .lit (.int .u8 0), .lit (.int .u8 0), .lit (.int .u8 0), .lit (.int .u8 0), .lit (.int .u8 0), .lit (.int .u8 0), .lit (.int .u8 0), .lit (.int .u8 0), .lit (.int .u8 0), .lit (.int .u8 0), .lit (.int .u8 0)], .agg [.lit (.int .u8 0), .lit (.int .u8 0), .lit (.int .u8 0), .lit (.int .u8 0), .lit (.int .u8 0), .lit (.int .u8 0), .lit (.int .u8 0), .lit (.int .u8 0), .lit (.int .u8 0), .lit (.int .u8 0), .lit (.int .u8 0), .lit (.int .u8 0), .lit (.int .u8 0), .lit (.int .u8 0), .lit (.int .u8 0), .lit (.int .u8 0), .lit (.int .u8 0), .lit (.int .u8 0), .lit (.int .u8 0), .lit (.int .u8 0), .lit (.int .u8 0), .lit (.int .u8 0), .lit (.int .u8 0), .lit (.int .u8 0), .lit (.int .u8 0), .lit (.int .u8 0), .lit (.int .u8 0), .lit (.int .u8 0), .lit (.int .u8 0), .lit (.int .u8 0), .lit (.int .u8 0), .lit (.int .u8 0)], .lit (.int .i64 0), .lit (.int .i64 0), .lit (.int .i64 0), .nil], .lit (.bool false)], [], places) :=
  ⟨[], by kernel_rfl⟩

set_option maxRecDepth 100000 in
theorem lifted (os : Os) (started : os.Started) (H : Type) (enc : TypeId × Value → H) (F : Stop.Interp) :
    ReturnsInHanded {} Tryd.checked os 3 .any ((OpenSpec.ofChange Rows.capsUnlikeSpec).preRow enc Tryd.prog Tryd.f3 Rows.capsUnlikeRow.domain false Rows.capsUnlikeRow.laid) (((OpenSpec.ofChange Rows.capsUnlikeSpec).at F).post enc Tryd.prog Tryd.f3 false true false false) := by
  obtain ⟨places, hx⟩ := reads os enc
  refine returnsInHanded_of_row (C := Tryd.checked) (s := OpenSpec.ofChange Rows.capsUnlikeSpec) own started (by kernel_rfl) Tryd.func3
    (witness_row_at (enc := enc) (C := Tryd.checked) false (laidWorld os) #[.agg (capA cap0 (.slice none 0 0)), .agg (capA cap0 (.slice none 0 0)), .bool false] rfl (by kernel_rfl) (by kernel_rfl) (by kernel_rfl)
      (OpenSpec.preRow_of_cond 8 hx (by kernel_rfl) (fun k hk => by cases hk) (by kernel_rfl) (laid_met os))) ?_
  intro W base args ds gs before hval hW _ _ _ hL _ _
  exact contract H enc W base args ds gs before hval hW hL

theorem said : Rows.CapsUnlikeSaid :=
  OpenClaim.holds_of_cond 3 Tryd.f3 rfl rfl rfl rfl rfl rfl rfl ⟨rfl, rfl, rfl, rfl, rfl⟩ rfl rfl rfl rfl rfl (by kernel_rfl) Tryd.func3 (by kernel_rfl)
    (of_decide_eq_true (by kernel_rfl)) (by unfold Func.isWrapper; first | (rw [if_pos (by decide +kernel)]; kernel_rfl) | (rw [if_neg (by decide +kernel)]; exact ⟨rfl, rfl⟩))
    (fun os started H enc _ F => by rw [OpenClaim.pre_eq_preRow]; exact lifted os started H enc F)

theorem plain (f : FuncId) (fn : Func) (hf : Tryd.pinned.checked.prog.funcNamed "aumbry/aumbrylaw13.CapsUnlike" = some f) (hfn : Tryd.pinned.checked.prog.funcs[f]? = some fn) :
    true = Tryd.pinned.checked.prog.looks [] ∧ ∀ (j : Nat) t, fn.params[j]? = some t → Tryd.pinned.checked.prog.wantsStandIn t = false := by
  obtain rfl : f = 3 := Option.some.inj ((show Tryd.prog.funcNamed "aumbry/aumbrylaw13.CapsUnlike" = some 3 by kernel_rfl).symm.trans hf) |>.symm
  obtain rfl : fn = Tryd.f3 := (Option.some.inj (Tryd.func3.symm.trans hfn)).symm
  refine ⟨by kernel_rfl, fun j t ht => ?_⟩
  exact wants_none (by kernel_rfl) (Array.mem_of_getElem? ht)

/-- The card: the statement holds, its listed tables tied to the program's text. -/
theorem card : Rows.CapsUnlikeCardSaid :=
  Claim7.holds_tied_plain_at .later [] _ _ _ _ said (fun _ h => by cases h) (by kernel_rfl) (fun _ h => by cases h) capsUnlike_row_tie rfl ⟨rfl, rfl⟩ (by kernel_rfl) rfl plain (by kernel_rfl)
end Go.Proofs.YtkmbieljmippnaaDoor.capsUnlike
