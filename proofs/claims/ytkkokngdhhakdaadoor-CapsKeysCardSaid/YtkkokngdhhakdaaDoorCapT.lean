/- The program's Print. -/
import Derived.Test.YtkkokngdhhakdaaDoorCapV
import Derived.Test.YtkkokngdhhakdaaDoorCapK
import Derived.Test.YtkkokngdhhakdaaDoorFreeL
namespace Go.Proofs.YtkkokngdhhakdaaDoor
open Go.RowKit
set_option maxRecDepth 100000

def printV (c : Cap13) : Value := if c.ok then .tuple #[.string ⟨c.text.toArray⟩, .int .i64 0] else .tuple #[.string ⟨#[]⟩, .int .i64 11]
theorem wordL_len (k : Int) (h0 : 0 ≤ k) (h1 : k ≤ 9) : (wordL k).length ≤ 11 := by
  obtain ⟨n, rfl⟩ : ∃ n : Nat, k = (n : Int) := ⟨k.toNat, by omega⟩
  have : ∀ n : Nat, n < 10 → (wordL (n : Int)).length ≤ 11 := by decide
  exact this n (by omega)
theorem sum_runC {a b c : ByteArray} (h : a ++ b = c) (h1 : a.size ≤ 4000000) (h2 : b.size ≤ 4000000) (W : World) : (Op.stringOp .add a b).run Tryd.prog W = .ok (.string c) W := by rw [run_string_add_sum W _ _ (by omega), h]

set_option maxHeartbeats 4000000 in
theorem pprint_any {w : World} {c : Cap13} {A : Option Addr} {n cc : Nat} (hw : c.wf) (hn : c.lit.length = n) (hn1 : n ≤ 1000000) (hr : Rd w w.heap.size A c.lit) (htab : Pow10 w.heap.size w) :
    Calls Tryd.prog 30 #[.agg (capA c (.slice A n cc))] w fun e w' => e = .returned (printV c) ∧ Below w.heap.size w w' := by
  obtain ⟨CX, hCX⟩ : ∃ x, capA c (.slice A n cc) = x := ⟨_, rfl⟩
  have HC0 := Lib.hid (CapAt.new w (.slice A n cc) hw hCX)
  have hal : Below w.heap.size w (w.alloc (.cells CX 28)) := (Below.refl _ _).alloc (Nat.le_refl _) _
  have HAL := Lib.hid hal
  have HV := Lib.hid (fun (t : Bool) (ht : decide c.ok = t) (W : World) (hW : Below w.heap.size w W) => (show Calls Tryd.prog 39 #[.agg CX] W fun e w' => e = .returned (.bool t) ∧ Below W.heap.size W w' from by
    rw [← hCX, ← ht]
    exact pvalid_any hw hn (hr.on hW)))
  have HKT := Lib.hid (fun (W : World) (hW : Below w.heap.size w W) => (show Calls Tryd.prog 59 #[.agg CX] W fun e w' => e = .returned (.string ⟨(enc c.key ++ 58 :: enc c.fp).toArray⟩) ∧ Below W.heap.size W w' from by
    rw [← hCX]
    exact pkeytext_any hw))
  have HSZ := Lib.hid (fun (h0 : 0 ≤ c.k ∧ 0 ≤ c.n ∧ 0 ≤ c.size) (h1 : c.k ≤ 1024 ∧ c.n ≤ 1024 ∧ c.size ≤ 1024) (W : World) (hW : Below w.heap.size w W) => (show Calls Tryd.prog 60 #[.agg CX] W fun e w' => e = .returned (.string ⟨(dd13 c.k ++ 58 :: dd13 c.n ++ 58 :: dd13 c.size).toArray⟩) ∧ Below W.heap.size W w' from by
    rw [← hCX]
    exact psizetext_any hw h0 h1 (tab_on htab hW hW.size)))
  have HB := Lib.hid (fun (W : World) (hW : Below w.heap.size w W) => base32_any A n cc W.heap.size c.lit W hn hn1 (hr.on hW) (Nat.le_refl _))
  have HWO := Lib.hid (fun (W : World) => pwords_any W)
  have HCX := Lib.hid hCX
  have HW := Lib.hid hw
  have HN := Lib.hid (show c.lit.length ≤ 1000000 by omega)
  rw [hCX]
  clear hCX hal hn hn1 hr htab hw
  by_cases hok : c.ok
  · have HOK := Lib.hid hok
    have hV : printV c = .tuple #[.string ⟨c.text.toArray⟩, .int .i64 0] := by unfold printV; rw [if_pos hok]
    obtain ⟨T, hT⟩ : ∃ x, (⟨c.text.toArray⟩ : ByteArray) = x := ⟨_, rfl⟩
    rw [hV, hT]
    have HT := Lib.hid hT
    clear hT
    have HV1 := Lib.hid (HV.out true (decide_eq_true hok))
    have hkk := c.ok_kind hok
    have hix := run_index_w13 c.kind (by omega) (by omega)
    have HWL := Lib.hid (wordL_len c.kind (by omega) (by omega))
    have HKK := Lib.hid hkk
    obtain ⟨WA, hWA⟩ : ∃ x, wordsA = x := ⟨_, rfl⟩
    rw [hWA] at hix HWO
    obtain ⟨WD, hWD⟩ : ∃ x, (⟨(wordL c.kind).toArray⟩ : ByteArray) = x := ⟨_, rfl⟩
    rw [hWD] at hix
    obtain ⟨P1, hP1⟩ : ∃ x, (⟨#[97, 117, 58]⟩ : ByteArray) ++ WD = x := ⟨_, rfl⟩
    obtain ⟨P2, hP2⟩ : ∃ x, P1 ++ (⟨#[58]⟩ : ByteArray) = x := ⟨_, rfl⟩
    have hs0 : WD.size ≤ 11 := by rw [← hWD]; exact HWL.out
    have hs1 : P1.size ≤ 14 := by rw [← hP1, ByteArray.size_append]; show 3 + WD.size ≤ _; omega
    have hs2 : P2.size ≤ 15 := by rw [← hP2, ByteArray.size_append]; show P1.size + 1 ≤ _; omega
    have hc1 := sum_runC hP1 (by show 3 ≤ _; omega) (by omega)
    have hc2 := sum_runC hP2 (by omega) (by show 1 ≤ _; omega)
    have HP2 := Lib.hid (show P2 = ⟨([97, 117, 58] ++ wordL c.kind ++ [58]).toArray⟩ by rw [← hP2, ← hP1, ← hWD, show (⟨#[97, 117, 58]⟩ : ByteArray) = ⟨([97, 117, 58] : List UInt8).toArray⟩ from rfl, show (⟨#[58]⟩ : ByteArray) = ⟨[(58 : UInt8)].toArray⟩ from rfl, ba_app, ba_app])
    have HS2 := Lib.hid hs2
    clear hV hkk hok HV hWA hWD hP1 hP2 hs0 hs1 hs2
    go_enter Tryd.func30, Tryd.ntmps30
    go_upto_region 1 with fail
    obtain ⟨b, hb⟩ : ∃ g, w.heap.size = g := ⟨_, rfl⟩
    rw [hb] at HC0 ⊢
    generalize w.alloc (.cells CX 28) = w1 at *
    obtain ⟨c0, _, _, _, c52⟩ := HC0.out.cells
    go_upto_region 3 with (first | (refine wpList_load_capC ?_ (.tmp 1) rfl b rfl HC0.out HCX.out ?_; · rfl) | (with_reducible refine (HV1.out _ HAL.out).mono ?_; rintro e w2 ⟨rfl, hb2⟩))
    have HC2 := Lib.hid (HC0.out.below hb2)
    have HBW := Lib.hid (HAL.out.trans (hb2.mono HAL.out.size))
    clear c0 c52 hb2
    have HKEEP := Lib.hid (fun (W : World) (h : Below w2.heap.size w2 W) => (show W.cell? ⟨b, 0, none⟩ = some (.int .i64 c.kind) ∧ Below w2.heap.size w2 W from ⟨(HC2.out.below h).cells.1, h⟩))
    have HWP := Lib.hid (fun (W : World) (hW : Below w2.heap.size w2 W) => (HWO.out W).mono fun e w' h => (⟨h.1, hW.trans (h.2.mono hW.size)⟩ : e = .returned (.agg WA) ∧ Below w2.heap.size w2 w'))
    go_region_held3 (fun W => W.cell? ⟨b, 0, none⟩ = some (.int .i64 c.kind) ∧ Below w2.heap.size w2 W)
      ((first | exact HKEEP.out _ ‹_› | exact HKEEP.out _ (Below.refl _ _) | exact HKEEP.out _ (Below.refl _ _).drew | exact HKEEP.out _ (below_drewN (Below.refl _ _) _) | exact HKEEP.out _ (Below.drew ‹_›) | exact HKEEP.out _ (below_drewN ‹_› _)))
      ((first
        | (go_at_call 57; with_reducible refine (HWP.out _ (by first | assumption | exact Below.refl _ _ | exact (Below.refl _ _).drew | exact below_drewN (by assumption) _ | exact below_drewN (Below.refl _ _) _)).mono ?_; rintro e W ⟨rfl, hbW⟩)
        | fail "none"))
    have HC3 := Lib.hid (HC2.out.below hbW)
    replace HBW := Lib.hid (HBW.out.trans (hbW.mono HBW.out.size))
    clear HC2 HKEEP HWP hc1 hc2 hix hbW HV1 HC0 HAL HWO
    obtain ⟨w3, hw3⟩ : ∃ x, W = x := ⟨_, rfl⟩
    rw [hw3] at HC3 HBW ⊢
    clear hw3
    have HBK := Lib.hid (fun (W : World) (hW : Below w3.heap.size w3 W) => (show Blk W b CX 28 from HCX.out ▸ (HC3.out.below hW).blk))
    have HZCX := Lib.hid (show CX.size = 53 by rw [← HCX.out]; exact capA_size HW.out _)
    have hbr := hb
    clear hb
    have e58 : (⟨#[58]⟩ : ByteArray) = ⟨[(58 : UInt8)].toArray⟩ := rfl
    by_cases h3 : c.kind = 3
    · obtain ⟨c0, _, _, _, c52⟩ := HC3.out.cells
      obtain ⟨LT, hLT⟩ : ∃ x, (⟨(enc c.lit).toArray⟩ : ByteArray) = x := ⟨_, rfl⟩
      have HLB := Lib.hid (HB.out w3 HBW.out)
      rw [hLT] at HLB
      have hls : LT.size ≤ 1700000 := by
        rw [← hLT]
        show (enc c.lit).toArray.size ≤ _
        have := HN.out
        simp only [List.size_toArray, enc_length]
        omega
      have hct : P2 ++ LT = ⟨c.text.toArray⟩ := by
        rw [HP2.out, ← hLT, ba_app]
        unfold Cap13.text
        rw [pieces_three h3, h3]
        simp only [join58, List.append_assoc, List.cons_append, List.nil_append]
      have hc1 := sum_runC hct (by have := HS2.out; omega) (by omega)
      have hT := HT.out
      rw [hT] at hc1
      clear hT hct hls hLT e58
      go_wp2_with (first | (with_reducible refine HLB.out.mono ?_; rintro e w4 ⟨rfl, hb4⟩))
      have hfin := HBW.out.trans (hb4.mono HBW.out.size)
      clear hb4 c0 c52
      go_wp2_with fail
      go_ret2
      exact ⟨rfl, by first | exact hfin | (rw [← hbr]; exact hfin)⟩
    · by_cases hf : c.kind = 1 ∨ c.kind = 2
      · obtain ⟨g1, g2, g4, g5, g6, _⟩ := ok_fileK HOK.out hf
        obtain ⟨KT, hKT⟩ : ∃ x, (⟨(enc c.key ++ 58 :: enc c.fp).toArray⟩ : ByteArray) = x := ⟨_, rfl⟩
        obtain ⟨ST, hST⟩ : ∃ x, (⟨(dd13 c.k ++ 58 :: dd13 c.n ++ 58 :: dd13 c.size).toArray⟩ : ByteArray) = x := ⟨_, rfl⟩
        have HST := Lib.hid (HSZ.out (by omega) (by omega))
        rw [hKT] at HKT
        rw [hST] at HST
        have hks : KT.size ≤ 79 := by
          rw [← hKT]
          show (enc c.key ++ 58 :: enc c.fp).toArray.size ≤ _
          simp only [List.size_toArray, List.length_append, List.length_cons, enc_length, HW.out.1, HW.out.2]
          omega
        have hss : ST.size ≤ 14 := by
          rw [← hST]
          show (dd13 c.k ++ 58 :: dd13 c.n ++ 58 :: dd13 c.size).toArray.size ≤ _
          have d1 := dd13_len c.k (by omega)
          have d2 := dd13_len c.n (by omega)
          have d3 := dd13_len c.size (by omega)
          simp only [List.size_toArray, List.length_append, List.length_cons]
          omega
        obtain ⟨T1, hT1⟩ : ∃ x, P2 ++ KT = x := ⟨_, rfl⟩
        obtain ⟨T2, hT2⟩ : ∃ x, T1 ++ (⟨#[58]⟩ : ByteArray) = x := ⟨_, rfl⟩
        have hT := HT.out
        have hT3 : T2 ++ ST = T := by
          rw [← hT2, ← hT1, ← hT, HP2.out, ← hKT, ← hST, e58, ba_app, ba_app, ba_app]
          unfold Cap13.text
          rw [pieces_file h3 hf]
          simp only [join58, List.append_assoc, List.cons_append, List.nil_append]
        have hp2 := HS2.out
        have hs1 : T1.size ≤ 94 := by rw [← hT1, ByteArray.size_append]; omega
        have hs2 : T2.size ≤ 95 := by rw [← hT2, ByteArray.size_append]; show T1.size + 1 ≤ _; omega
        have HC1 := Lib.hid (sum_runC hT1 (by omega) (by omega))
        have HC2 := Lib.hid (sum_runC hT2 (by omega) (by show 1 ≤ _; omega))
        have HC3' := Lib.hid (sum_runC hT3 (by omega) (by omega))
        obtain ⟨c0, _, _, _, _⟩ := HC3.out.cells
        clear hT1 hT2 hT3 hs1 hs2 hp2 hss hks hKT hST hT g1 g2 g4 g5 g6 e58
        rcases hf with hk | hk
        all_goals
          go_upto_region 9 with fail
          clear hk h3 c0
      -- region 9
          refine wp_region_loose 10 0 (fun i => false) (promises [.is (.string P2), .is (.agg CX), .is (.string KT), .is (.string T1), .is (.string T2), .is (.agg CX), .is (.string ST), .is (.string T), .is (.string T), .is (.int .i64 0)]) (by kernel_rfl) rfl (by kernel_rfl) (fun i v w w' h hb => Spec.keep h hb) ⟨?_, ?_, ?_, ?_, ?_, ?_, ?_, ?_, ?_, ?_, trivial⟩ ?_
          · refine StepOKl.of ?_
            intro ac w hb hu hk
            refine ⟨wanted_none rfl, ?_⟩
            have e4 : ac.eval (.tmp 4) = .string P2 := hu.is (t := 4) (by kernel_rfl)
            exact step_value (BigFrame.run_move (.tmp 4) rfl w) (Below.refl _ _) e4
          · refine StepOKl.of ?_
            intro ac w hb hu hk
            refine ⟨wanted_none rfl, ?_⟩
            have e1 : ac.eval (.tmp 1) = .pointer (some ⟨b, 0, none⟩) := hu.is (t := 1) (by kernel_rfl)
            exact wp_load_row 28 (.tmp 1) rfl b e1 28 CX (0, 0) _ (HBK.out w hb) Tryd.underlying28 rfl (by rw [HZCX.out]; kernel_rfl) ⟨_, rfl, rfl, Below.refl _ _⟩
          · refine StepOKl.of ?_
            intro ac w hb hu hk
            refine ⟨wanted_none rfl, ?_⟩
            have e27 : ac.eval (.tmp 27) = (.agg CX) := (hk ⟨1, .data⟩ (by simp) rfl).is rfl rfl
            have ef : ac.eval (.func 59) = .func (.func 59) #[] #[] := rfl
            refine step_enter (f := 59) (args := #[.agg CX]) ?_ ?_
            · generalize ac.eval = ρ at e27 ef ⊢
              go_simp
            · exact (HKT.out w (HBW.out.trans (hb.mono HBW.out.size))).mono fun e w' ⟨he, hq⟩ => ⟨_, he, rfl, hq⟩
          · refine StepOKl.of ?_
            intro ac w hb hu hk
            refine ⟨wanted_none rfl, ?_⟩
            have e26 : ac.eval (.tmp 26) = (.string P2) := (hk ⟨0, .data⟩ (by simp) rfl).is rfl rfl
            have e28 : ac.eval (.tmp 28) = (.string KT) := (hk ⟨2, .data⟩ (by simp) rfl).is rfl rfl
            have hc := HC1.out w
            refine step_value (w' := w) (v := .string T1) ?_ (Below.refl _ _) rfl
            generalize ac.eval = ρ at e26 e28 ⊢
            go_simp
          · refine StepOKl.of ?_
            intro ac w hb hu hk
            refine ⟨wanted_none rfl, ?_⟩
            have e29 : ac.eval (.tmp 29) = (.string T1) := (hk ⟨3, .data⟩ (by simp) rfl).is rfl rfl
            have ec0 : ac.eval (.const (.string ⟨#[58]⟩)) = .string ⟨#[58]⟩ := rfl
            have hc := HC2.out w
            refine step_value (w' := w) (v := .string T2) ?_ (Below.refl _ _) rfl
            generalize ac.eval = ρ at e29 ec0 ⊢
            go_simp
          · refine StepOKl.of ?_
            intro ac w hb hu hk
            refine ⟨wanted_none rfl, ?_⟩
            have e1 : ac.eval (.tmp 1) = .pointer (some ⟨b, 0, none⟩) := hu.is (t := 1) (by kernel_rfl)
            exact wp_load_row 28 (.tmp 1) rfl b e1 28 CX (0, 0) _ (HBK.out w hb) Tryd.underlying28 rfl (by rw [HZCX.out]; kernel_rfl) ⟨_, rfl, rfl, Below.refl _ _⟩
          · refine StepOKl.of ?_
            intro ac w hb hu hk
            refine ⟨wanted_none rfl, ?_⟩
            have e31 : ac.eval (.tmp 31) = (.agg CX) := (hk ⟨5, .data⟩ (by simp) rfl).is rfl rfl
            have ef : ac.eval (.func 60) = .func (.func 60) #[] #[] := rfl
            refine step_enter (f := 60) (args := #[.agg CX]) ?_ ?_
            · generalize ac.eval = ρ at e31 ef ⊢
              go_simp
            · exact (HST.out w (HBW.out.trans (hb.mono HBW.out.size))).mono fun e w' ⟨he, hq⟩ => ⟨_, he, rfl, hq⟩
          · refine StepOKl.of ?_
            intro ac w hb hu hk
            refine ⟨wanted_none rfl, ?_⟩
            have e30 : ac.eval (.tmp 30) = (.string T2) := (hk ⟨4, .data⟩ (by simp) rfl).is rfl rfl
            have e32 : ac.eval (.tmp 32) = (.string ST) := (hk ⟨6, .data⟩ (by simp) rfl).is rfl rfl
            have hc := HC3'.out w
            refine step_value (w' := w) (v := .string T) ?_ (Below.refl _ _) rfl
            generalize ac.eval = ρ at e30 e32 ⊢
            go_simp
          · refine StepOKl.of ?_
            intro ac w hb hu hk
            refine ⟨wanted_none rfl, ?_⟩
            have e33 : ac.eval (.tmp 33) = (.string T) := (hk ⟨7, .data⟩ (by simp) rfl).is rfl rfl
            exact step_value (BigFrame.run_assign (.tmp 33) rfl w) (Below.refl _ _) e33
          · refine StepOKl.of ?_
            intro ac w hb hu hk
            refine ⟨wanted_none rfl, ?_⟩
            refine step_value (w' := w) (v := (.int .i64 0)) ?_ (Below.refl _ _) rfl
            have ec0 : ac.eval (.const (Value.int IntKind.i64 0)) = Value.int IntKind.i64 0 := rfl
            generalize ac.eval = ρ at ec0 ⊢
            go_simp
          · intro ac w' hb hu hk hap
            obtain ⟨_, h2, rfl⟩ := (hk 8 (by decide)).put rfl rfl
            obtain ⟨_, h3, rfl⟩ := (hk 9 (by decide)).put rfl rfl
            obtain ⟨_, h26, rfl⟩ := (hk 0 (by decide)).put rfl rfl
            obtain ⟨_, h27, rfl⟩ := (hk 1 (by decide)).put rfl rfl
            obtain ⟨_, h28, rfl⟩ := (hk 2 (by decide)).put rfl rfl
            obtain ⟨_, h29, rfl⟩ := (hk 3 (by decide)).put rfl rfl
            obtain ⟨_, h30, rfl⟩ := (hk 4 (by decide)).put rfl rfl
            obtain ⟨_, h31, rfl⟩ := (hk 5 (by decide)).put rfl rfl
            obtain ⟨_, h32, rfl⟩ := (hk 6 (by decide)).put rfl rfl
            obtain ⟨_, h33, rfl⟩ := (hk 7 (by decide)).put rfl rfl
            clear hap
            have hF : AllPuts ac.tmps ((2, _) :: (3, _) :: (26, _) :: (27, _) :: (28, _) :: (29, _) :: (30, _) :: (31, _) :: (32, _) :: (33, _) :: []) := ⟨h2, h3, h26, h27, h28, h29, h30, h31, h32, h33, trivial⟩
            obtain rfl := frame_puts hu (by kernel_rfl) hF
            simp only [puts, Act.put, List.setIfInBounds_toArray, List.set_cons_zero, List.set_cons_succ, List.drop_succ_cons, List.drop_nil]
            clear hk hu hF h2 h3 h26 h27 h28 h29 h30 h31 h32 h33
            have HB9 := Lib.hid (HBW.out.trans (hb.mono HBW.out.size))
            go_wp2_with fail
            go_ret2
            exact ⟨rfl, by first | exact HB9.out | (rw [← hbr]; exact HB9.out)⟩
      -- end of region 9
      · obtain ⟨c0, _, _, _, _⟩ := HC3.out.cells
        have n1 : c.kind ≠ 1 := fun h => hf (.inl h)
        have n2 : c.kind ≠ 2 := fun h => hf (.inr h)
        obtain ⟨KT, hKT⟩ : ∃ x, (⟨(enc c.key ++ 58 :: enc c.fp).toArray⟩ : ByteArray) = x := ⟨_, rfl⟩
        rw [hKT] at HKT
        have HK1 := Lib.hid (HKT.out w3 HBW.out)
        have hks : KT.size ≤ 79 := by
          rw [← hKT]
          show (enc c.key ++ 58 :: enc c.fp).toArray.size ≤ _
          simp only [List.size_toArray, List.length_append, List.length_cons, enc_length, HW.out.1, HW.out.2]
          omega
        have hct : P2 ++ KT = ⟨c.text.toArray⟩ := by
          rw [HP2.out, ← hKT, ba_app]
          unfold Cap13.text
          rw [pieces_slot h3 hf]
          simp only [join58, List.append_assoc, List.cons_append, List.nil_append]
        have hc1 := sum_runC hct (by have := HS2.out; omega) (by omega)
        have hT := HT.out
        rw [hT] at hc1
        clear hT hct hks hKT e58 hf
        go_wp2_with (first | (refine wpList_load_capC ?_ (.tmp 1) rfl b rfl HC3.out HCX.out ?_; · rfl) | (with_reducible refine HK1.out.mono ?_; rintro e w4 ⟨rfl, hb4⟩))
        have hfin := HBW.out.trans (hb4.mono HBW.out.size)
        clear hb4 c0
        go_wp2_with fail
        go_ret2
        exact ⟨rfl, by first | exact hfin | (rw [← hbr]; exact hfin)⟩
  · have hV : printV c = .tuple #[.string ⟨#[]⟩, .int .i64 11] := by unfold printV; rw [if_neg hok]
    rw [hV]
    have HV1 := Lib.hid (HV.out false (decide_eq_false hok))
    clear hV hok HV HKT HSZ HB HWO
    go_enter Tryd.func30, Tryd.ntmps30
    go_upto_region 1 with fail
    obtain ⟨b, hb⟩ : ∃ g, w.heap.size = g := ⟨_, rfl⟩
    rw [hb] at HC0 ⊢
    generalize w.alloc (.cells CX 28) = w1 at *
    go_wp2_with (first | (refine wpList_load_capC ?_ (.tmp 1) rfl b rfl HC0.out HCX.out ?_; · rfl) | (with_reducible refine (HV1.out _ HAL.out).mono ?_; rintro e w2 ⟨rfl, hb2⟩))
    have hfin := HAL.out.trans (hb2.mono HAL.out.size)
    clear hb2
    go_wp2_with fail
    go_ret2
    exact ⟨rfl, by first | exact hfin | (rw [← hb]; exact hfin)⟩
end Go.Proofs.YtkkokngdhhakdaaDoor
