/- Whether an explanation holds, as the document says it. -/
import Derived.Test.YtfgieebccjoboaaDoorMssB
namespace Go.Proofs.YtfgieebccjoboaaDoor
open Go.RowKit

/-- The value is a pointer to a cell that holds x. -/
def Spec.pc (x : Value) : Spec := .any (fun v w => ∃ b o, v = .pointer (some ⟨b, o, none⟩) ∧ b < w.heap.size ∧ w.cell? ⟨b, o, none⟩ = some x) (fun _ _ _ h hb => by
  obtain ⟨b, o, h1, h2, h3⟩ := h
  exact ⟨b, o, h1, Nat.lt_of_lt_of_le h2 hb.size, (hb.cell (p := ⟨b, o, none⟩) h2).trans h3⟩)
/-- The value is a slice that reads as the numbers. -/
def Spec.dv (n : Nat) (l : List Nat) : Spec := .any (fun v w => ∃ X c, v = .slice X n c ∧ n ≤ c ∧ DV w (.slice X n c) l) (fun _ _ _ h hb => by
  obtain ⟨X, c, h1, h2, h3⟩ := h
  exact ⟨X, c, h1, h2, h3.on hb⟩)
/-- Does what is told hold? -/
def holdsP (sd : List UInt8) (ht : Nat) (rows : List (List UInt8)) (lk : Bool) (lf ch pl : Int) (v a b : List UInt8) : Prop :=
  0 ≤ lf ∧ lf < ((2 ^ ht : Nat) : Int) ∧ 0 ≤ ch ∧ ch < 67 ∧ 0 ≤ pl ∧ pl < 16 ∧ (if lk = true then v = alongH pl.toNat (startH sd lf ch) ∧ (signedV rows lf = [] ∨ pl.toNat < (digH (msgH (signedV rows lf))).getD ch.toNat 0) else isBr (a, b) = true)
instance (sd : List UInt8) (ht : Nat) (rows : List (List UInt8)) (lk : Bool) (lf ch pl : Int) (v a b : List UInt8) : Decidable (holdsP sd ht rows lk lf ch pl v a b) := by unfold holdsP; infer_instance
/-- An explanation's cells. -/
def forgeA (A B : Option Addr) (n c m d : Nat) (lk : Bool) (lf ch pl : Int) (v : List UInt8) : Array Value := #[.slice A n c, .slice B m d, .bool lk, .int .i64 lf, .int .i64 ch, .int .i64 pl] ++ u8A v
set_option maxRecDepth 100000 in
set_option maxHeartbeats 16000000 in
theorem rholds9_any (sd : List UInt8) (ht : Nat) (R : Option Addr) (rn rc : Nat) (rows : List (List UInt8)) (A B : Option Addr) (n c m d : Nat) (lk : Bool) (lf ch pl : Int) (v a b : List UInt8) (w : World) (hs : sd.length = 16) (hh : ht ≤ 8) (hrn : rows.length = rn) (hrl : ∀ r ∈ rows, r.length ≤ 1000) (hrr : RdR w w.heap.size R rows) (hv : v.length = 32) (ha : a.length = n) (hbn : b.length = m) (ha8 : n ≤ 800000) (hb8 : m ≤ 800000) (hra : Rd w w.heap.size A a) (hrb : Rd w w.heap.size B b)
    (hl0 : -9223372036854775808 ≤ lf) (hl1 : lf ≤ 9223372036854775807) :
    Calls Tryd.prog 20 #[.agg (u8A sd), .int .i64 (ht : Int), .slice R rn rc, .agg (forgeA A B n c m d lk lf ch pl v)] w fun e w' => e = .returned (.bool (decide (holdsP sd ht rows lk lf ch pl v a b))) ∧ Below w.heap.size w w' := by
  obtain ⟨N, hN⟩ : ∃ N, 2 ^ ht = N := ⟨_, rfl⟩
  have hN256 : N ≤ 256 := by rw [← hN]; exact Nat.pow_le_pow_right (by omega) hh
  have hp1 : (2 : Int) ^ ht = (N : Int) := by rw [← hN]; simp
  have HNO := Lib.hid (fun h : ¬ (0 ≤ lf ∧ lf < (N : Int) ∧ 0 ≤ ch ∧ ch < 67 ∧ 0 ≤ pl ∧ pl < 16 ∧ True) => (fun h2 => h (by
    unfold holdsP at h2
    rw [hN] at h2
    exact ⟨h2.1, h2.2.1, h2.2.2.1, h2.2.2.2.1, h2.2.2.2.2.1, h2.2.2.2.2.2.1, trivial⟩) : ¬ holdsP sd ht rows lk lf ch pl v a b))
  have HHP := Lib.hid (fun (h : 0 ≤ lf ∧ lf < (N : Int) ∧ 0 ≤ ch ∧ ch < 67 ∧ 0 ≤ pl ∧ pl < 16) => (show holdsP sd ht rows lk lf ch pl v a b ↔ (if lk = true then v = alongH pl.toNat (startH sd lf ch) ∧ (signedV rows lf = [] ∨ pl.toNat < (digH (msgH (signedV rows lf))).getD ch.toNat 0) else isBr (a, b) = true) by
    unfold holdsP
    rw [hN]
    exact ⟨fun h2 => h2.2.2.2.2.2.2, fun h2 => ⟨h.1, h.2.1, h.2.2.1, h.2.2.2.1, h.2.2.2.2.1, h.2.2.2.2.2, h2⟩⟩))
  obtain ⟨X, hX⟩ : ∃ x, u8A sd = x := ⟨_, rfl⟩
  have HXE := Lib.hid hX
  have HXS := Lib.hid (show X.size = 16 by rw [← hX, u8A_size]; exact hs)
  obtain ⟨FA, hFA⟩ : ∃ x, forgeA A B n c m d lk lf ch pl v = x := ⟨_, rfl⟩
  have hf0 : FA[0]? = some (.slice A n c) := by rw [← hFA]; unfold forgeA; rw [Array.getElem?_append_left (by simp)]; rfl
  have hf1 : FA[1]? = some (.slice B m d) := by rw [← hFA]; unfold forgeA; rw [Array.getElem?_append_left (by simp)]; rfl
  have hf2 : FA[2]? = some (.bool lk) := by rw [← hFA]; unfold forgeA; rw [Array.getElem?_append_left (by simp)]; rfl
  have hf3 : FA[3]? = some (.int .i64 lf) := by rw [← hFA]; unfold forgeA; rw [Array.getElem?_append_left (by simp)]; rfl
  have hf4 : FA[4]? = some (.int .i64 ch) := by rw [← hFA]; unfold forgeA; rw [Array.getElem?_append_left (by simp)]; rfl
  have hf5 : FA[5]? = some (.int .i64 pl) := by rw [← hFA]; unfold forgeA; rw [Array.getElem?_append_left (by simp)]; rfl
  have hfv : ∀ j u, (Lib.byteCells v)[j]? = some u → FA[6 + j]? = some u := fun j u hu => by
    rw [← hFA]
    unfold forgeA
    rw [Array.getElem?_append_right (by simp)]
    simpa [u8A] using hu
  have HF := Lib.hid (show FA[0]? = some (.slice A n c) ∧ FA[1]? = some (.slice B m d) ∧ FA[2]? = some (.bool lk) ∧ FA[3]? = some (.int .i64 lf) ∧ FA[4]? = some (.int .i64 ch) ∧ FA[5]? = some (.int .i64 pl) ∧ ∀ j u, (Lib.byteCells v)[j]? = some u → FA[6 + j]? = some u from ⟨hf0, hf1, hf2, hf3, hf4, hf5, hfv⟩)
  rw [hX, hFA]
  clear hX hFA hf0 hf1 hf2 hf3 hf4 hf5 hfv hN
  go_enter Tryd.func20, Tryd.ntmps20
  go_upto_region 1 with fail
  generalize hw3 : World.alloc _ _ = w3
  obtain ⟨g4, hg4⟩ : ∃ g, w.heap.size = g := ⟨_, rfl⟩
  obtain ⟨g7, hg7⟩ : ∃ g, w.heap.size + 1 = g := ⟨_, rfl⟩
  have hf : Blk w3 g4 X 23 ∧ Blk w3 g7 FA 50 ∧ Below w.heap.size w w3 := by
    have hw : w3 = (w.alloc (.cells X 23)).alloc (.cells FA 50) := hw3.symm
    have e1 : (w.alloc (.cells X 23)).heap.size = w.heap.size + 1 := by simp
    rw [hw, ← hg4, ← hg7]
    refine ⟨(Blk.new w _ _).alloc _, ?_, ((Below.refl _ _).alloc (Nat.le_refl _) _).alloc (by simp) _⟩
    rw [← e1]; exact Blk.new _ _ _
  have HTX := Lib.hid hf.1
  have HTF := Lib.hid hf.2.1
  have HBW := Lib.hid hf.2.2
  have c2 := (hf.2.1.cell 2).trans HF.out.2.2.1
  have c3 := (hf.2.1.cell 3).trans HF.out.2.2.2.1
  have c4 := (hf.2.1.cell 4).trans HF.out.2.2.2.2.1
  have c5 := (hf.2.1.cell 5).trans HF.out.2.2.2.2.2.1
  clear hf hw3
  rw [hg7, hg4]
  clear hg7 hg4
  by_cases h0 : lf < 0
  · have hno := HNO.out (fun h => by have := h.1; omega)
    go_wp2_with fail
    go_ret
    exact ⟨ret_bool (decide_eq_false hno).symm, HBW.out⟩
  · by_cases h1 : lf ≥ (N : Int)
    · have hno := HNO.out (fun h => by have := h.2.1; omega)
      go_wp2_with fail
      go_ret
      exact ⟨ret_bool (decide_eq_false hno).symm, HBW.out⟩
    · by_cases h2 : ch < 0
      · have hno := HNO.out (fun h => by have := h.2.2.1; omega)
        go_wp2_with fail
        go_ret
        exact ⟨ret_bool (decide_eq_false hno).symm, HBW.out⟩
      · by_cases h3 : ch ≥ 67
        · have hno := HNO.out (fun h => by have := h.2.2.2.1; omega)
          go_wp2_with fail
          go_ret
          exact ⟨ret_bool (decide_eq_false hno).symm, HBW.out⟩
        · by_cases h4 : pl < 0
          · have hno := HNO.out (fun h => by have := h.2.2.2.2.1; omega)
            go_wp2_with fail
            go_ret
            exact ⟨ret_bool (decide_eq_false hno).symm, HBW.out⟩
          · by_cases h5 : pl ≥ 16
            · have hno := HNO.out (fun h => by have := h.2.2.2.2.2.1; omega)
              go_wp2_with fail
              go_ret
              exact ⟨ret_bool (decide_eq_false hno).symm, HBW.out⟩
            · have hin := HHP.out ⟨by omega, by omega, by omega, by omega, by omega, by omega⟩
              have c0 := (HTF.out.cell 0).trans HF.out.1
              have c1 := (HTF.out.cell 1).trans HF.out.2.1
              clear HNO HHP
              cases lk
              · rw [if_neg (by simp)] at hin
                have HR := Lib.hid (show decide (holdsP sd ht rows false lf ch pl v a b) = (!(a == b) && decide (shaL a = shaL b)) by
                  apply Bool.eq_iff_iff.2
                  rw [decide_eq_true_iff]
                  exact hin)
                have HCL := Lib.hid (fun W (hW : Below w3.heap.size w3 W) => breakR A B n m c d a b W ha hbn (by omega) (by omega) (hra.below (HBW.out.trans (hW.mono HBW.out.size)) (Nat.le_refl _) |>.more (Nat.le_trans HBW.out.size hW.size)) (hrb.below (HBW.out.trans (hW.mono HBW.out.size)) (Nat.le_refl _) |>.more (Nat.le_trans HBW.out.size hW.size)))
                clear hin
                go_wp2_with fail
                with_reducible refine (HCL.out w3 (Below.refl _ _)).mono ?_
                rintro e w5 ⟨rfl, hb5⟩
                have HB5 := Lib.hid (HBW.out.trans (hb5.mono HBW.out.size))
                clear hb5
                go_wp2_with fail
                go_ret
                exact ⟨ret_bool HR.out.symm, HB5.out⟩
              · rw [if_pos rfl] at hin
                obtain ⟨s, hsv⟩ : ∃ s, startH sd lf ch = s := ⟨_, rfl⟩
                have hsl : s.length = 32 := by rw [← hsv]; exact startH_len _ _ _
                obtain ⟨y, hy⟩ : ∃ y, alongH pl.toNat s = y := ⟨_, rfl⟩
                have hyl : y.length = 32 := by rw [← hy]; exact alongH_len hsl _
                obtain ⟨S, hS⟩ : ∃ x, u8A s = x := ⟨_, rfl⟩
                obtain ⟨Y, hY⟩ : ∃ x, u8A y = x := ⟨_, rfl⟩
                obtain ⟨V, hV⟩ : ∃ x, u8A v = x := ⟨_, rfl⟩
                obtain ⟨eb, heb⟩ : ∃ q, decide (v = y) = q := ⟨_, rfl⟩
                obtain ⟨sg, hsg⟩ : ∃ x, signedV rows lf = x := ⟨_, rfl⟩
                rw [hsv, hy, hsg] at hin
                have HIN := Lib.hid hin
                have HEB := Lib.hid heb
                have HVL := Lib.hid hv
                have HEV := Lib.hid hV
                have HST := Lib.hid (fun W => (show Calls Tryd.prog 37 #[.agg X, .int .i64 lf, .int .i64 ch] W fun e w' => e = .returned (.agg S) ∧ Below W.heap.size W w' from by
                  rw [← HXE.out, ← hS, ← hsv]
                  exact rstart_any sd lf ch W hs hl1 (by omega)))
                have HAG := Lib.hid (fun W => (show Calls Tryd.prog 36 #[.agg S, .int .i64 pl] W fun e w' => e = .returned (.agg Y) ∧ Below W.heap.size W w' from by
                  have h := ralong_any s pl W hsl
                  rw [show wots.clampS pl = pl.toNat by unfold wots.clampS; rw [if_neg h4, if_neg (by omega)]] at h
                  rw [← hS, ← hY, ← hy]
                  exact h))
                have HEQ := Lib.hid (fun W => (show (Op.equalIn 10000 29 (.agg V) (.agg Y)).run Tryd.prog W = .ok eb W by rw [← hV, ← hY, run_hash_eq W _ _ hv hyl, heb]))
                have hrv : w3.rangeAt g7 6 (Lib.byteCells v) := fun j u hu => (HTF.out.cell (6 + j)).trans (HF.out.2.2.2.2.2.2 j u hu)
                have HRV := Lib.hid (fun W (hW : Below w3.heap.size w3 W) => (show W.rangeAt g7 6 (Lib.byteCells v) from rangeAt_keep hrv fun j => hW.cell (p := ⟨g7, _, none⟩) HTF.out.lt))
                have HC3 := Lib.hid (fun W (hW : Below w3.heap.size w3 W) => (hW.cell (p := ⟨g7, 3, none⟩) HTF.out.lt).trans c3)
                have HC4 := Lib.hid (fun W (hW : Below w3.heap.size w3 W) => (hW.cell (p := ⟨g7, 4, none⟩) HTF.out.lt).trans c4)
                have HC5 := Lib.hid (fun W (hW : Below w3.heap.size w3 W) => (hW.cell (p := ⟨g7, 5, none⟩) HTF.out.lt).trans c5)
                have HBX := Lib.hid (fun W (hW : Below w3.heap.size w3 W) => HTX.out.below hW HTX.out.lt)
                have HLT := Lib.hid HTF.out.lt
                clear hin hsv hsl hy hyl hS hY hV heb hrv hv hs HTX HXE
                go_wp2_with fail
                refine wp_region_loose 12 0 (fun i => false) (promises [.is (.pointer (some ⟨g7, 6, none⟩)), .is (.agg V), .is (.agg X), .is (.pointer (some ⟨g7, 3, none⟩)), .is (.int .i64 (lf : Int)), .is (.pointer (some ⟨g7, 4, none⟩)), .is (.int .i64 (ch : Int)), .is (.agg S), .is (.pointer (some ⟨g7, 5, none⟩)), .is (.int .i64 (pl : Int)), .is (.agg Y), .is (.bool (!eb))]) (by kernel_rfl) rfl (by kernel_rfl) (fun i v w w' h hb => Spec.keep h hb) ⟨?_, ?_, ?_, ?_, ?_, ?_, ?_, ?_, ?_, ?_, ?_, ?_, trivial⟩ ?_
                · refine StepOKl.of ?_
                  intro ac w hb hu hk
                  refine ⟨wanted_none rfl, ?_⟩
                  have e7 : ac.eval (.tmp 7) = .pointer (some ⟨g7, 0, none⟩) := hu.is (t := 7) (by kernel_rfl)
                  refine step_value (w' := w) (v := (.pointer (some ⟨g7, 6, none⟩))) ?_ (Below.refl _ _) rfl
                  generalize ac.eval = ρ at e7 ⊢
                  go_simp
                · refine StepOKl.of ?_
                  intro ac w hb hu hk
                  refine ⟨wanted_none rfl, ?_⟩
                  have e47 : ac.eval (.tmp 47) = (.pointer (some ⟨g7, 6, none⟩)) := (hk ⟨0, .data⟩ (by simp) rfl).is rfl rfl
                  exact step_value (run_load_hash (.tmp 47) rfl g7 6 e47 v HVL.out (HRV.out w hb) HEV.out) (Below.refl _ _) rfl
                · refine StepOKl.of ?_
                  intro ac w hb hu hk
                  refine ⟨wanted_none rfl, ?_⟩
                  have e4 : ac.eval (.tmp 4) = .pointer (some ⟨g4, 0, none⟩) := hu.is (t := 4) (by kernel_rfl)
                  exact wp_load_row 23 (.tmp 4) rfl g4 e4 23 X (0, 0) _ (HBX.out w hb) Tryd.underlying23 rfl (by rw [HXS.out]; kernel_rfl) ⟨_, rfl, rfl, Below.refl _ _⟩
                · refine StepOKl.of ?_
                  intro ac w hb hu hk
                  refine ⟨wanted_none rfl, ?_⟩
                  have e7 : ac.eval (.tmp 7) = .pointer (some ⟨g7, 0, none⟩) := hu.is (t := 7) (by kernel_rfl)
                  refine step_value (w' := w) (v := (.pointer (some ⟨g7, 3, none⟩))) ?_ (Below.refl _ _) rfl
                  generalize ac.eval = ρ at e7 ⊢
                  go_simp
                · refine StepOKl.of ?_
                  intro ac w hb hu hk
                  refine ⟨wanted_none rfl, ?_⟩
                  have e50 : ac.eval (.tmp 50) = (.pointer (some ⟨g7, 3, none⟩)) := (hk ⟨3, .data⟩ (by simp) rfl).is rfl rfl
                  have hc := HC3.out w hb
                  refine step_value (w' := w) (v := .int .i64 (lf : Int)) ?_ (Below.refl _ _) rfl
                  generalize ac.eval = ρ at e50 ⊢
                  go_simp
                · refine StepOKl.of ?_
                  intro ac w hb hu hk
                  refine ⟨wanted_none rfl, ?_⟩
                  have e7 : ac.eval (.tmp 7) = .pointer (some ⟨g7, 0, none⟩) := hu.is (t := 7) (by kernel_rfl)
                  refine step_value (w' := w) (v := (.pointer (some ⟨g7, 4, none⟩))) ?_ (Below.refl _ _) rfl
                  generalize ac.eval = ρ at e7 ⊢
                  go_simp
                · refine StepOKl.of ?_
                  intro ac w hb hu hk
                  refine ⟨wanted_none rfl, ?_⟩
                  have e52 : ac.eval (.tmp 52) = (.pointer (some ⟨g7, 4, none⟩)) := (hk ⟨5, .data⟩ (by simp) rfl).is rfl rfl
                  have hc := HC4.out w hb
                  refine step_value (w' := w) (v := .int .i64 (ch : Int)) ?_ (Below.refl _ _) rfl
                  generalize ac.eval = ρ at e52 ⊢
                  go_simp
                · refine StepOKl.of ?_
                  intro ac w hb hu hk
                  refine ⟨wanted_none rfl, ?_⟩
                  have e49 : ac.eval (.tmp 49) = (.agg X) := (hk ⟨2, .data⟩ (by simp) rfl).is rfl rfl
                  have e51 : ac.eval (.tmp 51) = (.int .i64 (lf : Int)) := (hk ⟨4, .data⟩ (by simp) rfl).is rfl rfl
                  have e53 : ac.eval (.tmp 53) = (.int .i64 (ch : Int)) := (hk ⟨6, .data⟩ (by simp) rfl).is rfl rfl
                  have ef : ac.eval (.func 37) = .func (.func 37) #[] #[] := rfl
                  refine step_enter (f := 37) (args := #[.agg X, .int .i64 (lf : Int), .int .i64 (ch : Int)]) ?_ ?_
                  · generalize ac.eval = ρ at e49 e51 e53 ef ⊢
                    go_simp
                  · exact (HST.out w).mono fun e w' ⟨he, hq⟩ => ⟨_, he, rfl, hq⟩
                · refine StepOKl.of ?_
                  intro ac w hb hu hk
                  refine ⟨wanted_none rfl, ?_⟩
                  have e7 : ac.eval (.tmp 7) = .pointer (some ⟨g7, 0, none⟩) := hu.is (t := 7) (by kernel_rfl)
                  refine step_value (w' := w) (v := (.pointer (some ⟨g7, 5, none⟩))) ?_ (Below.refl _ _) rfl
                  generalize ac.eval = ρ at e7 ⊢
                  go_simp
                · refine StepOKl.of ?_
                  intro ac w hb hu hk
                  refine ⟨wanted_none rfl, ?_⟩
                  have e55 : ac.eval (.tmp 55) = (.pointer (some ⟨g7, 5, none⟩)) := (hk ⟨8, .data⟩ (by simp) rfl).is rfl rfl
                  have hc := HC5.out w hb
                  refine step_value (w' := w) (v := .int .i64 (pl : Int)) ?_ (Below.refl _ _) rfl
                  generalize ac.eval = ρ at e55 ⊢
                  go_simp
                · refine StepOKl.of ?_
                  intro ac w hb hu hk
                  refine ⟨wanted_none rfl, ?_⟩
                  have e54 : ac.eval (.tmp 54) = (.agg S) := (hk ⟨7, .data⟩ (by simp) rfl).is rfl rfl
                  have e56 : ac.eval (.tmp 56) = (.int .i64 (pl : Int)) := (hk ⟨9, .data⟩ (by simp) rfl).is rfl rfl
                  have ef : ac.eval (.func 36) = .func (.func 36) #[] #[] := rfl
                  refine step_enter (f := 36) (args := #[.agg S, .int .i64 (pl : Int)]) ?_ ?_
                  · generalize ac.eval = ρ at e54 e56 ef ⊢
                    go_simp
                  · exact (HAG.out w).mono fun e w' ⟨he, hq⟩ => ⟨_, he, rfl, hq⟩
                · refine StepOKl.of ?_
                  intro ac w hb hu hk
                  refine ⟨wanted_none rfl, ?_⟩
                  have e48 : ac.eval (.tmp 48) = (.agg V) := (hk ⟨1, .data⟩ (by simp) rfl).is rfl rfl
                  have e57 : ac.eval (.tmp 57) = (.agg Y) := (hk ⟨10, .data⟩ (by simp) rfl).is rfl rfl
                  refine step_value (w' := w) (v := .bool (!eb)) ?_ (Below.refl _ _) rfl
                  have hq := HEQ.out w
                  generalize ac.eval = ρ at e48 e57 ⊢
                  go_simp
                · intro ac w' hb hu hk hap
                  obtain ⟨_, h47, rfl⟩ := (hk 0 (by decide)).put rfl rfl
                  obtain ⟨_, h48, rfl⟩ := (hk 1 (by decide)).put rfl rfl
                  obtain ⟨_, h49, rfl⟩ := (hk 2 (by decide)).put rfl rfl
                  obtain ⟨_, h50, rfl⟩ := (hk 3 (by decide)).put rfl rfl
                  obtain ⟨_, h51, rfl⟩ := (hk 4 (by decide)).put rfl rfl
                  obtain ⟨_, h52, rfl⟩ := (hk 5 (by decide)).put rfl rfl
                  obtain ⟨_, h53, rfl⟩ := (hk 6 (by decide)).put rfl rfl
                  obtain ⟨_, h54, rfl⟩ := (hk 7 (by decide)).put rfl rfl
                  obtain ⟨_, h55, rfl⟩ := (hk 8 (by decide)).put rfl rfl
                  obtain ⟨_, h56, rfl⟩ := (hk 9 (by decide)).put rfl rfl
                  obtain ⟨_, h57, rfl⟩ := (hk 10 (by decide)).put rfl rfl
                  obtain ⟨_, h58, rfl⟩ := (hk 11 (by decide)).put rfl rfl
                  clear hap
                  have hF : AllPuts ac.tmps ((47, _) :: (48, _) :: (49, _) :: (50, _) :: (51, _) :: (52, _) :: (53, _) :: (54, _) :: (55, _) :: (56, _) :: (57, _) :: (58, _) :: []) := ⟨h47, h48, h49, h50, h51, h52, h53, h54, h55, h56, h57, h58, trivial⟩
                  obtain rfl := frame_puts hu (by kernel_rfl) hF
                  simp only [puts, Act.put, List.setIfInBounds_toArray, List.set_cons_zero, List.set_cons_succ, List.drop_succ_cons, List.drop_nil]
                  clear hk hu hF h47 h48 h49 h50 h51 h52 h53 h54 h55 h56 h57 h58
                  have HBB := Lib.hid hb
                  clear hb
                  cases eb
                  · have HR := Lib.hid (show decide (holdsP sd ht rows true lf ch pl v a b) = false from decide_eq_false (fun h => absurd (HIN.out.1 h).1 (of_decide_eq_false HEB.out)))
                    go_wp2_with fail
                    go_ret
                    exact ⟨ret_bool HR.out.symm, HBW.out.trans (HBB.out.mono HBW.out.size)⟩
                  · have HHQ := Lib.hid (show holdsP sd ht rows true lf ch pl v a b ↔ (sg = [] ∨ pl.toNat < (digH (msgH sg)).getD ch.toNat 0) from ⟨fun h => (HIN.out.1 h).2, fun h => HIN.out.2 ⟨of_decide_eq_true HEB.out, h⟩⟩)
                    have hsl9 : sg.length ≤ 1000 := by
                      rw [← hsg]
                      unfold signedV
                      split
                      · simp
                      · rw [List.getD_eq_getElem?_getD]
                        cases hq : rows[lf.toNat]? with
                        | none => simp
                        | some x => exact hrl _ (List.mem_of_getElem? hq)
                    have hsq := rsignedby_any R rn rc rows lf w' hrn hl0 hl1 ((hrr.below (HBW.out.trans (HBB.out.mono HBW.out.size)) (Nat.le_refl _)).more (Nat.le_trans HBW.out.size HBB.out.size))
                    rw [hsg] at hsq
                    have HSG := Lib.hid hsq
                    have c3w := HC3.out w' HBB.out
                    clear hsq hsg HIN HEB HEQ HVL HEV HST HAG HRV HC3 HBX
                    go_wp2_with fail
                    with_reducible refine (HSG.out).mono ?_
                    rintro e w5 ⟨u, rfl, hu, hb5⟩
                    have HB5 := Lib.hid hb5
                    clear hb5 HSG c3w
                    rcases hu with ⟨hnil, rfl⟩ | ⟨hne, b9, o9, c9, rfl, hc9, hm9, hr9⟩
                    · have HR := Lib.hid (show decide (holdsP sd ht rows true lf ch pl v a b) = true from decide_eq_true (HHQ.out.2 (.inl hnil)))
                      have hbw : Below w5.heap.size w5 w5 := Below.refl _ _
                      have hqn : ∀ q, (binOp BinOp.eql 24 (.slice none 0 0) (.slice none 0 0)).run Tryd.prog (w5.drewN q) = .ok (.bool true) (w5.drewN q) := fun q => by rfl
                      have HPOST := Lib.hid (fun W (h : Below w5.heap.size w5 W) => (HBW.out.trans ((HBB.out.trans (HB5.out.mono HBB.out.size)).mono HBW.out.size)).trans (h.mono (Nat.le_trans HBW.out.size (Nat.le_trans HBB.out.size HB5.out.size))))
                      go_wp2_with fail
                      go_quiet (fail)
                      go_wp2_with fail
                      go_ret
                      exact ⟨ret_bool HR.out.symm, HPOST.out _ (below_drewN hbw _)⟩
                    · obtain ⟨D, hD⟩ : ∃ x, digH (msgH sg) = x := ⟨_, rfl⟩
                      have hDL : D.length = 67 := by rw [← hD]; exact digH_len (msgH_len _)
                      obtain ⟨k, hk⟩ : ∃ k : Nat, ch = (k : Int) := ⟨ch.toNat, by omega⟩
                      subst hk
                      obtain ⟨dd, hdd⟩ : ∃ x, D.getD k 0 = x := ⟨_, rfl⟩
                      obtain ⟨gt, hgt⟩ : ∃ q, decide (pl < (dd : Int)) = q := ⟨_, rfl⟩
                      obtain ⟨L9, hL9⟩ : ∃ x, sg.length = x := ⟨_, rfl⟩
                      have HRR := Lib.hid (show gt = decide (holdsP sd ht rows true lf (k : Int) pl v a b) by
                        rw [← hgt]
                        apply Bool.eq_iff_iff.2
                        rw [decide_eq_true_iff, decide_eq_true_iff, HHQ.out, hD, Int.toNat_natCast, hdd]
                        constructor
                        · intro h; exact .inr (by omega)
                        · rintro (h | h)
                          · exact absurd h hne
                          · omega)
                      have HDE := Lib.hid hdd
                      have HL9 := Lib.hid hL9
                      have HGT := Lib.hid hgt
                      have HCH := Lib.hid (show k < 67 by omega)
                      have HCI := Lib.hid (show (0 : Int) ≤ (k : Int) ∧ (k : Int) < 67 by omega)
                      have HB35 := Lib.hid (HBB.out.trans (HB5.out.mono HBB.out.size))
                      have HBZ := Lib.hid (HBW.out.trans (HB35.out.mono HBW.out.size))
                      have HC4 := Lib.hid (fun W (hW : Below w5.heap.size w5 W) => HC4.out W (HB35.out.trans (hW.mono HB35.out.size)))
                      have HC5 := Lib.hid (fun W (hW : Below w5.heap.size w5 W) => HC5.out W (HB35.out.trans (hW.mono HB35.out.size)))
                      rw [hL9] at hc9 hsl9
                      have HDG := Lib.hid (fun W (hW : Below w5.heap.size w5 W) => (show Calls Tryd.prog 18 #[.slice (some ⟨b9, o9, none⟩) L9 c9] W fun e w' => ∃ X x, e = .returned (.slice X 67 x) ∧ 67 ≤ x ∧ DV w' (.slice X 67 x) D ∧ Below W.heap.size W w' from by
                        have h := rdigits_any (some ⟨b9, o9, none⟩) L9 c9 sg W hL9 hsl9 hc9 hm9 ((hr9.below hW (Nat.le_refl _)).more hW.size)
                        rw [hD] at h
                        refine h.mono ?_
                        rintro e w' ⟨u, he, ho, hq⟩
                        obtain ⟨X, x, rfl, hx⟩ := ho.dv.form hDL
                        exact ⟨X, x, he, hx, ho.dv, hq⟩))
                      have hL9q := hL9
                      clear hD hDL hdd hgt hL9 hsl9 hc9 hm9 hr9 HHQ hne HB35 HB5 HBB HBW hrn hrl hrr
                      rw [hL9q]
                      go_wp2_with fail
                      refine wp_region_loose 13 1 (fun i => false) (promises [.is (.slice (some ⟨b9, o9, none⟩) L9 c9), .is (.bool false), .is (.bool false), .is (.slice (some ⟨b9, o9, none⟩) L9 c9), .dv 67 D, .is (.pointer (some ⟨g7, 4, none⟩)), .is (.int .i64 (k : Int)), .pc (.int .i64 (dd : Int)), .is (.int .i64 (dd : Int)), .is (.pointer (some ⟨g7, 5, none⟩)), .is (.int .i64 (pl : Int)), .is (.bool gt), .is (.bool gt)]) (by kernel_rfl) rfl (by kernel_rfl) (fun i v w w' h hb => Spec.keep h hb) ⟨?_, ?_, ?_, ?_, ?_, ?_, ?_, ?_, ?_, ?_, ?_, ?_, ?_, trivial⟩ ?_
                      · refine StepOKl.of ?_
                        intro ac w hb hu hk
                        refine ⟨wanted_none rfl, ?_⟩
                        have e9 : ac.eval (.tmp 9) = .slice (some ⟨b9, o9, none⟩) L9 c9 := hu.is (t := 9) (by kernel_rfl)
                        exact step_value (BigFrame.run_move (.tmp 9) rfl w) (Below.refl _ _) e9
                      · refine StepOKl.of ?_
                        intro ac w hb hu hk
                        refine ⟨wanted_none rfl, ?_⟩
                        have e63 : ac.eval (.tmp 63) = (.slice (some ⟨b9, o9, none⟩) L9 c9) := (hk ⟨0, .data⟩ (by simp) rfl).is rfl rfl
                        refine step_value (w' := w) (v := .bool false) ?_ (Below.refl _ _) rfl
                        have ec : ac.eval (.const (.slice none 0 0)) = .slice none 0 0 := rfl
                        have hq : (binOp BinOp.eql 24 (.slice (some ⟨b9, o9, none⟩) L9 c9) (.slice none 0 0)).run Tryd.prog w = .ok (.bool false) w := by rfl
                        generalize ac.eval = ρ at e63 ec ⊢
                        go_simp
                      · refine StepOKl.of ?_
                        intro ac w hb hu hk
                        refine ⟨wanted_none rfl, ?_⟩
                        have e64 : ac.eval (.tmp 64) = (.bool false) := (hk ⟨1, .data⟩ (by simp) rfl).is rfl rfl
                        exact step_value (BigFrame.run_move (.tmp 64) rfl w) (Below.refl _ _) e64
                      · refine StepOKl.of ?_
                        intro ac w hb hu hk
                        refine ⟨wanted_some rfl (hk ⟨2, .guard⟩ (by simp) rfl) rfl rfl (fun _ h => h), ?_⟩
                        have e9 : ac.eval (.tmp 9) = .slice (some ⟨b9, o9, none⟩) L9 c9 := hu.is (t := 9) (by kernel_rfl)
                        exact step_value (BigFrame.run_move (.tmp 9) rfl w) (Below.refl _ _) e9
                      · refine StepOKl.of ?_
                        intro ac w hb hu hk
                        refine ⟨wanted_some rfl (hk ⟨2, .chain⟩ (by simp) rfl) rfl rfl (fun _ h => h), ?_⟩
                        have e66 : ac.eval (.tmp 66) = (.slice (some ⟨b9, o9, none⟩) L9 c9) := (hk ⟨3, .data⟩ (by simp) rfl).is rfl rfl
                        have ef : ac.eval (.func 18) = .func (.func 18) #[] #[] := rfl
                        refine step_enter (f := 18) (args := #[.slice (some ⟨b9, o9, none⟩) L9 c9]) ?_ ?_
                        · generalize ac.eval = ρ at e66 ef ⊢
                          go_simp
                        · exact (HDG.out w hb).mono fun e w' ⟨X, x, he, hx, hv, hq⟩ => ⟨_, he, ⟨X, x, rfl, hx, hv⟩, hq⟩
                      · refine StepOKl.of ?_
                        intro ac w hb hu hk
                        refine ⟨wanted_some rfl (hk ⟨2, .guard⟩ (by simp) rfl) rfl rfl (fun _ h => h), ?_⟩
                        have e7 : ac.eval (.tmp 7) = .pointer (some ⟨g7, 0, none⟩) := hu.is (t := 7) (by kernel_rfl)
                        refine step_value (w' := w) (v := (.pointer (some ⟨g7, 4, none⟩))) ?_ (Below.refl _ _) rfl
                        generalize ac.eval = ρ at e7 ⊢
                        go_simp
                      · refine StepOKl.of ?_
                        intro ac w hb hu hk
                        refine ⟨wanted_some rfl (hk ⟨2, .guard⟩ (by simp) rfl) rfl rfl (fun _ h => h), ?_⟩
                        have e68 : ac.eval (.tmp 68) = (.pointer (some ⟨g7, 4, none⟩)) := (hk ⟨5, .data⟩ (by simp) rfl).is rfl rfl
                        have hc := HC4.out w hb
                        refine step_value (w' := w) (v := .int .i64 (k : Int)) ?_ (Below.refl _ _) rfl
                        generalize ac.eval = ρ at e68 ⊢
                        go_simp
                      · refine StepOKl.of ?_
                        intro ac w hb hu hk
                        refine ⟨wanted_some rfl (hk ⟨2, .guard⟩ (by simp) rfl) rfl rfl (fun _ h => h), ?_⟩
                        have e67 : ∃ X c, ac.eval (.tmp 67) = .slice X 67 c ∧ 67 ≤ c ∧ DV w (.slice X 67 c) D := (hk ⟨4, .data⟩ (by simp) rfl).is rfl rfl
                        have e69 : ac.eval (.tmp 69) = (.int .i64 (k : Int)) := (hk ⟨6, .data⟩ (by simp) rfl).is rfl rfl
                        obtain ⟨XD, xD, eX, hxD, hD⟩ := e67
                        obtain ⟨bD, oD, hXD, hbD, hcD⟩ := hD.at_ (i := k) HCH.out
                        subst hXD
                        rw [HDE.out] at hcD
                        have hch := HCI.out
                        refine step_value (w' := w) (v := .pointer (some ⟨bD, oD + k, none⟩)) ?_ (Below.refl _ _) ⟨bD, oD + k, rfl, hbD, hcD⟩
                        generalize ac.eval = ρ at eX e69 ⊢
                        go_simp
                      · refine StepOKl.of ?_
                        intro ac w hb hu hk
                        refine ⟨wanted_some rfl (hk ⟨2, .guard⟩ (by simp) rfl) rfl rfl (fun _ h => h), ?_⟩
                        have e70 : ∃ b o, ac.eval (.tmp 70) = .pointer (some ⟨b, o, none⟩) ∧ b < w.heap.size ∧ w.cell? ⟨b, o, none⟩ = some (.int .i64 (dd : Int)) := (hk ⟨7, .data⟩ (by simp) rfl).is rfl rfl
                        obtain ⟨bD, oD, eX, hbD, hcD⟩ := e70
                        refine step_value (w' := w) (v := .int .i64 (dd : Int)) ?_ (Below.refl _ _) rfl
                        generalize ac.eval = ρ at eX ⊢
                        go_simp
                      · refine StepOKl.of ?_
                        intro ac w hb hu hk
                        refine ⟨wanted_some rfl (hk ⟨2, .guard⟩ (by simp) rfl) rfl rfl (fun _ h => h), ?_⟩
                        have e7 : ac.eval (.tmp 7) = .pointer (some ⟨g7, 0, none⟩) := hu.is (t := 7) (by kernel_rfl)
                        refine step_value (w' := w) (v := (.pointer (some ⟨g7, 5, none⟩))) ?_ (Below.refl _ _) rfl
                        generalize ac.eval = ρ at e7 ⊢
                        go_simp
                      · refine StepOKl.of ?_
                        intro ac w hb hu hk
                        refine ⟨wanted_some rfl (hk ⟨2, .guard⟩ (by simp) rfl) rfl rfl (fun _ h => h), ?_⟩
                        have e72 : ac.eval (.tmp 72) = (.pointer (some ⟨g7, 5, none⟩)) := (hk ⟨9, .data⟩ (by simp) rfl).is rfl rfl
                        have hc := HC5.out w hb
                        refine step_value (w' := w) (v := .int .i64 (pl : Int)) ?_ (Below.refl _ _) rfl
                        generalize ac.eval = ρ at e72 ⊢
                        go_simp
                      · refine StepOKl.of ?_
                        intro ac w hb hu hk
                        refine ⟨wanted_some rfl (hk ⟨2, .guard⟩ (by simp) rfl) rfl rfl (fun _ h => h), ?_⟩
                        have e71 : ac.eval (.tmp 71) = (.int .i64 (dd : Int)) := (hk ⟨8, .data⟩ (by simp) rfl).is rfl rfl
                        have e73 : ac.eval (.tmp 73) = (.int .i64 (pl : Int)) := (hk ⟨10, .data⟩ (by simp) rfl).is rfl rfl
                        have hq := HGT.out
                        refine step_value (w' := w) (v := .bool gt) ?_ (Below.refl _ _) rfl
                        generalize ac.eval = ρ at e71 e73 ⊢
                        go_simp
                      · refine StepOKl.of ?_
                        intro ac w hb hu hk
                        refine ⟨wanted_none rfl, ?_⟩
                        have e65 : ac.eval (.tmp 65) = (.bool false) := (hk ⟨2, .data⟩ (by simp) rfl).is rfl rfl
                        have e74 : ac.eval (.tmp 74) = (.bool gt) := (hk ⟨11, .data⟩ (by simp) rfl).is rfl rfl
                        exact step_value (run_pick_false e65 rfl w) (Below.refl _ _) e74
                      · intro ac w' hb hu hk hap
                        obtain ⟨_, h63, rfl⟩ := (hk 0 (by decide)).put rfl rfl
                        obtain ⟨_, h64, rfl⟩ := (hk 1 (by decide)).put rfl rfl
                        obtain ⟨_, h65, rfl⟩ := (hk 2 (by decide)).put rfl rfl
                        obtain ⟨_, h66, rfl⟩ := (hk 3 (by decide)).put rfl rfl
                        obtain ⟨_, h67, ⟨X67, xc67, rfl, hxc67, hX67⟩⟩ := (hk 4 (by decide)).put rfl rfl
                        obtain ⟨_, h68, rfl⟩ := (hk 5 (by decide)).put rfl rfl
                        obtain ⟨_, h69, rfl⟩ := (hk 6 (by decide)).put rfl rfl
                        obtain ⟨_, h70, ⟨b70, o70, rfl, hb70, hc70⟩⟩ := (hk 7 (by decide)).put rfl rfl
                        obtain ⟨_, h71, rfl⟩ := (hk 8 (by decide)).put rfl rfl
                        obtain ⟨_, h72, rfl⟩ := (hk 9 (by decide)).put rfl rfl
                        obtain ⟨_, h73, rfl⟩ := (hk 10 (by decide)).put rfl rfl
                        obtain ⟨_, h74, rfl⟩ := (hk 11 (by decide)).put rfl rfl
                        obtain ⟨_, h75, rfl⟩ := (hk 12 (by decide)).put rfl rfl
                        clear hap
                        have hF : AllPuts ac.tmps ((63, _) :: (64, _) :: (65, _) :: (66, _) :: (67, _) :: (68, _) :: (69, _) :: (70, _) :: (71, _) :: (72, _) :: (73, _) :: (74, _) :: (75, _) :: []) := ⟨h63, h64, h65, h66, h67, h68, h69, h70, h71, h72, h73, h74, h75, trivial⟩
                        obtain rfl := frame_puts hu (by kernel_rfl) hF
                        simp only [puts, Act.put, List.setIfInBounds_toArray, List.set_cons_zero, List.set_cons_succ, List.drop_succ_cons, List.drop_zero]
                        clear hk hu hF h63 h64 h65 h66 h67 h68 h69 h70 h71 h72 h73 h74 h75
                        have HBE := Lib.hid (HBZ.out.trans (hb.mono HBZ.out.size))
                        clear hb
                        go_wp2_with fail
                        go_ret
                        exact ⟨ret_bool HRR.out, HBE.out⟩
end Go.Proofs.YtfgieebccjoboaaDoor
