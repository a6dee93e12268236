/- Promises about rows of hashes in regions that draw their order. The document's example of chapter 7. -/
import Derived.Test.YtpfhhbfjemmkaaaDoorHashB2
import Derived.Test.YtpfhhbfjemmkaaaDoorFreeL
import Derived.Test.YtpfhhbfjemmkaaaDoorPTLevA
import Derived.Test.YtpfhhbfjemmkaaaDoorTreeB
import Derived.Test.YtpfhhbfjemmkaaaDoorRTMay
import Derived.Test.YtpfhhbfjemmkaaaDoorHashD
import Derived.Lib.SlBytesConst
namespace Go.Proofs.YtpfhhbfjemmkaaaDoor
open Go.RowKit

/-- The value is a slice that reads as the hashes. -/
def Spec.hv (n : Nat) (l : List (List UInt8)) : Spec := .any (fun v w => ∃ X c, v = .slice X n c ∧ n ≤ c ∧ HV w (.slice X n c) l) (fun _ _ _ h hb => by
  obtain ⟨X, c, h1, h2, h3⟩ := h
  exact ⟨X, c, h1, h2, h3.on hb⟩)
theorem HV.one {w : World} {h : List UInt8} (hl : h.length = 32) : HV (w.alloc (.cells (u8A h) 25)) (.slice (some ⟨w.heap.size, 0, none⟩) 1 1) [h] := by
  refine ⟨fun r hr => by rw [List.mem_singleton.1 hr]; exact hl, some ⟨w.heap.size, 0, none⟩, 1, rfl, Nat.le_refl _, .inr ⟨w.heap.size, 0, rfl, by simp, fun i hi => ?_⟩⟩
  obtain rfl : i = 0 := by simpa using hi
  intro j u hu
  have hb : Blk (w.alloc (.cells (u8A h) 25)) w.heap.size (u8A h) 25 := Blk.new _ _ _
  simp only [Nat.zero_mul, Nat.zero_add]
  rw [hb.cell j, ← Array.getElem?_toList]
  exact hu
theorem step_build_hash {Q : Exit → Act → World → Prop} {o : Oper} {a : Act} {w : World} {x : Operand} (ho : o.op = .buildSlice 23 1 #[(0, x)]) (h : List UInt8) (hl : h.length = 32) (hx : a.eval x = .agg (u8A h)) :
    o.wp Tryd.prog a w (fun a' w' => ∃ v, a' = a.put o.dst v ∧ (∃ X c, v = .slice X 1 c ∧ 1 ≤ c ∧ HV w' (.slice X 1 c) [h]) ∧ Below w.heap.size w w') Q := by
  obtain ⟨i, z, hi, hzz, hzs, hsz, hby⟩ := hash_parts
  refine wp_buildSlice (P := Tryd.prog) 23 25 1 #[(0, x)] ho (u8A h) i z Tryd.underlying23 hi hzz (by rw [hsz]; decide) (by rw [hsz]; decide) ?_
    ⟨_, rfl, ⟨_, _, rfl, Nat.le_refl _, HV.one hl⟩, (Below.refl _ _).alloc (Nat.le_refl _) _⟩
  rw [hsz]
  have e : ((#[(0, x)] : Array (Nat × Operand)).map fun (i, x) => (i, a.eval x)).toList = [(0, .agg (u8A h))] := by simp [hx]
  rw [e]
  exact fill_hash (u8A h) ((u8A_size _).trans hl) _ (by simp)
end Go.Proofs.YtpfhhbfjemmkaaaDoor
namespace Go.Proofs.YtpfhhbfjemmkaaaDoor
open Go.RowKit

theorem leaf_a_ne : ¬ leafH [97] = zeroH := by decide +kernel
theorem step_build_zero {Q : Exit → Act → World → Prop} {o : Oper} {a : Act} {w : World} {Gi : Value → World → Prop} (ho : o.op = .build 25 #[]) (hG : Gi (.agg (u8A zeroH)) w) :
    o.wp Tryd.prog a w (fun a' w' => ∃ v, a' = a.put o.dst v ∧ Gi v w' ∧ Below w.heap.size w w') Q := by
  have hb : Tryd.prog.built 25 ((#[] : Array (Nat × Operand)).map fun (i, x) => (i, a.eval x)).toList = some (u8A zeroH) := by
    have h := built_zero
    simp only [List.map_toArray, List.map_nil]
    exact h
  refine wp_build (P := Tryd.prog) 25 #[] ho (by rw [hb]; rfl) ?_
  rw [hb]
  exact ⟨_, rfl, hG, Below.refl _ _⟩
set_option maxRecDepth 100000 in
set_option maxHeartbeats 8000000 in
theorem wakes7_any (w : World) (htab : Pow10 w.heap.size w) : Calls Tryd.prog 19 #[] w fun e w' => e = .returned (.bool true) ∧ Below w.heap.size w w' := by
  obtain ⟨h, hh⟩ : ∃ h, leafH [97] = h := ⟨_, rfl⟩
  have HHL := Lib.hid (show h.length = 32 by rw [← hh]; exact leafH_len _)
  have HHN := Lib.hid (show ¬ h = zeroH by rw [← hh]; exact leaf_a_ne)
  obtain ⟨X, hX⟩ : ∃ X, u8A h = X := ⟨_, rfl⟩
  obtain ⟨Z, hZ⟩ : ∃ X, u8A zeroH = X := ⟨_, rfl⟩
  have HX := Lib.hid hX
  have HZ := Lib.hid hZ
  have HXZ := Lib.hid (show X.size = 32 by rw [← hX, u8A_size]; exact HHL.out)
  have HXO := Lib.hid (show X.all (·.oneCell') = true by rw [← hX]; exact u8A_one _)
  have HNE := Lib.hid (fun W => (show (Op.equalIn 10000 25 (.agg X) (.agg Z)).run Tryd.prog W = .ok false W by
    rw [← HX.out, ← HZ.out, run_hash_eq W _ _ HHL.out rfl, decide_eq_false HHN.out]))
  have HEQ := Lib.hid (fun W => (show (Op.equalIn 10000 25 (.agg X) (.agg X)).run Tryd.prog W = .ok true W by
    rw [← HX.out, run_hash_eq W _ _ HHL.out HHL.out, decide_eq_true rfl]))
  have hal : Below w.heap.size w (w.alloc (.cells #[.int .u8 97] 5 (1, 2))) := (Below.refl _ _).alloc (Nat.le_refl _) _
  have HLF := Lib.hid (show Calls Tryd.prog 13 #[.slice (some ⟨w.heap.size, 0, none⟩) 1 1] (w.alloc (.cells #[.int .u8 97] 5 (1, 2))) fun e w' => e = .returned (.agg X) ∧ Below (w.alloc (.cells #[.int .u8 97] 5 (1, 2))).heap.size (w.alloc (.cells #[.int .u8 97] 5 (1, 2))) w' by
    rw [← hX, ← hh]
    refine pleaf_any _ 1 1 [97] _ rfl (by omega) (Nat.le_refl _) (by unfold maxLen; omega) ?_ (tab_on htab hal hal.size)
    exact .inr ⟨w.heap.size, 0, rfl, by simp, fun i hi => by
      have hk := cell_of_row (w.alloc (.cells #[.int .u8 97] 5 (1, 2))) w.heap.size i #[.int .u8 97] 5 (1, 2) (heap_alloc_new w _)
      rw [Nat.zero_add, hk]
      match i, hi with
      | 0, _ => rfl⟩)
  have HAL := Lib.hid hal
  have HT := Lib.hid htab
  have kc := fun (w : World) (C : Array Value) (n c : Nat) => Lib.run_convert_bytes_const (P := Tryd.prog) w 27 5 C n c Tryd.underlying27 Tryd.underlying5
  clear hX hZ hh hal htab
  go_enter Tryd.func19, Tryd.ntmps19
  go_wp2_with fail
  with_reducible refine (HLF.out).mono ?_
  rintro e w3 ⟨rfl, hb3⟩
  have hb03 := HAL.out.trans (hb3.mono HAL.out.size)
  have HB3 := Lib.hid hb03
  clear hb3 HLF HAL
  go_upto_region 2 with (with_reducible refine wpList_store_blk rfl 25 (.tmp 1) (.tmp 4) rfl w3.heap.size X rfl rfl 25 _ (Blk.new _ _ _) (by rw [HXZ.out]; kernel_rfl) (by rw [HXZ.out]; kernel_rfl) HXO.out ?_)
  generalize hw4 : World.setRow _ _ _ = w4
  have hf : Blk w4 w3.heap.size (u8A h) 25 ∧ Below w.heap.size w w4 := by
    have hal : Below w3.heap.size w3 w4 := by
      rw [← hw4]
      exact below_row ((Below.refl _ _).alloc (Nat.le_refl _) _) (by simp) (Nat.le_refl _) _
    refine ⟨?_, hb03.trans (hal.mono hb03.size)⟩
    rw [← hw4, HX.out]
    exact (Blk.new _ _ _).row _
  have HRG := Lib.hid (fun W (hb : Below w4.heap.size w4 W) => range_of_blk (hf.1.below hb hf.1.lt))
  have HB4 := Lib.hid hf.2
  have HRT := Lib.hid (fun A c W (hb : Below w4.heap.size w4 W) (hv : HV W (.slice A 1 c) [h]) => (show Calls Tryd.prog 14 #[.slice A 1 c] W fun e w' => e = .returned (.agg X) ∧ Below W.heap.size W w' from by
    obtain ⟨h0, Y, d, e, h1, h2⟩ := hv
    injection e with e1 e2 e3
    subst e1 e3
    have hbw := HB4.out.trans (hb.mono HB4.out.size)
    have h := proot_any A 1 c [h] W rfl (by omega) h0 h2 (tab_on HT.out hbw hbw.size)
    rw [root_one, HX.out] at h
    exact h))
  generalize w3.heap.size = g1 at *
  clear hf hw4 hb03 kc HB3
  refine wp_region_loose 11 0 (fun i => false) (promises [.is (.agg X), .is (.agg Z), .is (.bool true), .is (.bool true), .is (.agg X), .hv 1 [h], .is (.agg X), .is (.agg X), .is (.bool true), .is (.bool true), .is (.bool true)]) (by kernel_rfl) rfl (by kernel_rfl) (fun i v w w' h hb => Spec.keep h hb) ⟨?_, ?_, ?_, ?_, ?_, ?_, ?_, ?_, ?_, ?_, ?_, trivial⟩ ?_
  · refine StepOKl.of ?_
    intro ac w hb hu hk
    refine ⟨wanted_none rfl, ?_⟩
    have e1 : ac.eval (.tmp 1) = .pointer (some ⟨g1, 0, none⟩) := hu.is (t := 1) (by kernel_rfl)
    refine step_value (w' := w) (v := .agg X) (run_load_hash (.tmp 1) rfl g1 0 e1 h HHL.out (HRG.out w hb) HX.out) (Below.refl _ _) rfl
  · refine StepOKl.of ?_
    intro ac w hb hu hk
    refine ⟨wanted_none rfl, ?_⟩
    exact step_build_zero rfl (by rw [HZ.out]; rfl)
  · refine StepOKl.of ?_
    intro ac w hb hu hk
    refine ⟨wanted_none rfl, ?_⟩
    have e5 : ac.eval (.tmp 5) = (.agg X) := (hk ⟨0, .data⟩ (by simp) rfl).is rfl rfl
    have e6 : ac.eval (.tmp 6) = (.agg Z) := (hk ⟨1, .data⟩ (by simp) rfl).is rfl rfl
    refine step_value (w' := w) (v := .bool true) ?_ (Below.refl _ _) rfl
    have hq := HNE.out w
    generalize ac.eval = ρ at e5 e6 ⊢
    go_simp
  · refine StepOKl.of ?_
    intro ac w hb hu hk
    refine ⟨wanted_none rfl, ?_⟩
    have e7 : ac.eval (.tmp 7) = (.bool true) := (hk ⟨2, .data⟩ (by simp) rfl).is rfl rfl
    exact step_value (BigFrame.run_move (.tmp 7) rfl w) (Below.refl _ _) e7
  · refine StepOKl.of ?_
    intro ac w hb hu hk
    refine ⟨wanted_some rfl (hk ⟨3, .guard⟩ (by simp) rfl) rfl rfl (fun _ h => h), ?_⟩
    have e1 : ac.eval (.tmp 1) = .pointer (some ⟨g1, 0, none⟩) := hu.is (t := 1) (by kernel_rfl)
    refine step_value (w' := w) (v := .agg X) (run_load_hash (.tmp 1) rfl g1 0 e1 h HHL.out (HRG.out w hb) HX.out) (Below.refl _ _) rfl
  · refine StepOKl.of ?_
    intro ac w hb hu hk
    refine ⟨wanted_some rfl (hk ⟨3, .guard⟩ (by simp) rfl) rfl rfl (fun _ h => h), ?_⟩
    have e9 : ac.eval (.tmp 9) = (.agg X) := (hk ⟨4, .data⟩ (by simp) rfl).is rfl rfl
    exact step_build_hash rfl h HHL.out (by rw [HX.out]; exact e9)
  · refine StepOKl.of ?_
    intro ac w hb hu hk
    refine ⟨wanted_some rfl (hk ⟨3, .chain⟩ (by simp) rfl) rfl rfl (fun _ h => h), ?_⟩
    have e10 : ∃ X c, ac.eval (.tmp 10) = .slice X 1 c ∧ 1 ≤ c ∧ HV w (.slice X 1 c) [h] := (hk ⟨5, .data⟩ (by simp) rfl).is rfl rfl
    obtain ⟨A, c, eA, hc, hv⟩ := e10
    have ef : ac.eval (.func 14) = .func (.func 14) #[] #[] := rfl
    refine step_enter (f := 14) (args := #[.slice A 1 c]) ?_ ?_
    · generalize ac.eval = ρ at eA ef ⊢
      go_simp
    · exact (HRT.out A c w hb hv).mono fun e w' ⟨he, hq⟩ => ⟨_, he, rfl, hq⟩
  · refine StepOKl.of ?_
    intro ac w hb hu hk
    refine ⟨wanted_some rfl (hk ⟨3, .guard⟩ (by simp) rfl) rfl rfl (fun _ h => h), ?_⟩
    have e1 : ac.eval (.tmp 1) = .pointer (some ⟨g1, 0, none⟩) := hu.is (t := 1) (by kernel_rfl)
    refine step_value (w' := w) (v := .agg X) (run_load_hash (.tmp 1) rfl g1 0 e1 h HHL.out (HRG.out w hb) HX.out) (Below.refl _ _) rfl
  · refine StepOKl.of ?_
    intro ac w hb hu hk
    refine ⟨wanted_some rfl (hk ⟨3, .guard⟩ (by simp) rfl) rfl rfl (fun _ h => h), ?_⟩
    have e11 : ac.eval (.tmp 11) = (.agg X) := (hk ⟨6, .data⟩ (by simp) rfl).is rfl rfl
    have e12 : ac.eval (.tmp 12) = (.agg X) := (hk ⟨7, .data⟩ (by simp) rfl).is rfl rfl
    refine step_value (w' := w) (v := .bool true) ?_ (Below.refl _ _) rfl
    have hq := HEQ.out w
    generalize ac.eval = ρ at e11 e12 ⊢
    go_simp
  · refine StepOKl.of ?_
    intro ac w hb hu hk
    refine ⟨wanted_none rfl, ?_⟩
    have e8 : ac.eval (.tmp 8) = (.bool true) := (hk ⟨3, .data⟩ (by simp) rfl).is rfl rfl
    have e13 : ac.eval (.tmp 13) = (.bool true) := (hk ⟨8, .data⟩ (by simp) rfl).is rfl rfl
    exact step_value (run_pick_true e8 rfl w) (Below.refl _ _) e13
  · refine StepOKl.of ?_
    intro ac w hb hu hk
    refine ⟨wanted_none rfl, ?_⟩
    have e14 : ac.eval (.tmp 14) = (.bool true) := (hk ⟨9, .data⟩ (by simp) rfl).is rfl rfl
    exact step_value (BigFrame.run_assign (.tmp 14) rfl w) (Below.refl _ _) e14
  · intro ac w' hb hu hk hap
    obtain ⟨_, h0, rfl⟩ := (hk 10 (by decide)).put rfl rfl
    obtain ⟨_, h5, rfl⟩ := (hk 0 (by decide)).put rfl rfl
    obtain ⟨_, h6, rfl⟩ := (hk 1 (by decide)).put rfl rfl
    obtain ⟨_, h7, rfl⟩ := (hk 2 (by decide)).put rfl rfl
    obtain ⟨_, h8, rfl⟩ := (hk 3 (by decide)).put rfl rfl
    obtain ⟨_, h9, rfl⟩ := (hk 4 (by decide)).put rfl rfl
    obtain ⟨_, h10, ⟨X10, xc10, rfl, hxc10, hX10⟩⟩ := (hk 5 (by decide)).put rfl rfl
    obtain ⟨_, h11, rfl⟩ := (hk 6 (by decide)).put rfl rfl
    obtain ⟨_, h12, rfl⟩ := (hk 7 (by decide)).put rfl rfl
    obtain ⟨_, h13, rfl⟩ := (hk 8 (by decide)).put rfl rfl
    obtain ⟨_, h14, rfl⟩ := (hk 9 (by decide)).put rfl rfl
    clear hap
    have hF : AllPuts ac.tmps ((0, _) :: (5, _) :: (6, _) :: (7, _) :: (8, _) :: (9, _) :: (10, _) :: (11, _) :: (12, _) :: (13, _) :: (14, _) :: []) := ⟨h0, h5, h6, h7, h8, h9, h10, h11, h12, h13, h14, trivial⟩
    obtain rfl := frame_puts hu (by kernel_rfl) hF
    simp only [puts, Act.put, List.setIfInBounds_toArray, List.set_cons_zero, List.set_cons_succ, List.drop_succ_cons, List.drop_nil]
    clear hk hu hF h0 h5 h6 h7 h8 h9 h10 h11 h12 h13 h14
    have HBE := Lib.hid (HB4.out.trans (hb.mono HB4.out.size))
    go_wp2_with fail
    go_ret
    exact ⟨rfl, HBE.out⟩
end Go.Proofs.YtpfhhbfjemmkaaaDoor
