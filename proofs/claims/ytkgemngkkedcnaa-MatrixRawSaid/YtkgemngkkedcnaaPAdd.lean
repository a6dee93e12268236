/- The program's inverse in the making: the step that makes a column's 1. The program's inverse in the making: a row, times a byte, added to another; the step that makes noughts of all else in a column. -/
import Derived.Test.YtkgemngkkedcnaaPSwp
import Derived.Test.YtkgemngkkedcnaaFreeL
import Derived.StillTailTactics
namespace Go.Proofs.Ytkgemngkkedcnaa
open Go.RowKit

theorem Kept.on {w w' w'' : World} {B : Nat} (h : Kept B w w') (hb : Below w'.heap.size w' w'') (hB : B ≤ w'.heap.size := by omega) : Kept B w w'' :=
  ⟨h.1.trans (hb.mono hB), Nat.le_trans h.2.1 hb.size, fun b rc T h1 h2 h3 => (h.2.2 b rc T h1 h2 h3).below hb (h.2.2 b rc T h1 h2 h3).lt⟩
/-- Row c, its first k bytes times s. -/
theorem scK_step' (c k : Nat) (s : UInt8) (f : Mx) (a b : Nat) : putM c k (mulU s (f c k)) (scK c k s f) a b = scK c (k + 1) s f a b := by
  rw [mulU_comm]; exact scK_step c k s f a b
set_option maxRecDepth 100000 in
set_option maxHeartbeats 4000000 in
theorem scale_any {w : World} {B s fd g n d cap c : Nat} {β γ : Nat → Nat} {f : Mx} (h : Swp w B s fd g β γ n d cap f) (hc : c < n) (hd : c < d) (hd32 : d ≤ 32) :
    Calls Try.prog 58 #[.pointer (some ⟨s, 0, none⟩), .int .i64 (c : Int)] w fun e w' => e = .returned (.bool true) ∧ Swp w' B s fd g β γ n d cap (scM c (ivU (f c c)) f) ∧ Kept B w w' := by
  have h0 := h.rows
  have h2 := h.inverse
  have hh := h.mx.header hc
  have hby := h.mx.byte hc hd
  have hci : (c : Int) < (n : Int) := by omega
  have hcd : (c : Int) < (d : Int) := by omega
  have H := Lib.hid h
  have HB := Lib.hid (show B ≤ w.heap.size from Nat.le_trans h.mx.base (Nat.le_of_lt (by obtain ⟨cur, h1, _⟩ := h.mx.head; exact h1.lt)))
  have HI := Lib.hid (fun q => finv_any fd (f c c) (w.drewN q) (h.fld.drewN q))
  obtain ⟨y, hy⟩ : ∃ y, ivU (f c c) = y := ⟨_, rfl⟩
  rw [hy] at HI ⊢
  generalize ((f c c).toNat : Int) = x at *
  obtain ⟨bc, hbc⟩ : ∃ z, β c = z := ⟨_, rfl⟩
  obtain ⟨cc, hcc⟩ : ∃ z, γ c = z := ⟨_, rfl⟩
  have HBC := Lib.hid hbc
  rw [hbc] at hh hby
  rw [hcc] at hh
  clear h hy hbc hcc
  go_enter Try.func58, Try.ntmps58
  go_wp2_with fail
  go_quiet ((go_at_call 55; (with_reducible refine (HI.out _).mono ?_; exact fun e w'' h => ⟨h.1, _, h.2.symm⟩)))
  go_wp2_with fail
  have HK0 := Lib.hid ((Kept.refl B w).drewN nq)
  have HM0 := Lib.hid ((H.out.mx.drewN nq).congr (f' := scK c 0 y f) fun a b _ _ => by unfold scK; rw [if_neg (by omega)])
  have HS := Lib.hid (fun W (k : Kept B w W) f' (m : MxW W B g β γ n d f') => H.out.kept k m)
  have HT := Lib.hid (fun W (k : Kept B w W) => (H.out.kept k (f' := f) (β' := β) (γ' := γ)))
  clear h0 h2 hh hby HI
  generalize w.drewN nq = w1 at *
  go_loopw [26] (fun t wr => ∃ j : Nat, j ≤ d ∧ t = .int .i64 j ∧ Hid (Kept B w wr) ∧ Hid (MxW wr B g β γ n d (scK c j y f))) (fun t _ => d - (intOf t).toNat)
  case atStart => exact ⟨0, by omega, rfl, HK0, HM0⟩
  case round =>
    clear HK0 HM0
    obtain ⟨j, hj, rfl, HK, HM⟩ := hrel
    by_cases hjd : j < d
    · have hji : (j : Int) < (d : Int) := by omega
      have HSW := Lib.hid (HS.out wr HK.out _ HM.out)
      have HTM := Lib.hid (fun w' (hb : Below wr.heap.size wr w') => (HSW.out.kept ((Kept.refl B wr).on hb (Nat.le_trans HB.out HK.out.2.1)) (HM.out.below hb)).times)
      have hB2 : B ≤ wr.heap.size := Nat.le_trans HB.out HK.out.2.1
      have hzz : scK c j y f c j = f c j := if_neg (by omega)
      have HZB := Lib.hid (fun w' (hb : Below wr.heap.size wr w') => (show w'.cell? ⟨bc, j, none⟩ = some (.int .u8 ((f c j).toNat : Int)) by
        have := (HM.out.below hb).byte hc hjd
        rwa [hzz, HBC.out] at this))
      have HNX := Lib.hid (show ∀ a b, a < n → b < d → putM c j (mulU y (f c j)) (scK c j y f) a b = scK c (j + 1) y f a b from fun a b _ _ => scK_step' c j y f a b)
      have HMU := Lib.hid (fun w' (hb : Below wr.heap.size wr w') => fmul_any fd y (f c j) w' (HSW.out.fld.below hb HSW.out.fld.lt))
      clear hzz
      generalize mulU y (f c j) = zy at *
      generalize f c j = z at *
      go_wp2_with fail
      refine wp_region_loose 13 1 (fun i => false) (promises [.is (.slice (some ⟨bc, 0, none⟩) d cc), .is (.int .i64 (j : Int)), .is (.pointer (some ⟨s, 0, none⟩)), .is (.pointer (some ⟨s, 0, none⟩)), .is (.pointer (some ⟨s, 1, none⟩)), .is (.func (.func 53) #[.pointer (some ⟨fd, 0, none⟩)] #[]), .is (.int .u8 (y.toNat : Int)), .is (.slice (some ⟨bc, 0, none⟩) d cc), .is (.int .i64 (j : Int)), .is (.pointer (some ⟨bc, j, none⟩)), .is (.int .u8 (z.toNat : Int)), .is (.int .u8 (zy.toNat : Int)), .is (.pointer (some ⟨bc, j, none⟩))]) (by kernel_rfl) rfl (by kernel_rfl) (fun i v w w' h hb => Spec.keep h hb) ⟨?_, ?_, ?_, ?_, ?_, ?_, ?_, ?_, ?_, ?_, ?_, ?_, ?_, trivial⟩ ?_
      · refine StepOKl.of ?_
        intro ac w hb hu hk
        refine ⟨wanted_none rfl, ?_⟩
        have e5 : ac.eval (.tmp 5) = .slice (some ⟨bc, 0, none⟩) d cc := hu.is (t := 5) (by kernel_rfl)
        exact step_value (BigFrame.run_move (.tmp 5) rfl w) (Below.refl _ _) e5
      · refine StepOKl.of ?_
        intro ac w hb hu hk
        refine ⟨wanted_none rfl, ?_⟩
        have e7 : ac.eval (.tmp 7) = .int .i64 (j : Int) := hu.is (t := 7) (by kernel_rfl)
        exact step_value (BigFrame.run_move (.tmp 7) rfl w) (Below.refl _ _) e7
      · refine StepOKl.of ?_
        intro ac w hb hu hk
        refine ⟨wanted_none rfl, ?_⟩
        have e0 : ac.eval (.tmp 0) = .pointer (some ⟨s, 0, none⟩) := hu.is (t := 0) (by kernel_rfl)
        exact step_value (BigFrame.run_move (.tmp 0) rfl w) (Below.refl _ _) e0
      · refine StepOKl.of ?_
        intro ac w hb hu hk
        refine ⟨wanted_none rfl, ?_⟩
        have e31 : ac.eval (.tmp 31) = (.pointer (some ⟨s, 0, none⟩)) := (hk ⟨2, .data⟩ (by simp) rfl).is rfl rfl
        refine step_value (w' := w) (v := (.pointer (some ⟨s, 0, none⟩))) ?_ (Below.refl _ _) rfl
        generalize ac.eval = ρ at e31 ⊢
        go_simp
      · refine StepOKl.of ?_
        intro ac w hb hu hk
        refine ⟨wanted_none rfl, ?_⟩
        have e32 : ac.eval (.tmp 32) = (.pointer (some ⟨s, 0, none⟩)) := (hk ⟨3, .data⟩ (by simp) rfl).is rfl rfl
        refine step_value (w' := w) (v := (.pointer (some ⟨s, 1, none⟩))) ?_ (Below.refl _ _) rfl
        generalize ac.eval = ρ at e32 ⊢
        go_simp
      · refine StepOKl.of ?_
        intro ac w hb hu hk
        refine ⟨wanted_none rfl, ?_⟩
        have e33 : ac.eval (.tmp 33) = (.pointer (some ⟨s, 1, none⟩)) := (hk ⟨4, .data⟩ (by simp) rfl).is rfl rfl
        have hcx := HTM.out w hb
        refine step_value (w' := w) (v := .func (.func 53) #[.pointer (some ⟨fd, 0, none⟩)] #[]) ?_ (Below.refl _ _) rfl
        generalize ac.eval = ρ at e33 ⊢
        go_simp
      · refine StepOKl.of ?_
        intro ac w hb hu hk
        refine ⟨wanted_none rfl, ?_⟩
        have e6 : ac.eval (.tmp 6) = .int .u8 (y.toNat : Int) := hu.is (t := 6) (by kernel_rfl)
        exact step_value (BigFrame.run_move (.tmp 6) rfl w) (Below.refl _ _) e6
      · refine StepOKl.of ?_
        intro ac w hb hu hk
        refine ⟨wanted_none rfl, ?_⟩
        have e5 : ac.eval (.tmp 5) = .slice (some ⟨bc, 0, none⟩) d cc := hu.is (t := 5) (by kernel_rfl)
        exact step_value (BigFrame.run_move (.tmp 5) rfl w) (Below.refl _ _) e5
      · refine StepOKl.of ?_
        intro ac w hb hu hk
        refine ⟨wanted_none rfl, ?_⟩
        have e7 : ac.eval (.tmp 7) = .int .i64 (j : Int) := hu.is (t := 7) (by kernel_rfl)
        exact step_value (BigFrame.run_move (.tmp 7) rfl w) (Below.refl _ _) e7
      · refine StepOKl.of ?_
        intro ac w hb hu hk
        refine ⟨wanted_none rfl, ?_⟩
        have e36 : ac.eval (.tmp 36) = (.slice (some ⟨bc, 0, none⟩) d cc) := (hk ⟨7, .data⟩ (by simp) rfl).is rfl rfl
        have e37 : ac.eval (.tmp 37) = (.int .i64 (j : Int)) := (hk ⟨8, .data⟩ (by simp) rfl).is rfl rfl
        refine step_value (w' := w) (v := (.pointer (some ⟨bc, j, none⟩))) ?_ (Below.refl _ _) rfl
        generalize ac.eval = ρ at e36 e37 ⊢
        go_simp
      · refine StepOKl.of ?_
        intro ac w hb hu hk
        refine ⟨wanted_none rfl, ?_⟩
        have e38 : ac.eval (.tmp 38) = (.pointer (some ⟨bc, j, none⟩)) := (hk ⟨9, .data⟩ (by simp) rfl).is rfl rfl
        have hcx := HZB.out w hb
        refine step_value (w' := w) (v := .int .u8 (z.toNat : Int)) ?_ (Below.refl _ _) rfl
        generalize ac.eval = ρ at e38 ⊢
        go_simp
      · refine StepOKl.of ?_
        intro ac w hb hu hk
        refine ⟨wanted_none rfl, ?_⟩
        have e34 : ac.eval (.tmp 34) = (.func (.func 53) #[.pointer (some ⟨fd, 0, none⟩)] #[]) := (hk ⟨5, .data⟩ (by simp) rfl).is rfl rfl
        have e35 : ac.eval (.tmp 35) = (.int .u8 (y.toNat : Int)) := (hk ⟨6, .data⟩ (by simp) rfl).is rfl rfl
        have e39 : ac.eval (.tmp 39) = (.int .u8 (z.toNat : Int)) := (hk ⟨10, .data⟩ (by simp) rfl).is rfl rfl
        refine step_enter (f := 53) (args := #[.pointer (some ⟨fd, 0, none⟩), .int .u8 (y.toNat : Int), .int .u8 (z.toNat : Int)]) ?_ ?_
        · generalize ac.eval = ρ at e34 e35 e39 ⊢
          go_simp
        · exact (HMU.out w hb).mono fun e w' ⟨he, q, hq⟩ => ⟨_, he, rfl, by rw [hq]; exact below_drewN (Below.refl _ _) q⟩
      · refine StepOKl.of ?_
        intro ac w hb hu hk
        refine ⟨wanted_none rfl, ?_⟩
        have e29 : ac.eval (.tmp 29) = (.slice (some ⟨bc, 0, none⟩) d cc) := (hk ⟨0, .data⟩ (by simp) rfl).is rfl rfl
        have e30 : ac.eval (.tmp 30) = (.int .i64 (j : Int)) := (hk ⟨1, .data⟩ (by simp) rfl).is rfl rfl
        refine step_value (w' := w) (v := (.pointer (some ⟨bc, j, none⟩))) ?_ (Below.refl _ _) rfl
        generalize ac.eval = ρ at e29 e30 ⊢
        go_simp
      · intro ac w' hb hu hk hap
        obtain ⟨_, h29, rfl⟩ := (hk 0 (by decide)).put rfl rfl
        obtain ⟨_, h30, rfl⟩ := (hk 1 (by decide)).put rfl rfl
        obtain ⟨_, h31, rfl⟩ := (hk 2 (by decide)).put rfl rfl
        obtain ⟨_, h32, rfl⟩ := (hk 3 (by decide)).put rfl rfl
        obtain ⟨_, h33, rfl⟩ := (hk 4 (by decide)).put rfl rfl
        obtain ⟨_, h34, rfl⟩ := (hk 5 (by decide)).put rfl rfl
        obtain ⟨_, h35, rfl⟩ := (hk 6 (by decide)).put rfl rfl
        obtain ⟨_, h36, rfl⟩ := (hk 7 (by decide)).put rfl rfl
        obtain ⟨_, h37, rfl⟩ := (hk 8 (by decide)).put rfl rfl
        obtain ⟨_, h38, rfl⟩ := (hk 9 (by decide)).put rfl rfl
        obtain ⟨_, h39, rfl⟩ := (hk 10 (by decide)).put rfl rfl
        obtain ⟨_, h40, rfl⟩ := (hk 11 (by decide)).put rfl rfl
        obtain ⟨_, h41, rfl⟩ := (hk 12 (by decide)).put rfl rfl
        clear hap
        have hF : AllPuts ac.tmps ((29, _) :: (30, _) :: (31, _) :: (32, _) :: (33, _) :: (34, _) :: (35, _) :: (36, _) :: (37, _) :: (38, _) :: (39, _) :: (40, _) :: (41, _) :: []) := ⟨h29, h30, h31, h32, h33, h34, h35, h36, h37, h38, h39, h40, h41, trivial⟩
        obtain rfl := frame_puts hu (by kernel_rfl) hF
        simp only [puts, Act.put, List.setIfInBounds_toArray, List.set_cons_zero, List.set_cons_succ, List.drop_succ_cons, List.drop_zero]
        clear hk hu hF h29 h30 h31 h32 h33 h34 h35 h36 h37 h38 h39 h40 h41
        have hM := HM.out.below hb
        have hfr := hM.byteFree hc j
        have hbo := hM.byte hc hjd
        have HK2 := Lib.hid (hM.keptByte (HK.out.on hb) hc j (.int .u8 (zy.toNat : Int)))
        have HST := Lib.hid ((hM.store hc hjd zy).congr HNX.out)
        rw [HBC.out] at hfr hbo HK2 HST
        clear hM HM HK hb HTM HZB HMU HNX
        go_wp2_with fail
        go_roundw
        case rel => exact ⟨j + 1, by omega, by go_num, HK2, HST⟩
        case measure => simp [intOf]; omega
    · obtain rfl : j = d := by omega
      have HM2 := Lib.hid (HM.out.congr fun a b ha hb => scK_all c j y f a b ha hb)
      have HS2 := Lib.hid (HS.out wr HK.out _ HM2.out)
      have hni : ¬ (j : Int) < (j : Int) := by omega
      clear HM HM2 HS
      go_wp2_with fail
      go_ret
      exact ⟨rfl, HS2.out, HK.out⟩
end Go.Proofs.Ytkgemngkkedcnaa
namespace Go.Proofs.Ytkgemngkkedcnaa
open Go.RowKit

set_option maxRecDepth 100000 in
set_option maxHeartbeats 4000000 in
theorem addTimes_any {w : World} {B s fd g n d cap c i : Nat} {β γ : Nat → Nat} {f : Mx} (x : UInt8) (h : Swp w B s fd g β γ n d cap f) (hc : c < n) (hi : i < n) (hne : c ≠ i) (hd32 : d ≤ 32) :
    Calls Try.prog 64 #[.pointer (some ⟨s, 0, none⟩), .slice (some ⟨β i, 0, none⟩) d (γ i), .int .u8 (x.toNat : Int), .slice (some ⟨β c, 0, none⟩) d (γ c)] w fun e w' => e = .returned (.tuple #[]) ∧ Swp w' B s fd g β γ n d cap (adK c i d x f) ∧ Kept B w w' := by
  have HB := Lib.hid (show B ≤ w.heap.size from Nat.le_trans h.mx.base (Nat.le_of_lt (by obtain ⟨cur, h1, _⟩ := h.mx.head; exact h1.lt)))
  have HK0 := Lib.hid (Kept.refl B w)
  have HM0 := Lib.hid (h.mx.congr (f' := adK c i 0 x f) fun a b _ _ => by unfold adK; rw [if_neg (by omega)])
  have HS := Lib.hid (fun W (k : Kept B w W) f' (m : MxW W B g β γ n d f') => h.kept k m)
  have HNE := Lib.hid hne
  obtain ⟨bc, hbc⟩ : ∃ z, β c = z := ⟨_, rfl⟩
  obtain ⟨cc, hcc⟩ : ∃ z, γ c = z := ⟨_, rfl⟩
  obtain ⟨bi, hbi⟩ : ∃ z, β i = z := ⟨_, rfl⟩
  obtain ⟨ci, hci⟩ : ∃ z, γ i = z := ⟨_, rfl⟩
  rw [hbc, hcc, hbi, hci]
  have HBC := Lib.hid hbc
  have HBI := Lib.hid hbi
  clear h hne hbc hcc hbi hci
  go_enter Try.func64, Try.ntmps64
  go_wp2_with fail
  go_loopw [11] (fun t wr => ∃ j : Nat, j ≤ d ∧ t = .int .i64 j ∧ Hid (Kept B w wr) ∧ Hid (MxW wr B g β γ n d (adK c i j x f))) (fun t _ => d - (intOf t).toNat)
  case atStart => exact ⟨0, by omega, rfl, HK0, HM0⟩
  case round =>
    clear HK0 HM0
    obtain ⟨j, hj, rfl, HK, HM⟩ := hrel
    by_cases hjd : j < d
    · have hji : (j : Int) < (d : Int) := by omega
      have HSW := Lib.hid (HS.out wr HK.out _ HM.out)
      have HTM := Lib.hid (fun w' (hb : Below wr.heap.size wr w') => (HSW.out.kept ((Kept.refl B wr).on hb (Nat.le_trans HB.out HK.out.2.1)) (HM.out.below hb)).times)
      have hB2 : B ≤ wr.heap.size := Nat.le_trans HB.out HK.out.2.1
      have h1 : adK c i j x f i j = f i j := if_neg (by omega)
      have h2 : adK c i j x f c j = f c j := if_neg (fun e => HNE.out e.1)
      have HZ1 := Lib.hid (fun w' (hb : Below wr.heap.size wr w') => (show w'.cell? ⟨bi, j, none⟩ = some (.int .u8 ((f i j).toNat : Int)) by
        have := (HM.out.below hb).byte hi hjd
        rwa [h1, HBI.out] at this))
      have HZ2 := Lib.hid (fun w' (hb : Below wr.heap.size wr w') => (show w'.cell? ⟨bc, j, none⟩ = some (.int .u8 ((f c j).toNat : Int)) by
        have := (HM.out.below hb).byte hc hjd
        rwa [h2, HBC.out] at this))
      have HNX := Lib.hid (show ∀ a b, a < n → b < d → putM i j (f i j ^^^ mulU x (f c j)) (adK c i j x f) a b = adK c i (j + 1) x f a b from fun a b _ _ => adK_step c i j x f HNE.out a b)
      have HMU := Lib.hid (fun w' (hb : Below wr.heap.size wr w') => fmul_any fd x (f c j) w' (HSW.out.fld.below hb HSW.out.fld.lt))
      have HAD := Lib.hid (fun w' => add_any (f i j) (mulU x (f c j)) w')
      clear h1 h2
      generalize f i j ^^^ mulU x (f c j) = zs at *
      generalize mulU x (f c j) = zy at *
      generalize f i j = z1 at *
      generalize f c j = z2 at *
      go_wp2_with fail
      refine wp_region_loose 18 1 (fun i => false) (promises [.is (.slice (some ⟨bi, 0, none⟩) d ci), .is (.int .i64 (j : Int)), .is (.slice (some ⟨bi, 0, none⟩) d ci), .is (.int .i64 (j : Int)), .is (.pointer (some ⟨bi, j, none⟩)), .is (.int .u8 (z1.toNat : Int)), .is (.pointer (some ⟨s, 0, none⟩)), .is (.pointer (some ⟨s, 0, none⟩)), .is (.pointer (some ⟨s, 1, none⟩)), .is (.func (.func 53) #[.pointer (some ⟨fd, 0, none⟩)] #[]), .is (.int .u8 (x.toNat : Int)), .is (.slice (some ⟨bc, 0, none⟩) d cc), .is (.int .i64 (j : Int)), .is (.pointer (some ⟨bc, j, none⟩)), .is (.int .u8 (z2.toNat : Int)), .is (.int .u8 (zy.toNat : Int)), .is (.int .u8 (zs.toNat : Int)), .is (.pointer (some ⟨bi, j, none⟩))]) (by kernel_rfl) rfl (by kernel_rfl) (fun i v w w' h hb => Spec.keep h hb) ⟨?_, ?_, ?_, ?_, ?_, ?_, ?_, ?_, ?_, ?_, ?_, ?_, ?_, ?_, ?_, ?_, ?_, ?_, trivial⟩ ?_
      · refine StepOKl.of ?_
        intro ac w hb hu hk
        refine ⟨wanted_none rfl, ?_⟩
        have e1 : ac.eval (.tmp 1) = .slice (some ⟨bi, 0, none⟩) d ci := hu.is (t := 1) (by kernel_rfl)
        exact step_value (BigFrame.run_move (.tmp 1) rfl w) (Below.refl _ _) e1
      · refine StepOKl.of ?_
        intro ac w hb hu hk
        refine ⟨wanted_none rfl, ?_⟩
        have e8 : ac.eval (.tmp 8) = .int .i64 (j : Int) := hu.is (t := 8) (by kernel_rfl)
        exact step_value (BigFrame.run_move (.tmp 8) rfl w) (Below.refl _ _) e8
      · refine StepOKl.of ?_
        intro ac w hb hu hk
        refine ⟨wanted_none rfl, ?_⟩
        have e1 : ac.eval (.tmp 1) = .slice (some ⟨bi, 0, none⟩) d ci := hu.is (t := 1) (by kernel_rfl)
        exact step_value (BigFrame.run_move (.tmp 1) rfl w) (Below.refl _ _) e1
      · refine StepOKl.of ?_
        intro ac w hb hu hk
        refine ⟨wanted_none rfl, ?_⟩
        have e8 : ac.eval (.tmp 8) = .int .i64 (j : Int) := hu.is (t := 8) (by kernel_rfl)
        exact step_value (BigFrame.run_move (.tmp 8) rfl w) (Below.refl _ _) e8
      · refine StepOKl.of ?_
        intro ac w hb hu hk
        refine ⟨wanted_none rfl, ?_⟩
        have e16 : ac.eval (.tmp 16) = (.slice (some ⟨bi, 0, none⟩) d ci) := (hk ⟨2, .data⟩ (by simp) rfl).is rfl rfl
        have e17 : ac.eval (.tmp 17) = (.int .i64 (j : Int)) := (hk ⟨3, .data⟩ (by simp) rfl).is rfl rfl
        refine step_value (w' := w) (v := (.pointer (some ⟨bi, j, none⟩))) ?_ (Below.refl _ _) rfl
        generalize ac.eval = ρ at e16 e17 ⊢
        go_simp
      · refine StepOKl.of ?_
        intro ac w hb hu hk
        refine ⟨wanted_none rfl, ?_⟩
        have e18 : ac.eval (.tmp 18) = (.pointer (some ⟨bi, j, none⟩)) := (hk ⟨4, .data⟩ (by simp) rfl).is rfl rfl
        have hcx := HZ1.out w hb
        refine step_value (w' := w) (v := .int .u8 (z1.toNat : Int)) ?_ (Below.refl _ _) rfl
        generalize ac.eval = ρ at e18 ⊢
        go_simp
      · refine StepOKl.of ?_
        intro ac w hb hu hk
        refine ⟨wanted_none rfl, ?_⟩
        have e0 : ac.eval (.tmp 0) = .pointer (some ⟨s, 0, none⟩) := hu.is (t := 0) (by kernel_rfl)
        exact step_value (BigFrame.run_move (.tmp 0) rfl w) (Below.refl _ _) e0
      · refine StepOKl.of ?_
        intro ac w hb hu hk
        refine ⟨wanted_none rfl, ?_⟩
        have e20 : ac.eval (.tmp 20) = (.pointer (some ⟨s, 0, none⟩)) := (hk ⟨6, .data⟩ (by simp) rfl).is rfl rfl
        refine step_value (w' := w) (v := (.pointer (some ⟨s, 0, none⟩))) ?_ (Below.refl _ _) rfl
        generalize ac.eval = ρ at e20 ⊢
        go_simp
      · refine StepOKl.of ?_
        intro ac w hb hu hk
        refine ⟨wanted_none rfl, ?_⟩
        have e21 : ac.eval (.tmp 21) = (.pointer (some ⟨s, 0, none⟩)) := (hk ⟨7, .data⟩ (by simp) rfl).is rfl rfl
        refine step_value (w' := w) (v := (.pointer (some ⟨s, 1, none⟩))) ?_ (Below.refl _ _) rfl
        generalize ac.eval = ρ at e21 ⊢
        go_simp
      · refine StepOKl.of ?_
        intro ac w hb hu hk
        refine ⟨wanted_none rfl, ?_⟩
        have e22 : ac.eval (.tmp 22) = (.pointer (some ⟨s, 1, none⟩)) := (hk ⟨8, .data⟩ (by simp) rfl).is rfl rfl
        have hcx := HTM.out w hb
        refine step_value (w' := w) (v := .func (.func 53) #[.pointer (some ⟨fd, 0, none⟩)] #[]) ?_ (Below.refl _ _) rfl
        generalize ac.eval = ρ at e22 ⊢
        go_simp
      · refine StepOKl.of ?_
        intro ac w hb hu hk
        refine ⟨wanted_none rfl, ?_⟩
        have e2 : ac.eval (.tmp 2) = .int .u8 (x.toNat : Int) := hu.is (t := 2) (by kernel_rfl)
        exact step_value (BigFrame.run_move (.tmp 2) rfl w) (Below.refl _ _) e2
      · refine StepOKl.of ?_
        intro ac w hb hu hk
        refine ⟨wanted_none rfl, ?_⟩
        have e3 : ac.eval (.tmp 3) = .slice (some ⟨bc, 0, none⟩) d cc := hu.is (t := 3) (by kernel_rfl)
        exact step_value (BigFrame.run_move (.tmp 3) rfl w) (Below.refl _ _) e3
      · refine StepOKl.of ?_
        intro ac w hb hu hk
        refine ⟨wanted_none rfl, ?_⟩
        have e8 : ac.eval (.tmp 8) = .int .i64 (j : Int) := hu.is (t := 8) (by kernel_rfl)
        exact step_value (BigFrame.run_move (.tmp 8) rfl w) (Below.refl _ _) e8
      · refine StepOKl.of ?_
        intro ac w hb hu hk
        refine ⟨wanted_none rfl, ?_⟩
        have e25 : ac.eval (.tmp 25) = (.slice (some ⟨bc, 0, none⟩) d cc) := (hk ⟨11, .data⟩ (by simp) rfl).is rfl rfl
        have e26 : ac.eval (.tmp 26) = (.int .i64 (j : Int)) := (hk ⟨12, .data⟩ (by simp) rfl).is rfl rfl
        refine step_value (w' := w) (v := (.pointer (some ⟨bc, j, none⟩))) ?_ (Below.refl _ _) rfl
        generalize ac.eval = ρ at e25 e26 ⊢
        go_simp
      · refine StepOKl.of ?_
        intro ac w hb hu hk
        refine ⟨wanted_none rfl, ?_⟩
        have e27 : ac.eval (.tmp 27) = (.pointer (some ⟨bc, j, none⟩)) := (hk ⟨13, .data⟩ (by simp) rfl).is rfl rfl
        have hcx := HZ2.out w hb
        refine step_value (w' := w) (v := .int .u8 (z2.toNat : Int)) ?_ (Below.refl _ _) rfl
        generalize ac.eval = ρ at e27 ⊢
        go_simp
      · refine StepOKl.of ?_
        intro ac w hb hu hk
        refine ⟨wanted_none rfl, ?_⟩
        have e23 : ac.eval (.tmp 23) = (.func (.func 53) #[.pointer (some ⟨fd, 0, none⟩)] #[]) := (hk ⟨9, .data⟩ (by simp) rfl).is rfl rfl
        have e24 : ac.eval (.tmp 24) = (.int .u8 (x.toNat : Int)) := (hk ⟨10, .data⟩ (by simp) rfl).is rfl rfl
        have e28 : ac.eval (.tmp 28) = (.int .u8 (z2.toNat : Int)) := (hk ⟨14, .data⟩ (by simp) rfl).is rfl rfl
        refine step_enter (f := 53) (args := #[.pointer (some ⟨fd, 0, none⟩), .int .u8 (x.toNat : Int), .int .u8 (z2.toNat : Int)]) ?_ ?_
        · generalize ac.eval = ρ at e23 e24 e28 ⊢
          go_simp
        · exact (HMU.out w hb).mono fun e w' ⟨he, q, hq⟩ => ⟨_, he, rfl, by rw [hq]; exact below_drewN (Below.refl _ _) q⟩
      · refine StepOKl.of ?_
        intro ac w hb hu hk
        refine ⟨wanted_none rfl, ?_⟩
        have e19 : ac.eval (.tmp 19) = (.int .u8 (z1.toNat : Int)) := (hk ⟨5, .data⟩ (by simp) rfl).is rfl rfl
        have e29 : ac.eval (.tmp 29) = (.int .u8 (zy.toNat : Int)) := (hk ⟨15, .data⟩ (by simp) rfl).is rfl rfl
        have ef : ac.eval (.func 62) = .func (.func 62) #[] #[] := rfl
        refine step_enter (f := 62) (args := #[.int .u8 (z1.toNat : Int), .int .u8 (zy.toNat : Int)]) ?_ ?_
        · generalize ac.eval = ρ at e19 e29 ef ⊢
          go_simp
        · exact (HAD.out w).mono fun e w' ⟨he, hq⟩ => ⟨_, he, rfl, by rw [← hq]; exact Below.refl _ _⟩
      · refine StepOKl.of ?_
        intro ac w hb hu hk
        refine ⟨wanted_none rfl, ?_⟩
        have e14 : ac.eval (.tmp 14) = (.slice (some ⟨bi, 0, none⟩) d ci) := (hk ⟨0, .data⟩ (by simp) rfl).is rfl rfl
        have e15 : ac.eval (.tmp 15) = (.int .i64 (j : Int)) := (hk ⟨1, .data⟩ (by simp) rfl).is rfl rfl
        refine step_value (w' := w) (v := (.pointer (some ⟨bi, j, none⟩))) ?_ (Below.refl _ _) rfl
        generalize ac.eval = ρ at e14 e15 ⊢
        go_simp
      · intro ac w' hb hu hk hap
        obtain ⟨_, h14, rfl⟩ := (hk 0 (by decide)).put rfl rfl
        obtain ⟨_, h15, rfl⟩ := (hk 1 (by decide)).put rfl rfl
        obtain ⟨_, h16, rfl⟩ := (hk 2 (by decide)).put rfl rfl
        obtain ⟨_, h17, rfl⟩ := (hk 3 (by decide)).put rfl rfl
        obtain ⟨_, h18, rfl⟩ := (hk 4 (by decide)).put rfl rfl
        obtain ⟨_, h19, rfl⟩ := (hk 5 (by decide)).put rfl rfl
        obtain ⟨_, h20, rfl⟩ := (hk 6 (by decide)).put rfl rfl
        obtain ⟨_, h21, rfl⟩ := (hk 7 (by decide)).put rfl rfl
        obtain ⟨_, h22, rfl⟩ := (hk 8 (by decide)).put rfl rfl
        obtain ⟨_, h23, rfl⟩ := (hk 9 (by decide)).put rfl rfl
        obtain ⟨_, h24, rfl⟩ := (hk 10 (by decide)).put rfl rfl
        obtain ⟨_, h25, rfl⟩ := (hk 11 (by decide)).put rfl rfl
        obtain ⟨_, h26, rfl⟩ := (hk 12 (by decide)).put rfl rfl
        obtain ⟨_, h27, rfl⟩ := (hk 13 (by decide)).put rfl rfl
        obtain ⟨_, h28, rfl⟩ := (hk 14 (by decide)).put rfl rfl
        obtain ⟨_, h29, rfl⟩ := (hk 15 (by decide)).put rfl rfl
        obtain ⟨_, h30, rfl⟩ := (hk 16 (by decide)).put rfl rfl
        obtain ⟨_, h31, rfl⟩ := (hk 17 (by decide)).put rfl rfl
        clear hap
        have hF : AllPuts ac.tmps ((14, _) :: (15, _) :: (16, _) :: (17, _) :: (18, _) :: (19, _) :: (20, _) :: (21, _) :: (22, _) :: (23, _) :: (24, _) :: (25, _) :: (26, _) :: (27, _) :: (28, _) :: (29, _) :: (30, _) :: (31, _) :: []) := ⟨h14, h15, h16, h17, h18, h19, h20, h21, h22, h23, h24, h25, h26, h27, h28, h29, h30, h31, trivial⟩
        obtain rfl := frame_puts hu (by kernel_rfl) hF
        simp only [puts, Act.put, List.setIfInBounds_toArray, List.set_cons_zero, List.set_cons_succ, List.drop_succ_cons, List.drop_zero]
        clear hk hu hF h14 h15 h16 h17 h18 h19 h20 h21 h22 h23 h24 h25 h26 h27 h28 h29 h30 h31
        have hM := HM.out.below hb
        have hfr := hM.byteFree hi j
        have hbo := hM.byte hi hjd
        have HK2 := Lib.hid (hM.keptByte (HK.out.on hb) hi j (.int .u8 (zs.toNat : Int)))
        have HST := Lib.hid ((hM.store hi hjd zs).congr HNX.out)
        rw [HBI.out] at hfr hbo HK2 HST
        clear hM HM HK hb HTM HZ1 HZ2 HMU HNX HAD
        go_wp2_with fail
        go_roundw
        case rel => exact ⟨j + 1, by omega, by go_num, HK2, HST⟩
        case measure => simp [intOf]; omega
    · obtain rfl : j = d := by omega
      have HS2 := Lib.hid (HS.out wr HK.out _ HM.out)
      have hni : ¬ (j : Int) < (j : Int) := by omega
      clear HM HS
      go_wp2_with fail
      go_end0
      exact ⟨rfl, HS2.out, HK.out⟩

set_option maxRecDepth 100000 in
set_option maxHeartbeats 4000000 in
theorem wipe_any {w : World} {B s fd g n d cap c : Nat} {β γ : Nat → Nat} {f : Mx} (h : Swp w B s fd g β γ n d cap f) (hc : c < n) (hd : c < d) (hd32 : d ≤ 32) (hn16 : n ≤ 16) :
    Calls Try.prog 59 #[.pointer (some ⟨s, 0, none⟩), .int .i64 (c : Int)] w fun e w' => e = .returned (.bool true) ∧ Swp w' B s fd g β γ n d cap (adM c n f) ∧ Kept B w w' := by
  have h0 := h.rows
  have hci : (c : Int) < (n : Int) := by omega
  have hcd : (c : Int) < (d : Int) := by omega
  have HK0 := Lib.hid (Kept.refl B w)
  have HS0 := Lib.hid (h.congr (f' := adM c 0 f) fun a b _ _ => (adM_same f b (.inr (Nat.zero_le _))).symm)
  clear h
  go_enter Try.func59, Try.ntmps59
  go_wp2_with fail
  clear h0
  go_loopw [12] (fun t wr => ∃ i : Nat, i ≤ n ∧ t = .int .i64 i ∧ Hid (Kept B w wr) ∧ Hid (Swp wr B s fd g β γ n d cap (adM c i f))) (fun t _ => n - (intOf t).toNat)
  case atStart => exact ⟨0, by omega, rfl, HK0, HS0⟩
  case round =>
    clear HK0 HS0
    obtain ⟨i, hin, rfl, HK, HS⟩ := hrel
    by_cases hlt : i < n
    · have hii : (i : Int) < (n : Int) := by omega
      have hh := HS.out.mx.header hlt
      by_cases hic : i = c
      · have he : ((i : Int) != (c : Int)) = false := by rw [hic]; simp
        have HS2 := Lib.hid (HS.out.congr (f' := adM c (i + 1) f) fun a b _ _ => adM_next_same hic a b)
        clear hic
        go_wp2_with fail
        go_roundw
        case rel => exact ⟨i + 1, by omega, by go_num, HK, HS2⟩
        case measure => simp [intOf]; omega
      · have he : ((i : Int) != (c : Int)) = true := by simp only [bne_iff_ne, ne_eq]; omega
        have h0 := HS.out.rows
        have hhc := HS.out.mx.header hc
        have hby := HS.out.mx.byte (j := c) hlt hd
        rw [adM_same f c (.inr (Nat.le_refl i))] at hby
        have HAD := Lib.hid (addTimes_any (f i c) (show Swp wr.drew B s fd g β γ n d cap (adM c i f) from HS.out.drewN 1) hc hlt (fun e => hic e.symm) hd32)
        have HNX := Lib.hid (show ∀ a b, a < n → b < d → adK c i d (f i c) (adM c i f) a b = adM c (i + 1) f a b from fun a b _ hb => adM_next hic a b hb)
        clear hic
        generalize adM c i f = f2 at *
        generalize f i c = x at *
        obtain ⟨bc, hbc⟩ : ∃ z, β c = z := ⟨_, rfl⟩
        obtain ⟨cc, hcc⟩ : ∃ z, γ c = z := ⟨_, rfl⟩
        obtain ⟨bi, hbi⟩ : ∃ z, β i = z := ⟨_, rfl⟩
        obtain ⟨ci, hci2⟩ : ∃ z, γ i = z := ⟨_, rfl⟩
        rw [hbc, hcc] at hhc HAD
        rw [hbi, hci2] at hh HAD
        rw [hbi] at hby
        clear hbc hcc hbi hci2
        go_wp2_with fail
        go_still_tail 13, (by kernel_rfl)
        change wpList _ _ _ _ _ wr.drew
        clear hh h0 hhc hby
        go_wp2_with fail
        with_reducible refine (HAD.out).mono ?_
        rintro e w4 ⟨rfl, hs4, hk4⟩
        have HK2 := Lib.hid ((HK.out.drew).trans hk4)
        have HS2 := Lib.hid (hs4.congr HNX.out)
        clear hs4 hk4 HAD HNX HS HK
        go_wp2_with fail
        go_roundw
        case rel => exact ⟨i + 1, by omega, by go_num, HK2, HS2⟩
        case measure => simp [intOf]; omega
    · obtain rfl : i = n := by omega
      have hni : ¬ (i : Int) < (i : Int) := by omega
      go_wp2_with fail
      go_ret
      exact ⟨rfl, HS.out, HK.out⟩
end Go.Proofs.Ytkgemngkkedcnaa
