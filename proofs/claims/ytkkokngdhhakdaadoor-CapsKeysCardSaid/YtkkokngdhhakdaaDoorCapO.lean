/- The program's and the document's Renewal and Slot. -/
import Derived.Test.YtkkokngdhhakdaaDoorCapN
import Derived.Test.YtkkokngdhhakdaaDoorCapI
namespace Go.Proofs.YtkkokngdhhakdaaDoor
open Go.RowKit
set_option maxRecDepth 100000

def renTag : List UInt8 := [114, 101, 110, 101, 119]
def wriTag : List UInt8 := [119, 114, 105, 116, 101]
def ren13 (c i : List UInt8) (n : Int) : List UInt8 := short13 renTag [c, i, put2 n]
def slot13 (seed fp : List UInt8) : Cap13 := ⟨4, short13 wriTag [seed], fp, 0, 0, 0, []⟩
theorem rput2 (n : Int) (w : World) (hn : n ≤ 9223372036854775807) : Calls Tryd.prog 49 #[.int .i64 n, .int .i64 2] w fun e w' => ∃ A c, e = .returned (.slice A 2 c) ∧ 2 ≤ c ∧ c ≤ maxLen ∧ Rd w' w'.heap.size A (put2 n) ∧ Below w.heap.size w w' :=
  (rput_any n 2 w hn).mono fun _ _ ⟨A, c, he, ho, hb⟩ => by
    have e4 : putW 2 = 2 := rfl
    rw [e4] at he ho
    obtain ⟨A', c', e, h1, h2⟩ := own_caps ho
    injection e with e1 e2 e3
    subst e1 e3
    exact ⟨A, c, he, h1, h2, Rd.of_own ho, hb⟩
theorem rdr_threeC (w : World) (A B C : Option Addr) {n1 n2 n3 c1 c2 c3 : Nat} {l1 l2 l3 : List UInt8} (h1 : l1.length = n1) (h2 : l2.length = n2) (h3 : l3.length = n3) (a1 : n1 ≤ c1) (b1 : c1 ≤ maxLen) (a2 : n2 ≤ c2) (b2 : c2 ≤ maxLen) (a3 : n3 ≤ c3) (b3 : c3 ≤ maxLen)
    (r1 : Rd w w.heap.size A l1) (r2 : Rd w w.heap.size B l2) (r3 : Rd w w.heap.size C l3) :
    RdR (w.alloc (.cells #[.slice A n1 c1, .slice B n2 c2, .slice C n3 c3] 26)) (w.alloc (.cells #[.slice A n1 c1, .slice B n2 c2, .slice C n3 c3] 26)).heap.size (some ⟨w.heap.size, 0, none⟩) [l1, l2, l3] := by
  subst h1 h2 h3
  have hal : Below w.heap.size w (w.alloc (.cells #[.slice A l1.length c1, .slice B l2.length c2, .slice C l3.length c3] 26)) := (Below.refl _ _).alloc (Nat.le_refl _) _
  have hblk := Blk.new w #[.slice A l1.length c1, .slice B l2.length c2, .slice C l3.length c3] 26
  refine .inr ⟨w.heap.size, 0, rfl, hblk.lt, fun i hi => ?_⟩
  rw [Nat.zero_add]
  match i, hi with
  | 0, _ => exact ⟨A, c1, hblk.cell 0, a1, b1, (r1.below hal (Nat.le_refl _)).more hal.size⟩
  | 1, _ => exact ⟨B, c2, hblk.cell 1, a2, b2, (r2.below hal (Nat.le_refl _)).more hal.size⟩
  | 2, _ => exact ⟨C, c3, hblk.cell 2, a3, b3, (r3.below hal (Nat.le_refl _)).more hal.size⟩
set_option maxHeartbeats 4000000 in
theorem built_slot (x y : List UInt8) (hx : x.length = 16) (hy : y.length = 32) : Tryd.prog.built 28 [(0, .int .i64 4), (1, .agg (u8A x)), (2, .agg (u8A y))] = some (capA ⟨4, x, y, 0, 0, 0, []⟩ (.slice none 0 0)) := by
  rcases x with _ | ⟨x0, x⟩
  · simp at hx
  rcases x with _ | ⟨x1, x⟩
  · simp at hx
  rcases x with _ | ⟨x2, x⟩
  · simp at hx
  rcases x with _ | ⟨x3, x⟩
  · simp at hx
  rcases x with _ | ⟨x4, x⟩
  · simp at hx
  rcases x with _ | ⟨x5, x⟩
  · simp at hx
  rcases x with _ | ⟨x6, x⟩
  · simp at hx
  rcases x with _ | ⟨x7, x⟩
  · simp at hx
  rcases x with _ | ⟨x8, x⟩
  · simp at hx
  rcases x with _ | ⟨x9, x⟩
  · simp at hx
  rcases x with _ | ⟨x10, x⟩
  · simp at hx
  rcases x with _ | ⟨x11, x⟩
  · simp at hx
  rcases x with _ | ⟨x12, x⟩
  · simp at hx
  rcases x with _ | ⟨x13, x⟩
  · simp at hx
  rcases x with _ | ⟨x14, x⟩
  · simp at hx
  rcases x with _ | ⟨x15, x⟩
  · simp at hx
  rcases x with _ | ⟨_, _⟩
  rotate_left
  · simp at hx
  rcases y with _ | ⟨y0, y⟩
  · simp at hy
  rcases y with _ | ⟨y1, y⟩
  · simp at hy
  rcases y with _ | ⟨y2, y⟩
  · simp at hy
  rcases y with _ | ⟨y3, y⟩
  · simp at hy
  rcases y with _ | ⟨y4, y⟩
  · simp at hy
  rcases y with _ | ⟨y5, y⟩
  · simp at hy
  rcases y with _ | ⟨y6, y⟩
  · simp at hy
  rcases y with _ | ⟨y7, y⟩
  · simp at hy
  rcases y with _ | ⟨y8, y⟩
  · simp at hy
  rcases y with _ | ⟨y9, y⟩
  · simp at hy
  rcases y with _ | ⟨y10, y⟩
  · simp at hy
  rcases y with _ | ⟨y11, y⟩
  · simp at hy
  rcases y with _ | ⟨y12, y⟩
  · simp at hy
  rcases y with _ | ⟨y13, y⟩
  · simp at hy
  rcases y with _ | ⟨y14, y⟩
  · simp at hy
  rcases y with _ | ⟨y15, y⟩
  · simp at hy
  rcases y with _ | ⟨y16, y⟩
  · simp at hy
  rcases y with _ | ⟨y17, y⟩
  · simp at hy
  rcases y with _ | ⟨y18, y⟩
  · simp at hy
  rcases y with _ | ⟨y19, y⟩
  · simp at hy
  rcases y with _ | ⟨y20, y⟩
  · simp at hy
  rcases y with _ | ⟨y21, y⟩
  · simp at hy
  rcases y with _ | ⟨y22, y⟩
  · simp at hy
  rcases y with _ | ⟨y23, y⟩
  · simp at hy
  rcases y with _ | ⟨y24, y⟩
  · simp at hy
  rcases y with _ | ⟨y25, y⟩
  · simp at hy
  rcases y with _ | ⟨y26, y⟩
  · simp at hy
  rcases y with _ | ⟨y27, y⟩
  · simp at hy
  rcases y with _ | ⟨y28, y⟩
  · simp at hy
  rcases y with _ | ⟨y29, y⟩
  · simp at hy
  rcases y with _ | ⟨y30, y⟩
  · simp at hy
  rcases y with _ | ⟨y31, y⟩
  · simp at hy
  rcases y with _ | ⟨_, _⟩
  rotate_left
  · simp at hy
  kernel_rfl
theorem run_build_C {P : Program} {w : World} {ρ : Operand → Value} {o : Oper} (T : TypeId) (xs : Array (Nat × Operand)) (ho : o.op = .build T xs) (L : List (Nat × Value)) (hL : (xs.map fun (i, x) => (i, ρ x)).toList = L) (Y Z : Array Value) (hb : P.built T L = some Y) (hZ : Y = Z) : (execOp ρ o).run P w = .ok (.value (.agg Z)) w := by
  subst hZ
  unfold execOp
  simp only [ho, Sem.run_bind, Sem.run_pure]
  rw [run_build w T _ Y (by rw [hL]; exact hb)]
  rfl
theorem rdK {w : World} {b : Nat} {l : List UInt8} (h : Blk w b (u8A l) 23) : Rd w w.heap.size (some ⟨b, 0, none⟩) l := Rd.of_range h.lt (fun j v hv => by rw [Nat.zero_add, h.cell j]; unfold u8A; rw [List.getElem?_toArray]; exact hv)

set_option maxHeartbeats 8000000 in
theorem prenewal_any {w : World} {cl ix : List UInt8} {server : Int} (hc : cl.length = 16) (hi : ix.length = 16) (hsv : server ≤ 9223372036854775807) (htab : Pow10 w.heap.size w) :
    Calls Tryd.prog 26 #[.agg (u8A cl), .agg (u8A ix), .int .i64 server] w fun e w' => e = .returned (.agg (u8A (ren13 cl ix server))) ∧ Below w.heap.size w w' := by
  obtain ⟨CL, hCL⟩ : ∃ x, u8A cl = x := ⟨_, rfl⟩
  obtain ⟨IX, hIX⟩ : ∃ x, u8A ix = x := ⟨_, rfl⟩
  obtain ⟨K, hK⟩ : ∃ x, u8A (ren13 cl ix server) = x := ⟨_, rfl⟩
  obtain ⟨pa, hpa⟩ : ∃ x, put2 server = x := ⟨_, rfl⟩
  have HPL := Lib.hid (show pa.length = 2 by rw [← hpa]; exact put2_len _)
  have HPA := Lib.hid (fun W => (show Calls Tryd.prog 40 #[.int .i64 server, .int .i64 2] W fun e w' => ∃ A c, e = .returned (.slice A 2 c) ∧ 2 ≤ c ∧ c ≤ maxLen ∧ Rd w' w'.heap.size A pa ∧ Below W.heap.size W w' from by rw [← hpa]; exact pput2 server W hsv))
  have HLE := Lib.hid (And.intro hc hi)
  have HTG := Lib.hid (fun (g : Nat) (W : World) (hW : Below w.heap.size w W) (hr : RdR W W.heap.size (some ⟨g, 0, none⟩) [cl, ix, pa]) => (show Calls Tryd.prog 15 #[.string ⟨#[114, 101, 110, 101, 119]⟩, .slice (some ⟨g, 0, none⟩) 3 3] W fun e w' => e = .returned (.agg K) ∧ Below W.heap.size W w' from by
    have h := short_any renTag (some ⟨g, 0, none⟩) 3 3 [cl, ix, pa] W (by decide) rfl (by decide) (fun r h => by
      have h2 := HPL.out
      simp at h
      rcases h with rfl | rfl | rfl <;> omega) hr (tab_on htab hW hW.size)
    rw [← hK]
    unfold ren13 short13
    rw [hpa]
    exact h))
  have HZK := Lib.hid (show K.size = 16 ∧ K.all (·.oneCell') = true by rw [← hK]; exact ⟨by rw [u8A_size]; exact short13_len _ _, u8A_one _⟩)
  have HCL := Lib.hid hCL
  have HIX := Lib.hid hIX
  rw [hCL, hIX, hK]
  clear hCL hIX hK hpa hc hi htab
  go_enter Tryd.func26, Tryd.ntmps26
  go_upto_region 1 with fail
  generalize hwa : World.alloc _ _ = w1
  obtain ⟨g3, h3⟩ : ∃ g, w.heap.size = g := ⟨_, rfl⟩
  obtain ⟨g4, h4⟩ : ∃ g, w.heap.size + 1 = g := ⟨_, rfl⟩
  obtain ⟨r, hr⟩ : ∃ g, w.heap.size + 2 = g := ⟨_, rfl⟩
  have hst : Blk w1 g3 CL 23 ∧ Blk w1 g4 IX 23 ∧ (∃ rs, Blk w1 r rs 23 ∧ rs.size = 16) ∧ Below w.heap.size w w1 := by
    obtain ⟨Y, hY, hz⟩ : ∃ Y : Array Value, w1 = ((w.alloc (.cells CL 23)).alloc (.cells IX 23)).alloc (.cells Y 23) ∧ Y.size = 16 := ⟨_, hwa.symm, rfl⟩
    have hs1 : (w.alloc (.cells CL 23)).heap.size = w.heap.size + 1 := by simp
    have hs2 : ((w.alloc (.cells CL 23)).alloc (.cells IX 23)).heap.size = w.heap.size + 2 := by simp
    rw [hY, ← h3, ← h4, ← hr]
    exact ⟨((Blk.new _ _ _).alloc _).alloc _, by rw [← hs1]; exact (Blk.new _ _ _).alloc _, ⟨Y, by rw [← hs2]; exact Blk.new _ _ _, hz⟩, (((Below.refl _ _).alloc (Nat.le_refl _) _).alloc (by simp) _).alloc (by simp; omega) _⟩
  have HNE := Lib.hid (show w.heap.size ≤ r by omega)
  rw [hr, h4, h3]
  obtain ⟨rs, hrs, hrz⟩ := hst.2.2.1
  have HRS := Lib.hid hrs
  have HRZ := Lib.hid hrz
  have HBW := Lib.hid hst.2.2.2
  have HR3 := Lib.hid (fun W (h : Below w1.heap.size w1 W) => rdK (HCL.out ▸ hst.1.below h hst.1.lt : Blk W g3 (u8A cl) 23))
  have HR4 := Lib.hid (fun W (h : Below w1.heap.size w1 W) => rdK (HIX.out ▸ hst.2.1.below h hst.2.1.lt : Blk W g4 (u8A ix) 23))
  have HB := Lib.hid h3
  clear hwa h3 h4 hr hst hrs hrz HCL HIX
  refine wp_region_loose 6 1 (fun i => false) (promises [.is (.slice (some ⟨g3, 0, none⟩) 16 16), .is (.slice (some ⟨g4, 0, none⟩) 16 16), .is (.int .i64 server), .bycC 2 pa, .rows 3 [cl, ix, pa], .is (.agg K)]) (by kernel_rfl) rfl (by kernel_rfl) (fun i v w w' h hb => Spec.keep h hb) ⟨?_, ?_, ?_, ?_, ?_, ?_, trivial⟩ ?_
  · refine StepOKl.of ?_
    intro ac w hb hu hk
    refine ⟨wanted_none rfl, ?_⟩
    have e3 : ac.eval (.tmp 3) = .pointer (some ⟨g3, 0, none⟩) := hu.is (t := 3) (by kernel_rfl)
    refine step_value (w' := w) (v := .slice (some ⟨g3, 0, none⟩) 16 16) ?_ (Below.refl _ _) rfl
    generalize ac.eval = ρ at e3 ⊢
    go_simp
  · refine StepOKl.of ?_
    intro ac w hb hu hk
    refine ⟨wanted_none rfl, ?_⟩
    have e4 : ac.eval (.tmp 4) = .pointer (some ⟨g4, 0, none⟩) := hu.is (t := 4) (by kernel_rfl)
    refine step_value (w' := w) (v := .slice (some ⟨g4, 0, none⟩) 16 16) ?_ (Below.refl _ _) rfl
    generalize ac.eval = ρ at e4 ⊢
    go_simp
  · refine StepOKl.of ?_
    intro ac w hb hu hk
    refine ⟨wanted_none rfl, ?_⟩
    have e2 : ac.eval (.tmp 2) = .int .i64 server := hu.is (t := 2) (by kernel_rfl)
    exact step_value (BigFrame.run_move (.tmp 2) rfl w) (Below.refl _ _) e2
  · refine StepOKl.of ?_
    intro ac w hb hu hk
    refine ⟨wanted_none rfl, ?_⟩
    have e9 : ac.eval (.tmp 9) = (.int .i64 server) := (hk ⟨2, .data⟩ (by simp) rfl).is rfl rfl
    have ef : ac.eval (.func 40) = .func (.func 40) #[] #[] := rfl
    have ec : ac.eval (.const (.int .i64 2)) = .int .i64 2 := rfl
    refine step_enter (f := 40) (args := #[.int .i64 server, .int .i64 2]) ?_ ?_
    · generalize ac.eval = ρ at e9 ec ef ⊢
      go_simp
    · exact (HPA.out w).mono fun e w' ⟨A, c, he, hc, hm, hr, hq⟩ => ⟨_, he, ⟨A, c, rfl, hc, hm, hr⟩, hq⟩
  · refine StepOKl.of ?_
    intro ac w hb hu hk
    refine ⟨wanted_none rfl, ?_⟩
    have e7 : ac.eval (.tmp 7) = (.slice (some ⟨g3, 0, none⟩) 16 16) := (hk ⟨0, .data⟩ (by simp) rfl).is rfl rfl
    have e8 : ac.eval (.tmp 8) = (.slice (some ⟨g4, 0, none⟩) 16 16) := (hk ⟨1, .data⟩ (by simp) rfl).is rfl rfl
    have e10 : ∃ X c, ac.eval (.tmp 10) = .slice X 2 c ∧ 2 ≤ c ∧ c ≤ maxLen ∧ Rd w w.heap.size X pa := (hk ⟨3, .data⟩ (by simp) rfl).is rfl rfl
    obtain ⟨B, d, eB, hcB, hmB, hrB⟩ := e10
    refine step_value (w' := w.alloc (.cells #[.slice (some ⟨g3, 0, none⟩) 16 16, .slice (some ⟨g4, 0, none⟩) 16 16, .slice B 2 d] 26)) (v := .slice (some ⟨w.heap.size, 0, none⟩) 3 3) ?_ ((Below.refl _ _).alloc (Nat.le_refl _) _) ⟨w.heap.size, rfl, rdr_threeC w _ _ _ HLE.out.1 HLE.out.2 HPL.out (by decide) (by decide) (by decide) (by decide) hcB hmB (HR3.out w hb) (HR4.out w hb) hrB⟩
    generalize ac.eval = ρ at e7 e8 eB ⊢
    go_simp
  · refine StepOKl.of ?_
    intro ac w hb hu hk
    refine ⟨wanted_none rfl, ?_⟩
    have e11 : ∃ g, ac.eval (.tmp 11) = .slice (some ⟨g, 0, none⟩) 3 3 ∧ RdR w w.heap.size (some ⟨g, 0, none⟩) [cl, ix, pa] := (hk ⟨4, .data⟩ (by simp) rfl).is rfl rfl
    obtain ⟨g, eg, hr⟩ := e11
    have ef : ac.eval (.func 15) = .func (.func 15) #[] #[] := rfl
    have es : ac.eval (.const (.string ⟨#[114, 101, 110, 101, 119]⟩)) = .string ⟨#[114, 101, 110, 101, 119]⟩ := rfl
    refine step_enter (f := 15) (args := #[.string ⟨#[114, 101, 110, 101, 119]⟩, .slice (some ⟨g, 0, none⟩) 3 3]) ?_ ?_
    · generalize ac.eval = ρ at eg es ef ⊢
      go_simp
    · exact (HTG.out g w (HBW.out.trans (hb.mono HBW.out.size)) hr).mono fun e w' ⟨he, hq⟩ => ⟨_, he, rfl, hq⟩
  · intro ac w' hb hu hk hap
    obtain ⟨_, h7, rfl⟩ := (hk 0 (by decide)).put rfl rfl
    obtain ⟨_, h8, rfl⟩ := (hk 1 (by decide)).put rfl rfl
    obtain ⟨_, h9, rfl⟩ := (hk 2 (by decide)).put rfl rfl
    obtain ⟨_, h10, ⟨X10, xc10, rfl, hxc10, hX10⟩⟩ := (hk 3 (by decide)).put rfl rfl
    obtain ⟨_, h11, ⟨g11, rfl, hG11⟩⟩ := (hk 4 (by decide)).put rfl rfl
    obtain ⟨_, h12, rfl⟩ := (hk 5 (by decide)).put rfl rfl
    clear hap
    have hF : AllPuts ac.tmps ((7, _) :: (8, _) :: (9, _) :: (10, _) :: (11, _) :: (12, _) :: []) := ⟨h7, h8, h9, h10, h11, h12, trivial⟩
    obtain rfl := frame_puts hu (by kernel_rfl) hF
    simp only [puts, Act.put, List.setIfInBounds_toArray, List.set_cons_zero, List.set_cons_succ, List.drop_succ_cons, List.drop_zero]
    clear hk hu hF h7 h8 h9 h10 h11 h12
    have HRS2 := Lib.hid (HRS.out.below hb HRS.out.lt)
    have HBE := Lib.hid (HBW.out.trans (hb.mono HBW.out.size))
    clear hb HPA HTG HR3 HR4 HRS
    go_wp2_with (with_reducible refine wpList_store_blkTo rfl 23 (.tmp 6) (.tmp 12) rfl rfl r K rfl rfl 23 rs HRS2.out (by rw [HZK.out.1]; kernel_rfl) (by rw [HZK.out.1, HRZ.out]) HZK.out.2 ?_)
    have hs := below_row HBE.out HBE.out.size HNE.out K
    refine bodyPost_ret (v := .agg K) (results_cell_row (p := 6) (ty := 23) (by kernel_rfl) _ _ r 23 _ (0, 0) _ rfl (HRS2.out.row K) Tryd.underlying23 rfl (by rw [HZK.out.1]; kernel_rfl)) rfl ⟨rfl, by first | exact hs | (rw [← HB.out]; exact hs)⟩

set_option maxHeartbeats 8000000 in
theorem rrenewal_any {w : World} {cl ix : List UInt8} {server : Int} (hc : cl.length = 16) (hi : ix.length = 16) (hsv : server ≤ 9223372036854775807) :
    Calls Tryd.prog 27 #[.agg (u8A cl), .agg (u8A ix), .int .i64 server] w fun e w' => e = .returned (.agg (u8A (ren13 cl ix server))) ∧ Below w.heap.size w w' := by
  obtain ⟨CL, hCL⟩ : ∃ x, u8A cl = x := ⟨_, rfl⟩
  obtain ⟨IX, hIX⟩ : ∃ x, u8A ix = x := ⟨_, rfl⟩
  obtain ⟨K, hK⟩ : ∃ x, u8A (ren13 cl ix server) = x := ⟨_, rfl⟩
  obtain ⟨pa, hpa⟩ : ∃ x, put2 server = x := ⟨_, rfl⟩
  have HPL := Lib.hid (show pa.length = 2 by rw [← hpa]; exact put2_len _)
  have HPA := Lib.hid (fun W => (show Calls Tryd.prog 49 #[.int .i64 server, .int .i64 2] W fun e w' => ∃ A c, e = .returned (.slice A 2 c) ∧ 2 ≤ c ∧ c ≤ maxLen ∧ Rd w' w'.heap.size A pa ∧ Below W.heap.size W w' from by rw [← hpa]; exact rput2 server W hsv))
  have HLE := Lib.hid (And.intro hc hi)
  have HTG := Lib.hid (fun (g : Nat) (W : World) (hr : RdR W W.heap.size (some ⟨g, 0, none⟩) [cl, ix, pa]) => (show Calls Tryd.prog 46 #[.string ⟨#[114, 101, 110, 101, 119]⟩, .slice (some ⟨g, 0, none⟩) 3 3] W fun e w' => e = .returned (.agg K) ∧ Below W.heap.size W w' from by
    have h := rshort_any renTag (some ⟨g, 0, none⟩) 3 3 [cl, ix, pa] W (by decide) rfl (by decide) (fun r h => by
      have h2 := HPL.out
      simp at h
      rcases h with rfl | rfl | rfl <;> omega) hr
    rw [← hK]
    unfold ren13 short13
    rw [hpa]
    exact h))
  have HZK := Lib.hid (show K.size = 16 ∧ K.all (·.oneCell') = true by rw [← hK]; exact ⟨by rw [u8A_size]; exact short13_len _ _, u8A_one _⟩)
  have HCL := Lib.hid hCL
  have HIX := Lib.hid hIX
  rw [hCL, hIX, hK]
  clear hCL hIX hK hpa hc hi
  go_enter Tryd.func27, Tryd.ntmps27
  go_upto_region 1 with fail
  generalize hwa : World.alloc _ _ = w1
  obtain ⟨g3, h3⟩ : ∃ g, w.heap.size = g := ⟨_, rfl⟩
  obtain ⟨g4, h4⟩ : ∃ g, w.heap.size + 1 = g := ⟨_, rfl⟩
  obtain ⟨r, hr⟩ : ∃ g, w.heap.size + 2 = g := ⟨_, rfl⟩
  have hst : Blk w1 g3 CL 23 ∧ Blk w1 g4 IX 23 ∧ (∃ rs, Blk w1 r rs 23 ∧ rs.size = 16) ∧ Below w.heap.size w w1 := by
    obtain ⟨Y, hY, hz⟩ : ∃ Y : Array Value, w1 = ((w.alloc (.cells CL 23)).alloc (.cells IX 23)).alloc (.cells Y 23) ∧ Y.size = 16 := ⟨_, hwa.symm, rfl⟩
    have hs1 : (w.alloc (.cells CL 23)).heap.size = w.heap.size + 1 := by simp
    have hs2 : ((w.alloc (.cells CL 23)).alloc (.cells IX 23)).heap.size = w.heap.size + 2 := by simp
    rw [hY, ← h3, ← h4, ← hr]
    exact ⟨((Blk.new _ _ _).alloc _).alloc _, by rw [← hs1]; exact (Blk.new _ _ _).alloc _, ⟨Y, by rw [← hs2]; exact Blk.new _ _ _, hz⟩, (((Below.refl _ _).alloc (Nat.le_refl _) _).alloc (by simp) _).alloc (by simp; omega) _⟩
  have HNE := Lib.hid (show w.heap.size ≤ r by omega)
  rw [hr, h4, h3]
  obtain ⟨rs, hrs, hrz⟩ := hst.2.2.1
  have HRS := Lib.hid hrs
  have HRZ := Lib.hid hrz
  have HBW := Lib.hid hst.2.2.2
  have HR3 := Lib.hid (fun W (h : Below w1.heap.size w1 W) => rdK (HCL.out ▸ hst.1.below h hst.1.lt : Blk W g3 (u8A cl) 23))
  have HR4 := Lib.hid (fun W (h : Below w1.heap.size w1 W) => rdK (HIX.out ▸ hst.2.1.below h hst.2.1.lt : Blk W g4 (u8A ix) 23))
  have HB := Lib.hid h3
  clear hwa h3 h4 hr hst hrs hrz HCL HIX
  refine wp_region_loose 6 1 (fun i => false) (promises [.is (.slice (some ⟨g3, 0, none⟩) 16 16), .is (.slice (some ⟨g4, 0, none⟩) 16 16), .is (.int .i64 server), .bycC 2 pa, .rows 3 [cl, ix, pa], .is (.agg K)]) (by kernel_rfl) rfl (by kernel_rfl) (fun i v w w' h hb => Spec.keep h hb) ⟨?_, ?_, ?_, ?_, ?_, ?_, trivial⟩ ?_
  · refine StepOKl.of ?_
    intro ac w hb hu hk
    refine ⟨wanted_none rfl, ?_⟩
    have e3 : ac.eval (.tmp 3) = .pointer (some ⟨g3, 0, none⟩) := hu.is (t := 3) (by kernel_rfl)
    refine step_value (w' := w) (v := .slice (some ⟨g3, 0, none⟩) 16 16) ?_ (Below.refl _ _) rfl
    generalize ac.eval = ρ at e3 ⊢
    go_simp
  · refine StepOKl.of ?_
    intro ac w hb hu hk
    refine ⟨wanted_none rfl, ?_⟩
    have e4 : ac.eval (.tmp 4) = .pointer (some ⟨g4, 0, none⟩) := hu.is (t := 4) (by kernel_rfl)
    refine step_value (w' := w) (v := .slice (some ⟨g4, 0, none⟩) 16 16) ?_ (Below.refl _ _) rfl
    generalize ac.eval = ρ at e4 ⊢
    go_simp
  · refine StepOKl.of ?_
    intro ac w hb hu hk
    refine ⟨wanted_none rfl, ?_⟩
    have e2 : ac.eval (.tmp 2) = .int .i64 server := hu.is (t := 2) (by kernel_rfl)
    exact step_value (BigFrame.run_move (.tmp 2) rfl w) (Below.refl _ _) e2
  · refine StepOKl.of ?_
    intro ac w hb hu hk
    refine ⟨wanted_none rfl, ?_⟩
    have e9 : ac.eval (.tmp 9) = (.int .i64 server) := (hk ⟨2, .data⟩ (by simp) rfl).is rfl rfl
    have ef : ac.eval (.func 49) = .func (.func 49) #[] #[] := rfl
    have ec : ac.eval (.const (.int .i64 2)) = .int .i64 2 := rfl
    refine step_enter (f := 49) (args := #[.int .i64 server, .int .i64 2]) ?_ ?_
    · generalize ac.eval = ρ at e9 ec ef ⊢
      go_simp
    · exact (HPA.out w).mono fun e w' ⟨A, c, he, hc, hm, hr, hq⟩ => ⟨_, he, ⟨A, c, rfl, hc, hm, hr⟩, hq⟩
  · refine StepOKl.of ?_
    intro ac w hb hu hk
    refine ⟨wanted_none rfl, ?_⟩
    have e7 : ac.eval (.tmp 7) = (.slice (some ⟨g3, 0, none⟩) 16 16) := (hk ⟨0, .data⟩ (by simp) rfl).is rfl rfl
    have e8 : ac.eval (.tmp 8) = (.slice (some ⟨g4, 0, none⟩) 16 16) := (hk ⟨1, .data⟩ (by simp) rfl).is rfl rfl
    have e10 : ∃ X c, ac.eval (.tmp 10) = .slice X 2 c ∧ 2 ≤ c ∧ c ≤ maxLen ∧ Rd w w.heap.size X pa := (hk ⟨3, .data⟩ (by simp) rfl).is rfl rfl
    obtain ⟨B, d, eB, hcB, hmB, hrB⟩ := e10
    refine step_value (w' := w.alloc (.cells #[.slice (some ⟨g3, 0, none⟩) 16 16, .slice (some ⟨g4, 0, none⟩) 16 16, .slice B 2 d] 26)) (v := .slice (some ⟨w.heap.size, 0, none⟩) 3 3) ?_ ((Below.refl _ _).alloc (Nat.le_refl _) _) ⟨w.heap.size, rfl, rdr_threeC w _ _ _ HLE.out.1 HLE.out.2 HPL.out (by decide) (by decide) (by decide) (by decide) hcB hmB (HR3.out w hb) (HR4.out w hb) hrB⟩
    generalize ac.eval = ρ at e7 e8 eB ⊢
    go_simp
  · refine StepOKl.of ?_
    intro ac w hb hu hk
    refine ⟨wanted_none rfl, ?_⟩
    have e11 : ∃ g, ac.eval (.tmp 11) = .slice (some ⟨g, 0, none⟩) 3 3 ∧ RdR w w.heap.size (some ⟨g, 0, none⟩) [cl, ix, pa] := (hk ⟨4, .data⟩ (by simp) rfl).is rfl rfl
    obtain ⟨g, eg, hr⟩ := e11
    have ef : ac.eval (.func 46) = .func (.func 46) #[] #[] := rfl
    have es : ac.eval (.const (.string ⟨#[114, 101, 110, 101, 119]⟩)) = .string ⟨#[114, 101, 110, 101, 119]⟩ := rfl
    refine step_enter (f := 46) (args := #[.string ⟨#[114, 101, 110, 101, 119]⟩, .slice (some ⟨g, 0, none⟩) 3 3]) ?_ ?_
    · generalize ac.eval = ρ at eg es ef ⊢
      go_simp
    · exact (HTG.out g w hr).mono fun e w' ⟨he, hq⟩ => ⟨_, he, rfl, hq⟩
  · intro ac w' hb hu hk hap
    obtain ⟨_, h7, rfl⟩ := (hk 0 (by decide)).put rfl rfl
    obtain ⟨_, h8, rfl⟩ := (hk 1 (by decide)).put rfl rfl
    obtain ⟨_, h9, rfl⟩ := (hk 2 (by decide)).put rfl rfl
    obtain ⟨_, h10, ⟨X10, xc10, rfl, hxc10, hX10⟩⟩ := (hk 3 (by decide)).put rfl rfl
    obtain ⟨_, h11, ⟨g11, rfl, hG11⟩⟩ := (hk 4 (by decide)).put rfl rfl
    obtain ⟨_, h12, rfl⟩ := (hk 5 (by decide)).put rfl rfl
    clear hap
    have hF : AllPuts ac.tmps ((7, _) :: (8, _) :: (9, _) :: (10, _) :: (11, _) :: (12, _) :: []) := ⟨h7, h8, h9, h10, h11, h12, trivial⟩
    obtain rfl := frame_puts hu (by kernel_rfl) hF
    simp only [puts, Act.put, List.setIfInBounds_toArray, List.set_cons_zero, List.set_cons_succ, List.drop_succ_cons, List.drop_zero]
    clear hk hu hF h7 h8 h9 h10 h11 h12
    have HRS2 := Lib.hid (HRS.out.below hb HRS.out.lt)
    have HBE := Lib.hid (HBW.out.trans (hb.mono HBW.out.size))
    clear hb HPA HTG HR3 HR4 HRS
    go_wp2_with (with_reducible refine wpList_store_blkTo rfl 23 (.tmp 6) (.tmp 12) rfl rfl r K rfl rfl 23 rs HRS2.out (by rw [HZK.out.1]; kernel_rfl) (by rw [HZK.out.1, HRZ.out]) HZK.out.2 ?_)
    have hs := below_row HBE.out HBE.out.size HNE.out K
    refine bodyPost_ret (v := .agg K) (results_cell_row (p := 6) (ty := 23) (by kernel_rfl) _ _ r 23 _ (0, 0) _ rfl (HRS2.out.row K) Tryd.underlying23 rfl (by rw [HZK.out.1]; kernel_rfl)) rfl ⟨rfl, by first | exact hs | (rw [← HB.out]; exact hs)⟩
end Go.Proofs.YtkkokngdhhakdaaDoor
