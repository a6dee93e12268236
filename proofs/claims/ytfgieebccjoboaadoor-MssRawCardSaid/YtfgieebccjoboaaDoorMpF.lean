/- The program's bytes of a signature. -/
import Derived.Test.YtfgieebccjoboaaDoorMssB
import Derived.Test.YtfgieebccjoboaaDoorMpD
import Derived.Test.YtfgieebccjoboaaDoorMpH
namespace Go.Proofs.YtfgieebccjoboaaDoor
open Go.RowKit

theorem pput2 (n : Int) (w : World) (hn : n ≤ 9223372036854775807) : Calls Tryd.prog 68 #[.int .i64 n, .int .i64 2] w fun e w' => ∃ A c, e = .returned (.slice A 2 c) ∧ 2 ≤ c ∧ c ≤ maxLen ∧ Rd w' w'.heap.size A (put2 n) ∧ Below w.heap.size w w' :=
  (put_any n 2 w hn).mono fun _ _ ⟨A, c, he, ho, hb⟩ => by
    have e4 : putW 2 = 2 := rfl
    rw [e4] at he ho
    obtain ⟨A', c', e, h1, h2⟩ := own_caps ho
    injection e with e1 e2 e3
    subst e1 e3
    exact ⟨A, c, he, h1, h2, Rd.of_own ho, hb⟩
theorem pput1o (n : Int) (w : World) (hn : n ≤ 9223372036854775807) : Calls Tryd.prog 68 #[.int .i64 n, .int .i64 1] w fun e w' => ∃ A c, e = .returned (.slice A 1 c) ∧ 1 ≤ c ∧ w'.ownsRow w.heap.size 5 1 (.slice A 1 c) 1 (Lib.byteCells (put1 n)) ∧ Below w.heap.size w w' :=
  (put_any n 1 w hn).mono fun _ _ ⟨A, c, he, ho, hb⟩ => by
    have e4 : putW 1 = 1 := rfl
    rw [e4] at he ho
    obtain ⟨A', c', e, h1, h2⟩ := own_caps ho
    injection e with e1 e2 e3
    subst e1 e3
    exact ⟨A, c, he, h1, ho, hb⟩
/-- A row of bytes is no row of hashes. -/
theorem row_apart {w : World} {B C n : Nat} {v u : Value} {xs : List Value} {hs : List (List UInt8)} (h1 : w.ownsRow B 5 1 v n xs) (h2 : OwnH w C u hs) : ∀ g, u.ownBlock = some g → v.ownBlock ≠ some g := by
  intro g hu hv
  rcases h1.2 with ⟨rfl, _⟩ | ⟨g1, cap, cur, rfl, _, k1, _⟩
  · cases hv
  · rcases h2.2.2 with ⟨e, _⟩ | ⟨g2, cap2, cur2, e, _, k2, _⟩
    · rw [e] at hu; cases hu
    · rw [e] at hu
      have e1 : g2 = g := Option.some.inj hu
      have e2 : g1 = g := Option.some.inj hv
      rw [e1, ← e2, k1] at k2
      injection k2 with k2
      injection k2 with _ k3 _
      exact absurd k3 (by decide)
theorem rdq_two {w : World} {V P : Option Addr} {nv cv np cp : Nat} {vs ps : List (List UInt8)} (hv : HV w (.slice V nv cv) vs) (hvl : vs.length = nv) (hp : HV w (.slice P np cp) ps) (hpl : ps.length = np) :
    RdQ (w.alloc (.cells #[.slice V nv cv, .slice P np cp] 33)) (w.alloc (.cells #[.slice V nv cv, .slice P np cp] 33)).heap.size (some ⟨w.heap.size, 0, none⟩) [vs, ps] := by
  subst hvl hpl
  have hal : Below w.heap.size w (w.alloc (.cells #[.slice V vs.length cv, .slice P ps.length cp] 33)) := (Below.refl _ _).alloc (Nat.le_refl _) _
  refine .inr ⟨w.heap.size, 0, rfl, (Blk.new w _ _).lt, fun i hi => ?_⟩
  have hb := (Blk.new w #[.slice V vs.length cv, .slice P ps.length cp] 33).cell i
  have hv2 := hv.on hal
  have hp2 := hp.on hal
  rw [Nat.zero_add]
  match i, hi with
  | 0, _ => exact ⟨V, cv, hb, by obtain ⟨_, X, d, e, h, _⟩ := hv; injection e with _ _ e; rw [e]; exact h, hv.1, hv2.rd8⟩
  | 1, _ => exact ⟨P, cp, hb, by obtain ⟨_, X, d, e, h, _⟩ := hp; injection e with _ _ e; rw [e]; exact h, hp.1, hp2.rd8⟩
set_option maxRecDepth 100000 in
set_option maxHeartbeats 8000000 in
theorem ppack9_any (sh sl : Int) (vs ps : List (List UInt8)) (V P : Option Addr) (nv cv np cp : Nat) (w : World) (hh : sh ≤ 9223372036854775807) (hl : sl ≤ 9223372036854775807) (hv : HV w (.slice V nv cv) vs) (hvl : vs.length = nv) (hp : HV w (.slice P np cp) ps) (hpl : ps.length = np) (hnv : nv ≤ 500) (hnp : np ≤ 500) :
    Calls Tryd.prog 33 #[.agg (sigA sh sl V P nv cv np cp)] w fun e w' => ∃ A c, e = .returned (.slice A (3 + 32 * (nv + np)) c) ∧ w'.ownsRow w.heap.size 5 1 (.slice A (3 + 32 * (nv + np)) c) (3 + 32 * (nv + np)) (Lib.byteCells (packL ⟨sh, sl, vs, ps⟩)) ∧ Below w.heap.size w w' := by
  obtain ⟨i0, hi, hz0, hz1, hz2⟩ := info_parts info5
  obtain ⟨PL, hPL⟩ : ∃ x, packL ⟨sh, sl, vs, ps⟩ = x := ⟨_, rfl⟩
  rw [hPL]
  obtain ⟨pa, hpa⟩ : ∃ x, put1 sh = x := ⟨_, rfl⟩
  obtain ⟨pb, hpb⟩ : ∃ x, put2 sl = x := ⟨_, rfl⟩
  obtain ⟨hs, hhs⟩ : ∃ x, [vs, ps].flatten = x := ⟨_, rfl⟩
  have hcat : flatL vs ++ flatL ps = flatL hs := by rw [← hhs]; simp [flatL]
  have HCAT := Lib.hid (show PL = pa ++ pb ++ flatL hs by
    rw [← hPL]
    unfold packL
    simp only
    rw [hpa, hpb, ← hcat, List.append_assoc (pa ++ pb)])
  clear hPL
  have HPL := Lib.hid (show pb.length = 2 by rw [← hpb]; exact put2_len _)
  obtain ⟨nn, hnn⟩ : ∃ nn, nv + np = nn := ⟨_, rfl⟩
  have HNL := Lib.hid (show hs.length = nn by rw [← hhs]; simp [hvl, hpl, hnn])
  have hnn1 : nn ≤ 1000 := by omega
  rw [hnn]
  go_enter Tryd.func33, Tryd.ntmps33
  go_upto_region 1 with fail
  generalize hw1 : World.alloc _ _ = w1
  obtain ⟨g1, hg1⟩ : ∃ g, w.heap.size = g := ⟨_, rfl⟩
  have hf : Blk w1 g1 #[.int .i64 sh, .int .i64 sl, .slice V nv cv, .slice P np cp] 35 ∧ Below w.heap.size w w1 := by
    rw [← hw1, ← hg1]
    exact ⟨Blk.new w _ _, (Below.refl _ _).alloc (Nat.le_refl _) _⟩
  have HBS := Lib.hid hf.1
  have HLT := Lib.hid hf.1.lt
  have HAL := Lib.hid hf.2
  have HBW := Lib.hid (Below.refl w1.heap.size w1)
  have HC0 := Lib.hid (fun W (hW : Below w1.heap.size w1 W) => (show W.cell? ⟨g1, 0, none⟩ = some (.int .i64 sh) by rw [(HBS.out.below hW HBS.out.lt).cell 0]; rfl))
  have HC1 := Lib.hid (fun W (hW : Below w1.heap.size w1 W) => (show W.cell? ⟨g1, 1, none⟩ = some (.int .i64 sl) by rw [(HBS.out.below hW HBS.out.lt).cell 1]; rfl))
  have HPA := Lib.hid (fun W (hW : Below w1.heap.size w1 W) => (show Calls Tryd.prog 68 #[.int .i64 sh, .int .i64 1] W fun e w' => ∃ A c, e = .returned (.slice A 1 c) ∧ 1 ≤ c ∧ w'.ownsRow w1.heap.size 5 1 (.slice A 1 c) 1 (Lib.byteCells pa) ∧ Below W.heap.size W w' from by
    rw [← hpa]
    refine (pput1o sh W hh).mono ?_
    rintro e w' ⟨A, c, he, hc, ho, hb⟩
    exact ⟨A, c, he, hc, own_baseK ho hW.size, hb⟩))
  have HPB := Lib.hid (fun W => (show Calls Tryd.prog 68 #[.int .i64 sl, .int .i64 2] W fun e w' => ∃ A c, e = .returned (.slice A 2 c) ∧ 2 ≤ c ∧ c ≤ maxLen ∧ Rd w' w'.heap.size A pb ∧ Below W.heap.size W w' from by rw [← hpb]; exact pput2 sl W hl))
  have HCC := Lib.hid (fun W (hW : Below w1.heap.size w1 W) => (show Calls Tryd.prog 69 #[.slice (some ⟨W.heap.size, 0, none⟩) 2 2] (W.alloc (.cells #[.slice V nv cv, .slice P np cp] 33)) fun e w' => ∃ v, e = .returned v ∧ OwnH w' (W.alloc (.cells #[.slice V nv cv, .slice P np cp] 33)).heap.size v hs ∧ Below (W.alloc (.cells #[.slice V nv cv, .slice P np cp] 33)).heap.size (W.alloc (.cells #[.slice V nv cv, .slice P np cp] 33)) w' from by
    have hb2 := HAL.out.trans (hW.mono HAL.out.size)
    have h := concat9_any (some ⟨W.heap.size, 0, none⟩) 2 2 nn _ [vs, ps] (W.alloc (.cells #[.slice V nv cv, .slice P np cp] 33)) rfl (by rw [hhs]; exact HNL.out) (by omega) (by decide) (Nat.le_refl _) (rdq_two (hv.on hb2) hvl (hp.on hb2) hpl)
    rw [hhs] at h
    exact h))
  clear hf hw1 hpa hpb hv hp hvl hpl hhs hcat hnn
  rw [hg1]
  clear hg1
  refine wp_region_loose 6 2 (fun i => false) (promises [.is (.pointer (some ⟨g1, 0, none⟩)), .is (.int .i64 sh), .ob w1.heap.size 1 pa, .is (.pointer (some ⟨g1, 1, none⟩)), .is (.int .i64 sl), .byc 2 pb]) (by kernel_rfl) rfl (by kernel_rfl) (fun i v w w' h hb => Spec.keep h hb) ⟨?_, ?_, ?_, ?_, ?_, ?_, trivial⟩ ?_
  · refine StepOKl.of ?_
    intro ac w hb hu hk
    refine ⟨wanted_none rfl, ?_⟩
    have e1 : ac.eval (.tmp 1) = .pointer (some ⟨g1, 0, none⟩) := hu.is (t := 1) (by kernel_rfl)
    refine step_value (w' := w) (v := (.pointer (some ⟨g1, 0, none⟩))) ?_ (Below.refl _ _) rfl
    generalize ac.eval = ρ at e1 ⊢
    go_simp
  · refine StepOKl.of ?_
    intro ac w hb hu hk
    refine ⟨wanted_none rfl, ?_⟩
    have e6 : ac.eval (.tmp 6) = (.pointer (some ⟨g1, 0, none⟩)) := (hk ⟨0, .data⟩ (by simp) rfl).is rfl rfl
    have hc := HC0.out w hb
    refine step_value (w' := w) (v := .int .i64 sh) ?_ (Below.refl _ _) rfl
    generalize ac.eval = ρ at e6 ⊢
    go_simp
  · refine StepOKl.of ?_
    intro ac w hb hu hk
    refine ⟨wanted_none rfl, ?_⟩
    have e7 : ac.eval (.tmp 7) = (.int .i64 sh) := (hk ⟨1, .data⟩ (by simp) rfl).is rfl rfl
    have ef : ac.eval (.func 68) = .func (.func 68) #[] #[] := rfl
    have ec : ac.eval (.const (.int .i64 1)) = .int .i64 1 := rfl
    refine step_enter (f := 68) (args := #[.int .i64 sh, .int .i64 1]) ?_ ?_
    · generalize ac.eval = ρ at e7 ec ef ⊢
      go_simp
    · exact (HPA.out w hb).mono fun e w' ⟨A, c, he, hc, ho, hq⟩ => ⟨_, he, ⟨A, c, rfl, hc, ho⟩, hq⟩
  · refine StepOKl.of ?_
    intro ac w hb hu hk
    refine ⟨wanted_none rfl, ?_⟩
    have e1 : ac.eval (.tmp 1) = .pointer (some ⟨g1, 0, none⟩) := hu.is (t := 1) (by kernel_rfl)
    refine step_value (w' := w) (v := (.pointer (some ⟨g1, 1, none⟩))) ?_ (Below.refl _ _) rfl
    generalize ac.eval = ρ at e1 ⊢
    go_simp
  · refine StepOKl.of ?_
    intro ac w hb hu hk
    refine ⟨wanted_none rfl, ?_⟩
    have e9 : ac.eval (.tmp 9) = (.pointer (some ⟨g1, 1, none⟩)) := (hk ⟨3, .data⟩ (by simp) rfl).is rfl rfl
    have hc := HC1.out w hb
    refine step_value (w' := w) (v := .int .i64 sl) ?_ (Below.refl _ _) rfl
    generalize ac.eval = ρ at e9 ⊢
    go_simp
  · refine StepOKl.of ?_
    intro ac w hb hu hk
    refine ⟨wanted_none rfl, ?_⟩
    have e10 : ac.eval (.tmp 10) = (.int .i64 sl) := (hk ⟨4, .data⟩ (by simp) rfl).is rfl rfl
    have ef : ac.eval (.func 68) = .func (.func 68) #[] #[] := rfl
    have ec : ac.eval (.const (.int .i64 2)) = .int .i64 2 := rfl
    refine step_enter (f := 68) (args := #[.int .i64 sl, .int .i64 2]) ?_ ?_
    · generalize ac.eval = ρ at e10 ec ef ⊢
      go_simp
    · exact (HPB.out w).mono fun e w' ⟨A, c, he, hc, hm, hr, hq⟩ => ⟨_, he, ⟨A, c, rfl, hc, hm, hr⟩, hq⟩
  · intro ac w' hb hu hk hap
    obtain ⟨_, h6, rfl⟩ := (hk 0 (by decide)).put rfl rfl
    obtain ⟨_, h7, rfl⟩ := (hk 1 (by decide)).put rfl rfl
    obtain ⟨_, h8, ⟨X8, xc8, rfl, hxc8, hX8⟩⟩ := (hk 2 (by decide)).put rfl rfl
    obtain ⟨_, h9, rfl⟩ := (hk 3 (by decide)).put rfl rfl
    obtain ⟨_, h10, rfl⟩ := (hk 4 (by decide)).put rfl rfl
    obtain ⟨_, h11, ⟨X11, xc11, rfl, hxc11, hX11⟩⟩ := (hk 5 (by decide)).put rfl rfl
    clear hap
    have hF : AllPuts ac.tmps ((6, _) :: (7, _) :: (8, _) :: (9, _) :: (10, _) :: (11, _) :: []) := ⟨h6, h7, h8, h9, h10, h11, trivial⟩
    obtain rfl := frame_puts hu (by kernel_rfl) hF
    simp only [puts, Act.put, List.setIfInBounds_toArray, List.set_cons_zero, List.set_cons_succ, List.drop_succ_cons, List.drop_zero]
    clear hk hu hF h6 h7 h8 h9 h10 h11
    have hcs := HBS.out.below hb HBS.out.lt
    replace HBS := Lib.hid hcs
    replace HBW := Lib.hid (hb)
    have HO5 := Lib.hid hX8
    have HR5 := Lib.hid hX11
    have hs2 := HBS.out.cell 2
    have hs3 := HBS.out.cell 3
    simp at hs2 hs3
    clear hb hcs hX8 hX11 HPA HPB HC0 HC1
    go_wp2_with (at_builtin; refine wpList_append_rd rfl _ _ 24 rfl w1.heap.size 5 i0 Tryd.underlying24 hi hz0 hz1 hz2 _ 1 _ rfl HO5.out _ X11 2 xc11 pb rfl HPL.out HR5.out.2 (by omega) HBW.out.size ?_)
    intro v5 w5 hown5 hg5
    rw [← Lib.byteCells_append] at hown5
    obtain ⟨A5, c5, rfl, _⟩ := own_slice hown5
    have hbn := (Below.refl w1.heap.size w').grown hg5 HBW.out.size (fun q hq => (HO5.out.lt q hq).1)
    replace HBS := Lib.hid (HBS.out.below hbn HLT.out)
    replace HBW := Lib.hid (HBW.out.trans hbn)
    obtain ⟨pc, hpc⟩ : ∃ x, pa ++ pb = x := ⟨_, rfl⟩
    rw [hpc] at hown5 HCAT
    have HO := Lib.hid hown5
    have hs2 := HBS.out.cell 2
    have hs3 := HBS.out.cell 3
    simp at hs2 hs3
    clear hown5 hg5 hbn HO5 HR5 hpc
    go_upto_region 2 with fail
    go_wp2_with fail
    have hal6 : Below w5.heap.size w5 (w5.alloc (.cells #[.slice V nv cv, .slice P np cp] 33)) := (Below.refl _ _).alloc (Nat.le_refl _) _
    have HHC := Lib.hid (HCC.out w5 HBW.out)
    with_reducible refine (HHC.out).mono ?_
    rintro e w6 ⟨v6, rfl, hown6, hb6⟩
    have hb56 := hal6.trans (hb6.mono (by simp))
    obtain ⟨A6, c6, rfl, _, _⟩ := hown6.form HNL.out
    replace HO := Lib.hid (own_keepK HO.out hb56)
    replace HBW := Lib.hid (HBW.out.trans (hb56.mono HBW.out.size))
    have HQ6 := Lib.hid hown6
    clear hown6 hb6 hb56 hal6 HHC HCC hs2 hs3 HBS
    go_wp2_with fail
    go_loopw [3, 20] (fun v t wq => ∃ (k L : Nat) (A' : Option Addr) (cc : Nat), k ≤ nn ∧ Hid (L = 3 + 32 * k) ∧ t = .int .i64 (k : Int) ∧ v = .slice A' L cc ∧ Hid (wq.ownsRow w1.heap.size 5 1 (.slice A' L cc) L (Lib.byteCells (pc ++ flatL (hs.take k)))) ∧ Hid (Below w1.heap.size w1 wq) ∧ Hid (OwnH wq (w5.alloc (.cells #[.slice V nv cv, .slice P np cp] 33)).heap.size (.slice A6 nn c6) hs)) (fun _ t _ => nn - (intOf t).toNat)
    case atStart => exact ⟨0, 3, A5, c5, Nat.zero_le _, Lib.hid rfl, rfl, rfl, Lib.hid (by have := HO.out; simpa [flatL] using this), HBW, HQ6⟩
    case round =>
      clear HO HQ6
      obtain ⟨k, L, A', cc, hk, HLK, rfl, rfl, HO, HB, HQ⟩ := hrel
      by_cases hlt : k < nn
      · have hki : (k : Int) < (nn : Int) := by omega
        have hkl : k < hs.length := by rw [HNL.out]; exact hlt
        have HST := Lib.hid (flatL_take hkl)
        obtain ⟨b, off, rfl, hbs, hra, hxl⟩ := HQ.out.hv.at_ (i := k) hlt
        have hg : hs.getD k [] = hs[k] := by simp [List.getD_eq_getElem?_getD, hkl]
        rw [hg] at hra hxl
        obtain ⟨x, hx⟩ : ∃ x, hs[k] = x := ⟨_, rfl⟩
        rw [hx] at hra HST hxl
        obtain ⟨Y, hY⟩ : ∃ X, u8A x = X := ⟨_, rfl⟩
        have HYE := Lib.hid hY
        have hrk := hra
        have HYZ := Lib.hid (show Y.size = 32 by rw [← hY, u8A_size]; exact hxl)
        have HYO := Lib.hid (show Y.all (·.oneCell') = true by rw [← hY]; exact u8A_one _)
        have hsz := HB.out.size
        have hL : L ≤ 40000 := by have := HLK.out; omega
        have HXL := Lib.hid hxl
        have HRX := Lib.hid hrk
        clear hra hx hY hg hxl hrk
        go_upto_region 5 with (first
          | (with_reducible refine wpList_load_hash rfl (.tmp 22) rfl b (off + k * 32) rfl x HXL.out HRX.out Y HYE.out ?_)
          | (with_reducible refine wpList_store_blk rfl 29 (.tmp 5) (.tmp 23) rfl wr.heap.size Y rfl rfl 29 _ (Blk.new _ _ _) (by rw [HYZ.out]; kernel_rfl) (by rw [HYZ.out]; kernel_rfl) HYO.out ?_))
        generalize hwn : World.setRow _ _ _ = w9
        have hal : Below wr.heap.size wr w9 := by
          rw [← hwn]
          exact below_row ((Below.refl _ _).alloc (Nat.le_refl _) _) (by simp) (Nat.le_refl _) _
        have hb9 : Blk w9 wr.heap.size (u8A x) 29 := by
          rw [← hwn, HYE.out]
          exact (Blk.new _ _ _).row _
        have HRD := Lib.hid (show Rd w9 w9.heap.size (some ⟨wr.heap.size, 0, none⟩) x from rd_of_blk hb9)
        replace HO := Lib.hid (own_keepK HO.out hal)
        replace HQ := Lib.hid (HQ.out.on hal)
        replace HB := Lib.hid (HB.out.trans (hal.mono HB.out.size))
        have hsz9 : w1.heap.size ≤ w9.heap.size := HB.out.size
        clear hal hwn hb9 HRX
        go_wp2_with (at_builtin; refine wpList_append_rd rfl _ _ 24 rfl w1.heap.size 5 i0 Tryd.underlying24 hi hz0 hz1 hz2 _ L _ rfl HO.out _ (some ⟨wr.heap.size, 0, none⟩) 32 32 x rfl HXL.out HRD.out (by omega) hsz9 ?_)
        intro v5 w5 hown5 hg5
        rw [← Lib.byteCells_append, List.append_assoc, ← HST.out] at hown5
        obtain ⟨A5, c5, rfl, _⟩ := own_slice hown5
        have HB5 := Lib.hid (HB.out.grown hg5 hsz9 (fun q hq => (HO.out.lt q hq).1))
        have HQ5 := Lib.hid (HQ.out.apart hg5 (row_apart HO.out HQ.out))
        have HO5 := Lib.hid hown5
        clear hown5 hg5 HO HB HRD HQ
        go_wp2_with fail
        go_roundw
        case rel => exact ⟨k + 1, L + 32, A5, c5, hlt, Lib.hid (by have := HLK.out; omega), by go_num, rfl, HO5, HB5, HQ5⟩
        case measure => simp [intOf]; omega
      · obtain rfl : k = nn := by omega
        have hni : ¬ (k : Int) < (k : Int) := by omega
        rw [List.take_of_length_le (by rw [HNL.out]; exact Nat.le_refl _)] at HO
        have HOE := Lib.hid (own_baseK HO.out HAL.out.size)
        have HBE := Lib.hid (HAL.out.trans (HB.out.mono HAL.out.size))
        obtain rfl := HLK.out
        clear HO HB HQ
        go_wp2_with fail
        go_ret
        exact ⟨A', cc, rfl, by rw [HCAT.out]; exact HOE.out, HBE.out⟩
end Go.Proofs.YtfgieebccjoboaaDoor
