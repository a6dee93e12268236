/- MssRaw: of any signature at all: whether it is right, its bytes; of any bytes at all: which signature they are. For all of them. -/
import Derived.Test.YtfgieebccjoboaaDoorLaw
import Derived.Test.YtfgieebccjoboaaDoorLaw9
import Derived.Test.YtfgieebccjoboaaDoorOpenSg
import Derived.Test.YtfgieebccjoboaaDoorMpI
import Derived.Test.YtfgieebccjoboaaDoorMpF
import Derived.Test.YtfgieebccjoboaaDoorMssU
import Derived.Test.YtfgieebccjoboaaDoorMssV
import Derived.Test.YtfgieebccjoboaaDoorHashC
import Derived.Test.YtfgieebccjoboaaDoorHashD
namespace Go.Proofs.YtfgieebccjoboaaDoor.mssRaw
open Go.ChangeShapes Go.WideShapes Go.ChangeAt Go.RowKit

theorem blk_ne9 {w : World} {g g' : Nat} {X Y : Array Value} {T T' : TypeId} (h : Blk w g X T) (h' : Blk w g' Y T') (hT : T ≠ T') : g ≠ g' := by
  rintro rfl
  have a : w.heap[g]? = some (.cells X T (0, 0)) := h
  have b : w.heap[g]? = some (.cells Y T' (0, 0)) := h'
  rw [a] at b
  injection b with b
  injection b with _ e
  exact hT e
theorem hv_cut9 {w : World} {X : Option Addr} {n c : Nat} {hs : List (List UInt8)} (h : HV w (.slice X n c) hs) (k : Nat) : HV w (.slice X (min n k) c) (hs.take k) := by
  obtain ⟨h0, Y, d, e, h1, h2⟩ := h
  injection e with e1 e2 e3
  subst e1 e2 e3
  refine ⟨fun r hr => h0 r (List.mem_of_mem_take hr), X, c, by rw [List.length_take, Nat.min_comm], by rw [List.length_take]; omega, ?_⟩
  rcases h2 with rfl | ⟨b, off, hA, hb, hc⟩
  · exact .inl (by simp)
  · exact .inr ⟨b, off, hA, hb, fun i hi => by
      have hi2 : i < hs.length := by rw [List.length_take] at hi; omega
      have := hc i hi2
      rwa [List.getElem_take]⟩
set_option maxRecDepth 100000 in
set_option maxHeartbeats 16000000 in
theorem walk (fp : List UInt8) (A1 : Option Addr) (n1 c1 : Nat) (m1 : List UInt8) (sh sl : Int) (V P : Option Addr) (nv cv np cp : Nat) (vs ps : List (List UInt8)) (A3 : Option Addr) (n3 c3 : Nat) (m3 : List UInt8) (w : World) (hfp : fp.length = 32) (hn1 : m1.length = n1) (hc1 : n1 ≤ c1) (hcm1 : c1 ≤ maxLen) (hr1 : Rd w w.heap.size A1 m1) (hsh : sh ≤ 9223372036854775807) (hsl : sl ≤ 9223372036854775807) (hv : HV w (.slice V nv cv) vs) (hvl : vs.length = nv) (hvc : nv ≤ cv) (hp : HV w (.slice P np cp) ps) (hpl : ps.length = np) (hpc : np ≤ cp) (hn3 : m3.length = n3) (hc3 : n3 ≤ c3) (_hcm3 : c3 ≤ maxLen) (hr3 : Rd w w.heap.size A3 m3) (htab : Pow10 w.heap.size w) :
    Calls Tryd.prog 8 #[.agg (u8A fp), .slice A1 n1 c1, .agg (sigA sh sl V P nv cv np cp), .slice A3 n3 c3] w fun e w' => e = .returned (.bool true) ∧ Below w.heap.size w w' := by
  obtain ⟨M, hM⟩ : ∃ M, min n1 40 = M := ⟨_, rfl⟩
  have HC1 := Lib.hid (fun W => (show Calls Tryd.prog 12 #[.slice A1 n1 c1, .int .i64 40] W fun e W' => e = .returned (.slice A1 M c1) ∧ W = W' from by
    rw [← hM]
    exact cut_any A1 n1 c1 40 W hc1))
  have hMk : M ≤ 40 := by omega
  have hMc : M ≤ c1 := by omega
  obtain ⟨bl, hbl⟩ : ∃ x, m1.take 40 = x := ⟨_, rfl⟩
  have hbln : bl.length = M := by rw [← hbl, List.length_take, hn1]; omega
  have hblr : Rd w w.heap.size A1 bl := by rw [← hbl]; exact hr1.take 40
  obtain ⟨M3, hM3⟩ : ∃ M, min n3 2400 = M := ⟨_, rfl⟩
  have HC3 := Lib.hid (fun W => (show Calls Tryd.prog 12 #[.slice A3 n3 c3, .int .i64 2400] W fun e W' => e = .returned (.slice A3 M3 c3) ∧ W = W' from by
    rw [← hM3]
    exact cut_any A3 n3 c3 2400 W hc3))
  have hM3k : M3 ≤ 2400 := by omega
  have hM3c : M3 ≤ c3 := by omega
  obtain ⟨bb, hbb⟩ : ∃ x, m3.take 2400 = x := ⟨_, rfl⟩
  have hbbn : bb.length = M3 := by rw [← hbb, List.length_take, hn3]; omega
  have hbbr : Rd w w.heap.size A3 bb := by rw [← hbb]; exact hr3.take 2400
  have HTAB := Lib.hid htab
  obtain ⟨F0, hF0⟩ : ∃ x, u8A fp = x := ⟨_, rfl⟩
  have HEF0 := Lib.hid hF0
  have HZF0 := Lib.hid (show F0.size = 32 by rw [← hF0, u8A_size]; exact hfp)
  have HOF0 := Lib.hid (show F0.all (·.oneCell') = true by rw [← hF0]; exact u8A_one _)
  obtain ⟨NV, hNV⟩ : ∃ x, min nv 70 = x := ⟨_, rfl⟩
  obtain ⟨NP, hNP⟩ : ∃ x, min np 6 = x := ⟨_, rfl⟩
  have hNV70 : NV ≤ 70 := by omega
  have hNP6 : NP ≤ 6 := by omega
  obtain ⟨vt, hvt⟩ : ∃ x, vs.take 70 = x := ⟨_, rfl⟩
  obtain ⟨pt, hpt⟩ : ∃ x, ps.take 6 = x := ⟨_, rfl⟩
  have hvtl : vt.length = NV := by rw [← hvt, List.length_take, hvl]; omega
  have hptl : pt.length = NP := by rw [← hpt, List.length_take, hpl]; omega
  have hv' : HV w (.slice V NV cv) vt := by rw [← hvt, ← hNV]; exact hv_cut9 hv 70
  have hp' : HV w (.slice P NP cp) pt := by rw [← hpt, ← hNP]; exact hv_cut9 hp 6
  have HCV := Lib.hid (fun W => (show Calls Tryd.prog 29 #[.slice V nv cv, .int .i64 70] W fun e w' => e = .returned (.slice V NV cv) ∧ W = w' from by rw [← hNV]; exact cutH_any V nv cv 70 W hvc))
  have HCP := Lib.hid (fun W => (show Calls Tryd.prog 29 #[.slice P np cp, .int .i64 6] W fun e w' => e = .returned (.slice P NP cp) ∧ W = w' from by rw [← hNP]; exact cutH_any P np cp 6 W hpc))
  obtain ⟨LP, hLP⟩ : ∃ x, 3 + 32 * (NV + NP) = x := ⟨_, rfl⟩
  have hLP2 : 3 + 32 * NV + 32 * NP = LP := by omega
  obtain ⟨bp, hbp⟩ : ∃ x, packL ⟨sh, sl, vt, pt⟩ = x := ⟨_, rfl⟩
  obtain ⟨vb, hvb⟩ : ∃ x, decide (verP fp bl ⟨sh, sl, vt, pt⟩) = x := ⟨_, rfl⟩
  obtain ⟨SA, hSA⟩ : ∃ x, sigA sh sl V P nv cv np cp = x := ⟨_, rfl⟩
  have HESA := Lib.hid hSA
  have HZSA := Lib.hid (show SA.size = 4 by rw [← hSA]; rfl)
  have HOSA := Lib.hid (show SA.all (·.oneCell') = true by rw [← hSA]; exact sigA_one _ _ _ _ _ _ _ _)
  obtain ⟨SB, hSB⟩ : ∃ x, sigA sh sl V P NV cv NP cp = x := ⟨_, rfl⟩
  have HESB := Lib.hid hSB
  have HZSB := Lib.hid (show SB.size = 4 by rw [← hSB]; rfl)
  have HOSB := Lib.hid (show SB.all (·.oneCell') = true by rw [← hSB]; exact sigA_one _ _ _ _ _ _ _ _)
  have HVE := Lib.hid (fun W (hW : Below w.heap.size w W) => (show Calls Tryd.prog 15 #[.agg F0, .slice A1 M c1, .agg SB] W fun e w' => e = .returned (.bool vb) ∧ Below W.heap.size W w' from by
    rw [← hF0, ← hSB, ← hvb]
    exact pverify9_any fp A1 M c1 bl ⟨sh, sl, vt, pt⟩ V P NV cv NP cp W hbln (by omega) hMc hcm1 (hblr.on hW) (hv'.on hW) hvtl (hp'.on hW) hptl (by omega) (tab_on htab hW hW.size) hfp))
  have HRE := Lib.hid (fun W (hW : Below w.heap.size w W) => (show Calls Tryd.prog 28 #[.agg F0, .slice A1 M c1, .agg SB] W fun e w' => e = .returned (.bool vb) ∧ Below W.heap.size W w' from by
    rw [← hF0, ← hSB, ← hvb]
    exact rverify9_any fp A1 M c1 bl ⟨sh, sl, vt, pt⟩ V P NV cv NP cp W hfp hbln (by omega) hMc hcm1 (hblr.on hW) (hv'.on hW) hvtl (hp'.on hW) hptl (by omega)))
  have HPK := Lib.hid (fun W (hW : Below w.heap.size w W) => (show Calls Tryd.prog 33 #[.agg SB] W fun e w' => ∃ A c, e = .returned (.slice A LP c) ∧ LP ≤ c ∧ Rd w' w'.heap.size A bp ∧ Below W.heap.size W w' from by
    have h := ppack9_any sh sl vt pt V P NV cv NP cp W hsh hsl (hv'.on hW) hvtl (hp'.on hW) hptl (by omega) (by omega)
    rw [hLP, hbp, hSB] at h
    refine h.mono ?_
    rintro e w' ⟨A, c, he, ho, hb⟩
    obtain ⟨A', c', e1, h1, _⟩ := own_caps ho
    injection e1 with _ _ e4
    subst e4
    exact ⟨A, c, he, h1, Rd.of_own ho, hb⟩))
  have HRK := Lib.hid (fun W (hW : Below w.heap.size w W) => (show Calls Tryd.prog 34 #[.agg SB] W fun e w' => ∃ A c, e = .returned (.slice A LP c) ∧ LP ≤ c ∧ Rd w' w'.heap.size A bp ∧ Below W.heap.size W w' from by
    have h := rpack9_any sh sl vt pt V P NV cv NP cp W hsh hsl (hv'.on hW) hvtl (hp'.on hW) hptl (by omega) (by omega)
    rw [hLP2, hbp] at h
    rw [← hSB]
    refine h.mono ?_
    rintro e w' ⟨A, c, he, ho, hb⟩
    obtain ⟨A', c', e1, h1, _⟩ := own_caps ho
    injection e1 with _ _ e4
    subst e4
    exact ⟨A, c, he, h1, Rd.of_own ho, hb⟩))
  have HBPL := Lib.hid (show bp.length = LP by
    rw [← hbp]
    unfold packL
    have h1 := flatL_len vt hv'.1
    have h2 := flatL_len pt hp'.1
    simp only [List.length_append, put1_len, put2_len, h1, h2, hvtl, hptl]
    omega)
  have HSMB := Lib.hid (fun A c B d W (h1 : Rd W W.heap.size A bp) (h2 : Rd W W.heap.size B bp) => (show Calls Tryd.prog 32 #[.slice A LP c, .slice B LP d] W fun e w' => e = .returned (.bool true) ∧ Below W.heap.size W w' from by
    refine (same_any A B LP LP c d _ _ bp bp W HBPL.out HBPL.out (by unfold maxLen; omega) h1 h2).mono ?_
    rintro e w' ⟨he, q, rfl⟩
    exact ⟨by rw [he, decide_eq_true rfl], below_drewN (Below.refl _ _) q⟩))
  have HBBR := Lib.hid hbbr
  obtain ⟨hX, lX, nX, mX, vX, pX, kX, HU1, HU2, hXv, hXp⟩ : ∃ (hX lX : Int) (nX mX : Nat) (vX pX : List (List UInt8)) (kX : Bool),
      Hid (∀ W, Below w.heap.size w W → Calls Tryd.prog 30 #[.slice A3 M3 c3] W fun e w' => ∃ V cv P cp, e = .returned (.tuple #[.agg (sigA hX lX V P nX cv mX cp), .bool kX]) ∧ HV w' (.slice V nX cv) vX ∧ HV w' (.slice P mX cp) pX ∧ Below W.heap.size W w') ∧
      Hid (∀ W, Below w.heap.size w W → Calls Tryd.prog 31 #[.slice A3 M3 c3] W fun e w' => ∃ V cv P cp, e = .returned (.tuple #[.agg (sigA hX lX V P nX cv mX cp), .bool kX]) ∧ HV w' (.slice V nX cv) vX ∧ HV w' (.slice P mX cp) pX ∧ Below W.heap.size W w') ∧ vX.length ≤ 100000 ∧ pX.length ≤ 100000 := by
    by_cases hok : unpOK bb
    · refine ⟨(unpV bb).h, (unpV bb).l, 67, (bb.getD 0 0).toNat, (unpV bb).vs, (unpV bb).ps, true, Lib.hid fun W hW => ?_, Lib.hid fun W hW => ?_, ?_, ?_⟩
      · refine (punpack9_yes A3 M3 c3 bb W hbbn hM3c (hbbr.on hW) hok).mono ?_
        rintro e w' ⟨V, cv, P, cp, he, h1, h2, hb⟩
        exact ⟨V, cv, P, cp, he, h1.hv, h2.hv, hb⟩
      · exact runpack9_yes A3 M3 c3 bb W hbbn hM3c (hbbr.on hW) hok
      · unfold unpV
        rw [List.length_take, atL_len]
        omega
      · have h8 := (bb.getD 0 0).toNat_lt
        unfold unpV
        rw [List.length_drop, atL_len]
        omega
    · refine ⟨0, 0, 0, 0, [], [], false, Lib.hid fun W hW => ?_, Lib.hid fun W hW => ?_, by simp, by simp⟩
      · refine (punpack9_no A3 M3 c3 bb W hbbn hM3c (by omega) (hbbr.on hW) hok).mono ?_
        rintro e w' ⟨he, hb⟩
        exact ⟨none, 0, none, 0, he, hv_nil _, hv_nil _, hb⟩
      · refine (runpack9_no A3 M3 c3 bb W hbbn (by omega) (hbbr.on hW) hok).mono ?_
        rintro e w' ⟨he, hb⟩
        exact ⟨none, 0, none, 0, he, hv_nil _, hv_nil _, hb⟩
  rw [hF0, hSA]
  clear hF0 hSA hSB htab hv hp hv' hp' hNV hNP hvt hpt hvtl hptl hLP hLP2 hbp hvb hbl hbb hM hM3 hn1 hn3 hr1 hr3 hblr hbbr hvl hpl hsh hsl hfp
  go_enter Tryd.func8, Tryd.ntmps8
  go_upto_region 1 with fail
  generalize hw1 : World.alloc _ _ = w3
  obtain ⟨g4, hg4⟩ : ∃ g, w.heap.size = g := ⟨_, rfl⟩
  obtain ⟨g6, hg6⟩ : ∃ g, w.heap.size + 1 = g := ⟨_, rfl⟩
  have hf : Blk w3 g4 F0 29 ∧ Blk w3 g6 SA 35 ∧ Below w.heap.size w w3 := by
    have hw : w3 = ((w.alloc (.cells F0 29)).alloc (.cells SA 35)) := hw1.symm
    have e1 : (w.alloc (.cells F0 29)).heap.size = w.heap.size + 1 := by simp
    rw [hw, ← hg4, ← hg6]
    exact ⟨by exact (Blk.new _ _ _).alloc _, by rw [← e1]; exact Blk.new _ _ _, (((Below.refl _ _).alloc (Nat.le_refl _) _).alloc (by simp) _)⟩
  have HB4 := Lib.hid hf.1
  have HB6 := Lib.hid hf.2.1
  have HBW := Lib.hid hf.2.2
  have HG4 := Lib.hid (show w.heap.size ≤ g4 by omega)
  have HG6 := Lib.hid (show w.heap.size ≤ g6 by omega)
  clear hf hw1
  rw [hg6, hg4]
  clear hg4 hg6
  go_wp2_with fail
  with_reducible refine (HC1.out _).mono ?_
  rintro e wx ⟨rfl, rfl⟩
  clear HC1
  have HBS := Lib.hid (fun W (hW : Below w3.heap.size w3 W) => HB6.out.below hW HB6.out.lt)
  have HS2 := Lib.hid (fun W (hW : Below w3.heap.size w3 W) => (show W.cell? ⟨g6, 2, none⟩ = some (.slice V nv cv) by rw [(HBS.out W hW).cell 2, ← HESA.out]; rfl))
  have HS3 := Lib.hid (fun W (hW : Below w3.heap.size w3 W) => (show W.cell? ⟨g6, 3, none⟩ = some (.slice P np cp) by rw [(HBS.out W hW).cell 3, ← HESA.out]; rfl))
  go_wp2_with fail
  refine wp_region_loose 7 3 (fun i => false) (promises [.is (.pointer (some ⟨g6, 2, none⟩)), .is (.slice V nv cv), .is (.slice V NV cv), .is (.pointer (some ⟨g6, 3, none⟩)), .is (.slice P np cp), .is (.slice P NP cp), .is (.pointer (some ⟨g6, 2, none⟩))]) (by kernel_rfl) rfl (by kernel_rfl) (fun i v w w' h hb => Spec.keep h hb) ⟨?_, ?_, ?_, ?_, ?_, ?_, ?_, trivial⟩ ?_
  · refine StepOKl.of ?_
    intro ac w hb hu hk
    refine ⟨wanted_none rfl, ?_⟩
    have e6 : ac.eval (.tmp 6) = .pointer (some ⟨g6, 0, none⟩) := hu.is (t := 6) (by kernel_rfl)
    refine step_value (w' := w) (v := (.pointer (some ⟨g6, 2, none⟩))) ?_ (Below.refl _ _) rfl
    generalize ac.eval = ρ at e6 ⊢
    go_simp
  · refine StepOKl.of ?_
    intro ac w hb hu hk
    refine ⟨wanted_none rfl, ?_⟩
    have e15 : ac.eval (.tmp 15) = (.pointer (some ⟨g6, 2, none⟩)) := (hk ⟨0, .data⟩ (by simp) rfl).is rfl rfl
    have hc := HS2.out w hb
    refine step_value (w' := w) (v := .slice V nv cv) ?_ (Below.refl _ _) rfl
    generalize ac.eval = ρ at e15 ⊢
    go_simp
  · refine StepOKl.of ?_
    intro ac w hb hu hk
    refine ⟨wanted_none rfl, ?_⟩
    have e16 : ac.eval (.tmp 16) = (.slice V nv cv) := (hk ⟨1, .data⟩ (by simp) rfl).is rfl rfl
    have ec0 : ac.eval (.const (Value.int IntKind.i64 70)) = Value.int IntKind.i64 70 := rfl
    have ef : ac.eval (.func 29) = .func (.func 29) #[] #[] := rfl
    refine step_enter (f := 29) (args := #[.slice V nv cv, .int .i64 70]) ?_ ?_
    · generalize ac.eval = ρ at e16 ec0 ef ⊢
      go_simp
    · exact (HCV.out w).mono fun e w' ⟨he, hq⟩ => ⟨_, he, rfl, hq ▸ Below.refl _ _⟩
  · refine StepOKl.of ?_
    intro ac w hb hu hk
    refine ⟨wanted_none rfl, ?_⟩
    have e6 : ac.eval (.tmp 6) = .pointer (some ⟨g6, 0, none⟩) := hu.is (t := 6) (by kernel_rfl)
    refine step_value (w' := w) (v := (.pointer (some ⟨g6, 3, none⟩))) ?_ (Below.refl _ _) rfl
    generalize ac.eval = ρ at e6 ⊢
    go_simp
  · refine StepOKl.of ?_
    intro ac w hb hu hk
    refine ⟨wanted_none rfl, ?_⟩
    have e18 : ac.eval (.tmp 18) = (.pointer (some ⟨g6, 3, none⟩)) := (hk ⟨3, .data⟩ (by simp) rfl).is rfl rfl
    have hc := HS3.out w hb
    refine step_value (w' := w) (v := .slice P np cp) ?_ (Below.refl _ _) rfl
    generalize ac.eval = ρ at e18 ⊢
    go_simp
  · refine StepOKl.of ?_
    intro ac w hb hu hk
    refine ⟨wanted_none rfl, ?_⟩
    have e19 : ac.eval (.tmp 19) = (.slice P np cp) := (hk ⟨4, .data⟩ (by simp) rfl).is rfl rfl
    have ec0 : ac.eval (.const (Value.int IntKind.i64 6)) = Value.int IntKind.i64 6 := rfl
    have ef : ac.eval (.func 29) = .func (.func 29) #[] #[] := rfl
    refine step_enter (f := 29) (args := #[.slice P np cp, .int .i64 6]) ?_ ?_
    · generalize ac.eval = ρ at e19 ec0 ef ⊢
      go_simp
    · exact (HCP.out w).mono fun e w' ⟨he, hq⟩ => ⟨_, he, rfl, hq ▸ Below.refl _ _⟩
  · refine StepOKl.of ?_
    intro ac w hb hu hk
    refine ⟨wanted_none rfl, ?_⟩
    have e6 : ac.eval (.tmp 6) = .pointer (some ⟨g6, 0, none⟩) := hu.is (t := 6) (by kernel_rfl)
    refine step_value (w' := w) (v := (.pointer (some ⟨g6, 2, none⟩))) ?_ (Below.refl _ _) rfl
    generalize ac.eval = ρ at e6 ⊢
    go_simp
  · intro ac w' hb hu hk hap
    obtain ⟨_, h15, rfl⟩ := (hk 0 (by decide)).put rfl rfl
    obtain ⟨_, h16, rfl⟩ := (hk 1 (by decide)).put rfl rfl
    obtain ⟨_, h17, rfl⟩ := (hk 2 (by decide)).put rfl rfl
    obtain ⟨_, h18, rfl⟩ := (hk 3 (by decide)).put rfl rfl
    obtain ⟨_, h19, rfl⟩ := (hk 4 (by decide)).put rfl rfl
    obtain ⟨_, h20, rfl⟩ := (hk 5 (by decide)).put rfl rfl
    obtain ⟨_, h21, rfl⟩ := (hk 6 (by decide)).put rfl rfl
    clear hap
    have hF : AllPuts ac.tmps ((15, _) :: (16, _) :: (17, _) :: (18, _) :: (19, _) :: (20, _) :: (21, _) :: []) := ⟨h15, h16, h17, h18, h19, h20, h21, trivial⟩
    obtain rfl := frame_puts hu (by kernel_rfl) hF
    simp only [puts, Act.put, List.setIfInBounds_toArray, List.set_cons_zero, List.set_cons_succ, List.drop_succ_cons, List.drop_zero]
    clear hk hu hF h15 h16 h17 h18 h19 h20 h21
    have hcb := HBS.out w' hb
    have hc2 := HS2.out w' hb
    have hc3 := HS3.out w' hb
    have hf2 := hcb.frozen 2
    have hf3 := hcb.frozen 3
    have hne := blk_ne9 HB4.out HB6.out (by decide)
    go_upto_region 3 with fail
    generalize hwn : World.setCell _ _ _ = w4
    have hbw : Below w.heap.size w w4 := by
      rw [← hwn]
      exact ((HBW.out.trans (hb.mono HBW.out.size)).setCell (p := ⟨g6, 2, none⟩) HG6.out _).setCell (p := ⟨g6, 3, none⟩) HG6.out _
    replace HB6 := Lib.hid (show Blk w4 g6 SB 35 by
      have h := (hcb.set 2 (.slice V NV cv)).set 3 (.slice P NP cp)
      rw [← HESA.out] at h
      rw [← hwn, ← HESB.out]
      exact h)
    replace HB4 := Lib.hid (show Blk w4 g4 F0 29 by
      rw [← hwn]
      exact ((HB4.out.below hb HB4.out.lt).other (p := ⟨g6, 2, none⟩) hne _).other (p := ⟨g6, 3, none⟩) hne _)
    replace HBW := Lib.hid hbw
    clear hwn hcb hc2 hc3 hf2 hf3 hb hbw hne HBS HS2 HS3 HCV HCP
    go_wp2_with fail
    with_reducible refine (HC3.out _).mono ?_
    rintro e wx ⟨rfl, rfl⟩
    clear HC3
    go_wp2_with fail
    with_reducible refine (HU1.out w4 HBW.out).mono ?_
    rintro e w5 ⟨V4, cv4, P4, cp4, rfl, hv4, hp4, hb⟩
    have HV4 := Lib.hid hv4
    have HP4 := Lib.hid hp4
    obtain ⟨SX, hSX⟩ : ∃ x, sigA hX lX V4 P4 nX cv4 mX cp4 = x := ⟨_, rfl⟩
    have HESX := Lib.hid hSX
    have HZSX := Lib.hid (show SX.size = 4 by rw [← hSX]; rfl)
    have HOSX := Lib.hid (show SX.all (·.oneCell') = true by rw [← hSX]; exact sigA_one _ _ _ _ _ _ _ _)
    replace HB4 := Lib.hid (HB4.out.below hb HB4.out.lt)
    replace HB6 := Lib.hid (HB6.out.below hb HB6.out.lt)
    replace HBW := Lib.hid (HBW.out.trans (hb.mono HBW.out.size))
    rw [hSX]
    clear hb hv4 hp4 hSX HU1
    go_upto_region 5 with (with_reducible refine wpList_store_blk rfl 35 (.tmp 9) (.tmp 28) rfl w5.heap.size SX rfl rfl 35 _ (Blk.new _ _ _) (by rw [HZSX.out]; kernel_rfl) (by rw [HZSX.out]; kernel_rfl) HOSX.out ?_)
    generalize hwn : World.setRow _ _ _ = w6
    have hal : Below w5.heap.size w5 w6 := by
      rw [← hwn]
      exact below_row ((Below.refl _ _).alloc (Nat.le_refl _) _) (by simp) (Nat.le_refl _) _
    have HB9 := Lib.hid (show Blk w6 w5.heap.size SX 35 by
      rw [← hwn]
      exact (Blk.new _ _ _).row _)
    obtain ⟨g9, hgn⟩ : ∃ g, w5.heap.size = g := ⟨_, rfl⟩
    replace HV4 := Lib.hid (HV4.out.on hal)
    replace HP4 := Lib.hid (HP4.out.on hal)
    replace HB4 := Lib.hid (HB4.out.below hal HB4.out.lt)
    replace HB6 := Lib.hid (HB6.out.below hal HB6.out.lt)
    replace HBW := Lib.hid (HBW.out.trans (hal.mono HBW.out.size))
    rw [hgn] at HB9 ⊢
    clear hal hwn hgn
    go_wp2_with fail
    with_reducible refine (HU2.out w6 HBW.out).mono ?_
    rintro e w7 ⟨V5, cv5, P5, cp5, rfl, hv5, hp5, hb⟩
    have HV5 := Lib.hid hv5
    have HP5 := Lib.hid hp5
    replace HV4 := Lib.hid (HV4.out.on hb)
    replace HP4 := Lib.hid (HP4.out.on hb)
    obtain ⟨SY, hSY⟩ : ∃ x, sigA hX lX V5 P5 nX cv5 mX cp5 = x := ⟨_, rfl⟩
    have HESY := Lib.hid hSY
    have HZSY := Lib.hid (show SY.size = 4 by rw [← hSY]; rfl)
    have HOSY := Lib.hid (show SY.all (·.oneCell') = true by rw [← hSY]; exact sigA_one _ _ _ _ _ _ _ _)
    replace HB4 := Lib.hid (HB4.out.below hb HB4.out.lt)
    replace HB6 := Lib.hid (HB6.out.below hb HB6.out.lt)
    replace HB9 := Lib.hid (HB9.out.below hb HB9.out.lt)
    replace HBW := Lib.hid (HBW.out.trans (hb.mono HBW.out.size))
    rw [hSY]
    clear hb hv5 hp5 hSY HU2
    go_upto_region 6 with (with_reducible refine wpList_store_blk rfl 35 (.tmp 11) (.tmp 33) rfl w7.heap.size SY rfl rfl 35 _ (Blk.new _ _ _) (by rw [HZSY.out]; kernel_rfl) (by rw [HZSY.out]; kernel_rfl) HOSY.out ?_)
    generalize hwn : World.setRow _ _ _ = w8
    have hal : Below w7.heap.size w7 w8 := by
      rw [← hwn]
      exact below_row ((Below.refl _ _).alloc (Nat.le_refl _) _) (by simp) (Nat.le_refl _) _
    have HB11 := Lib.hid (show Blk w8 w7.heap.size SY 35 by
      rw [← hwn]
      exact (Blk.new _ _ _).row _)
    obtain ⟨g11, hgn⟩ : ∃ g, w7.heap.size = g := ⟨_, rfl⟩
    replace HV4 := Lib.hid (HV4.out.on hal)
    replace HP4 := Lib.hid (HP4.out.on hal)
    replace HV5 := Lib.hid (HV5.out.on hal)
    replace HP5 := Lib.hid (HP5.out.on hal)
    replace HB4 := Lib.hid (HB4.out.below hal HB4.out.lt)
    replace HB6 := Lib.hid (HB6.out.below hal HB6.out.lt)
    replace HB9 := Lib.hid (HB9.out.below hal HB9.out.lt)
    replace HBW := Lib.hid (HBW.out.trans (hal.mono HBW.out.size))
    rw [hgn] at HB11 ⊢
    clear hal hwn hgn
    have HWK := Lib.hid (fun W (hW : Below w8.heap.size w8 W) => wakes9_any W (tab_on HTAB.out (HBW.out.trans (hW.mono HBW.out.size)) (HBW.out.trans (hW.mono HBW.out.size)).size))
    have HBF := Lib.hid (fun W (hW : Below w8.heap.size w8 W) => HB4.out.below hW HB4.out.lt)
    have HBS := Lib.hid (fun W (hW : Below w8.heap.size w8 W) => HB6.out.below hW HB6.out.lt)
    have HBX := Lib.hid (fun W (hW : Below w8.heap.size w8 W) => HB9.out.below hW HB9.out.lt)
    have HBY := Lib.hid (fun W (hW : Below w8.heap.size w8 W) => HB11.out.below hW HB11.out.lt)
    have HXL := Lib.hid (And.intro hXv hXp)
    have HSG := Lib.hid (fun W (hW : Below w8.heap.size w8 W) => (show Calls Tryd.prog 25 #[.agg SX, .agg SY] W fun e w' => e = .returned (.bool true) ∧ Below W.heap.size W w' from by
      rw [← HESX.out, ← HESY.out]
      exact ksig9_true hX lX V4 P4 V5 P5 nX cv4 cv5 mX cp4 cp5 vX pX W (HV4.out.on hW) (HV5.out.on hW) (HP4.out.on hW) (HP5.out.on hW) HXL.out.1 HXL.out.2))
    clear HB4 HB6 HB9 HB11 HV4 HV5 HP4 HP5 hXv hXp
    go_wp2_with fail
    refine wp_region_loose 29 1 (fun i => false) (promises [.is (.agg F0), .is (.slice A1 M c1), .is (.agg SB), .is (.bool vb), .is (.agg F0), .is (.slice A1 M c1), .is (.agg SB), .is (.bool vb), .is (.bool true), .is (.bool true), .is (.agg SB), .bytes LP bp, .is (.agg SB), .bytes LP bp, .is (.bool true), .is (.bool true), .is (.bool true), .is (.bool kX), .is (.bool kX), .is (.bool true), .is (.bool true), .is (.bool true), .is (.agg SX), .is (.agg SY), .is (.bool true), .is (.bool true), .is (.bool true), .is (.bool true), .is (.bool true)]) (by kernel_rfl) rfl (by kernel_rfl) (fun i v w w' h hb => Spec.keep h hb) ⟨?_, ?_, ?_, ?_, ?_, ?_, ?_, ?_, ?_, ?_, ?_, ?_, ?_, ?_, ?_, ?_, ?_, ?_, ?_, ?_, ?_, ?_, ?_, ?_, ?_, ?_, ?_, ?_, ?_, trivial⟩ ?_
    · refine StepOKl.of ?_
      intro ac w hb hu hk
      refine ⟨wanted_none rfl, ?_⟩
      have e4 : ac.eval (.tmp 4) = .pointer (some ⟨g4, 0, none⟩) := hu.is (t := 4) (by kernel_rfl)
      exact wp_load_row 29 (.tmp 4) rfl g4 e4 29 F0 (0, 0) _ (HBF.out w hb) Tryd.underlying29 rfl (by rw [HZF0.out]; kernel_rfl) ⟨_, rfl, rfl, Below.refl _ _⟩
    · refine StepOKl.of ?_
      intro ac w hb hu hk
      refine ⟨wanted_none rfl, ?_⟩
      have e1 : ac.eval (.tmp 1) = .slice A1 M c1 := hu.is (t := 1) (by kernel_rfl)
      exact step_value (BigFrame.run_move (.tmp 1) rfl w) (Below.refl _ _) e1
    · refine StepOKl.of ?_
      intro ac w hb hu hk
      refine ⟨wanted_none rfl, ?_⟩
      have e6 : ac.eval (.tmp 6) = .pointer (some ⟨g6, 0, none⟩) := hu.is (t := 6) (by kernel_rfl)
      exact wp_load_row 35 (.tmp 6) rfl g6 e6 35 SB (0, 0) _ (HBS.out w hb) Tryd.underlying35 rfl (by rw [HZSB.out]; kernel_rfl) ⟨_, rfl, rfl, Below.refl _ _⟩
    · refine StepOKl.of ?_
      intro ac w hb hu hk
      refine ⟨wanted_none rfl, ?_⟩
      have e35 : ac.eval (.tmp 35) = (.agg F0) := (hk ⟨0, .data⟩ (by simp) rfl).is rfl rfl
      have e36 : ac.eval (.tmp 36) = (.slice A1 M c1) := (hk ⟨1, .data⟩ (by simp) rfl).is rfl rfl
      have e37 : ac.eval (.tmp 37) = (.agg SB) := (hk ⟨2, .data⟩ (by simp) rfl).is rfl rfl
      have ef : ac.eval (.func 15) = .func (.func 15) #[] #[] := rfl
      refine step_enter (f := 15) (args := #[.agg F0, .slice A1 M c1, .agg SB]) ?_ ?_
      · generalize ac.eval = ρ at e35 e36 e37 ef ⊢
        go_simp
      · exact (HVE.out w (HBW.out.trans (hb.mono HBW.out.size))).mono fun e w' ⟨he, hq⟩ => ⟨_, he, rfl, hq⟩
    · refine StepOKl.of ?_
      intro ac w hb hu hk
      refine ⟨wanted_none rfl, ?_⟩
      have e4 : ac.eval (.tmp 4) = .pointer (some ⟨g4, 0, none⟩) := hu.is (t := 4) (by kernel_rfl)
      exact wp_load_row 29 (.tmp 4) rfl g4 e4 29 F0 (0, 0) _ (HBF.out w hb) Tryd.underlying29 rfl (by rw [HZF0.out]; kernel_rfl) ⟨_, rfl, rfl, Below.refl _ _⟩
    · refine StepOKl.of ?_
      intro ac w hb hu hk
      refine ⟨wanted_none rfl, ?_⟩
      have e1 : ac.eval (.tmp 1) = .slice A1 M c1 := hu.is (t := 1) (by kernel_rfl)
      exact step_value (BigFrame.run_move (.tmp 1) rfl w) (Below.refl _ _) e1
    · refine StepOKl.of ?_
      intro ac w hb hu hk
      refine ⟨wanted_none rfl, ?_⟩
      have e6 : ac.eval (.tmp 6) = .pointer (some ⟨g6, 0, none⟩) := hu.is (t := 6) (by kernel_rfl)
      exact wp_load_row 35 (.tmp 6) rfl g6 e6 35 SB (0, 0) _ (HBS.out w hb) Tryd.underlying35 rfl (by rw [HZSB.out]; kernel_rfl) ⟨_, rfl, rfl, Below.refl _ _⟩
    · refine StepOKl.of ?_
      intro ac w hb hu hk
      refine ⟨wanted_none rfl, ?_⟩
      have e39 : ac.eval (.tmp 39) = (.agg F0) := (hk ⟨4, .data⟩ (by simp) rfl).is rfl rfl
      have e40 : ac.eval (.tmp 40) = (.slice A1 M c1) := (hk ⟨5, .data⟩ (by simp) rfl).is rfl rfl
      have e41 : ac.eval (.tmp 41) = (.agg SB) := (hk ⟨6, .data⟩ (by simp) rfl).is rfl rfl
      have ef : ac.eval (.func 28) = .func (.func 28) #[] #[] := rfl
      refine step_enter (f := 28) (args := #[.agg F0, .slice A1 M c1, .agg SB]) ?_ ?_
      · generalize ac.eval = ρ at e39 e40 e41 ef ⊢
        go_simp
      · exact (HRE.out w (HBW.out.trans (hb.mono HBW.out.size))).mono fun e w' ⟨he, hq⟩ => ⟨_, he, rfl, hq⟩
    · refine StepOKl.of ?_
      intro ac w hb hu hk
      refine ⟨wanted_none rfl, ?_⟩
      have e38 : ac.eval (.tmp 38) = (.bool vb) := (hk ⟨3, .data⟩ (by simp) rfl).is rfl rfl
      have e42 : ac.eval (.tmp 42) = (.bool vb) := (hk ⟨7, .data⟩ (by simp) rfl).is rfl rfl
      refine step_value (w' := w) (v := (.bool true)) ?_ (Below.refl _ _) rfl
      generalize ac.eval = ρ at e38 e42 ⊢
      go_simp
    · refine StepOKl.of ?_
      intro ac w hb hu hk
      refine ⟨wanted_none rfl, ?_⟩
      have e43 : ac.eval (.tmp 43) = (.bool true) := (hk ⟨8, .data⟩ (by simp) rfl).is rfl rfl
      exact step_value (BigFrame.run_move (.tmp 43) rfl w) (Below.refl _ _) e43
    · refine StepOKl.of ?_
      intro ac w hb hu hk
      refine ⟨wanted_some rfl (hk ⟨9, .guard⟩ (by simp) rfl) rfl rfl (fun _ h => h), ?_⟩
      have e6 : ac.eval (.tmp 6) = .pointer (some ⟨g6, 0, none⟩) := hu.is (t := 6) (by kernel_rfl)
      exact wp_load_row 35 (.tmp 6) rfl g6 e6 35 SB (0, 0) _ (HBS.out w hb) Tryd.underlying35 rfl (by rw [HZSB.out]; kernel_rfl) ⟨_, rfl, rfl, Below.refl _ _⟩
    · refine StepOKl.of ?_
      intro ac w hb hu hk
      refine ⟨wanted_some rfl (hk ⟨9, .chain⟩ (by simp) rfl) rfl rfl (fun _ h => h), ?_⟩
      have e45 : ac.eval (.tmp 45) = (.agg SB) := (hk ⟨10, .data⟩ (by simp) rfl).is rfl rfl
      have ef : ac.eval (.func 33) = .func (.func 33) #[] #[] := rfl
      refine step_enter (f := 33) (args := #[.agg SB]) ?_ ?_
      · generalize ac.eval = ρ at e45 ef ⊢
        go_simp
      · exact (HPK.out w (HBW.out.trans (hb.mono HBW.out.size))).mono fun e w' ⟨A, c, he, hc, hr, hq⟩ => ⟨_, he, ⟨A, c, rfl, hc, hr⟩, hq⟩
    · refine StepOKl.of ?_
      intro ac w hb hu hk
      refine ⟨wanted_some rfl (hk ⟨9, .guard⟩ (by simp) rfl) rfl rfl (fun _ h => h), ?_⟩
      have e6 : ac.eval (.tmp 6) = .pointer (some ⟨g6, 0, none⟩) := hu.is (t := 6) (by kernel_rfl)
      exact wp_load_row 35 (.tmp 6) rfl g6 e6 35 SB (0, 0) _ (HBS.out w hb) Tryd.underlying35 rfl (by rw [HZSB.out]; kernel_rfl) ⟨_, rfl, rfl, Below.refl _ _⟩
    · refine StepOKl.of ?_
      intro ac w hb hu hk
      refine ⟨wanted_some rfl (hk ⟨9, .guard⟩ (by simp) rfl) rfl rfl (fun _ h => h), ?_⟩
      have e47 : ac.eval (.tmp 47) = (.agg SB) := (hk ⟨12, .data⟩ (by simp) rfl).is rfl rfl
      have ef : ac.eval (.func 34) = .func (.func 34) #[] #[] := rfl
      refine step_enter (f := 34) (args := #[.agg SB]) ?_ ?_
      · generalize ac.eval = ρ at e47 ef ⊢
        go_simp
      · exact (HRK.out w (HBW.out.trans (hb.mono HBW.out.size))).mono fun e w' ⟨A, c, he, hc, hr, hq⟩ => ⟨_, he, ⟨A, c, rfl, hc, hr⟩, hq⟩
    · refine StepOKl.of ?_
      intro ac w hb hu hk
      refine ⟨wanted_some rfl (hk ⟨9, .guard⟩ (by simp) rfl) rfl rfl (fun _ h => h), ?_⟩
      have e46 : ∃ X c, ac.eval (.tmp 46) = .slice X LP c ∧ LP ≤ c ∧ Rd w w.heap.size X bp := (hk ⟨11, .data⟩ (by simp) rfl).is rfl rfl
      have e48 : ∃ X c, ac.eval (.tmp 48) = .slice X LP c ∧ LP ≤ c ∧ Rd w w.heap.size X bp := (hk ⟨13, .data⟩ (by simp) rfl).is rfl rfl
      obtain ⟨X46, x46, eX46, hx46, hR46⟩ := e46
      obtain ⟨X48, x48, eX48, hx48, hR48⟩ := e48
      have ef : ac.eval (.func 32) = .func (.func 32) #[] #[] := rfl
      refine step_enter (f := 32) (args := #[.slice X46 LP x46, .slice X48 LP x48]) ?_ ?_
      · generalize ac.eval = ρ at eX46 eX48 ef ⊢
        go_simp
      · exact (HSMB.out X46 x46 X48 x48 w hR46 hR48).mono fun e w' ⟨he, hq⟩ => ⟨_, he, rfl, hq⟩
    · refine StepOKl.of ?_
      intro ac w hb hu hk
      refine ⟨wanted_none rfl, ?_⟩
      have e44 : ac.eval (.tmp 44) = (.bool true) := (hk ⟨9, .data⟩ (by simp) rfl).is rfl rfl
      have e49 : ac.eval (.tmp 49) = (.bool true) := (hk ⟨14, .data⟩ (by simp) rfl).is rfl rfl
      exact step_value (run_pick_true e44 rfl w) (Below.refl _ _) e49
    · refine StepOKl.of ?_
      intro ac w hb hu hk
      refine ⟨wanted_none rfl, ?_⟩
      have e50 : ac.eval (.tmp 50) = (.bool true) := (hk ⟨15, .data⟩ (by simp) rfl).is rfl rfl
      exact step_value (BigFrame.run_move (.tmp 50) rfl w) (Below.refl _ _) e50
    · refine StepOKl.of ?_
      intro ac w hb hu hk
      refine ⟨wanted_some rfl (hk ⟨16, .guard⟩ (by simp) rfl) rfl rfl (fun _ h => h), ?_⟩
      have e10 : ac.eval (.tmp 10) = .bool kX := hu.is (t := 10) (by kernel_rfl)
      exact step_value (BigFrame.run_move (.tmp 10) rfl w) (Below.refl _ _) e10
    · refine StepOKl.of ?_
      intro ac w hb hu hk
      refine ⟨wanted_some rfl (hk ⟨16, .guard⟩ (by simp) rfl) rfl rfl (fun _ h => h), ?_⟩
      have e12 : ac.eval (.tmp 12) = .bool kX := hu.is (t := 12) (by kernel_rfl)
      exact step_value (BigFrame.run_move (.tmp 12) rfl w) (Below.refl _ _) e12
    · refine StepOKl.of ?_
      intro ac w hb hu hk
      refine ⟨wanted_some rfl (hk ⟨16, .guard⟩ (by simp) rfl) rfl rfl (fun _ h => h), ?_⟩
      have e52 : ac.eval (.tmp 52) = (.bool kX) := (hk ⟨17, .data⟩ (by simp) rfl).is rfl rfl
      have e53 : ac.eval (.tmp 53) = (.bool kX) := (hk ⟨18, .data⟩ (by simp) rfl).is rfl rfl
      refine step_value (w' := w) (v := (.bool true)) ?_ (Below.refl _ _) rfl
      generalize ac.eval = ρ at e52 e53 ⊢
      go_simp
    · refine StepOKl.of ?_
      intro ac w hb hu hk
      refine ⟨wanted_none rfl, ?_⟩
      have e51 : ac.eval (.tmp 51) = (.bool true) := (hk ⟨16, .data⟩ (by simp) rfl).is rfl rfl
      have e54 : ac.eval (.tmp 54) = (.bool true) := (hk ⟨19, .data⟩ (by simp) rfl).is rfl rfl
      exact step_value (run_pick_true e51 rfl w) (Below.refl _ _) e54
    · refine StepOKl.of ?_
      intro ac w hb hu hk
      refine ⟨wanted_none rfl, ?_⟩
      have e55 : ac.eval (.tmp 55) = (.bool true) := (hk ⟨20, .data⟩ (by simp) rfl).is rfl rfl
      exact step_value (BigFrame.run_move (.tmp 55) rfl w) (Below.refl _ _) e55
    · refine StepOKl.of ?_
      intro ac w hb hu hk
      refine ⟨wanted_some rfl (hk ⟨21, .guard⟩ (by simp) rfl) rfl rfl (fun _ h => h), ?_⟩
      have e9 : ac.eval (.tmp 9) = .pointer (some ⟨g9, 0, none⟩) := hu.is (t := 9) (by kernel_rfl)
      exact wp_load_row 35 (.tmp 9) rfl g9 e9 35 SX (0, 0) _ (HBX.out w hb) Tryd.underlying35 rfl (by rw [HZSX.out]; kernel_rfl) ⟨_, rfl, rfl, Below.refl _ _⟩
    · refine StepOKl.of ?_
      intro ac w hb hu hk
      refine ⟨wanted_some rfl (hk ⟨21, .guard⟩ (by simp) rfl) rfl rfl (fun _ h => h), ?_⟩
      have e11 : ac.eval (.tmp 11) = .pointer (some ⟨g11, 0, none⟩) := hu.is (t := 11) (by kernel_rfl)
      exact wp_load_row 35 (.tmp 11) rfl g11 e11 35 SY (0, 0) _ (HBY.out w hb) Tryd.underlying35 rfl (by rw [HZSY.out]; kernel_rfl) ⟨_, rfl, rfl, Below.refl _ _⟩
    · refine StepOKl.of ?_
      intro ac w hb hu hk
      refine ⟨wanted_some rfl (hk ⟨21, .chain⟩ (by simp) rfl) rfl rfl (fun _ h => h), ?_⟩
      have e57 : ac.eval (.tmp 57) = (.agg SX) := (hk ⟨22, .data⟩ (by simp) rfl).is rfl rfl
      have e58 : ac.eval (.tmp 58) = (.agg SY) := (hk ⟨23, .data⟩ (by simp) rfl).is rfl rfl
      have ef : ac.eval (.func 25) = .func (.func 25) #[] #[] := rfl
      refine step_enter (f := 25) (args := #[.agg SX, .agg SY]) ?_ ?_
      · generalize ac.eval = ρ at e57 e58 ef ⊢
        go_simp
      · exact (HSG.out w hb).mono fun e w' ⟨he, hq⟩ => ⟨_, he, rfl, hq⟩
    · refine StepOKl.of ?_
      intro ac w hb hu hk
      refine ⟨wanted_none rfl, ?_⟩
      have e56 : ac.eval (.tmp 56) = (.bool true) := (hk ⟨21, .data⟩ (by simp) rfl).is rfl rfl
      have e59 : ac.eval (.tmp 59) = (.bool true) := (hk ⟨24, .data⟩ (by simp) rfl).is rfl rfl
      exact step_value (run_pick_true e56 rfl w) (Below.refl _ _) e59
    · refine StepOKl.of ?_
      intro ac w hb hu hk
      refine ⟨wanted_none rfl, ?_⟩
      have e60 : ac.eval (.tmp 60) = (.bool true) := (hk ⟨25, .data⟩ (by simp) rfl).is rfl rfl
      exact step_value (BigFrame.run_move (.tmp 60) rfl w) (Below.refl _ _) e60
    · refine StepOKl.of ?_
      intro ac w hb hu hk
      refine ⟨wanted_some rfl (hk ⟨26, .chain⟩ (by simp) rfl) rfl rfl (fun _ h => h), ?_⟩
      have ef : ac.eval (.func 17) = .func (.func 17) #[] #[] := rfl
      refine step_enter (f := 17) (args := #[]) ?_ ?_
      · generalize ac.eval = ρ at  ef ⊢
        go_simp
      · exact (HWK.out w hb).mono fun e w' ⟨he, hq⟩ => ⟨_, he, rfl, hq⟩
    · refine StepOKl.of ?_
      intro ac w hb hu hk
      refine ⟨wanted_none rfl, ?_⟩
      have e61 : ac.eval (.tmp 61) = (.bool true) := (hk ⟨26, .data⟩ (by simp) rfl).is rfl rfl
      have e62 : ac.eval (.tmp 62) = (.bool true) := (hk ⟨27, .data⟩ (by simp) rfl).is rfl rfl
      exact step_value (run_pick_true e61 rfl w) (Below.refl _ _) e62
    · intro ac w' hb hu hk hap
      obtain ⟨_, h35, rfl⟩ := (hk 0 (by decide)).put rfl rfl
      obtain ⟨_, h36, rfl⟩ := (hk 1 (by decide)).put rfl rfl
      obtain ⟨_, h37, rfl⟩ := (hk 2 (by decide)).put rfl rfl
      obtain ⟨_, h38, rfl⟩ := (hk 3 (by decide)).put rfl rfl
      obtain ⟨_, h39, rfl⟩ := (hk 4 (by decide)).put rfl rfl
      obtain ⟨_, h40, rfl⟩ := (hk 5 (by decide)).put rfl rfl
      obtain ⟨_, h41, rfl⟩ := (hk 6 (by decide)).put rfl rfl
      obtain ⟨_, h42, rfl⟩ := (hk 7 (by decide)).put rfl rfl
      obtain ⟨_, h43, rfl⟩ := (hk 8 (by decide)).put rfl rfl
      obtain ⟨_, h44, rfl⟩ := (hk 9 (by decide)).put rfl rfl
      obtain ⟨_, h45, rfl⟩ := (hk 10 (by decide)).put rfl rfl
      obtain ⟨_, h46, ⟨X46, xc46, rfl, hxc46, hX46⟩⟩ := (hk 11 (by decide)).put rfl rfl
      obtain ⟨_, h47, rfl⟩ := (hk 12 (by decide)).put rfl rfl
      obtain ⟨_, h48, ⟨X48, xc48, rfl, hxc48, hX48⟩⟩ := (hk 13 (by decide)).put rfl rfl
      obtain ⟨_, h49, rfl⟩ := (hk 14 (by decide)).put rfl rfl
      obtain ⟨_, h50, rfl⟩ := (hk 15 (by decide)).put rfl rfl
      obtain ⟨_, h51, rfl⟩ := (hk 16 (by decide)).put rfl rfl
      obtain ⟨_, h52, rfl⟩ := (hk 17 (by decide)).put rfl rfl
      obtain ⟨_, h53, rfl⟩ := (hk 18 (by decide)).put rfl rfl
      obtain ⟨_, h54, rfl⟩ := (hk 19 (by decide)).put rfl rfl
      obtain ⟨_, h55, rfl⟩ := (hk 20 (by decide)).put rfl rfl
      obtain ⟨_, h56, rfl⟩ := (hk 21 (by decide)).put rfl rfl
      obtain ⟨_, h57, rfl⟩ := (hk 22 (by decide)).put rfl rfl
      obtain ⟨_, h58, rfl⟩ := (hk 23 (by decide)).put rfl rfl
      obtain ⟨_, h59, rfl⟩ := (hk 24 (by decide)).put rfl rfl
      obtain ⟨_, h60, rfl⟩ := (hk 25 (by decide)).put rfl rfl
      obtain ⟨_, h61, rfl⟩ := (hk 26 (by decide)).put rfl rfl
      obtain ⟨_, h62, rfl⟩ := (hk 27 (by decide)).put rfl rfl
      obtain ⟨_, h63, rfl⟩ := (hk 28 (by decide)).put rfl rfl
      clear hap
      have hF : AllPuts ac.tmps ((35, _) :: (36, _) :: (37, _) :: (38, _) :: (39, _) :: (40, _) :: (41, _) :: (42, _) :: (43, _) :: (44, _) :: (45, _) :: (46, _) :: (47, _) :: (48, _) :: (49, _) :: (50, _) :: (51, _) :: (52, _) :: (53, _) :: (54, _) :: (55, _) :: (56, _) :: (57, _) :: (58, _) :: (59, _) :: (60, _) :: (61, _) :: (62, _) :: (63, _) :: []) := ⟨h35, h36, h37, h38, h39, h40, h41, h42, h43, h44, h45, h46, h47, h48, h49, h50, h51, h52, h53, h54, h55, h56, h57, h58, h59, h60, h61, h62, h63, trivial⟩
      obtain rfl := frame_puts hu (by kernel_rfl) hF
      simp only [puts, Act.put, List.setIfInBounds_toArray, List.set_cons_zero, List.set_cons_succ, List.drop_succ_cons, List.drop_zero]
      clear hk hu hF h35 h36 h37 h38 h39 h40 h41 h42 h43 h44 h45 h46 h47 h48 h49 h50 h51 h52 h53 h54 h55 h56 h57 h58 h59 h60 h61 h62 h63
      have HBE := Lib.hid (HBW.out.trans (hb.mono HBW.out.size))
      clear hb
      go_wp2_with fail
      go_ret
      exact ⟨by first | rfl | kernel_rfl, HBE.out⟩

set_option maxRecDepth 100000 in
theorem contract (H : Type) (enc : TypeId × Value → H) (W : World) (base : Nat) (args : Array Value) (ds gs : List (DataW H)) (before : List MemPlace)
    (hval : ∀ (j : Nat) t v, Tryd.f8.params[j]? = some t → args[j]? = some v → Value.okWide Tryd.prog W .any base t v)
    (hW : DataW.Whole enc Tryd.prog Tryd.f8.params.toList Rows.mssRawSpec.vars false W args.toList ds gs before) (hL : laidMetH Tryd.prog Rows.mssRawRow.laid W) :
    Calls Tryd.prog 8 args W fun e W' => ∃ v, e = .returned v ∧ Rows.mssRawSpec.post enc Tryd.prog Tryd.f8 false true false false W args v W' := by
  have hW' := hW
  obtain ⟨p, q, hA0, hV, rfl, hfz, hnd⟩ := hW
  have hA : DataW.TrodAll enc Tryd.prog W 0 (fun _ => true) true Tryd.f8.params.toList args.toList ds p := hA0
  rw [Tryd.params8] at hA hval
  obtain ⟨v0, v1, v2, v3, d0, d1, d2, d3, p0, p1, p2, p3, rfl, rfl, rfl, h0, h1, h2, h3⟩ := trodAll_four hA
  obtain ⟨rfl, rfl⟩ := trodVars_none hV
  obtain ⟨k0, rfl, hk0⟩ := open_array Tryd.underlying29 (by kernel_rfl) (hval 0 29 v0 rfl rfl) h0
  obtain ⟨A1, m1, c1, l1, rfl, hl1, hc1, hm1, hr1⟩ := open_bytes (hval 1 24 v1 rfl rfl) h1
  obtain ⟨sh2, sl2, V2, nv2, cv2, P2, np2, cp2, vs2, ps2, rfl, hsh2, hsl2, hv2, hvl2, hvc2, hp2, hpl2, hpc2⟩ := open_sig (hval 2 35 v2 rfl rfl) h2
  obtain ⟨A3, m3, c3, l3, rfl, hl3, hc3, hm3, hr3⟩ := open_bytes (hval 3 24 v3 rfl rfl) h3
  clear hA0
  refine (walk k0 A1 m1 c1 l1 sh2 sl2 V2 P2 nv2 cv2 np2 cp2 vs2 ps2 A3 m3 c3 l3 W hk0 hl1 hc1 hm1 hr1 hsh2.2 hsl2.2 hv2 hvl2 hvc2 hp2 hpl2 hpc2 hl3 hc3 hm3 hr3 (pow10 hL)).mono fun e W' ⟨he, hb⟩ => ?_
  exact ⟨_, he, law_post hW' rfl (by kernel_rfl) rfl (by kernel_rfl) hb⟩

theorem laid_met (os : Os) : laidMet Tryd.prog Rows.mssRawRow.laid ((laidWorld os).forCall (fun _ _ => 0) ⟨#[], #[.agg #[.int .u8 0, .int .u8 0, .int .u8 0, .int .u8 0, .int .u8 0, .int .u8 0, .int .u8 0, .int .u8 0, .int .u8 0, .int .u8 0, .int .u8 0, .int .u8 0, .int .u8 0, .int .u8 0, .int .u8 0, .int .u8 0, .int .u8 0, .int .u8 0, .int .u8 0, .int .u8 0, .int .u8 0, .int .u8 0, .int .u8 0, .int .u8 0, .int .u8 0, .int .u8 0, .int .u8 0, .int .u8 0, .int .u8 0, .int .u8 0, .int .u8 0, .int .u8 0], .slice none 0 0, .agg #[.int .i64 0, .int .i64 0, .slice none 0 0, .slice none 0 0], .slice none 0 0], []⟩).memory :=
  laidMet_of_run' 8 (by kernel_rfl) (by kernel_rfl)
theorem reads (os : Os) {H : Type} (enc : TypeId × Value → H) : ∃ places, DataW.whole enc Tryd.prog ((laidWorld os).forCall (fun _ _ => 0) ⟨#[], #[.agg #[.int .u8 0, .int .u8 0, .int .u8 0, .int .u8 0, .int .u8 0, .int .u8 0, .int .u8 0, .int .u8 0, .int .u8 0, .int .u8 0, .int .u8 0, .int .u8 0, .int .u8 0, .int .u8 0, .int .u8 0, .int .u8 0, .int .u8 0, .int .u8 0, .int .u8 0, .int .u8 0, .int .u8 0, .int .u8 0, .int .u8 0, .int .u8 0, .int .u8 0, .int .u8 0, .int .u8 0, .int .u8 0, .int .u8 0, .int .u8 0, .int .u8 0, .int .u8 0], .slice none 0 0, .agg #[.int .i64 0, .int .i64 0, .slice none 0 0, .slice none 0 0], .slice none 0 0], []⟩).memory Tryd.f8.params.toList Rows.mssRawSpec.vars false #[Value.agg #[.int .u8 0, .int .u8 0, .int .u8 0, .int .u8 0, .int .u8 0, .int .u8 0, .int .u8 0, .int .u8 0, .int .u8 0, .int .u8 0, .int .u8 0, .int .u8 0, .int .u8 0, .int .u8 0, .int .u8 0, .int .u8 0, .int .u8 0, .int .u8 0, .int .u8 0, .int .u8 0, .int .u8 0, .int .u8 0, .int .u8 0, .int .u8 0, .int .u8 0, .int .u8 0, .int .u8 0, .int .u8 0, .int .u8 0, .int .u8 0, .int .u8 0, .int .u8 0], Value.slice none 0 0, Value.agg #[.int .i64 0, .int .i64 0, .slice none 0 0, .slice none 0 0], Value.slice none 0 0].toList 8 = some ([.agg [.lit (.int .u8 0), .lit (.int .u8 0), .lit (.int .u8 0), .lit (.int .u8 0), .lit (.int .u8 0), .lit (.int .u8 0), .lit (.int .u8 0), .lit (.int .u8 0), .lit (.int .u8 0), .lit (.int .u8 0), .lit (.int .u8 0), .lit (.int .u8 0), .lit (.int .u8 0), .lit (.int .u8 0), .lit (.int .u8 0), .lit (.int .u8 0), .lit (.int .u8 0), .lit (.int .u8 0), .lit (.int .u8 0), .lit (.int .u8 0), .lit (.int .u8 0), .lit (.int .u8 0), .lit (.int .u8 0), .lit (.int .u8 0), .lit (.int .u8 0), .lit (.int .u8 0), .lit (.int .u8 0), .lit (.int .u8 0), .lit (.int .u8 0), .lit (.int .u8 0), .lit (.int .u8 0), .lit (.int .u8 0)], .nil, .agg [.lit (.int .i64 0), .lit (.int .i64 0), .nil, .nil], .nil], [], places) :=
  ⟨[], by kernel_rfl⟩

set_option maxRecDepth 100000 in
theorem lifted (os : Os) (started : os.Started) (H : Type) (enc : TypeId × Value → H) (F : Stop.Interp) :
    ReturnsInHanded {} Tryd.checked os 8 .any ((OpenSpec.ofChange Rows.mssRawSpec).preRow enc Tryd.prog Tryd.f8 Rows.mssRawRow.domain false Rows.mssRawRow.laid) (((OpenSpec.ofChange Rows.mssRawSpec).at F).post enc Tryd.prog Tryd.f8 false true false false) := by
  obtain ⟨places, hx⟩ := reads os enc
  refine returnsInHanded_of_row (C := Tryd.checked) (s := OpenSpec.ofChange Rows.mssRawSpec) own started (by kernel_rfl) Tryd.func8
    (witness_row_at (enc := enc) (C := Tryd.checked) false (laidWorld os) #[.agg #[.int .u8 0, .int .u8 0, .int .u8 0, .int .u8 0, .int .u8 0, .int .u8 0, .int .u8 0, .int .u8 0, .int .u8 0, .int .u8 0, .int .u8 0, .int .u8 0, .int .u8 0, .int .u8 0, .int .u8 0, .int .u8 0, .int .u8 0, .int .u8 0, .int .u8 0, .int .u8 0, .int .u8 0, .int .u8 0, .int .u8 0, .int .u8 0, .int .u8 0, .int .u8 0, .int .u8 0, .int .u8 0, .int .u8 0, .int .u8 0, .int .u8 0, .int .u8 0], .slice none 0 0, .agg #[.int .i64 0, .int .i64 0, .slice none 0 0, .slice none 0 0], .slice none 0 0] rfl (by kernel_rfl) (by kernel_rfl) (by kernel_rfl)
      (OpenSpec.preRow_of_cond 8 hx (by kernel_rfl) (fun k hk => by cases hk) (by kernel_rfl) (laid_met os))) ?_
  intro W base args ds gs before hval hW _ _ _ hL _ _
  exact contract H enc W base args ds gs before hval hW hL

theorem said : Rows.MssRawSaid :=
  OpenClaim.holds_of_cond 8 Tryd.f8 rfl rfl rfl rfl rfl rfl rfl ⟨rfl, rfl, rfl, rfl, rfl⟩ rfl rfl rfl rfl rfl (by kernel_rfl) Tryd.func8 (by kernel_rfl)
    (of_decide_eq_true (by kernel_rfl)) (by unfold Func.isWrapper; first | (rw [if_pos (by decide +kernel)]; kernel_rfl) | (rw [if_neg (by decide +kernel)]; exact ⟨rfl, rfl⟩))
    (fun os started H enc _ F => by rw [OpenClaim.pre_eq_preRow]; exact lifted os started H enc F)

theorem plain (f : FuncId) (fn : Func) (hf : Tryd.pinned.checked.prog.funcNamed "aumbry/aumbrylaw09.MssRaw" = some f) (hfn : Tryd.pinned.checked.prog.funcs[f]? = some fn) :
    false = Tryd.pinned.checked.prog.looks [] ∧ ∀ (j : Nat) t, fn.params[j]? = some t → Tryd.pinned.checked.prog.wantsStandIn t = false := by
  obtain rfl : f = 8 := Option.some.inj ((show Tryd.prog.funcNamed "aumbry/aumbrylaw09.MssRaw" = some 8 by kernel_rfl).symm.trans hf) |>.symm
  obtain rfl : fn = Tryd.f8 := (Option.some.inj (Tryd.func8.symm.trans hfn)).symm
  refine ⟨by kernel_rfl, fun j t ht => ?_⟩
  exact wants_none (by kernel_rfl) (Array.mem_of_getElem? ht)

/-- The card: the statement holds, its listed tables tied to the program's text. -/
theorem card : Rows.MssRawCardSaid :=
  Claim7.holds_tied_plain_at .later [] _ _ _ _ said (fun _ h => by cases h) (by kernel_rfl) (fun _ h => by cases h) mssRaw_row_tie rfl ⟨rfl, rfl⟩ (by kernel_rfl) rfl plain (by kernel_rfl)
end Go.Proofs.YtfgieebccjoboaaDoor.mssRaw
