/- The document's own ReadOnly, VerifyOnly, Index. -/
import Derived.Test.YtkkokngdhhakdaaDoorCapJ
import Derived.Test.YtkkokngdhhakdaaDoorRShort
namespace Go.Proofs.YtkkokngdhhakdaaDoor
open Go.RowKit
set_option maxRecDepth 100000

theorem readK_up {c : Cap13} (h : c.writes) : readK c.kind = c.kind + 1 ∧ 0 ≤ c.kind ∧ c.kind ≤ 9 := by
  have h2 := ok_nine h.1
  have h3 := h.2
  unfold WriK at h3
  unfold readK
  rcases h3 with h3 | h3 <;> rw [h3] <;> exact ⟨by decide, by decide, by decide⟩
set_option maxHeartbeats 8000000 in
theorem rreadonly_any {w : World} {c : Cap13} {A : Option Addr} {n cc : Nat} (hw : c.wf) (hn : c.lit.length = n) (hr : Rd w w.heap.size A c.lit) :
    Calls Tryd.prog 19 #[.agg (capA c (.slice A n cc))] w fun e w' => CapSaid w w' e (if c.reads then ro13 c else cap0) (if c.reads then 0 else 11) := by
  obtain ⟨i0, hi, hz0, hz1, hz2⟩ := info_parts info5
  obtain ⟨CX, hCX⟩ : ∃ x, capA c (.slice A n cc) = x := ⟨_, rfl⟩
  have HST := Lib.hid (fun (W : World) (Y : Array Value) => CapR.start (w := w) (W := W) (Y := Y) hw hCX)
  obtain ⟨RD, hRD⟩ : ∃ x, decide c.reads = x := ⟨_, rfl⟩
  obtain ⟨WR, hWR⟩ : ∃ x, decide c.writes = x := ⟨_, rfl⟩
  have HCR := Lib.hid (fun (W : World) => (show Calls Tryd.prog 44 #[.agg CX] W fun e w' => e = .returned (.bool RD) ∧ Below W.heap.size W w' from by
    rw [← hCX, ← hRD]
    exact rcanread_any hw hn))
  have HCW := Lib.hid (fun (W : World) => (show Calls Tryd.prog 45 #[.agg CX] W fun e w' => e = .returned (.bool WR) ∧ Below W.heap.size W w' from by
    rw [← hCX, ← hWR]
    exact rcanwrite_any hw hn))
  have HRD := Lib.hid hRD
  have HWR := Lib.hid hWR
  have HCX := Lib.hid hCX
  have HW := Lib.hid hw
  have HN := Lib.hid hn
  have HLR := Lib.hid (fun (W : World) (hW : Below w.heap.size w W) => hr.on hW)
  have HSH := Lib.hid (fun (A2 : Option Addr) (W : World) (hr : RdR W W.heap.size A2 [c.key]) => rshort_any readTag A2 1 1 [c.key] W (by decide) rfl (by decide) (fun r h => by rw [List.mem_singleton.1 h, HW.out.1]; decide) hr)
  rw [hCX]
  clear hCX hRD hWR hw hn hr
  obtain ⟨M, hM⟩ : ∃ x, (if c.reads then ro13 c else cap0) = x := ⟨_, rfl⟩
  obtain ⟨E, hE⟩ : ∃ x, (if c.reads then (0 : Int) else 11) = x := ⟨_, rfl⟩
  have HM := Lib.hid hM
  have HE := Lib.hid hE
  have HI := Lib.hid (And.intro hi (And.intro hz0 (And.intro hz1 hz2)))
  rw [hM, hE]
  clear hM hE hi hz0 hz1 hz2
  go_enter Tryd.func19, Tryd.ntmps19
  go_upto_region 1 with fail
  generalize hwa : World.alloc _ _ = w1
  have H1 := HST.out w1 _ rfl hwa.symm
  clear HST hwa
  obtain ⟨b, hb⟩ : ∃ g, w.heap.size = g := ⟨_, rfl⟩
  obtain ⟨r, hr⟩ : ∃ g, w.heap.size + 1 = g := ⟨_, rfl⟩
  have HBR := Lib.hid (show b + 1 = r by omega)
  rw [hr] at H1 ⊢
  rw [hb] at H1 ⊢
  have HB := Lib.hid hb
  clear hb hr
  have HR := Lib.hid H1
  clear H1
  cases RD
  · have hno : ¬ c.reads := of_decide_eq_false HRD.out
    have hM : M = cap0 := by rw [← HM.out, if_neg hno]
    have hE : E = 11 := by rw [← HE.out, if_neg hno]
    subst hM hE
    clear hno HM HE HSH HCW
    obtain ⟨C5, hC5⟩ : ∃ x, capA cap0 (.slice none 0 0) = x := ⟨_, rfl⟩
    have HC5 := Lib.hid hC5
    have HZ5 := Lib.hid (show C5.size = 53 by rw [← hC5]; exact capA_size ⟨rfl, rfl⟩ _)
    have HO5 := Lib.hid (show C5.all (·.oneCell') = true by rw [← hC5]; exact capA_one)
    clear hC5
    go_wp2_with (first
      | (refine wpList_load_capC ?_ (.tmp 1) rfl b rfl HR.out.cap HCX.out ?_; · rfl)
      | ((with_reducible refine (HCR.out _).mono ?_); rintro e w2 ⟨rfl, hb2⟩; have hR2 := HR.out.below hb2; obtain ⟨rs, hrs, hrz⟩ := hR2.res; have HR2 := Lib.hid hR2; have HRS := Lib.hid hrs; have HRZ := Lib.hid hrz; clear hR2 hrs hrz hb2)
      | (refine wpList_build_C ?_ 28 #[] rfl [] (by simp) C5 _ built_cap0 HC5.out ?_; · rfl)
      | (with_reducible refine wpList_store_blkTo rfl 28 (.tmp 2) (.tmp 7) rfl rfl r C5 rfl rfl 28 rs HRS.out (by rw [HZ5.out]; kernel_rfl) (by rw [HZ5.out, HRZ.out]) HO5.out ?_))
    have hs := HR2.out.tell (d := cap0) (C := C5) ⟨⟨rfl, rfl⟩, none, 0, 0, by rw [HC5.out], rfl, Nat.le_refl _, .inl rfl, .inl rfl⟩ (fun _ _ _ _ => .inl rfl)
    refine bodyPost_ret (v := .tuple #[.agg C5, .int .i64 11]) (results_cell_tmpC (p := 2) (q := 3) (ty := 28) (by kernel_rfl) _ _ r 28 _ (0, 0) _ _ rfl rfl (HRS.out.row C5) Tryd.underlying28 rfl (by rw [HZ5.out]; kernel_rfl)) rfl ⟨⟨_, rfl, hs.1⟩, by first | exact hs.2 | (rw [← HB.out]; exact hs.2)⟩
  · have hyes : c.reads := of_decide_eq_true HRD.out
    have hM : M = ro13 c := by rw [← HM.out, if_pos hyes]
    have hE : E = 0 := by rw [← HE.out, if_pos hyes]
    subst hE
    have HMM := Lib.hid hM
    have HSM := Lib.hid (ok_small hyes.1 HN.out)
    clear hM hyes HM HE
    go_upto_region 3 with (first
      | (refine wpList_load_capC ?_ (.tmp 1) rfl b rfl HR.out.cap HCX.out ?_; · rfl)
      | ((with_reducible refine (HCR.out _).mono ?_); rintro e w2 ⟨rfl, hb2⟩))
    have HR2 := Lib.hid (HR.out.below hb2)
    clear hb2 HCR HR
    cases WR
    · have hnw : ¬ c.writes := of_decide_eq_false HWR.out
      have hM : M = c := by
        rw [HMM.out]
        exact ro13_same (fun h => hnw ⟨(of_decide_eq_true HRD.out : c.reads).1, h⟩)
      have HMC := Lib.hid hM
      clear hM hnw HSH
      go_upto_region 6 with (first
        | (refine wpList_load_capC ?_ (.tmp 1) rfl b rfl HR2.out.cap HCX.out ?_; · rfl)
        | ((with_reducible refine (HCW.out _).mono ?_); rintro e w6 ⟨rfl, hb6⟩))
      have HR6 := Lib.hid (show CapR w w6 b r M (.slice A n cc) by rw [HMC.out]; exact HR2.out.below hb6)
      clear hb6 HR2 HCW HMC
      have HML := Lib.hid (show M.lit = c.lit by rw [HMM.out]; rfl)
      have hlr := HLR.out w6 HR6.out.bel
      have c52 := HR6.out.cap.cells.2.2.2.2
      have HBZ := Lib.hid (show r + 1 ≤ w6.heap.size ∧ b < r + 1 ∧ r < r + 1 ∧ w.heap.size ≤ r + 1 by
        obtain ⟨rs, h, _⟩ := HR6.out.res
        have h1 := h.lt
        have h2 := HR6.out.ge'
        have h3 := HBR.out
        omega)
      obtain ⟨hi, hz0, hz1, hz2⟩ := HI.out
      have hsm := HSM.out
      have hnl := HN.out
      go_upto_region 7 with (at_builtin; refine wpList_append_B rfl _ _ 26 26 rfl (r + 1) 5 i0 Tryd.underlying26 hi hz0 hz1 hz2 _ 0 [] rfl (OwnB.nil _ _ _) _ rfl n c.lit hnl (Src.ofRd Tryd.underlying26 _ _ _ _ _ hnl hlr) (by omega) HBZ.out.1 ?_)
      intro v7 w7 hown7 hg7
      obtain ⟨A7, c7, rfl, hc7, _⟩ := own_caps hown7.own
      have hb7 : Below w6.heap.size w6 w7 := (Below.refl _ _).grown hg7 (Nat.le_refl _) (fun k h => by simp [Value.ownBlock] at h)
      have HR7 := Lib.hid (HR6.out.below hb7)
      have z52 := HR7.out.cap.frozen 52
      have c52' := HR7.out.cap.cells.2.2.2.2
      have HO7 := Lib.hid hown7
      have HC7 := Lib.hid hc7
      clear c52 hlr hi hz0 hz1 hz2 hsm hnl hown7 hg7 hb7 hc7 HR6 HLR HI
      go_upto_region 7 with fail
      have h8 := HR7.out.setLit (.slice A7 n c7) c.lit
      have hk8 : KeepB (r + 1) w7 (w7.setCell ⟨b, 52, none⟩ (.slice A7 n c7)) := (KeepB.refl (r + 1) w7).setCell HBZ.out.2.1 52 _
      generalize w7.setCell ⟨b, 52, none⟩ (.slice A7 n c7) = w8 at *
      have HR8 := Lib.hid (show CapR w w8 b r M (.slice A7 n c7) by
        have e : ({ M with lit := c.lit } : Cap13) = M := by rw [← HML.out]
        rw [← e]
        exact h8)
      obtain ⟨C5, hC5⟩ : ∃ x, capA M (.slice A7 n c7) = x := ⟨_, rfl⟩
      have HC5 := Lib.hid hC5
      have HZ5 := Lib.hid (show C5.size = 53 by rw [← hC5]; exact capA_size HR8.out.cap.wf _)
      have HO5 := Lib.hid (show C5.all (·.oneCell') = true by rw [← hC5]; exact capA_one)
      have HLR := Lib.hid (fun (cs : Array Value) => (show Rd (w8.setRow r cs) (w8.setRow r cs).heap.size A7 M.lit ∧ LitAt w.heap.size A7 M.lit by
        rw [HML.out]
        refine ⟨((hk8.row HBZ.out.2.2.1 cs).own HO7.out).rd, ?_⟩
        rcases HO7.out.2 with ⟨e, h0⟩ | ⟨g, cap, full, e, hg, _⟩
        · exact .inl (List.length_eq_zero_iff.1 (HN.out.trans h0))
        · refine .inr fun ad had => ?_
          injection e with e1
          rw [had] at e1
          injection e1 with e1
          subst e1
          exact Nat.le_trans HBZ.out.2.2.2 hg))
      obtain ⟨rs, hrs, hrz⟩ := HR8.out.res
      have HRS := Lib.hid hrs
      have HRZ := Lib.hid hrz
      clear hrs hrz hC5 h8 hk8 z52 c52' HR7
      go_wp2_with (first | (refine wpList_load_capC ?_ (.tmp 1) rfl b rfl HR8.out.cap HC5.out ?_; · rfl) | (with_reducible refine wpList_store_blkTo rfl 28 (.tmp 2) (.tmp 23) rfl rfl r C5 rfl rfl 28 rs HRS.out (by rw [HZ5.out]; kernel_rfl) (by rw [HZ5.out, HRZ.out]) HO5.out ?_))
      have hs := HR8.out.said (by rw [HML.out]; exact HN.out) HC7.out (cs := C5) (HLR.out C5) HC5.out
      refine bodyPost_ret (v := .tuple #[.agg C5, .int .i64 0]) (results_cell_tmpC (p := 2) (q := 3) (ty := 28) (by kernel_rfl) _ _ r 28 _ (0, 0) _ _ rfl rfl (HRS.out.row C5) Tryd.underlying28 rfl (by rw [HZ5.out]; kernel_rfl)) rfl ⟨⟨_, rfl, hs.1⟩, by first | exact hs.2 | (rw [← HB.out]; exact hs.2)⟩
    · have hyw : c.writes := of_decide_eq_true HWR.out
      obtain ⟨hk1, hk2, hk3⟩ := readK_up hyw
      have hM : M = { c with kind := c.kind + 1, key := short13 readTag [c.key] } := by rw [HMM.out]; unfold ro13; rw [if_pos hyw, hk1]
      have HMC := Lib.hid hM
      have hwr : IntKind.i64.wrap (c.kind + 1) = c.kind + 1 := by rw [IntKind.wrap_i64]; omega
      have HWRP := Lib.hid hwr
      obtain ⟨KZ, hKZ⟩ : ∃ x, u8A (short13 readTag [c.key]) = x := ⟨_, rfl⟩
      have HKZ := Lib.hid hKZ
      have HKS := Lib.hid (show KZ.size = 16 ∧ KZ.all (·.oneCell') = true by rw [← hKZ]; exact ⟨by rw [u8A_size]; exact short13_len _ _, u8A_one _⟩)
      clear hM hyw hk1 hk2 hk3 hwr hKZ
      go_upto_region 4 with (first
        | (refine wpList_load_capC ?_ (.tmp 1) rfl b rfl HR2.out.cap HCX.out ?_; · rfl)
        | ((with_reducible refine (HCW.out _).mono ?_); rintro e w3 ⟨rfl, hb3⟩))
      have HR3 := Lib.hid (HR2.out.below hb3)
      clear hb3 HR2 HCW
      have hal : Below w3.heap.size w3 (w3.alloc (.cells #[.slice (some ⟨b, 1, none⟩) 16 16] 26)) := (Below.refl _ _).alloc (Nat.le_refl _) _
      have HTG := Lib.hid (show Calls Tryd.prog 46 #[.string ⟨#[114, 101, 97, 100]⟩, .slice (some ⟨w3.heap.size, 0, none⟩) 1 1] (w3.alloc (.cells #[.slice (some ⟨b, 1, none⟩) 16 16] 26)) fun e w' => e = .returned (.agg KZ) ∧ Below w3.heap.size w3 w' from by
        have h := HSH.out (some ⟨w3.heap.size, 0, none⟩) _ (rdr_leafC w3 (some ⟨b, 1, none⟩) HW.out.1 (Nat.le_refl 16) (by decide) (Rd.of_range HR3.out.cap.lt HR3.out.cap.rangeKey))
        rw [← HKZ.out]
        exact h.mono fun e w' ⟨he, hq⟩ => ⟨he, Below.then hal hq⟩)
      clear hal HSH
      go_upto_region 5 with (first
        | ((with_reducible refine HTG.out.mono ?_); rintro e w4 ⟨rfl, hb4⟩; have HR4 := Lib.hid (HR3.out.below hb4); have HT4 := Lib.hid (show w4.there b 1 KZ.size by rw [HKS.out.1]; exact HR4.out.cap.there 1 16 (by omega)); clear hb4)
        | (with_reducible refine wpList_store_mid rfl 23 (.tmp 14) (.tmp 13) rfl b 1 KZ rfl rfl HT4.out (by rw [HKS.out.1]; kernel_rfl) HKS.out.2 ?_))
      have h5 := HR4.out.setKey (short13 readTag [c.key]) (short13_len _ _)
      have hkl : KZ.toList = Lib.byteCells (short13 readTag [c.key]) := by rw [← HKZ.out]; rfl
      rw [hkl]
      generalize w4.setCells b 1 (Lib.byteCells (short13 readTag [c.key])) = w5 at *
      have HR5 := Lib.hid h5
      have c0 := h5.cap.cells.1
      have z0 := h5.cap.frozen 0
      clear h5 hkl HT4 HR4 HTG HR3
      have hwr := HWRP.out
      go_upto_region 6 with fail
      have h6 := HR5.out.setKind (c.kind + 1)
      generalize w5.setCell ⟨b, 0, none⟩ (.int .i64 (c.kind + 1)) = w6 at *
      have HR6 := Lib.hid (show CapR w w6 b r M (.slice A n cc) by rw [HMC.out]; exact h6)
      clear h6 c0 z0 hwr HR5 HMC
      have HML := Lib.hid (show M.lit = c.lit by rw [HMM.out]; rfl)
      have hlr := HLR.out w6 HR6.out.bel
      have c52 := HR6.out.cap.cells.2.2.2.2
      have HBZ := Lib.hid (show r + 1 ≤ w6.heap.size ∧ b < r + 1 ∧ r < r + 1 ∧ w.heap.size ≤ r + 1 by
        obtain ⟨rs, h, _⟩ := HR6.out.res
        have h1 := h.lt
        have h2 := HR6.out.ge'
        have h3 := HBR.out
        omega)
      obtain ⟨hi, hz0, hz1, hz2⟩ := HI.out
      have hsm := HSM.out
      have hnl := HN.out
      go_upto_region 7 with (at_builtin; refine wpList_append_B rfl _ _ 26 26 rfl (r + 1) 5 i0 Tryd.underlying26 hi hz0 hz1 hz2 _ 0 [] rfl (OwnB.nil _ _ _) _ rfl n c.lit hnl (Src.ofRd Tryd.underlying26 _ _ _ _ _ hnl hlr) (by omega) HBZ.out.1 ?_)
      intro v7 w7 hown7 hg7
      obtain ⟨A7, c7, rfl, hc7, _⟩ := own_caps hown7.own
      have hb7 : Below w6.heap.size w6 w7 := (Below.refl _ _).grown hg7 (Nat.le_refl _) (fun k h => by simp [Value.ownBlock] at h)
      have HR7 := Lib.hid (HR6.out.below hb7)
      have z52 := HR7.out.cap.frozen 52
      have c52' := HR7.out.cap.cells.2.2.2.2
      have HO7 := Lib.hid hown7
      have HC7 := Lib.hid hc7
      clear c52 hlr hi hz0 hz1 hz2 hsm hnl hown7 hg7 hb7 hc7 HR6 HLR HI
      go_upto_region 7 with fail
      have h8 := HR7.out.setLit (.slice A7 n c7) c.lit
      have hk8 : KeepB (r + 1) w7 (w7.setCell ⟨b, 52, none⟩ (.slice A7 n c7)) := (KeepB.refl (r + 1) w7).setCell HBZ.out.2.1 52 _
      generalize w7.setCell ⟨b, 52, none⟩ (.slice A7 n c7) = w8 at *
      have HR8 := Lib.hid (show CapR w w8 b r M (.slice A7 n c7) by
        have e : ({ M with lit := c.lit } : Cap13) = M := by rw [← HML.out]
        rw [← e]
        exact h8)
      obtain ⟨C5, hC5⟩ : ∃ x, capA M (.slice A7 n c7) = x := ⟨_, rfl⟩
      have HC5 := Lib.hid hC5
      have HZ5 := Lib.hid (show C5.size = 53 by rw [← hC5]; exact capA_size HR8.out.cap.wf _)
      have HO5 := Lib.hid (show C5.all (·.oneCell') = true by rw [← hC5]; exact capA_one)
      have HLR := Lib.hid (fun (cs : Array Value) => (show Rd (w8.setRow r cs) (w8.setRow r cs).heap.size A7 M.lit ∧ LitAt w.heap.size A7 M.lit by
        rw [HML.out]
        refine ⟨((hk8.row HBZ.out.2.2.1 cs).own HO7.out).rd, ?_⟩
        rcases HO7.out.2 with ⟨e, h0⟩ | ⟨g, cap, full, e, hg, _⟩
        · exact .inl (List.length_eq_zero_iff.1 (HN.out.trans h0))
        · refine .inr fun ad had => ?_
          injection e with e1
          rw [had] at e1
          injection e1 with e1
          subst e1
          exact Nat.le_trans HBZ.out.2.2.2 hg))
      obtain ⟨rs, hrs, hrz⟩ := HR8.out.res
      have HRS := Lib.hid hrs
      have HRZ := Lib.hid hrz
      clear hrs hrz hC5 h8 hk8 z52 c52' HR7
      go_wp2_with (first | (refine wpList_load_capC ?_ (.tmp 1) rfl b rfl HR8.out.cap HC5.out ?_; · rfl) | (with_reducible refine wpList_store_blkTo rfl 28 (.tmp 2) (.tmp 23) rfl rfl r C5 rfl rfl 28 rs HRS.out (by rw [HZ5.out]; kernel_rfl) (by rw [HZ5.out, HRZ.out]) HO5.out ?_))
      have hs := HR8.out.said (by rw [HML.out]; exact HN.out) HC7.out (cs := C5) (HLR.out C5) HC5.out
      refine bodyPost_ret (v := .tuple #[.agg C5, .int .i64 0]) (results_cell_tmpC (p := 2) (q := 3) (ty := 28) (by kernel_rfl) _ _ r 28 _ (0, 0) _ _ rfl rfl (HRS.out.row C5) Tryd.underlying28 rfl (by rw [HZ5.out]; kernel_rfl)) rfl ⟨⟨_, rfl, hs.1⟩, by first | exact hs.2 | (rw [← HB.out]; exact hs.2)⟩
end Go.Proofs.YtkkokngdhhakdaaDoor
