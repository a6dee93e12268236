/- The document's own VerifyOnly and Index. -/
import Derived.Test.YtkkokngdhhakdaaDoorCapL
namespace Go.Proofs.YtkkokngdhhakdaaDoor
open Go.RowKit
set_option maxRecDepth 100000

theorem idxOK_lit {c : Cap13} (h : idxOK c) : c.lit = [] := by
  obtain ⟨h1, h2⟩ := h
  unfold Cap13.ok at h1
  by_cases hf : FileK c.kind
  · rw [if_pos hf] at h1
    exact h1.2.2.2.2.2
  · rw [if_neg hf, if_neg h2] at h1
    exact h1.2.2
theorem verK_up {c : Cap13} (h : c.reads) (h3 : c.kind ≠ 3) : verK c.kind = (ro13 c).kind + 1 ∧ 0 ≤ (ro13 c).kind ∧ (ro13 c).kind ≤ 9 := by
  obtain ⟨h, hv⟩ := h
  show verK c.kind = readK c.kind + 1 ∧ 0 ≤ readK c.kind ∧ readK c.kind ≤ 9
  rcases ok_nine h with e | e | e | e | e | e | e | e | e <;> first | exact absurd e h3 | (rw [e] at hv ⊢; revert hv; decide)
set_option maxHeartbeats 8000000 in
theorem rverify_any {w : World} {c : Cap13} {A : Option Addr} {n cc : Nat} (hw : c.wf) (hn : c.lit.length = n) (hr : Rd w w.heap.size A c.lit) :
    Calls Tryd.prog 20 #[.agg (capA c (.slice A n cc))] w fun e w' => CapSaid w w' e (if idxOK c then vo13 c else cap0) (if idxOK c then 0 else 11) := by
  obtain ⟨CX, hCX⟩ : ∃ x, capA c (.slice A n cc) = x := ⟨_, rfl⟩
  have HST := Lib.hid (fun (W : World) (Y : Array Value) => CapR.start (w := w) (W := W) (Y := Y) hw hCX)
  obtain ⟨OK, hOK⟩ : ∃ x, decide c.ok = x := ⟨_, rfl⟩
  obtain ⟨RD, hRD⟩ : ∃ x, decide c.reads = x := ⟨_, rfl⟩
  have HVA := Lib.hid (fun (W : World) => (show Calls Tryd.prog 47 #[.agg CX] W fun e w' => e = .returned (.bool OK) ∧ Below W.heap.size W w' from by
    rw [← hCX, ← hOK]
    exact rvalid_any hw hn))
  have HCR := Lib.hid (fun (W : World) => (show Calls Tryd.prog 44 #[.agg CX] W fun e w' => e = .returned (.bool RD) ∧ Below W.heap.size W w' from by
    rw [← hCX, ← hRD]
    exact rcanread_any hw hn))
  have HRO := Lib.hid (fun (hyes : c.reads) (W : World) (hW : Below w.heap.size w W) => (show Calls Tryd.prog 19 #[.agg CX] W fun e w' => CapSaid W w' e (ro13 c) 0 from by
    rw [← hCX]
    have h := rreadonly_any (cc := cc) hw hn (hr.on hW)
    rwa [if_pos hyes, if_pos hyes] at h))
  have HOK := Lib.hid hOK
  have HRD := Lib.hid hRD
  have HCX := Lib.hid hCX
  have HW := Lib.hid hw
  have HN := Lib.hid hn
  have HSH := Lib.hid (fun (A2 : Option Addr) (W : World) (hr : RdR W W.heap.size A2 [(ro13 c).key]) (hk : (ro13 c).key.length = 16) => rshort_any indexTag A2 1 1 [(ro13 c).key] W (by decide) rfl (by decide) (fun r h => by rw [List.mem_singleton.1 h, hk]; decide) hr)
  rw [hCX]
  clear hCX hOK hRD hw hn hr
  obtain ⟨M, hM⟩ : ∃ x, (if idxOK c then vo13 c else cap0) = x := ⟨_, rfl⟩
  obtain ⟨E, hE⟩ : ∃ x, (if idxOK c then (0 : Int) else 11) = x := ⟨_, rfl⟩
  have HM := Lib.hid hM
  have HE := Lib.hid hE
  rw [hM, hE]
  clear hM hE
  go_enter Tryd.func20, Tryd.ntmps20
  go_upto_region 1 with fail
  generalize hwa : World.alloc _ _ = w1
  have H1 := HST.out w1 _ rfl hwa.symm
  clear HST hwa
  obtain ⟨b, hb⟩ : ∃ g, w.heap.size = g := ⟨_, rfl⟩
  obtain ⟨r, hr⟩ : ∃ g, w.heap.size + 1 = g := ⟨_, rfl⟩
  rw [hr] at H1 ⊢
  rw [hb] at H1 ⊢
  have HB := Lib.hid hb
  clear hb hr
  have HR := Lib.hid H1
  clear H1
  by_cases hix : idxOK c
  · have hM : M = vo13 c := by rw [← HM.out, if_pos hix]
    have hE : E = 0 := by rw [← HE.out, if_pos hix]
    obtain rfl : OK = true := by rw [← HOK.out]; exact decide_eq_true hix.1
    subst hE
    have HMM := Lib.hid hM
    have hlit := idxOK_lit hix
    have HLT := Lib.hid hlit
    have HIX := Lib.hid hix
    have hk3 := hix.2
    have hn0 : n = 0 := by rw [← HN.out, hlit]; rfl
    clear hM HM HE hix hlit
    go_upto_region 3 with (first
      | (refine wpList_load_capC ?_ (.tmp 1) rfl b rfl HR.out.cap HCX.out ?_; · rfl)
      | ((with_reducible refine (HVA.out _).mono ?_); rintro e w2 ⟨rfl, hb2⟩; have HR2 := Lib.hid (HR.out.below hb2); have c0 := HR2.out.cap.cells.1; have hkk : (c.kind == 3) = false := beq_eq_false_iff_ne.2 hk3; clear hb2))
    clear c0 hkk HVA HR
    cases RD
    · have hnr : ¬ c.reads := of_decide_eq_false HRD.out
      have hMc : M = c := by rw [HMM.out]; exact vo13_same HIX.out hnr
      have HMC := Lib.hid hMc
      clear hnr hMc HRO HSH
      have HZ5 := Lib.hid (show CX.size = 53 by rw [← HCX.out]; exact capA_size HW.out _)
      have HO5 := Lib.hid (show CX.all (·.oneCell') = true by rw [← HCX.out]; exact capA_one)
      go_upto_region 4 with (first
        | (refine wpList_load_capC ?_ (.tmp 1) rfl b rfl HR2.out.cap HCX.out ?_; · rfl)
        | ((with_reducible refine (HCR.out _).mono ?_); rintro e w3 ⟨rfl, hb3⟩))
      have HR3 := Lib.hid (HR2.out.below hb3)
      obtain ⟨rs, hrs, hrz⟩ := HR3.out.res
      have HRS := Lib.hid hrs
      have HRZ := Lib.hid hrz
      clear hb3 hrs hrz HR2 HCR
      go_wp2_with (first
        | (refine wpList_load_capC ?_ (.tmp 1) rfl b rfl HR3.out.cap HCX.out ?_; · rfl)
        | (with_reducible refine wpList_store_blkTo rfl 28 (.tmp 2) (.tmp 18) rfl rfl r CX rfl rfl 28 rs HRS.out (by rw [HZ5.out]; kernel_rfl) (by rw [HZ5.out, HRZ.out]) HO5.out ?_))
      have hs := HR3.out.tell (d := M) (C := CX) ⟨by rw [HMC.out]; exact HW.out, A, n, cc, by rw [← HCX.out, HMC.out], by rw [HMC.out]; exact HN.out, by omega, .inl (by rw [HMC.out]; exact HLT.out), .inl (by rw [HMC.out]; exact HLT.out)⟩ (fun _ _ _ _ => .inl (by rw [HMC.out]; exact HLT.out))
      refine bodyPost_ret (v := .tuple #[.agg CX, .int .i64 0]) (results_cell_tmpC (p := 2) (q := 3) (ty := 28) (by kernel_rfl) _ _ r 28 _ (0, 0) _ _ rfl rfl (HRS.out.row CX) Tryd.underlying28 rfl (by rw [HZ5.out]; kernel_rfl)) rfl ⟨⟨_, rfl, hs.1⟩, by first | exact hs.2 | (rw [← HB.out]; exact hs.2)⟩
    · have hyr : c.reads := of_decide_eq_true HRD.out
      obtain ⟨hv1, hv2, hv3⟩ := verK_up hyr hk3
      have hMc : M = { ro13 c with kind := (ro13 c).kind + 1, key := short13 indexTag [(ro13 c).key] } := by
        rw [HMM.out]
        unfold vo13 idx13
        rw [if_pos hyr, hv1]
        rfl
      have HMC := Lib.hid hMc
      have HRO1 := Lib.hid (HRO.out hyr)
      have HRW := Lib.hid (show (ro13 c).lit = [] from HLT.out)
      have hwr : IntKind.i64.wrap ((ro13 c).kind + 1) = (ro13 c).kind + 1 := by rw [IntKind.wrap_i64]; omega
      have HWRP := Lib.hid hwr
      obtain ⟨KZ, hKZ⟩ : ∃ x, u8A (short13 indexTag [(ro13 c).key]) = x := ⟨_, rfl⟩
      have HKZ := Lib.hid hKZ
      have HKS := Lib.hid (show KZ.size = 16 ∧ KZ.all (·.oneCell') = true by rw [← hKZ]; exact ⟨by rw [u8A_size]; exact short13_len _ _, u8A_one _⟩)
      generalize ro13 c = R at *
      clear hyr hv1 hv2 hv3 hMc HRO hwr hKZ hk3 hn0
      go_upto_region 5 with (first
        | (refine wpList_load_capC ?_ (.tmp 1) rfl b rfl HR2.out.cap HCX.out ?_; · rfl)
        | ((with_reducible refine (HCR.out _).mono ?_); rintro e w3 ⟨rfl, hb3⟩))
      have HR3 := Lib.hid (HR2.out.below hb3)
      clear hb3 HR2 HCR
      go_upto_region 6 with (first
        | (refine wpList_load_capC ?_ (.tmp 1) rfl b rfl HR3.out.cap HCX.out ?_; · rfl)
        | ((with_reducible refine (HRO1.out _ HR3.out.bel).mono ?_); rintro e w7 ⟨⟨v, rfl, hv⟩, hb7⟩; obtain ⟨hwf, A2, n2, cc2, rfl, hln, hrm, hrd, hla⟩ := hv; obtain ⟨C5, hC5⟩ : ∃ x, capA R (.slice A2 n2 cc2) = x := ⟨_, rfl⟩; rw [hC5]; have HC5 := Lib.hid hC5; have HZ5 := Lib.hid (show C5.size = 53 ∧ C5.all (·.oneCell') = true by rw [← hC5]; exact ⟨capA_size hwf _, capA_one⟩))
        | (with_reducible refine wpList_store_blkTo rfl 28 (.tmp 4) (.tmp 22) rfl rfl w7.heap.size C5 rfl rfl 28 _ (Blk.new w7 _ _) (by rw [HZ5.out.1]; kernel_rfl) (by rw [HZ5.out.1]; kernel_rfl) HZ5.out.2 ?_))
      have hfr := fun Y => CapW.fresh (HR3.out.bel.trans (hb7.mono HR3.out.bel.size)) hwf hln hrm hrd Y hC5
      generalize hwn : World.setRow _ _ _ = w8
      have hk8 : CapW w w8 w7.heap.size R A2 n2 cc2 ∧ Below w7.heap.size w7 w8 := by
        rw [← hwn]
        exact hfr _
      have hb38 := hb7.trans (hk8.2.mono hb7.size)
      have hR8 := HR3.out.below hb38
      obtain ⟨rs0, hrs0, hrz0⟩ := HR3.out.res
      have hge := hb7.size
      have hrlt := hrs0.lt
      have H8 := Lib.hid (show CapR w w8 w7.heap.size r R (.slice A2 n2 cc2) from ⟨hk8.1.cap, hR8.res, hk8.1.bel, by omega, hk8.1.ge, hR8.ge'⟩)
      obtain ⟨g4, hg4⟩ : ∃ x, w7.heap.size = x := ⟨_, rfl⟩
      rw [hg4] at H8 ⊢
      have HLN := Lib.hid (And.intro hln hrm)
      have HWF := Lib.hid hwf
      clear hfr hwn hk8 hb38 hb7 hg4 hR8 hrs0 hrz0 hge hrlt hwf hln hrm hrd hla hC5 HR3 HRO1
      have hal : Below w8.heap.size w8 (w8.alloc (.cells #[.slice (some ⟨g4, 1, none⟩) 16 16] 26)) := (Below.refl _ _).alloc (Nat.le_refl _) _
      have HTG := Lib.hid (show Calls Tryd.prog 46 #[.string ⟨#[105, 110, 100, 101, 120]⟩, .slice (some ⟨w8.heap.size, 0, none⟩) 1 1] (w8.alloc (.cells #[.slice (some ⟨g4, 1, none⟩) 16 16] 26)) fun e w' => e = .returned (.agg KZ) ∧ Below w8.heap.size w8 w' from by
        have h := HSH.out (some ⟨w8.heap.size, 0, none⟩) _ (rdr_leafC w8 (some ⟨g4, 1, none⟩) HWF.out.1 (Nat.le_refl 16) (by decide) (Rd.of_range H8.out.cap.lt H8.out.cap.rangeKey)) HWF.out.1
        rw [← HKZ.out]
        exact h.mono fun e w' ⟨he, hq⟩ => ⟨he, Below.then hal hq⟩)
      clear hal HSH
      go_upto_region 7 with (first
        | ((with_reducible refine HTG.out.mono ?_); rintro e w9 ⟨rfl, hb9⟩; have HR9 := Lib.hid (H8.out.below hb9); have HT9 := Lib.hid (show w9.there g4 1 KZ.size by rw [HKS.out.1]; exact HR9.out.cap.there 1 16 (by omega)); clear hb9)
        | (with_reducible refine wpList_store_mid rfl 23 (.tmp 28) (.tmp 27) rfl g4 1 KZ rfl rfl HT9.out (by rw [HKS.out.1]; kernel_rfl) HKS.out.2 ?_))
      have h5 := HR9.out.setKey (short13 indexTag [R.key]) (short13_len _ _)
      have hkl : KZ.toList = Lib.byteCells (short13 indexTag [R.key]) := by rw [← HKZ.out]; rfl
      rw [hkl]
      generalize w9.setCells g4 1 (Lib.byteCells (short13 indexTag [R.key])) = wa at *
      have HR5 := Lib.hid h5
      have c0 := h5.cap.cells.1
      have z0 := h5.cap.frozen 0
      clear h5 hkl HT9 HR9 HTG H8
      have hwr := HWRP.out
      go_upto_region 8 with fail
      have h6 := HR5.out.setKind (R.kind + 1)
      generalize wa.setCell ⟨g4, 0, none⟩ (.int .i64 (R.kind + 1)) = wb at *
      have HR6 := Lib.hid (show CapR w wb g4 r M (.slice A2 n2 cc2) by rw [HMC.out]; exact h6)
      clear h6 c0 z0 hwr HR5
      obtain ⟨C6, hC6⟩ : ∃ x, capA M (.slice A2 n2 cc2) = x := ⟨_, rfl⟩
      have HC6 := Lib.hid hC6
      have HZ6 := Lib.hid (show C6.size = 53 by rw [← hC6]; exact capA_size HR6.out.cap.wf _)
      have HO6 := Lib.hid (show C6.all (·.oneCell') = true by rw [← hC6]; exact capA_one)
      have HML := Lib.hid (show M.lit = [] by rw [HMC.out]; exact HRW.out)
      obtain ⟨rs, hrs, hrz⟩ := HR6.out.res
      have HRS := Lib.hid hrs
      have HRZ := Lib.hid hrz
      clear hrs hrz hC6
      go_wp2_with (first | (refine wpList_load_capC ?_ (.tmp 4) rfl g4 rfl HR6.out.cap HC6.out ?_; · rfl) | (with_reducible refine wpList_store_blkTo rfl 28 (.tmp 2) (.tmp 33) rfl rfl r C6 rfl rfl 28 rs HRS.out (by rw [HZ6.out]; kernel_rfl) (by rw [HZ6.out, HRZ.out]) HO6.out ?_))
      have hs := HR6.out.said (by rw [HMC.out]; exact HLN.out.1) HLN.out.2 (cs := C6) ⟨.inl HML.out, .inl HML.out⟩ HC6.out
      refine bodyPost_ret (v := .tuple #[.agg C6, .int .i64 0]) (results_cell_tmpC (p := 2) (q := 3) (ty := 28) (by kernel_rfl) _ _ r 28 _ (0, 0) _ _ rfl rfl (HRS.out.row C6) Tryd.underlying28 rfl (by rw [HZ6.out]; kernel_rfl)) rfl ⟨⟨_, rfl, hs.1⟩, by first | exact hs.2 | (rw [← HB.out]; exact hs.2)⟩
  · have hM : M = cap0 := by rw [← HM.out, if_neg hix]
    have hE : E = 11 := by rw [← HE.out, if_neg hix]
    subst hM hE
    clear HM HE HSH HCR HRO
    obtain ⟨C5, hC5⟩ : ∃ x, capA cap0 (.slice none 0 0) = x := ⟨_, rfl⟩
    have HC5 := Lib.hid hC5
    have HZ5 := Lib.hid (show C5.size = 53 by rw [← hC5]; exact capA_size ⟨rfl, rfl⟩ _)
    have HO5 := Lib.hid (show C5.all (·.oneCell') = true by rw [← hC5]; exact capA_one)
    have HIX := Lib.hid hix
    have HEND := Lib.hid (fun (w2 : World) (hR2 : CapR w w2 b r c (.slice A n cc)) => hR2.tell (d := cap0) (C := C5))
    clear hC5 hix
    cases OK
    · go_wp2_with (first
        | (refine wpList_load_capC ?_ (.tmp 1) rfl b rfl HR.out.cap HCX.out ?_; · rfl)
        | ((with_reducible refine (HVA.out _).mono ?_); rintro e w2 ⟨rfl, hb2⟩; have hR2 := HR.out.below hb2; obtain ⟨rs, hrs, hrz⟩ := hR2.res; have HR2 := Lib.hid hR2; have HRS := Lib.hid hrs; have HRZ := Lib.hid hrz; clear hR2 hrs hrz hb2)
        | (refine wpList_build_C ?_ 28 #[] rfl [] (by simp) C5 _ built_cap0 HC5.out ?_; · rfl)
        | (with_reducible refine wpList_store_blkTo rfl 28 (.tmp 2) (.tmp 14) rfl rfl r C5 rfl rfl 28 rs HRS.out (by rw [HZ5.out]; kernel_rfl) (by rw [HZ5.out, HRZ.out]) HO5.out ?_))
      have hs := HR2.out.tell (d := cap0) (C := C5) ⟨⟨rfl, rfl⟩, none, 0, 0, by rw [HC5.out], rfl, Nat.le_refl _, .inl rfl, .inl rfl⟩ (fun _ _ _ _ => .inl rfl)
      refine bodyPost_ret (v := .tuple #[.agg C5, .int .i64 11]) (results_cell_tmpC (p := 2) (q := 3) (ty := 28) (by kernel_rfl) _ _ r 28 _ (0, 0) _ _ rfl rfl (HRS.out.row C5) Tryd.underlying28 rfl (by rw [HZ5.out]; kernel_rfl)) rfl ⟨⟨_, rfl, hs.1⟩, by first | exact hs.2 | (rw [← HB.out]; exact hs.2)⟩
    · have hk3 : c.kind = 3 := by
        have h1 : c.ok := of_decide_eq_true HOK.out
        exact Decidable.byContradiction fun h => HIX.out ⟨h1, h⟩
      have HK3 := Lib.hid hk3
      clear hk3
      go_wp2_with (first
        | (refine wpList_load_capC ?_ (.tmp 1) rfl b rfl HR.out.cap HCX.out ?_; · rfl)
        | ((with_reducible refine (HVA.out _).mono ?_); rintro e w2 ⟨rfl, hb2⟩; have hR2 := HR.out.below hb2; obtain ⟨rs, hrs, hrz⟩ := hR2.res; have c0 := hR2.cap.cells.1; rw [HK3.out] at c0; have HR2 := Lib.hid hR2; have HRS := Lib.hid hrs; have HRZ := Lib.hid hrz; clear hR2 hrs hrz hb2)
        | (refine wpList_build_C ?_ 28 #[] rfl [] (by simp) C5 _ built_cap0 HC5.out ?_; · rfl)
        | (with_reducible refine wpList_store_blkTo rfl 28 (.tmp 2) (.tmp 14) rfl rfl r C5 rfl rfl 28 rs HRS.out (by rw [HZ5.out]; kernel_rfl) (by rw [HZ5.out, HRZ.out]) HO5.out ?_))
      have hs := HR2.out.tell (d := cap0) (C := C5) ⟨⟨rfl, rfl⟩, none, 0, 0, by rw [HC5.out], rfl, Nat.le_refl _, .inl rfl, .inl rfl⟩ (fun _ _ _ _ => .inl rfl)
      refine bodyPost_ret (v := .tuple #[.agg C5, .int .i64 11]) (results_cell_tmpC (p := 2) (q := 3) (ty := 28) (by kernel_rfl) _ _ r 28 _ (0, 0) _ _ rfl rfl (HRS.out.row C5) Tryd.underlying28 rfl (by rw [HZ5.out]; kernel_rfl)) rfl ⟨⟨_, rfl, hs.1⟩, by first | exact hs.2 | (rw [← HB.out]; exact hs.2)⟩
set_option maxHeartbeats 4000000 in
theorem rindex_any {w : World} {c : Cap13} {A : Option Addr} {n cc : Nat} (hw : c.wf) (hn : c.lit.length = n) (hr : Rd w w.heap.size A c.lit) :
    Calls Tryd.prog 21 #[.agg (capA c (.slice A n cc))] w fun e w' => e = .returned (.tuple #[.agg (u8A (if idxOK c then idx13 c else key0)), .int .i64 (if idxOK c then 0 else 11)]) ∧ Below w.heap.size w w' := by
  obtain ⟨CX, hCX⟩ : ∃ x, capA c (.slice A n cc) = x := ⟨_, rfl⟩
  have HC0 := Lib.hid (CapAt.new w (.slice A n cc) hw hCX)
  obtain ⟨M, hM⟩ : ∃ x, (if idxOK c then vo13 c else cap0) = x := ⟨_, rfl⟩
  obtain ⟨E, hE⟩ : ∃ x, (if idxOK c then (0 : Int) else 11) = x := ⟨_, rfl⟩
  have HVO := Lib.hid (fun (W : World) (hW : Below w.heap.size w W) => (show Calls Tryd.prog 20 #[.agg CX] W fun e w' => CapSaid W w' e M E from by
    rw [← hCX, ← hM, ← hE]
    exact rverify_any hw hn (hr.on hW)))
  have hkey : (if idxOK c then idx13 c else key0) = M.key := by
    rw [← hM]
    split <;> rfl
  obtain ⟨KV, hKV⟩ : ∃ x, u8A M.key = x := ⟨_, rfl⟩
  have HKV := Lib.hid hKV
  have HKS := Lib.hid (show KV.size = 16 ∧ KV.all (·.oneCell') = true by
    rw [← hKV, ← hkey]
    refine ⟨?_, u8A_one _⟩
    rw [u8A_size]
    split
    · exact idx13_len hw
    · rfl)
  have HCX := Lib.hid hCX
  rw [hCX, hkey, hKV, hE]
  clear hCX hM hE hkey hKV hw hn hr
  go_enter Tryd.func21, Tryd.ntmps21
  go_upto_region 1 with fail
  generalize hwa : World.alloc _ _ = w1
  obtain ⟨b, hb⟩ : ∃ g, w.heap.size = g := ⟨_, rfl⟩
  obtain ⟨r, hr⟩ : ∃ g, w.heap.size + 1 = g := ⟨_, rfl⟩
  have hst : CapAt w1 b c (.slice A n cc) ∧ (∃ rs, Blk w1 r rs 23 ∧ rs.size = 16) ∧ Below w.heap.size w w1 := by
    obtain ⟨Y, hY, hz⟩ : ∃ Y : Array Value, w1 = (w.alloc (.cells CX 28)).alloc (.cells Y 23) ∧ Y.size = 16 := ⟨_, hwa.symm, rfl⟩
    have hs1 : (w.alloc (.cells CX 28)).heap.size = w.heap.size + 1 := by simp
    rw [hY, ← hb, ← hr]
    exact ⟨⟨HC0.out.blk.alloc _, HC0.out.wf⟩, ⟨Y, by rw [← hs1]; exact Blk.new _ _ _, hz⟩, ((Below.refl _ _).alloc (Nat.le_refl _) _).alloc (by simp) _⟩
  have HNE := Lib.hid (show w.heap.size ≤ r by omega)
  rw [hr]
  rw [hb]
  have HB := Lib.hid hb
  have H1 := Lib.hid hst
  clear HC0 hwa hb hr hst
  go_upto_region 2 with (first
    | (refine wpList_load_capC ?_ (.tmp 1) rfl b rfl H1.out.1 HCX.out ?_; · rfl)
    | ((with_reducible refine (HVO.out _ H1.out.2.2).mono ?_); rintro e w7 ⟨⟨v, rfl, hv⟩, hb7⟩; obtain ⟨hwf, A2, n2, cc2, rfl, hln, hrm, hrd, hla⟩ := hv; obtain ⟨C5, hC5⟩ : ∃ x, capA M (.slice A2 n2 cc2) = x := ⟨_, rfl⟩; rw [hC5]; have HC5 := Lib.hid hC5; have HZ5 := Lib.hid (show C5.size = 53 ∧ C5.all (·.oneCell') = true by rw [← hC5]; exact ⟨capA_size hwf _, capA_one⟩))
    | (with_reducible refine wpList_store_blkTo rfl 28 (.tmp 4) (.tmp 9) rfl rfl w7.heap.size C5 rfl rfl 28 _ (Blk.new w7 _ _) (by rw [HZ5.out.1]; kernel_rfl) (by rw [HZ5.out.1]; kernel_rfl) HZ5.out.2 ?_))
  have hfr := fun Y => CapW.fresh (H1.out.2.2.trans (hb7.mono H1.out.2.2.size)) hwf hln hrm hrd Y hC5
  generalize hwn : World.setRow _ _ _ = w8
  have hk8 : CapW w w8 w7.heap.size M A2 n2 cc2 ∧ Below w7.heap.size w7 w8 := by
    rw [← hwn]
    exact hfr _
  have hb18 := hb7.trans (hk8.2.mono hb7.size)
  obtain ⟨rs, hrs, hrz⟩ := H1.out.2.1
  have HRS := Lib.hid (hrs.below hb18 hrs.lt)
  have HRZ := Lib.hid hrz
  obtain ⟨g4, hg4⟩ : ∃ x, w7.heap.size = x := ⟨_, rfl⟩
  rw [hg4] at hk8 ⊢
  have H8 := Lib.hid hk8.1
  clear hfr hwn hk8 hb18 hb7 hg4 hrs hrz hwf hln hrm hrd hla hC5 H1 HVO
  go_wp2_with (first
    | (refine wpList_load_keyC ?_ (.tmp 11) rfl g4 rfl H8.out.cap HKV.out ?_; · rfl)
    | (with_reducible refine wpList_store_blkTo rfl 23 (.tmp 2) (.tmp 12) rfl rfl r KV rfl rfl 23 rs HRS.out (by rw [HKS.out.1]; kernel_rfl) (by rw [HKS.out.1, HRZ.out]) HKS.out.2 ?_))
  have hs := below_row H8.out.bel H8.out.bel.size HNE.out KV
  refine bodyPost_ret (v := .tuple #[.agg KV, .int .i64 E]) (results_cell_tmpC (p := 2) (q := 3) (ty := 23) (by kernel_rfl) _ _ r 23 _ (0, 0) _ _ rfl rfl (HRS.out.row KV) Tryd.underlying23 rfl (by rw [HKS.out.1]; kernel_rfl)) rfl ⟨rfl, by first | exact hs | (rw [← HB.out]; exact hs)⟩
end Go.Proofs.YtkkokngdhhakdaaDoor
