/- The program's Index and VerifyOnly. -/
import Derived.Test.YtkkokngdhhakdaaDoorCapG
namespace Go.Proofs.YtkkokngdhhakdaaDoor
open Go.RowKit
set_option maxRecDepth 100000

def indexTag : List UInt8 := [105, 110, 100, 101, 120]
def idxOK (c : Cap13) : Prop := c.ok ∧ c.kind ≠ 3
instance (c : Cap13) : Decidable (idxOK c) := inferInstanceAs (Decidable (_ ∧ _))
def idx13 (c : Cap13) : List UInt8 := if c.reads then short13 indexTag [(ro13 c).key] else c.key
theorem idx13_len {c : Cap13} (h : c.wf) : (idx13 c).length = 16 := by
  unfold idx13
  split
  · exact short13_len _ _
  · exact h.1
theorem ro13_wf {c : Cap13} (h : c.wf) : (ro13 c).wf := by
  refine ⟨?_, h.2⟩
  unfold ro13
  dsimp only
  split
  · exact short13_len _ _
  · exact h.1
set_option maxHeartbeats 8000000 in
theorem pindex_any {w : World} {c : Cap13} {A : Option Addr} {n cc : Nat} (hw : c.wf) (hn : c.lit.length = n) (hr : Rd w w.heap.size A c.lit) (htab : Pow10 w.heap.size w) :
    Calls Tryd.prog 13 #[.agg (capA c (.slice A n cc))] w fun e w' => e = .returned (.tuple #[.agg (u8A (if idxOK c then idx13 c else key0)), .int .i64 (if idxOK c then 0 else 11)]) ∧ Below w.heap.size w w' := by
  obtain ⟨CX, hCX⟩ : ∃ x, capA c (.slice A n cc) = x := ⟨_, rfl⟩
  have HST := Lib.hid (CapAt.new w (.slice A n cc) hw hCX)
  obtain ⟨OK, hOK⟩ : ∃ x, decide c.ok = x := ⟨_, rfl⟩
  have HV := Lib.hid (fun (W : World) (hW : Below w.heap.size w W) => (show Calls Tryd.prog 39 #[.agg CX] W fun e w' => e = .returned (.bool OK) ∧ Below W.heap.size W w' from by
    rw [← hCX, ← hOK]
    exact pvalid_any hw hn (hr.on hW)))
  have HRO := Lib.hid (fun (W : World) (hW : Below w.heap.size w W) => (show Calls Tryd.prog 10 #[.agg CX] W fun e w' => CapSaid W w' e (if c.reads then ro13 c else cap0) (if c.reads then 0 else 11) from by
    rw [← hCX]
    exact preadonly_any hw hn (hr.on hW) (tab_on htab hW hW.size)))
  have HSH := Lib.hid (fun (key : List UInt8) (hk : key.length = 16) (A2 : Option Addr) (W : World) (hW : Below w.heap.size w W) (hr : RdR W W.heap.size A2 [key]) => short_any indexTag A2 1 1 [key] W (by decide) rfl (by decide) (fun r h => by rw [List.mem_singleton.1 h, hk]; decide) hr (tab_on htab hW hW.size))
  have HOK := Lib.hid hOK
  have HCX := Lib.hid hCX
  have HW := Lib.hid hw
  rw [hCX]
  clear hCX hOK hw hn hr htab
  obtain ⟨K, hK⟩ : ∃ x, u8A (if idxOK c then idx13 c else key0) = x := ⟨_, rfl⟩
  obtain ⟨E, hE⟩ : ∃ x, (if idxOK c then (0 : Int) else 11) = x := ⟨_, rfl⟩
  have HK := Lib.hid hK
  have HE := Lib.hid hE
  have HZK := Lib.hid (show K.size = 16 by
    rw [← hK, u8A_size]
    split
    · exact idx13_len HW.out
    · rfl)
  have HOKK := Lib.hid (show K.all (·.oneCell') = true by rw [← hK]; exact u8A_one _)
  rw [hK, hE]
  clear hK hE
  go_enter Tryd.func13, Tryd.ntmps13
  go_upto_region 1 with fail
  generalize hwa : World.alloc _ _ = w1
  obtain ⟨b, hb⟩ : ∃ g, w.heap.size = g := ⟨_, rfl⟩
  obtain ⟨r, hr⟩ : ∃ g, w.heap.size + 1 = g := ⟨_, rfl⟩
  have hst : CapAt w1 b c (.slice A n cc) ∧ (∃ rs, Blk w1 r rs 23 ∧ rs.size = 16) ∧ Below w.heap.size w w1 := by
    obtain ⟨Y, hY, hz⟩ : ∃ Y : Array Value, w1 = (w.alloc (.cells CX 28)).alloc (.cells Y 23) ∧ Y.size = 16 := ⟨_, hwa.symm, rfl⟩
    have hs1 : (w.alloc (.cells CX 28)).heap.size = w.heap.size + 1 := by simp
    rw [hY, ← hb, ← hr]
    exact ⟨⟨HST.out.blk.alloc _, HW.out⟩, ⟨Y, by rw [← hs1]; exact Blk.new _ _ _, hz⟩, ((Below.refl _ _).alloc (Nat.le_refl _) _).alloc (by simp) _⟩
  have HNE := Lib.hid (show b ≠ r ∧ w.heap.size ≤ r by omega)
  rw [hr]
  rw [hb]
  have HB := Lib.hid hb
  have H1 := Lib.hid hst
  clear HST hwa hb hr hst
  obtain ⟨c0, _, _, _, _⟩ := H1.out.1.cells
  by_cases hyes : idxOK c
  · obtain rfl : OK = true := by rw [← HOK.out]; exact decide_eq_true hyes.1
    have hE : E = 0 := by rw [← HE.out, if_pos hyes]
    subst hE
    have hKk : u8A (idx13 c) = K := by rw [← HK.out, if_pos hyes]
    have HKK := Lib.hid hKk
    have e3 : (c.kind == 3) = false := beq_eq_false_iff_ne.2 hyes.2
    clear hKk HK HE hyes c0
    go_upto_region 3 with (first
      | (refine wpList_load_capC ?_ (.tmp 1) rfl b rfl H1.out.1 HCX.out ?_; · rfl)
      | ((with_reducible refine (HV.out _ H1.out.2.2).mono ?_); rintro e w2 ⟨rfl, hb2⟩; have hc0 := (H1.out.1.below hb2).cells.1))
    have H2 := Lib.hid (show CapAt w2 b c (.slice A n cc) ∧ (∃ rs, Blk w2 r rs 23 ∧ rs.size = 16) ∧ Below w.heap.size w w2 from ⟨H1.out.1.below hb2, by obtain ⟨rs, h1, h2⟩ := H1.out.2.1; exact ⟨rs, h1.below hb2 h1.lt, h2⟩, H1.out.2.2.trans (hb2.mono H1.out.2.2.size)⟩)
    clear hb2 hc0 e3 H1 HV
    by_cases hrd : c.reads
    · have hi : idx13 c = short13 indexTag [(ro13 c).key] := by unfold idx13; rw [if_pos hrd]
      simp only [if_pos hrd] at HRO
      have HKV := Lib.hid (show u8A (short13 indexTag [(ro13 c).key]) = K by rw [← hi]; exact HKK.out)
      obtain ⟨D, hD⟩ : ∃ x, ro13 c = x := ⟨_, rfl⟩
      rw [hD] at HRO HKV
      clear hi hD hrd HKK
      go_upto_region 4 with (first
        | (refine wpList_load_capC ?_ (.tmp 1) rfl b rfl H2.out.1 HCX.out ?_; · rfl)
        | ((with_reducible refine (HRO.out _ H2.out.2.2).mono ?_); rintro e w3 ⟨⟨v, rfl, hv⟩, hb3⟩; obtain ⟨hwf, A', n', cc', rfl, hln, hrm, hrd, hla⟩ := hv; obtain ⟨C5, hC5⟩ : ∃ x, capA D (.slice A' n' cc') = x := ⟨_, rfl⟩; rw [hC5]; have HC5 := Lib.hid hC5; have HWF := Lib.hid hwf; have HZ5 := Lib.hid (show C5.size = 53 by rw [← hC5]; exact capA_size hwf _); have HO5 := Lib.hid (show C5.all (·.oneCell') = true by rw [← hC5]; exact capA_one); clear hwf hln hrm hrd hla hC5)
        | (with_reducible refine wpList_store_blkTo rfl 28 (.tmp 4) (.tmp 18) rfl rfl w3.heap.size C5 rfl rfl 28 _ (Blk.new w3 _ _) (by rw [HZ5.out]; kernel_rfl) (by rw [HZ5.out]; kernel_rfl) HO5.out ?_))
      generalize hw4 : World.setRow _ _ _ = w4
      have hb34 : Below w3.heap.size w3 w4 := by
        rw [← hw4]
        exact below_row ((Below.refl _ _).alloc (Nat.le_refl _) _) (by simp) (Nat.le_refl _) _
      have hk4 : Blk w4 w3.heap.size C5 28 := by
        rw [← hw4]
        exact (Blk.new w3 _ _).row C5
      have hb24 := hb3.trans (hb34.mono hb3.size)
      have H4 := Lib.hid (show CapAt w4 b c (.slice A n cc) ∧ (∃ rs, Blk w4 r rs 23 ∧ rs.size = 16) ∧ Below w.heap.size w w4 from ⟨H2.out.1.below hb24, by obtain ⟨rs, h1, h2⟩ := H2.out.2.1; exact ⟨rs, h1.below hb24 h1.lt, h2⟩, H2.out.2.2.trans (hb24.mono H2.out.2.2.size)⟩)
      have HK4 := Lib.hid (show CapAt w4 w3.heap.size D (.slice A' n' cc') from ⟨by rw [HC5.out]; exact hk4, HWF.out⟩)
      obtain ⟨k4, hk4e⟩ : ∃ g, w3.heap.size = g := ⟨_, rfl⟩
      rw [hk4e] at HK4 ⊢
      clear hw4 hb34 hk4 hb24 hb3 hk4e H2 HRO
      obtain ⟨rs, hrs, hrz⟩ := H4.out.2.1
      have HRS := Lib.hid hrs
      have HRZ := Lib.hid hrz
      clear hrs hrz
      go_upto_region 6 with fail
      have hal : Below w4.heap.size w4 (w4.alloc (.cells #[.slice (some ⟨k4, 1, none⟩) 16 16] 26)) := (Below.refl _ _).alloc (Nat.le_refl _) _
      have HS5 := Lib.hid (show Calls Tryd.prog 15 #[.string ⟨#[105, 110, 100, 101, 120]⟩, .slice (some ⟨w4.heap.size, 0, none⟩) 1 1] (w4.alloc (.cells #[.slice (some ⟨k4, 1, none⟩) 16 16] 26)) fun e w' => e = .returned (.agg K) ∧ Below (w4.alloc (.cells #[.slice (some ⟨k4, 1, none⟩) 16 16] 26)).heap.size (w4.alloc (.cells #[.slice (some ⟨k4, 1, none⟩) 16 16] 26)) w' by
        rw [← HKV.out]
        exact HSH.out _ HWF.out.1 _ _ (H4.out.2.2.trans (hal.mono H4.out.2.2.size)) (rdr_leafC w4 (some ⟨k4, 1, none⟩) HWF.out.1 (Nat.le_refl _) (by unfold maxLen; omega) (Rd.of_range HK4.out.lt HK4.out.rangeKey)))
      have HAL := Lib.hid hal
      have HRB := Lib.hid (fun (W : World) (hW : Below w4.heap.size w4 W) => HRS.out.below hW HRS.out.lt)
      clear hal HSH
      go_wp2_with (first
        | ((with_reducible refine HS5.out.mono ?_); rintro e w5 ⟨rfl, hb5⟩; have hb45 := HAL.out.trans (hb5.mono HAL.out.size))
        | (with_reducible refine wpList_store_blkTo rfl 23 (.tmp 2) (.tmp 27) rfl rfl r K rfl rfl 23 rs (HRB.out _ hb45) (by rw [HZK.out]; kernel_rfl) (by rw [HZK.out, HRZ.out]) HOKK.out ?_))
      have hbw5 := H4.out.2.2.trans (hb45.mono H4.out.2.2.size)
      have hs := below_row hbw5 hbw5.size HNE.out.2 K
      refine bodyPost_ret (v := .tuple #[.agg K, .int .i64 0]) (results_cell_tmpC (p := 2) (q := 3) (ty := 23) (by kernel_rfl) _ _ r 23 _ (0, 0) _ _ rfl rfl ((HRB.out _ hb45).row K) Tryd.underlying23 rfl (by rw [HZK.out]; kernel_rfl)) rfl ⟨rfl, by first | exact hs | (rw [← HB.out]; exact hs)⟩
    · have hi : idx13 c = c.key := by unfold idx13; rw [if_neg hrd]
      simp only [if_neg hrd] at HRO
      have HKV := Lib.hid (show u8A c.key = K by rw [← hi]; exact HKK.out)
      obtain ⟨D, hD⟩ : ∃ x, cap0 = x := ⟨_, rfl⟩
      rw [hD] at HRO
      clear hi hD hrd HKK HSH
      go_upto_region 4 with (first
        | (refine wpList_load_capC ?_ (.tmp 1) rfl b rfl H2.out.1 HCX.out ?_; · rfl)
        | ((with_reducible refine (HRO.out _ H2.out.2.2).mono ?_); rintro e w3 ⟨⟨v, rfl, hv⟩, hb3⟩; obtain ⟨hwf, A', n', cc', rfl, hln, hrm, hrd, hla⟩ := hv; obtain ⟨C5, hC5⟩ : ∃ x, capA D (.slice A' n' cc') = x := ⟨_, rfl⟩; rw [hC5]; have HC5 := Lib.hid hC5; have HWF := Lib.hid hwf; have HZ5 := Lib.hid (show C5.size = 53 by rw [← hC5]; exact capA_size hwf _); have HO5 := Lib.hid (show C5.all (·.oneCell') = true by rw [← hC5]; exact capA_one); clear hwf hln hrm hrd hla hC5)
        | (with_reducible refine wpList_store_blkTo rfl 28 (.tmp 4) (.tmp 18) rfl rfl w3.heap.size C5 rfl rfl 28 _ (Blk.new w3 _ _) (by rw [HZ5.out]; kernel_rfl) (by rw [HZ5.out]; kernel_rfl) HO5.out ?_))
      generalize hw4 : World.setRow _ _ _ = w4
      have hb34 : Below w3.heap.size w3 w4 := by
        rw [← hw4]
        exact below_row ((Below.refl _ _).alloc (Nat.le_refl _) _) (by simp) (Nat.le_refl _) _
      have hk4 : Blk w4 w3.heap.size C5 28 := by
        rw [← hw4]
        exact (Blk.new w3 _ _).row C5
      have hb24 := hb3.trans (hb34.mono hb3.size)
      have H4 := Lib.hid (show CapAt w4 b c (.slice A n cc) ∧ (∃ rs, Blk w4 r rs 23 ∧ rs.size = 16) ∧ Below w.heap.size w w4 from ⟨H2.out.1.below hb24, by obtain ⟨rs, h1, h2⟩ := H2.out.2.1; exact ⟨rs, h1.below hb24 h1.lt, h2⟩, H2.out.2.2.trans (hb24.mono H2.out.2.2.size)⟩)
      have HK4 := Lib.hid (show CapAt w4 w3.heap.size D (.slice A' n' cc') from ⟨by rw [HC5.out]; exact hk4, HWF.out⟩)
      obtain ⟨k4, hk4e⟩ : ∃ g, w3.heap.size = g := ⟨_, rfl⟩
      rw [hk4e] at HK4 ⊢
      clear hw4 hb34 hk4 hb24 hb3 hk4e H2 HRO
      obtain ⟨rs, hrs, hrz⟩ := H4.out.2.1
      have HRS := Lib.hid hrs
      have HRZ := Lib.hid hrz
      clear hrs hrz
      go_wp2_with (first
        | (refine wpList_load_keyC ?_ (.tmp 22) rfl b rfl H4.out.1 HKV.out ?_; · rfl)
        | (with_reducible refine wpList_store_blkTo rfl 23 (.tmp 2) (.tmp 23) rfl rfl r K rfl rfl 23 rs HRS.out (by rw [HZK.out]; kernel_rfl) (by rw [HZK.out, HRZ.out]) HOKK.out ?_))
      have hs := below_row H4.out.2.2 H4.out.2.2.size HNE.out.2 K
      refine bodyPost_ret (v := .tuple #[.agg K, .int .i64 0]) (results_cell_tmpC (p := 2) (q := 3) (ty := 23) (by kernel_rfl) _ _ r 23 _ (0, 0) _ _ rfl rfl (HRS.out.row K) Tryd.underlying23 rfl (by rw [HZK.out]; kernel_rfl)) rfl ⟨rfl, by first | exact hs | (rw [← HB.out]; exact hs)⟩
  · have hE : E = 11 := by rw [← HE.out, if_neg hyes]
    subst hE
    have HKV := Lib.hid (show u8A key0 = K by rw [← HK.out, if_neg hyes])
    have h3 : OK = true → c.kind = 3 := fun h => by
      subst h
      exact Classical.byContradiction fun h' => hyes ⟨of_decide_eq_true HOK.out, h'⟩
    clear HK HE hyes HRO HSH HOK c0
    cases OK
    · clear h3
      go_wp2_with (first
        | (refine wpList_load_capC ?_ (.tmp 1) rfl b rfl H1.out.1 HCX.out ?_; · rfl)
        | ((with_reducible refine (HV.out _ H1.out.2.2).mono ?_); rintro e w2 ⟨rfl, hb2⟩; have H2 := H1.out.2.1; obtain ⟨rs, hrs, hrz⟩ := H2; have HRS := Lib.hid (hrs.below hb2 hrs.lt); have HRZ := Lib.hid hrz; have HB2 := Lib.hid (H1.out.2.2.trans (hb2.mono H1.out.2.2.size)); clear hrs hrz hb2)
        | (refine wpList_build_C ?_ 23 #[] rfl [] (by simp) K _ built_key0 HKV.out ?_; · rfl)
        | (with_reducible refine wpList_store_blkTo rfl 23 (.tmp 2) (.tmp 14) rfl rfl r K rfl rfl 23 rs HRS.out (by rw [HZK.out]; kernel_rfl) (by rw [HZK.out, HRZ.out]) HOKK.out ?_))
      have hs := below_row HB2.out HB2.out.size HNE.out.2 K
      refine bodyPost_ret (v := .tuple #[.agg K, .int .i64 11]) (results_cell_tmpC (p := 2) (q := 3) (ty := 23) (by kernel_rfl) _ _ r 23 _ (0, 0) _ _ rfl rfl (HRS.out.row K) Tryd.underlying23 rfl (by rw [HZK.out]; kernel_rfl)) rfl ⟨rfl, by first | exact hs | (rw [← HB.out]; exact hs)⟩
    · have h3 := h3 rfl
      go_wp2_with (first
        | (refine wpList_load_capC ?_ (.tmp 1) rfl b rfl H1.out.1 HCX.out ?_; · rfl)
        | ((with_reducible refine (HV.out _ H1.out.2.2).mono ?_); rintro e w2 ⟨rfl, hb2⟩; have hc0 := (H1.out.1.below hb2).cells.1; have H2 := H1.out.2.1; obtain ⟨rs, hrs, hrz⟩ := H2; have HRS := Lib.hid (hrs.below hb2 hrs.lt); have HRZ := Lib.hid hrz; have HB2 := Lib.hid (H1.out.2.2.trans (hb2.mono H1.out.2.2.size)); clear hrs hrz hb2)
        | (refine wpList_build_C ?_ 23 #[] rfl [] (by simp) K _ built_key0 HKV.out ?_; · rfl)
        | (with_reducible refine wpList_store_blkTo rfl 23 (.tmp 2) (.tmp 14) rfl rfl r K rfl rfl 23 rs HRS.out (by rw [HZK.out]; kernel_rfl) (by rw [HZK.out, HRZ.out]) HOKK.out ?_))
      have hs := below_row HB2.out HB2.out.size HNE.out.2 K
      refine bodyPost_ret (v := .tuple #[.agg K, .int .i64 11]) (results_cell_tmpC (p := 2) (q := 3) (ty := 23) (by kernel_rfl) _ _ r 23 _ (0, 0) _ _ rfl rfl (HRS.out.row K) Tryd.underlying23 rfl (by rw [HZK.out]; kernel_rfl)) rfl ⟨rfl, by first | exact hs | (rw [← HB.out]; exact hs)⟩
def vo13 (c : Cap13) : Cap13 := { c with kind := verK c.kind, key := idx13 c }
set_option maxHeartbeats 8000000 in
theorem pverify_any {w : World} {c : Cap13} {A : Option Addr} {n cc : Nat} (hw : c.wf) (hn : c.lit.length = n) (hr : Rd w w.heap.size A c.lit) (htab : Pow10 w.heap.size w) :
    Calls Tryd.prog 11 #[.agg (capA c (.slice A n cc))] w fun e w' => CapSaid w w' e (if idxOK c then vo13 c else cap0) (if idxOK c then 0 else 11) := by
  obtain ⟨CX, hCX⟩ : ∃ x, capA c (.slice A n cc) = x := ⟨_, rfl⟩
  have HST := Lib.hid (fun (W : World) (Y : Array Value) => CapR.start (w := w) (W := W) (Y := Y) hw hCX)
  obtain ⟨KV, hKV⟩ : ∃ x, u8A (if idxOK c then idx13 c else key0) = x := ⟨_, rfl⟩
  obtain ⟨E, hE⟩ : ∃ x, (if idxOK c then (0 : Int) else 11) = x := ⟨_, rfl⟩
  have HIX := Lib.hid (fun (W : World) (hW : Below w.heap.size w W) => (show Calls Tryd.prog 13 #[.agg CX] W fun e w' => e = .returned (.tuple #[.agg KV, .int .i64 E]) ∧ Below W.heap.size W w' from by
    rw [← hCX, ← hKV, ← hE]
    exact pindex_any hw hn (hr.on hW) (tab_on htab hW hW.size)))
  have HKV := Lib.hid hKV
  have HE := Lib.hid hE
  have HZKV := Lib.hid (show KV.size = 16 by
    rw [← hKV, u8A_size]
    split
    · exact idx13_len hw
    · rfl)
  have HOKV := Lib.hid (show KV.all (·.oneCell') = true by rw [← hKV]; exact u8A_one _)
  have HCX := Lib.hid hCX
  have HW := Lib.hid hw
  obtain ⟨RK, hRK⟩ : ∃ x, verK c.kind = x := ⟨_, rfl⟩
  have HKR := Lib.hid hRK
  have HAS0 := Lib.hid (fun (h : c.ok) (key : List UInt8) (hk : key.length = 16) (W : World) (hW : Below w.heap.size w W) => (pas_any (w := W) (kd := RK) (key := key) (cc := cc) hw hk hn (ok_small h hn) (hr.on hW)))
  rw [hCX] at HAS0 ⊢
  clear hCX hw hn hr hRK htab hKV
  obtain ⟨M, hM⟩ : ∃ x, (if idxOK c then vo13 c else cap0) = x := ⟨_, rfl⟩
  have HM := Lib.hid hM
  rw [hM, hE]
  clear hM hE
  go_enter Tryd.func11, Tryd.ntmps11
  go_upto_region 1 with fail
  generalize hwa : World.alloc _ _ = w1
  have H1 := HST.out w1 _ rfl hwa.symm
  clear HST hwa
  obtain ⟨b, hb⟩ : ∃ g, w.heap.size = g := ⟨_, rfl⟩
  obtain ⟨r, hr⟩ : ∃ g, w.heap.size + 1 = g := ⟨_, rfl⟩
  rw [hr] at H1 ⊢
  rw [hb] at H1 ⊢
  have HB := Lib.hid hb
  clear hb hr
  have HR := Lib.hid H1
  clear H1
  go_upto_region 2 with (first
    | (refine wpList_load_capC ?_ (.tmp 1) rfl b rfl HR.out.cap HCX.out ?_; · rfl)
    | ((with_reducible refine (HIX.out _ HR.out.bel).mono ?_); rintro e w2 ⟨rfl, hb2⟩)
    | (with_reducible refine wpList_store_blkTo rfl 23 (.tmp 4) (.tmp 9) rfl rfl w2.heap.size KV rfl rfl 23 _ (Blk.new w2 _ _) (by rw [HZKV.out]; kernel_rfl) (by rw [HZKV.out]; kernel_rfl) HOKV.out ?_))
  generalize hw3 : World.setRow _ _ _ = w3
  have hst : Below w2.heap.size w2 w3 ∧ Blk w3 w2.heap.size KV 23 := by
    rw [← hw3]
    exact ⟨below_row ((Below.refl _ _).alloc (Nat.le_refl _) _) (by simp) (Nat.le_refl _) _, (Blk.new w2 _ _).row KV⟩
  have HR6 := Lib.hid (HR.out.below (hb2.trans (hst.1.mono hb2.size)))
  obtain ⟨k4, hk4⟩ : ∃ g, w2.heap.size = g := ⟨_, rfl⟩
  rw [hk4] at hst ⊢
  have HK6 := Lib.hid hst.2
  clear hst hw3 hk4 hb2 HR HIX
  obtain ⟨w6, hw6⟩ : ∃ x, w3 = x := ⟨_, rfl⟩
  rw [hw6] at HR6 HK6 ⊢
  clear hw6
  by_cases hyes : idxOK c
  · have hE : E = 0 := by rw [← HE.out, if_pos hyes]
    have hM : M = { c with kind := RK, key := idx13 c } := by rw [← HM.out, if_pos hyes]; unfold vo13; rw [HKR.out]
    have HAS1 := Lib.hid (HAS0.out hyes.1 (idx13 c) (idx13_len HW.out))
    rw [← hM, show u8A (idx13 c) = KV by rw [← HKV.out, if_pos hyes]] at HAS1
    have HZCX := Lib.hid (show CX.size = 53 by rw [← HCX.out]; exact capA_size HW.out _)
    subst hE
    clear hM hyes HAS0 HM HE
    go_upto_region 4 with fail
    have HBC := Lib.hid (fun (W : World) (hW : Below w6.heap.size w6 W) => (show Blk W b CX 28 from HCX.out ▸ (HR6.out.cap.below hW).blk))
    have HBK := Lib.hid (fun (W : World) (hW : Below w6.heap.size w6 W) => HK6.out.below hW HK6.out.lt)
    have HC0 := Lib.hid (fun (W : World) (hW : Below w6.heap.size w6 W) => (HR6.out.cap.below hW).cells.1)
    have HRK := Lib.hid (fun (W : World) => (show Calls Tryd.prog 37 #[.int .i64 c.kind] W fun e w' => e = .returned (.int .i64 RK) ∧ Below W.heap.size W w' from by rw [← HKR.out]; exact (pverK_any c.kind W).mono fun e w' h => ⟨h.1, by rw [h.2]; exact Below.refl _ _⟩))
    have HAS := Lib.hid (fun (W : World) (hW : Below w6.heap.size w6 W) => HAS1.out W (HR6.out.bel.trans (hW.mono HR6.out.bel.size)))
    refine wp_region_loose 6 2 (fun i => false) (promises [.is (.agg CX), .is (.pointer (some ⟨b, 0, none⟩)), .is (.int .i64 c.kind), .is (.int .i64 RK), .is (.agg KV), .cv w6.heap.size M]) (by kernel_rfl) rfl (by kernel_rfl) (fun i v w w' h hb => Spec.keep h hb) ⟨?_, ?_, ?_, ?_, ?_, ?_, trivial⟩ ?_
    · refine StepOKl.of ?_
      intro ac w hb hu hk
      refine ⟨wanted_none rfl, ?_⟩
      have e1 : ac.eval (.tmp 1) = .pointer (some ⟨b, 0, none⟩) := hu.is (t := 1) (by kernel_rfl)
      exact wp_load_row 28 (.tmp 1) rfl b e1 28 CX (0, 0) _ (HBC.out w hb) Tryd.underlying28 rfl (by rw [HZCX.out]; kernel_rfl) ⟨_, rfl, rfl, Below.refl _ _⟩
    · refine StepOKl.of ?_
      intro ac w hb hu hk
      refine ⟨wanted_none rfl, ?_⟩
      have e1 : ac.eval (.tmp 1) = .pointer (some ⟨b, 0, none⟩) := hu.is (t := 1) (by kernel_rfl)
      refine step_value (w' := w) (v := (.pointer (some ⟨b, 0, none⟩))) ?_ (Below.refl _ _) rfl
      generalize ac.eval = ρ at e1 ⊢
      go_simp
    · refine StepOKl.of ?_
      intro ac w hb hu hk
      refine ⟨wanted_none rfl, ?_⟩
      have e16 : ac.eval (.tmp 16) = (.pointer (some ⟨b, 0, none⟩)) := (hk ⟨1, .data⟩ (by simp) rfl).is rfl rfl
      have hc := HC0.out w hb
      refine step_value (w' := w) (v := .int .i64 c.kind) ?_ (Below.refl _ _) rfl
      generalize ac.eval = ρ at e16 ⊢
      go_simp
    · refine StepOKl.of ?_
      intro ac w hb hu hk
      refine ⟨wanted_none rfl, ?_⟩
      have e17 : ac.eval (.tmp 17) = (.int .i64 c.kind) := (hk ⟨2, .data⟩ (by simp) rfl).is rfl rfl
      have ef : ac.eval (.func 37) = .func (.func 37) #[] #[] := rfl
      refine step_enter (f := 37) (args := #[.int .i64 c.kind]) ?_ ?_
      · generalize ac.eval = ρ at e17 ef ⊢
        go_simp
      · exact (HRK.out w).mono fun e w' ⟨he, hq⟩ => ⟨_, he, rfl, hq⟩
    · refine StepOKl.of ?_
      intro ac w hb hu hk
      refine ⟨wanted_none rfl, ?_⟩
      have e4 : ac.eval (.tmp 4) = .pointer (some ⟨k4, 0, none⟩) := hu.is (t := 4) (by kernel_rfl)
      exact wp_load_row 23 (.tmp 4) rfl k4 e4 23 KV (0, 0) _ (HBK.out w hb) Tryd.underlying23 rfl (by rw [HZKV.out]; kernel_rfl) ⟨_, rfl, rfl, Below.refl _ _⟩
    · refine StepOKl.of ?_
      intro ac w hb hu hk
      refine ⟨wanted_none rfl, ?_⟩
      have e15 : ac.eval (.tmp 15) = (.agg CX) := (hk ⟨0, .data⟩ (by simp) rfl).is rfl rfl
      have e18 : ac.eval (.tmp 18) = (.int .i64 RK) := (hk ⟨3, .data⟩ (by simp) rfl).is rfl rfl
      have e19 : ac.eval (.tmp 19) = (.agg KV) := (hk ⟨4, .data⟩ (by simp) rfl).is rfl rfl
      have ef : ac.eval (.func 35) = .func (.func 35) #[] #[] := rfl
      refine step_enter (f := 35) (args := #[.agg CX, .int .i64 RK, .agg KV]) ?_ ?_
      · generalize ac.eval = ρ at e15 e18 e19 ef ⊢
        go_simp
      · exact (HAS.out w hb).mono fun e w' ⟨⟨v, he, hv⟩, hq⟩ => ⟨_, he, hv.low hb.size, hq⟩
    · intro ac w' hb hu hk hap
      obtain ⟨_, h15, rfl⟩ := (hk 0 (by decide)).put rfl rfl
      obtain ⟨_, h16, rfl⟩ := (hk 1 (by decide)).put rfl rfl
      obtain ⟨_, h17, rfl⟩ := (hk 2 (by decide)).put rfl rfl
      obtain ⟨_, h18, rfl⟩ := (hk 3 (by decide)).put rfl rfl
      obtain ⟨_, h19, rfl⟩ := (hk 4 (by decide)).put rfl rfl
      obtain ⟨_, h20, hcv20⟩ := (hk 5 (by decide)).put rfl rfl
      clear hap
      have hF : AllPuts ac.tmps ((15, _) :: (16, _) :: (17, _) :: (18, _) :: (19, _) :: (20, _) :: []) := ⟨h15, h16, h17, h18, h19, h20, trivial⟩
      obtain rfl := frame_puts hu (by kernel_rfl) hF
      simp only [puts, Act.put, List.setIfInBounds_toArray, List.set_cons_zero, List.set_cons_succ, List.drop_succ_cons, List.drop_zero]
      clear hk hu hF h15 h16 h17 h18 h19 h20
      have hcv20 : CapV w' w6.heap.size _ M := hcv20
      obtain ⟨hwf, A', n', cc', rfl, hln, hrm, hrd, hla⟩ := hcv20
      obtain ⟨C5, hC5⟩ : ∃ x, capA M (.slice A' n' cc') = x := ⟨_, rfl⟩
      rw [hC5]
      have HC5 := Lib.hid hC5
      have HZ5 := Lib.hid (show C5.size = 53 by rw [← hC5]; exact capA_size hwf _)
      have HO5 := Lib.hid (show C5.all (·.oneCell') = true by rw [← hC5]; exact capA_one)
      have HR9 := Lib.hid (HR6.out.below hb)
      obtain ⟨rs, hrs, hrz⟩ := HR9.out.res
      have HRS := Lib.hid hrs
      have HRZ := Lib.hid hrz
      have hrl : r + 1 ≤ w6.heap.size := by
        obtain ⟨rs, h, _⟩ := HR6.out.res
        exact h.lt
      have HVV := Lib.hid (show LitAt (r + 1) A' M.lit from hla.imp id fun h ad e => Nat.le_trans hrl (h ad e))
      have HV5 := Lib.hid (show CapV w' w.heap.size (.agg C5) M from ⟨hwf, A', n', cc', by rw [hC5], hln, hrm, hrd, hla.imp id fun h ad e => Nat.le_trans HR6.out.bel.size (h ad e)⟩)
      clear hb hwf hln hrm hrd hla hC5 hrs hrz hrl HBC HBK HC0 HRK HAS
      go_wp2_with (first | (with_reducible refine wpList_store_blkTo rfl 28 (.tmp 2) (.tmp 20) rfl rfl r C5 rfl rfl 28 rs HRS.out (by rw [HZ5.out]; kernel_rfl) (by rw [HZ5.out, HRZ.out]) HO5.out ?_))
      have hs := HR9.out.tell (d := M) (C := C5) HV5.out (fun A2 m2 k2 h2 => by
        have e := capA_inj (HC5.out.trans h2.symm)
        rw [← e]
        exact HVV.out)
      refine bodyPost_ret (v := .tuple #[.agg C5, .int .i64 0]) (results_cell_tmpC (p := 2) (q := 3) (ty := 28) (by kernel_rfl) _ _ r 28 _ (0, 0) _ _ rfl rfl (HRS.out.row C5) Tryd.underlying28 rfl (by rw [HZ5.out]; kernel_rfl)) rfl ⟨⟨_, rfl, hs.1⟩, by first | exact hs.2 | (rw [← HB.out]; exact hs.2)⟩
  · have hE : E = 11 := by rw [← HE.out, if_neg hyes]
    have hM : M = cap0 := by rw [← HM.out, if_neg hyes]
    subst hM hE
    clear hyes HAS0 HM HE
    obtain ⟨C5, hC5⟩ : ∃ x, capA cap0 (.slice none 0 0) = x := ⟨_, rfl⟩
    have HC5 := Lib.hid hC5
    have HZ5 := Lib.hid (show C5.size = 53 by rw [← hC5]; exact capA_size ⟨rfl, rfl⟩ _)
    have HO5 := Lib.hid (show C5.all (·.oneCell') = true by rw [← hC5]; exact capA_one)
    obtain ⟨rs, hrs, hrz⟩ := HR6.out.res
    have HRS := Lib.hid hrs
    have HRZ := Lib.hid hrz
    clear hC5 hrs hrz
    go_wp2_with (first
      | (refine wpList_build_C ?_ 28 #[] rfl [] (by simp) C5 _ built_cap0 HC5.out ?_; · rfl)
      | (with_reducible refine wpList_store_blkTo rfl 28 (.tmp 2) (.tmp 13) rfl rfl r C5 rfl rfl 28 rs HRS.out (by rw [HZ5.out]; kernel_rfl) (by rw [HZ5.out, HRZ.out]) HO5.out ?_))
    have hs := HR6.out.tell (d := cap0) (C := C5) ⟨⟨rfl, rfl⟩, none, 0, 0, by rw [HC5.out], rfl, Nat.le_refl _, .inl rfl, .inl rfl⟩ (fun _ _ _ _ => .inl rfl)
    refine bodyPost_ret (v := .tuple #[.agg C5, .int .i64 11]) (results_cell_tmpC (p := 2) (q := 3) (ty := 28) (by kernel_rfl) _ _ r 28 _ (0, 0) _ _ rfl rfl (HRS.out.row C5) Tryd.underlying28 rfl (by rw [HZ5.out]; kernel_rfl)) rfl ⟨⟨_, rfl, hs.1⟩, by first | exact hs.2 | (rw [← HB.out]; exact hs.2)⟩
end Go.Proofs.YtkkokngdhhakdaaDoor
