/- CanRead and CanWrite of capabilities, the program's and the document's; whether two capabilities are one, by the laws' own words. -/
import Derived.Test.YtkkokngdhhakdaaDoorCapR
import Derived.Test.YtkkokngdhhakdaaDoorCapV
import Derived.Test.YtkkokngdhhakdaaDoorMakeA
namespace Go.Proofs.YtkkokngdhhakdaaDoor
open Go.RowKit
set_option maxRecDepth 100000

set_option maxHeartbeats 2000000 in
theorem pcanread_any {w : World} {c : Cap13} {A : Option Addr} {n cc : Nat} (hw : c.wf) (hn : c.lit.length = n) (hr : Rd w w.heap.size A c.lit) :
    Calls Tryd.prog 33 #[.agg (capA c (.slice A n cc))] w fun e w' => e = .returned (.bool (decide c.reads)) ∧ Below w.heap.size w w' := by
  obtain ⟨CX, hCX⟩ : ∃ x, capA c (.slice A n cc) = x := ⟨_, rfl⟩
  have HC0 := Lib.hid (CapAt.new w (.slice A n cc) hw hCX)
  have HCX := Lib.hid hCX
  have hal : Below w.heap.size w (w.alloc (.cells CX 28)) := (Below.refl _ _).alloc (Nat.le_refl _) _
  have HAL := Lib.hid hal
  obtain ⟨OK, hOK⟩ : ∃ x, decide c.ok = x := ⟨_, rfl⟩
  have HV := Lib.hid (fun (W : World) (hW : Below w.heap.size w W) => (show Calls Tryd.prog 39 #[.agg CX] W fun e w' => e = .returned (.bool OK) ∧ Below W.heap.size W w' from by
    rw [← hCX, ← hOK]
    exact pvalid_any hw hn (hr.on hW)))
  have HOK := Lib.hid hOK
  obtain ⟨R, hR⟩ : ∃ x, decide c.reads = x := ⟨_, rfl⟩
  have HR := Lib.hid hR
  rw [hCX, hR]
  clear hCX hal hOK hR hw hn hr
  go_enter Tryd.func33, Tryd.ntmps33
  go_upto_region 1 with fail
  obtain ⟨b, hb⟩ : ∃ g, w.heap.size = g := ⟨_, rfl⟩
  rw [hb] at HC0 ⊢
  generalize w.alloc (.cells CX 28) = w1 at *
  obtain ⟨c0, _, _, _, _⟩ := HC0.out.cells
  by_cases hk : VerK c.kind
  · obtain rfl : R = false := by rw [← HR.out]; exact decide_eq_false (fun h => h.2 hk)
    rcases hk with hk | hk | hk
    all_goals
      go_wp2_with fail
      go_ret
      exact ⟨rfl, by first | exact HAL.out | (rw [← hb]; exact HAL.out)⟩
  · obtain rfl : R = OK := by rw [← HR.out, ← HOK.out]; exact decide_eq_decide.2 ⟨fun h => h.1, fun h => ⟨h, hk⟩⟩
    have e1 : (c.kind == 2) = false := beq_eq_false_iff_ne.2 (fun h => hk (.inl h))
    have e2 : (c.kind == 6) = false := beq_eq_false_iff_ne.2 (fun h => hk (.inr (.inl h)))
    have e3 : (c.kind == 9) = false := beq_eq_false_iff_ne.2 (fun h => hk (.inr (.inr h)))
    clear hk
    go_wp2_with (first | (refine wpList_load_capC ?_ (.tmp 1) rfl b rfl HC0.out HCX.out ?_; · rfl) | (with_reducible refine (HV.out _ HAL.out).mono ?_; rintro e w2 ⟨rfl, hb2⟩))
    have hfin := HAL.out.trans (hb2.mono HAL.out.size)
    go_wp2_with fail
    go_ret
    exact ⟨rfl, by first | exact hfin | (rw [← hb]; exact hfin)⟩
set_option maxHeartbeats 2000000 in
theorem pcanwrite_any {w : World} {c : Cap13} {A : Option Addr} {n cc : Nat} (hw : c.wf) (hn : c.lit.length = n) (hr : Rd w w.heap.size A c.lit) :
    Calls Tryd.prog 34 #[.agg (capA c (.slice A n cc))] w fun e w' => e = .returned (.bool (decide c.writes)) ∧ Below w.heap.size w w' := by
  obtain ⟨CX, hCX⟩ : ∃ x, capA c (.slice A n cc) = x := ⟨_, rfl⟩
  have HC0 := Lib.hid (CapAt.new w (.slice A n cc) hw hCX)
  have HCX := Lib.hid hCX
  have hal : Below w.heap.size w (w.alloc (.cells CX 28)) := (Below.refl _ _).alloc (Nat.le_refl _) _
  have HAL := Lib.hid hal
  obtain ⟨OK, hOK⟩ : ∃ x, decide c.ok = x := ⟨_, rfl⟩
  have HV := Lib.hid (fun (W : World) (hW : Below w.heap.size w W) => (show Calls Tryd.prog 39 #[.agg CX] W fun e w' => e = .returned (.bool OK) ∧ Below W.heap.size W w' from by
    rw [← hCX, ← hOK]
    exact pvalid_any hw hn (hr.on hW)))
  have HOK := Lib.hid hOK
  obtain ⟨R, hR⟩ : ∃ x, decide c.writes = x := ⟨_, rfl⟩
  have HR := Lib.hid hR
  rw [hCX, hR]
  clear hCX hal hOK hR hw hn hr
  go_enter Tryd.func34, Tryd.ntmps34
  go_upto_region 1 with fail
  obtain ⟨b, hb⟩ : ∃ g, w.heap.size = g := ⟨_, rfl⟩
  rw [hb] at HC0 ⊢
  generalize w.alloc (.cells CX 28) = w1 at *
  obtain ⟨c0, _, _, _, _⟩ := HC0.out.cells
  by_cases hk : WriK c.kind
  · obtain rfl : R = OK := by rw [← HR.out, ← HOK.out]; exact decide_eq_decide.2 ⟨fun h => h.1, fun h => ⟨h, hk⟩⟩
    rcases hk with hk | hk
    all_goals
      go_wp2_with (first | (refine wpList_load_capC ?_ (.tmp 1) rfl b rfl HC0.out HCX.out ?_; · rfl) | (with_reducible refine (HV.out _ HAL.out).mono ?_; rintro e w2 ⟨rfl, hb2⟩))
      have hfin := HAL.out.trans (hb2.mono HAL.out.size)
      go_wp2_with fail
      go_ret
      exact ⟨rfl, by first | exact hfin | (rw [← hb]; exact hfin)⟩
  · obtain rfl : R = false := by rw [← HR.out]; exact decide_eq_false (fun h => hk h.2)
    have e1 : (c.kind == 4) = false := beq_eq_false_iff_ne.2 (fun h => hk (.inl h))
    have e2 : (c.kind == 7) = false := beq_eq_false_iff_ne.2 (fun h => hk (.inr h))
    clear hk
    go_wp2_with fail
    go_ret
    exact ⟨rfl, by first | exact HAL.out | (rw [← hb]; exact HAL.out)⟩
set_option maxHeartbeats 2000000 in
theorem rcanread_any {w : World} {c : Cap13} {A : Option Addr} {n cc : Nat} (hw : c.wf) (hn : c.lit.length = n) :
    Calls Tryd.prog 44 #[.agg (capA c (.slice A n cc))] w fun e w' => e = .returned (.bool (decide c.reads)) ∧ Below w.heap.size w w' := by
  obtain ⟨CX, hCX⟩ : ∃ x, capA c (.slice A n cc) = x := ⟨_, rfl⟩
  have HC0 := Lib.hid (CapAt.new w (.slice A n cc) hw hCX)
  have HCX := Lib.hid hCX
  have hal : Below w.heap.size w (w.alloc (.cells CX 28)) := (Below.refl _ _).alloc (Nat.le_refl _) _
  have HAL := Lib.hid hal
  obtain ⟨OK, hOK⟩ : ∃ x, decide c.ok = x := ⟨_, rfl⟩
  have HV := Lib.hid (fun (W : World) (hW : Below w.heap.size w W) => (show Calls Tryd.prog 47 #[.agg CX] W fun e w' => e = .returned (.bool OK) ∧ Below W.heap.size W w' from by
    rw [← hCX, ← hOK]
    exact rvalid_any hw hn))
  have HOK := Lib.hid hOK
  obtain ⟨R, hR⟩ : ∃ x, decide c.reads = x := ⟨_, rfl⟩
  have HR := Lib.hid hR
  rw [hCX, hR]
  clear hCX hal hOK hR hw hn
  go_enter Tryd.func44, Tryd.ntmps44
  go_upto_region 1 with fail
  obtain ⟨b, hb⟩ : ∃ g, w.heap.size = g := ⟨_, rfl⟩
  rw [hb] at HC0 ⊢
  generalize w.alloc (.cells CX 28) = w1 at *
  obtain ⟨c0, _, _, _, _⟩ := HC0.out.cells
  cases OK
  · obtain rfl : R = false := by rw [← HR.out]; exact decide_eq_false (fun h => by have := h.1; have h2 := HOK.out; rw [decide_eq_true this] at h2; cases h2)
    clear c0
    go_wp2_with (first | (refine wpList_load_capC ?_ (.tmp 1) rfl b rfl HC0.out HCX.out ?_; · rfl) | (with_reducible refine (HV.out _ HAL.out).mono ?_; rintro e w2 ⟨rfl, hb2⟩; have hc0 := (HC0.out.below hb2).cells.1))
    have hfin := HAL.out.trans (hb2.mono HAL.out.size)
    go_ret
    exact ⟨rfl, by first | exact hfin | (rw [← hb]; exact hfin)⟩
  · by_cases h2 : c.kind = 2
    · obtain rfl : R = false := by rw [← HR.out]; exact decide_eq_false (fun h => h.2 (.inl h2))
      clear c0
      go_wp2_with (first | (refine wpList_load_capC ?_ (.tmp 1) rfl b rfl HC0.out HCX.out ?_; · rfl) | (with_reducible refine (HV.out _ HAL.out).mono ?_; rintro e w2 ⟨rfl, hb2⟩; have hc0 := (HC0.out.below hb2).cells.1))
      have hfin := HAL.out.trans (hb2.mono HAL.out.size)
      go_ret
      exact ⟨rfl, by first | exact hfin | (rw [← hb]; exact hfin)⟩
    · by_cases h6 : c.kind = 6
      · obtain rfl : R = false := by rw [← HR.out]; exact decide_eq_false (fun h => h.2 (.inr (.inl h6)))
        clear c0
        go_wp2_with (first | (refine wpList_load_capC ?_ (.tmp 1) rfl b rfl HC0.out HCX.out ?_; · rfl) | (with_reducible refine (HV.out _ HAL.out).mono ?_; rintro e w2 ⟨rfl, hb2⟩; have hc0 := (HC0.out.below hb2).cells.1))
        have hfin := HAL.out.trans (hb2.mono HAL.out.size)
        go_ret
        exact ⟨rfl, by first | exact hfin | (rw [← hb]; exact hfin)⟩
      · by_cases h9 : c.kind = 9
        · obtain rfl : R = false := by rw [← HR.out]; exact decide_eq_false (fun h => h.2 (.inr (.inr h9)))
          clear c0
          go_wp2_with (first | (refine wpList_load_capC ?_ (.tmp 1) rfl b rfl HC0.out HCX.out ?_; · rfl) | (with_reducible refine (HV.out _ HAL.out).mono ?_; rintro e w2 ⟨rfl, hb2⟩; have hc0 := (HC0.out.below hb2).cells.1))
          have hfin := HAL.out.trans (hb2.mono HAL.out.size)
          go_ret
          exact ⟨rfl, by first | exact hfin | (rw [← hb]; exact hfin)⟩
        · obtain rfl : R = true := by rw [← HR.out]; exact decide_eq_true ⟨of_decide_eq_true HOK.out, fun h => h.elim h2 (fun h => h.elim h6 h9)⟩
          have e2 : (c.kind != 2) = true := by rw [bne_iff_ne]; exact h2
          have e6 : (c.kind != 6) = true := by rw [bne_iff_ne]; exact h6
          have e9 : (c.kind != 9) = true := by rw [bne_iff_ne]; exact h9
          clear c0
          go_wp2_with (first | (refine wpList_load_capC ?_ (.tmp 1) rfl b rfl HC0.out HCX.out ?_; · rfl) | (with_reducible refine (HV.out _ HAL.out).mono ?_; rintro e w2 ⟨rfl, hb2⟩; have hc0 := (HC0.out.below hb2).cells.1))
          have hfin := HAL.out.trans (hb2.mono HAL.out.size)
          go_ret
          exact ⟨rfl, by first | exact hfin | (rw [← hb]; exact hfin)⟩
set_option maxHeartbeats 2000000 in
theorem rcanwrite_any {w : World} {c : Cap13} {A : Option Addr} {n cc : Nat} (hw : c.wf) (hn : c.lit.length = n) :
    Calls Tryd.prog 45 #[.agg (capA c (.slice A n cc))] w fun e w' => e = .returned (.bool (decide c.writes)) ∧ Below w.heap.size w w' := by
  obtain ⟨CX, hCX⟩ : ∃ x, capA c (.slice A n cc) = x := ⟨_, rfl⟩
  have HC0 := Lib.hid (CapAt.new w (.slice A n cc) hw hCX)
  have HCX := Lib.hid hCX
  have hal : Below w.heap.size w (w.alloc (.cells CX 28)) := (Below.refl _ _).alloc (Nat.le_refl _) _
  have HAL := Lib.hid hal
  obtain ⟨OK, hOK⟩ : ∃ x, decide c.ok = x := ⟨_, rfl⟩
  have HV := Lib.hid (fun (W : World) (hW : Below w.heap.size w W) => (show Calls Tryd.prog 47 #[.agg CX] W fun e w' => e = .returned (.bool OK) ∧ Below W.heap.size W w' from by
    rw [← hCX, ← hOK]
    exact rvalid_any hw hn))
  have HOK := Lib.hid hOK
  obtain ⟨R, hR⟩ : ∃ x, decide c.writes = x := ⟨_, rfl⟩
  have HR := Lib.hid hR
  rw [hCX, hR]
  clear hCX hal hOK hR hw hn
  go_enter Tryd.func45, Tryd.ntmps45
  go_upto_region 1 with fail
  obtain ⟨b, hb⟩ : ∃ g, w.heap.size = g := ⟨_, rfl⟩
  rw [hb] at HC0 ⊢
  generalize w.alloc (.cells CX 28) = w1 at *
  obtain ⟨c0, _, _, _, _⟩ := HC0.out.cells
  cases OK
  · obtain rfl : R = false := by rw [← HR.out]; exact decide_eq_false (fun h => by have := h.1; have h2 := HOK.out; rw [decide_eq_true this] at h2; cases h2)
    clear c0
    go_wp2_with (first | (refine wpList_load_capC ?_ (.tmp 1) rfl b rfl HC0.out HCX.out ?_; · rfl) | (with_reducible refine (HV.out _ HAL.out).mono ?_; rintro e w2 ⟨rfl, hb2⟩; have hc0 := (HC0.out.below hb2).cells.1))
    have hfin := HAL.out.trans (hb2.mono HAL.out.size)
    go_ret
    exact ⟨rfl, by first | exact hfin | (rw [← hb]; exact hfin)⟩
  · by_cases h4 : c.kind = 4
    · obtain rfl : R = true := by rw [← HR.out]; exact decide_eq_true ⟨of_decide_eq_true HOK.out, .inl h4⟩
      clear c0
      go_wp2_with (first | (refine wpList_load_capC ?_ (.tmp 1) rfl b rfl HC0.out HCX.out ?_; · rfl) | (with_reducible refine (HV.out _ HAL.out).mono ?_; rintro e w2 ⟨rfl, hb2⟩; have hc0 := (HC0.out.below hb2).cells.1))
      have hfin := HAL.out.trans (hb2.mono HAL.out.size)
      go_ret
      exact ⟨rfl, by first | exact hfin | (rw [← hb]; exact hfin)⟩
    · by_cases h7 : c.kind = 7
      · obtain rfl : R = true := by rw [← HR.out]; exact decide_eq_true ⟨of_decide_eq_true HOK.out, .inr h7⟩
        have e4 : (c.kind == 4) = false := beq_eq_false_iff_ne.2 h4
        clear c0
        go_wp2_with (first | (refine wpList_load_capC ?_ (.tmp 1) rfl b rfl HC0.out HCX.out ?_; · rfl) | (with_reducible refine (HV.out _ HAL.out).mono ?_; rintro e w2 ⟨rfl, hb2⟩; have hc0 := (HC0.out.below hb2).cells.1))
        have hfin := HAL.out.trans (hb2.mono HAL.out.size)
        go_ret
        exact ⟨rfl, by first | exact hfin | (rw [← hb]; exact hfin)⟩
      · obtain rfl : R = false := by rw [← HR.out]; exact decide_eq_false (fun h => h.2.elim h4 h7)
        have e4 : (c.kind == 4) = false := beq_eq_false_iff_ne.2 h4
        have e7 : (c.kind == 7) = false := beq_eq_false_iff_ne.2 h7
        clear c0
        go_wp2_with (first | (refine wpList_load_capC ?_ (.tmp 1) rfl b rfl HC0.out HCX.out ?_; · rfl) | (with_reducible refine (HV.out _ HAL.out).mono ?_; rintro e w2 ⟨rfl, hb2⟩; have hc0 := (HC0.out.below hb2).cells.1))
        have hfin := HAL.out.trans (hb2.mono HAL.out.size)
        go_ret
        exact ⟨rfl, by first | exact hfin | (rw [← hb]; exact hfin)⟩
end Go.Proofs.YtkkokngdhhakdaaDoor
