/- The document's own Print. -/
import Derived.Test.YtkmbieljmippnaaDoorCapR
import Derived.Test.YtkmbieljmippnaaDoorCapT
import Derived.Test.YtkmbieljmippnaaDoorRBase32
namespace Go.Proofs.YtkmbieljmippnaaDoor
open Go.RowKit
set_option maxRecDepth 100000

theorem ba58 : (⟨#[58]⟩ : ByteArray) = ⟨[(58 : UInt8)].toArray⟩ := rfl
set_option maxHeartbeats 2000000 in
theorem rword_any (k : Int) (h0 : 0 ≤ k) (h1 : k ≤ 9) (w : World) :
    Calls Tryd.prog 61 #[.int .i64 k] w fun e w' => e = .returned (.string ⟨(wordL k).toArray⟩) ∧ Below w.heap.size w w' := by
  have hix := run_index_w13 k h0 h1
  rw [show wordsA = #[.string ⟨#[]⟩, .string ⟨#[102, 105, 108, 101]⟩, .string ⟨#[102, 105, 108, 101, 45, 118, 101, 114, 105, 102, 121]⟩, .string ⟨#[108, 105, 116]⟩, .string ⟨#[115, 108, 111, 116]⟩, .string ⟨#[115, 108, 111, 116, 45, 114, 101, 97, 100]⟩, .string ⟨#[115, 108, 111, 116, 45, 118, 101, 114, 105, 102, 121]⟩, .string ⟨#[100, 105, 114]⟩, .string ⟨#[100, 105, 114, 45, 114, 101, 97, 100]⟩, .string ⟨#[100, 105, 114, 45, 118, 101, 114, 105, 102, 121]⟩] from rfl] at hix
  obtain ⟨WD, hWD⟩ : ∃ x, (⟨(wordL k).toArray⟩ : ByteArray) = x := ⟨_, rfl⟩
  rw [hWD] at hix ⊢
  clear hWD h0 h1
  go_enter Tryd.func61, Tryd.ntmps61
  go_wp2_with fail
  go_ret
  exact ⟨rfl, Below.refl _ _⟩

theorem rdig_any (i : Int) (h0 : 0 ≤ i) (h1 : i ≤ 1024) (w : World) :
    Calls Tryd.prog 63 #[.int .i64 i] w fun e w' => e = .returned (.string ⟨(dd13 i).toArray⟩) ∧ Below w.heap.size w w' := by
  have := digits_any (i.toNat + 1) i.toNat w (by omega) (by omega)
  rwa [show ((i.toNat : Nat) : Int) = i by omega] at this

set_option maxHeartbeats 4000000 in
theorem rprint_any {w : World} {c : Cap13} {A : Option Addr} {n cc : Nat} (hw : c.wf) (hn : c.lit.length = n) (hn1 : n ≤ 1000000) (hr : Rd w w.heap.size A c.lit) :
    Calls Tryd.prog 40 #[.agg (capA c (.slice A n cc))] w fun e w' => e = .returned (printV c) ∧ Below w.heap.size w w' := by
  obtain ⟨CX, hCX⟩ : ∃ x, capA c (.slice A n cc) = x := ⟨_, rfl⟩
  have HC0 := Lib.hid (CapAt.new w (.slice A n cc) hw hCX)
  have hal : Below w.heap.size w (w.alloc (.cells CX 28)) := (Below.refl _ _).alloc (Nat.le_refl _) _
  have HAL := Lib.hid hal
  have HV := Lib.hid (fun (t : Bool) (ht : decide c.ok = t) (W : World) => (show Calls Tryd.prog 26 #[.agg CX] W fun e w' => e = .returned (.bool t) ∧ Below W.heap.size W w' from by
    rw [← hCX, ← ht]
    exact rvalid_any hw hn))
  have HFI := Lib.hid (fun (t : Bool) (ht : decide (FileK c.kind) = t) (W : World) => (show Calls Tryd.prog 56 #[.agg CX] W fun e w' => e = .returned (.bool t) ∧ Below W.heap.size W w' from by
    rw [← hCX, ← ht]
    exact rfile_any hw))
  have HB := Lib.hid (fun (W : World) (hW : Below w.heap.size w W) => rbase32_any A n cc W.heap.size c.lit W hn hn1 (hr.on hW) (Nat.le_refl _))
  have HCX := Lib.hid hCX
  have HW := Lib.hid hw
  have HN := Lib.hid (show c.lit.length ≤ 1000000 by omega)
  rw [hCX]
  clear hCX hal hn hn1 hr hw
  by_cases hok : c.ok
  · have HOK := Lib.hid hok
    have hV : printV c = .tuple #[.string ⟨c.text.toArray⟩, .int .i64 0] := by unfold printV; rw [if_pos hok]
    obtain ⟨T, hT⟩ : ∃ x, (⟨c.text.toArray⟩ : ByteArray) = x := ⟨_, rfl⟩
    rw [hV, hT]
    have HT := Lib.hid hT
    clear hT
    have HV1 := Lib.hid (HV.out true (decide_eq_true hok))
    have hkk := c.ok_kind hok
    have HWL := Lib.hid (wordL_len c.kind (by omega) (by omega))
    have HWO := Lib.hid (fun (W : World) => rword_any c.kind (by omega) (by omega) W)
    obtain ⟨WD, hWD⟩ : ∃ x, (⟨(wordL c.kind).toArray⟩ : ByteArray) = x := ⟨_, rfl⟩
    rw [hWD] at HWO
    obtain ⟨P1, hP1⟩ : ∃ x, (⟨#[97, 117, 58]⟩ : ByteArray) ++ WD = x := ⟨_, rfl⟩
    obtain ⟨P2, hP2⟩ : ∃ x, P1 ++ (⟨#[58]⟩ : ByteArray) = x := ⟨_, rfl⟩
    have hs0 : WD.size ≤ 11 := by rw [← hWD]; exact HWL.out
    have hs1 : P1.size ≤ 14 := by rw [← hP1, ByteArray.size_append]; show 3 + WD.size ≤ _; omega
    have hs2 : P2.size ≤ 15 := by rw [← hP2, ByteArray.size_append]; show P1.size + 1 ≤ _; omega
    have hc1 := sum_runC hP1 (by show 3 ≤ _; omega) (by omega)
    have hc2 := sum_runC hP2 (by omega) (by show 1 ≤ _; omega)
    have HP2 := Lib.hid (show P2 = ⟨([97, 117, 58] ++ wordL c.kind ++ [58]).toArray⟩ by rw [← hP2, ← hP1, ← hWD, show (⟨#[97, 117, 58]⟩ : ByteArray) = ⟨([97, 117, 58] : List UInt8).toArray⟩ from rfl, show (⟨#[58]⟩ : ByteArray) = ⟨[(58 : UInt8)].toArray⟩ from rfl, ba_app, ba_app])
    have HS2 := Lib.hid hs2
    clear hV hkk hok HV hWD hP1 hP2 hs0 hs1 hs2
    go_enter Tryd.func40, Tryd.ntmps40
    go_upto_region 1 with fail
    obtain ⟨b, hb⟩ : ∃ g, w.heap.size = g := ⟨_, rfl⟩
    rw [hb] at HC0 ⊢
    generalize w.alloc (.cells CX 28) = w1 at *
    go_upto_region 3 with (first | (refine wpList_load_capC ?_ (.tmp 1) rfl b rfl HC0.out HCX.out ?_; · rfl) | (with_reducible refine (HV1.out _).mono ?_; rintro e w2 ⟨rfl, hb2⟩))
    have HC2 := Lib.hid (HC0.out.below hb2)
    have HBW2 := Lib.hid (HAL.out.trans (hb2.mono HAL.out.size))
    clear hb2
    obtain ⟨c0, _, _, _, _⟩ := HC2.out.cells
    go_upto_region 4 with (first | (with_reducible refine (HWO.out _).mono ?_; rintro e w3 ⟨rfl, hb3⟩))
    have HC3 := Lib.hid (HC2.out.below hb3)
    have HBW := Lib.hid (HBW2.out.trans (hb3.mono HBW2.out.size))
    clear hb3 c0 HC2 HBW2 hc1 hc2 HV1 HC0 HAL HWO
    have hbr := hb
    clear hb
    by_cases h3 : c.kind = 3
    · obtain ⟨c0, _, _, _, c52⟩ := HC3.out.cells
      obtain ⟨LT, hLT⟩ : ∃ x, (⟨(enc c.lit).toArray⟩ : ByteArray) = x := ⟨_, rfl⟩
      have HLB := Lib.hid (HB.out w3 HBW.out)
      rw [hLT] at HLB
      have hls : LT.size ≤ 1700000 := by
        rw [← hLT]
        show (enc c.lit).toArray.size ≤ _
        have := HN.out
        simp only [List.size_toArray, enc_length]
        omega
      have hct : P2 ++ LT = ⟨c.text.toArray⟩ := by
        rw [HP2.out, ← hLT, ba_app]
        unfold Cap13.text
        rw [pieces_three h3, h3]
        simp only [join58, List.append_assoc, List.cons_append, List.nil_append]
      have hc1 := sum_runC hct (by have := HS2.out; omega) (by omega)
      have hT := HT.out
      rw [hT] at hc1
      clear hT hct hls hLT
      go_wp2_with (first | (with_reducible refine HLB.out.mono ?_; rintro e w4 ⟨rfl, hb4⟩))
      have hfin := HBW.out.trans (hb4.mono HBW.out.size)
      clear hb4 c0 c52
      go_wp2_with fail
      go_ret2
      exact ⟨rfl, by first | exact hfin | (rw [← hbr]; exact hfin)⟩
    · obtain ⟨c0, _, _, _, _⟩ := HC3.out.cells
      obtain ⟨KT, hKT⟩ : ∃ x, (⟨(enc c.key).toArray⟩ : ByteArray) = x := ⟨_, rfl⟩
      obtain ⟨FT, hFT⟩ : ∃ x, (⟨(enc c.fp).toArray⟩ : ByteArray) = x := ⟨_, rfl⟩
      obtain ⟨K1, hK1⟩ : ∃ x, KT ++ (⟨#[58]⟩ : ByteArray) = x := ⟨_, rfl⟩
      obtain ⟨K2, hK2⟩ : ∃ x, K1 ++ FT = x := ⟨_, rfl⟩
      obtain ⟨P3, hP3⟩ : ∃ x, P2 ++ K2 = x := ⟨_, rfl⟩
      have hks : KT.size ≤ 26 := by rw [← hKT]; show (enc c.key).toArray.size ≤ _; simp [enc_length, HW.out.1]
      have hfs : FT.size ≤ 52 := by rw [← hFT]; show (enc c.fp).toArray.size ≤ _; simp [enc_length, HW.out.2]
      have hk1s : K1.size ≤ 27 := by rw [← hK1, ByteArray.size_append]; show KT.size + 1 ≤ _; omega
      have hk2s : K2.size ≤ 79 := by rw [← hK2, ByteArray.size_append]; omega
      have hp2s := HS2.out
      have hp3s : P3.size ≤ 94 := by rw [← hP3, ByteArray.size_append]; omega
      have hc1 := sum_runC hK1 (by omega) (by show 1 ≤ _; omega)
      have hc2 := sum_runC hK2 (by omega) (by omega)
      have hc3 := sum_runC hP3 (by omega) (by omega)
      have HP3 := Lib.hid (show P3 = ⟨([97, 117, 58] ++ wordL c.kind ++ [58] ++ (enc c.key ++ [58] ++ enc c.fp)).toArray⟩ by rw [← hP3, ← hK2, ← hK1, HP2.out, ← hKT, ← hFT, ba58, ba_app, ba_app, ba_app])
      have HPS := Lib.hid hp3s
      have HK := Lib.hid (fun (W : World) (hW : Below w3.heap.size w3 W) => (show Calls Tryd.prog 62 #[.slice (some ⟨b, 1, none⟩) 16 16] W fun e w' => e = .returned (.string KT) ∧ Below w3.heap.size w3 w' from by
        have h := HC3.out.below hW
        have := rbase32_any (some ⟨b, 1, none⟩) 16 16 W.heap.size c.key W HW.out.1 (by omega) (Rd.of_range h.lt h.rangeKey) (Nat.le_refl _)
        rw [hKT] at this
        exact this.mono fun e w' h => ⟨h.1, hW.trans (h.2.mono hW.size)⟩))
      have HF := Lib.hid (fun (W : World) (hW : Below w3.heap.size w3 W) => (show Calls Tryd.prog 62 #[.slice (some ⟨b, 17, none⟩) 32 32] W fun e w' => e = .returned (.string FT) ∧ Below w3.heap.size w3 w' from by
        have h := HC3.out.below hW
        have := rbase32_any (some ⟨b, 17, none⟩) 32 32 W.heap.size c.fp W HW.out.2 (by omega) (Rd.of_range h.lt h.rangeFp) (Nat.le_refl _)
        rw [hFT] at this
        exact this.mono fun e w' h => ⟨h.1, hW.trans (h.2.mono hW.size)⟩))
      have e3 : (c.kind == 3) = false := beq_eq_false_iff_ne.2 h3
      clear hK1 hK2 hP3 hks hfs hk1s hk2s hp2s hp3s hKT hFT
      go_upto_region 6 with fail
      clear c0 e3
      go_region_held3 (fun W => Below w3.heap.size w3 W)
        ((first | assumption | exact Below.refl _ _ | exact (Below.refl _ _).drew | exact below_drewN (Below.refl _ _) _ | exact Below.drew (by assumption) | exact below_drewN (by assumption) _))
        ((first
          | (go_at_call 62; with_reducible refine (HK.out _ (by first | assumption | exact Below.refl _ _ | exact (Below.refl _ _).drew | exact below_drewN (by assumption) _ | exact below_drewN (Below.refl _ _) _)).mono ?_; rintro e W ⟨rfl, hbW⟩)
          | (go_at_call 62; with_reducible refine (HF.out _ (by first | assumption | exact Below.refl _ _ | exact (Below.refl _ _).drew | exact below_drewN (by assumption) _ | exact below_drewN (Below.refl _ _) _)).mono ?_; rintro e W ⟨rfl, hbW⟩)
          | fail "none"))
      have HC4 := Lib.hid (HC3.out.below hbW)
      have HBW4 := Lib.hid (HBW.out.trans (hbW.mono HBW.out.size))
      clear hbW HC3 HBW HK HF hc1 hc2 hc3 HB
      obtain ⟨w4, hw4⟩ : ∃ x, W = x := ⟨_, rfl⟩
      rw [hw4] at HC4 HBW4 ⊢
      clear hw4
      by_cases hf : FileK c.kind
      · obtain ⟨g1, g2, g4, g5, g6, _⟩ := ok_fileK HOK.out hf
        have HF1 := Lib.hid (HFI.out true (decide_eq_true hf) w4)
        obtain ⟨KD, hKD⟩ : ∃ x, (⟨(dd13 c.k).toArray⟩ : ByteArray) = x := ⟨_, rfl⟩
        obtain ⟨ND, hND⟩ : ∃ x, (⟨(dd13 c.n).toArray⟩ : ByteArray) = x := ⟨_, rfl⟩
        obtain ⟨SD, hSD⟩ : ∃ x, (⟨(dd13 c.size).toArray⟩ : ByteArray) = x := ⟨_, rfl⟩
        have HIK := Lib.hid (fun (W : World) => rdig_any c.k (by omega) (by omega) W)
        have HIN := Lib.hid (fun (W : World) => rdig_any c.n (by omega) (by omega) W)
        have HIS := Lib.hid (fun (W : World) => rdig_any c.size (by omega) (by omega) W)
        rw [hKD] at HIK
        rw [hND] at HIN
        rw [hSD] at HIS
        have hks : KD.size ≤ 4 := by rw [← hKD]; exact dd13_len _ (by omega)
        have hns : ND.size ≤ 4 := by rw [← hND]; exact dd13_len _ (by omega)
        have hss : SD.size ≤ 4 := by rw [← hSD]; exact dd13_len _ (by omega)
        obtain ⟨D1, hD1⟩ : ∃ x, (⟨#[58]⟩ : ByteArray) ++ KD = x := ⟨_, rfl⟩
        obtain ⟨D2, hD2⟩ : ∃ x, D1 ++ (⟨#[58]⟩ : ByteArray) = x := ⟨_, rfl⟩
        obtain ⟨D3, hD3⟩ : ∃ x, D2 ++ ND = x := ⟨_, rfl⟩
        obtain ⟨D4, hD4⟩ : ∃ x, D3 ++ (⟨#[58]⟩ : ByteArray) = x := ⟨_, rfl⟩
        obtain ⟨D5, hD5⟩ : ∃ x, D4 ++ SD = x := ⟨_, rfl⟩
        have s1 : D1.size ≤ 5 := by rw [← hD1, ByteArray.size_append]; show 1 + KD.size ≤ _; omega
        have s2 : D2.size ≤ 6 := by rw [← hD2, ByteArray.size_append]; show D1.size + 1 ≤ _; omega
        have s3 : D3.size ≤ 10 := by rw [← hD3, ByteArray.size_append]; omega
        have s4 : D4.size ≤ 11 := by rw [← hD4, ByteArray.size_append]; show D3.size + 1 ≤ _; omega
        have s5 : D5.size ≤ 15 := by rw [← hD5, ByteArray.size_append]; omega
        have hT := HT.out
        have hfin : P3 ++ D5 = T := by
          rw [← hT, HP3.out, ← hD5, ← hD4, ← hD3, ← hD2, ← hD1, ← hKD, ← hND, ← hSD, ba58, ba_app, ba_app, ba_app, ba_app, ba_app, ba_app]
          unfold Cap13.text
          rw [pieces_file h3 hf]
          simp only [join58, List.append_assoc, List.cons_append, List.nil_append]
        have hps := HPS.out
        have hc1 := sum_runC hD1 (by show 1 ≤ _; omega) (by omega)
        have hc2 := sum_runC hD2 (by omega) (by show 1 ≤ _; omega)
        have hc3 := sum_runC hD3 (by omega) (by omega)
        have hc4 := sum_runC hD4 (by omega) (by show 1 ≤ _; omega)
        have hc5 := sum_runC hD5 (by omega) (by omega)
        have hc6 := sum_runC hfin (by omega) (by omega)
        clear hKD hND hSD hks hns hss hD1 hD2 hD3 hD4 hD5 s1 s2 s3 s4 s5 hT hfin hps g1 g2 g4 g5 g6 hf h3
        go_upto_region 8 with (first | (refine wpList_load_capC ?_ (.tmp 1) rfl b rfl HC4.out HCX.out ?_; · rfl) | (with_reducible refine HF1.out.mono ?_; rintro e w5 ⟨rfl, hb5⟩))
        have HC5 := Lib.hid (HC4.out.below hb5)
        have HBW5 := Lib.hid (HBW4.out.trans (hb5.mono HBW4.out.size))
        clear hb5 HC4 HBW4 HF1 HFI
        have HKEEP := Lib.hid (fun (W : World) (h : Below w5.heap.size w5 W) => (show (W.cell? ⟨b, 49, none⟩ = some (.int .i64 c.k) ∧ W.cell? ⟨b, 50, none⟩ = some (.int .i64 c.n) ∧ W.cell? ⟨b, 51, none⟩ = some (.int .i64 c.size)) ∧ Below w5.heap.size w5 W from ⟨⟨(HC5.out.below h).cells.2.1, (HC5.out.below h).cells.2.2.1, (HC5.out.below h).cells.2.2.2.1⟩, h⟩))
        have HJK := Lib.hid (fun (W : World) (hW : Below w5.heap.size w5 W) => (HIK.out W).mono fun e w' h => (⟨h.1, hW.trans (h.2.mono hW.size)⟩ : e = .returned (.string KD) ∧ Below w5.heap.size w5 w'))
        have HJN := Lib.hid (fun (W : World) (hW : Below w5.heap.size w5 W) => (HIN.out W).mono fun e w' h => (⟨h.1, hW.trans (h.2.mono hW.size)⟩ : e = .returned (.string ND) ∧ Below w5.heap.size w5 w'))
        have HJS := Lib.hid (fun (W : World) (hW : Below w5.heap.size w5 W) => (HIS.out W).mono fun e w' h => (⟨h.1, hW.trans (h.2.mono hW.size)⟩ : e = .returned (.string SD) ∧ Below w5.heap.size w5 w'))
        clear HIK HIN HIS
        go_region_held3 (fun W => (W.cell? ⟨b, 49, none⟩ = some (.int .i64 c.k) ∧ W.cell? ⟨b, 50, none⟩ = some (.int .i64 c.n) ∧ W.cell? ⟨b, 51, none⟩ = some (.int .i64 c.size)) ∧ Below w5.heap.size w5 W)
          ((first | exact HKEEP.out _ ‹_› | exact HKEEP.out _ (Below.refl _ _) | exact HKEEP.out _ (Below.refl _ _).drew | exact HKEEP.out _ (below_drewN (Below.refl _ _) _) | exact HKEEP.out _ (Below.drew ‹_›) | exact HKEEP.out _ (below_drewN ‹_› _)))
          ((first
            | (go_at_call 63; with_reducible refine (HJK.out _ (by first | assumption | exact Below.refl _ _ | exact (Below.refl _ _).drew | exact below_drewN (by assumption) _ | exact below_drewN (Below.refl _ _) _)).mono ?_; rintro e W ⟨rfl, hbW⟩)
            | (go_at_call 63; with_reducible refine (HJN.out _ (by first | assumption | exact Below.refl _ _ | exact (Below.refl _ _).drew | exact below_drewN (by assumption) _ | exact below_drewN (Below.refl _ _) _)).mono ?_; rintro e W ⟨rfl, hbW⟩)
            | (go_at_call 63; with_reducible refine (HJS.out _ (by first | assumption | exact Below.refl _ _ | exact (Below.refl _ _).drew | exact below_drewN (by assumption) _ | exact below_drewN (Below.refl _ _) _)).mono ?_; rintro e W ⟨rfl, hbW⟩)
            | fail "none"))
        all_goals
          have hfin := HBW5.out.trans (hbW.mono HBW5.out.size)
          clear hc1 hc2 hc3 hc4 hc5 hc6
          go_wp2_with fail
          go_ret2
          exact ⟨rfl, by first | exact hfin | (rw [← hbr]; exact hfin)⟩
      · have HF1 := Lib.hid (HFI.out false (decide_eq_false hf) w4)
        have hT := HT.out
        have hPT : P3 = T := by
          rw [← hT, HP3.out]
          unfold Cap13.text
          rw [pieces_slot h3 hf]
          simp only [join58, List.append_assoc, List.cons_append, List.nil_append]
        rw [hPT]
        clear hT hPT hf h3
        go_wp2_with (first | (refine wpList_load_capC ?_ (.tmp 1) rfl b rfl HC4.out HCX.out ?_; · rfl) | (with_reducible refine HF1.out.mono ?_; rintro e w5 ⟨rfl, hb5⟩))
        have hfin := HBW4.out.trans (hb5.mono HBW4.out.size)
        go_wp2_with fail
        go_ret2
        exact ⟨rfl, by first | exact hfin | (rw [← hbr]; exact hfin)⟩
  · have hV : printV c = .tuple #[.string ⟨#[]⟩, .int .i64 11] := by unfold printV; rw [if_neg hok]
    rw [hV]
    have HV1 := Lib.hid (HV.out false (decide_eq_false hok))
    clear hV hok HV HFI HB
    go_enter Tryd.func40, Tryd.ntmps40
    go_upto_region 1 with fail
    obtain ⟨b, hb⟩ : ∃ g, w.heap.size = g := ⟨_, rfl⟩
    rw [hb] at HC0 ⊢
    generalize w.alloc (.cells CX 28) = w1 at *
    go_wp2_with (first | (refine wpList_load_capC ?_ (.tmp 1) rfl b rfl HC0.out HCX.out ?_; · rfl) | (with_reducible refine (HV1.out _).mono ?_; rintro e w2 ⟨rfl, hb2⟩))
    have hfin := HAL.out.trans (hb2.mono HAL.out.size)
    clear hb2
    go_wp2_with fail
    go_ret2
    exact ⟨rfl, by first | exact hfin | (rw [← hb]; exact hfin)⟩
end Go.Proofs.YtkmbieljmippnaaDoor
