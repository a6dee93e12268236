/- The program's texts of capabilities: keyText, sizeText, words. -/
import Derived.Test.YtkkokngdhhakdaaDoorCapA
import Derived.Test.YtkkokngdhhakdaaDoorBase32
import Derived.Deep.RegionHeld3
import Derived.Lib.AppendIntMem
import Derived.Laws.Concat
namespace Go.Proofs.YtkkokngdhhakdaaDoor
open Go.RowKit
set_option maxRecDepth 100000

theorem ba_app (a b : List UInt8) : (⟨a.toArray⟩ : ByteArray) ++ ⟨b.toArray⟩ = ⟨(a ++ b).toArray⟩ := by rw [ByteArray.mk_append_mk]
theorem Rd.of_range {w : World} {b off : Nat} {l : List UInt8} (hb : b < w.heap.size) (h : w.rangeAt b off (Lib.byteCells l)) : Rd w w.heap.size (some ⟨b, off, none⟩) l := .inr ⟨b, off, rfl, hb, fun i hi => h i _ (by simp [Lib.byteCells, List.getElem?_eq_getElem hi])⟩

set_option maxHeartbeats 2000000 in
theorem pkeytext_any {w : World} {c : Cap13} {X : Value} (hw : c.wf) :
    Calls Tryd.prog 59 #[.agg (capA c X)] w fun e w' => e = .returned (.string ⟨(enc c.key ++ 58 :: enc c.fp).toArray⟩) ∧ Below w.heap.size w w' := by
  obtain ⟨CX, hCX⟩ : ∃ x, capA c X = x := ⟨_, rfl⟩
  have HC0 := Lib.hid (CapAt.new w X hw hCX)
  rw [hCX]
  have hal : Below w.heap.size w (w.alloc (.cells CX 28)) := (Below.refl _ _).alloc (Nat.le_refl _) _
  have HAL := Lib.hid hal
  have HW := Lib.hid hw
  obtain ⟨KT, hKT⟩ : ∃ x, (⟨(enc c.key).toArray⟩ : ByteArray) = x := ⟨_, rfl⟩
  obtain ⟨FT, hFT⟩ : ∃ x, (⟨(enc c.fp).toArray⟩ : ByteArray) = x := ⟨_, rfl⟩
  obtain ⟨T, hT⟩ : ∃ x, (⟨(enc c.key ++ 58 :: enc c.fp).toArray⟩ : ByteArray) = x := ⟨_, rfl⟩
  obtain ⟨K1, hK1⟩ : ∃ x, KT ++ (⟨#[58]⟩ : ByteArray) = x := ⟨_, rfl⟩
  have hT1 : K1 ++ FT = T := by rw [← hT, ← hK1, ← hKT, ← hFT, show (⟨#[58]⟩ : ByteArray) = ⟨[(58 : UInt8)].toArray⟩ from rfl, ba_app, ba_app]; simp
  have hks : KT.size ≤ 100 := by rw [← hKT]; show (enc c.key).toArray.size ≤ _; simp [enc_length, hw.1]
  have hfs : FT.size ≤ 100 := by rw [← hFT]; show (enc c.fp).toArray.size ≤ _; simp [enc_length, hw.2]
  have hk1 : K1.size ≤ 101 := by rw [← hK1, ByteArray.size_append]; show KT.size + 1 ≤ _; omega
  have hc1 := fun (W : World) => (show (Op.stringOp .add KT ⟨#[58]⟩).run Tryd.prog W = .ok (.string K1) W by rw [run_string_add_sum W _ _ (by show KT.size + 1 ≤ _; omega), hK1])
  have hc2 := fun (W : World) => (show (Op.stringOp .add K1 FT).run Tryd.prog W = .ok (.string T) W by rw [run_string_add_sum W _ _ (by omega), hT1])
  rw [hT]
  clear hT hK1 hT1 hks hfs hk1
  clear hCX hal hw
  go_enter Tryd.func59, Tryd.ntmps59
  go_upto_region 1 with fail
  obtain ⟨b, hb⟩ : ∃ g, w.heap.size = g := ⟨_, rfl⟩
  rw [hb] at HC0 ⊢
  generalize w.alloc (.cells CX 28) = w1 at *
  have HK := Lib.hid (fun (W : World) (hW : Below w1.heap.size w1 W) => (show Calls Tryd.prog 58 #[.slice (some ⟨b, 1, none⟩) 16 16] W fun e w' => e = .returned (.string KT) ∧ Below w1.heap.size w1 w' from by
    have h := HC0.out.below hW
    have := base32_any (some ⟨b, 1, none⟩) 16 16 W.heap.size c.key W HW.out.1 (by omega) (Rd.of_range h.lt h.rangeKey) (Nat.le_refl _)
    rw [hKT] at this
    exact this.mono fun e w' h => ⟨h.1, hW.trans (h.2.mono hW.size)⟩))
  have HF := Lib.hid (fun (W : World) (hW : Below w1.heap.size w1 W) => (show Calls Tryd.prog 58 #[.slice (some ⟨b, 17, none⟩) 32 32] W fun e w' => e = .returned (.string FT) ∧ Below w1.heap.size w1 w' from by
    have h := HC0.out.below hW
    have := base32_any (some ⟨b, 17, none⟩) 32 32 W.heap.size c.fp W HW.out.2 (by omega) (Rd.of_range h.lt h.rangeFp) (Nat.le_refl _)
    rw [hFT] at this
    exact this.mono fun e w' h => ⟨h.1, hW.trans (h.2.mono hW.size)⟩))
  clear hKT hFT
  go_region_held3 (fun W => Below w1.heap.size w1 W)
    ((first | assumption | exact Below.refl _ _ | exact (Below.refl _ _).drew | exact below_drewN (Below.refl _ _) _ | exact Below.drew (by assumption) | exact below_drewN (by assumption) _))
    ((first
      | (go_at_call 58; with_reducible refine (HK.out _ (by first | assumption | exact Below.refl _ _ | exact (Below.refl _ _).drew | exact below_drewN (by assumption) _ | exact below_drewN (Below.refl _ _) _)).mono ?_; rintro e W ⟨rfl, hbW⟩)
      | (go_at_call 58; with_reducible refine (HF.out _ (by first | assumption | exact Below.refl _ _ | exact (Below.refl _ _).drew | exact below_drewN (by assumption) _ | exact below_drewN (Below.refl _ _) _)).mono ?_; rintro e W ⟨rfl, hbW⟩)
      | fail "none"))
  have hfin := HAL.out.trans (hbW.mono HAL.out.size)
  go_wp2_with fail
  go_ret
  exact ⟨rfl, hfin⟩

theorem itoa_any (n : Int) (h0 : 0 ≤ n) (h1 : n ≤ 1000000) (w : World) (htab : Pow10 w.heap.size w) :
    Calls Tryd.prog 75 #[.int .i64 n] w fun e w' => e = .returned (.string ⟨(dd13 n).toArray⟩) ∧ Below w.heap.size w w' := by
  have := Tryd.strconv_Itoa n (by omega) (by omega) w htab.here
  refine this.mono fun e w' ⟨he, k, os, hw⟩ => ⟨?_, ?_⟩
  · rw [he]
    have : Lib.itoa n = dd13 n := by
      unfold Lib.itoa dd13
      rw [if_neg (by omega)]
    rw [this]
  · rw [hw]
    exact Lib.below_grow _ w (Nat.le_refl _) k os

theorem dd13_len (n : Int) (h1 : n ≤ 1024) : (dd13 n).length ≤ 4 := nd_small (by omega)
set_option maxHeartbeats 2000000 in
theorem psizetext_any {w : World} {c : Cap13} {X : Value} (hw : c.wf) (h0 : 0 ≤ c.k ∧ 0 ≤ c.n ∧ 0 ≤ c.size) (h1 : c.k ≤ 1024 ∧ c.n ≤ 1024 ∧ c.size ≤ 1024) (htab : Pow10 w.heap.size w) :
    Calls Tryd.prog 60 #[.agg (capA c X)] w fun e w' => e = .returned (.string ⟨(dd13 c.k ++ 58 :: dd13 c.n ++ 58 :: dd13 c.size).toArray⟩) ∧ Below w.heap.size w w' := by
  obtain ⟨CX, hCX⟩ : ∃ x, capA c X = x := ⟨_, rfl⟩
  have HC0 := Lib.hid (CapAt.new w X hw hCX)
  rw [hCX]
  have hal : Below w.heap.size w (w.alloc (.cells CX 28)) := (Below.refl _ _).alloc (Nat.le_refl _) _
  have HAL := Lib.hid hal
  have HI := Lib.hid (fun (i : Int) (hi : 0 ≤ i) (hj : i ≤ 1024) (W : World) (hW : Below w.heap.size w W) => itoa_any i hi (by omega) W (tab_on htab hW hW.size))
  obtain ⟨KT, hKT⟩ : ∃ x, (⟨(dd13 c.k).toArray⟩ : ByteArray) = x := ⟨_, rfl⟩
  obtain ⟨NT, hNT⟩ : ∃ x, (⟨(dd13 c.n).toArray⟩ : ByteArray) = x := ⟨_, rfl⟩
  obtain ⟨ST, hST⟩ : ∃ x, (⟨(dd13 c.size).toArray⟩ : ByteArray) = x := ⟨_, rfl⟩
  have HIK := Lib.hid (HI.out c.k h0.1 h1.1)
  have HIN := Lib.hid (HI.out c.n h0.2.1 h1.2.1)
  have HIS := Lib.hid (HI.out c.size h0.2.2 h1.2.2)
  simp only [hKT] at HIK
  simp only [hNT] at HIN
  simp only [hST] at HIS
  obtain ⟨T, hT⟩ : ∃ x, (⟨(dd13 c.k ++ 58 :: dd13 c.n ++ 58 :: dd13 c.size).toArray⟩ : ByteArray) = x := ⟨_, rfl⟩
  have hks : KT.size ≤ 4 := by rw [← hKT]; exact dd13_len _ h1.1
  have hns : NT.size ≤ 4 := by rw [← hNT]; exact dd13_len _ h1.2.1
  have hss : ST.size ≤ 4 := by rw [← hST]; exact dd13_len _ h1.2.2
  obtain ⟨T1, hT1⟩ : ∃ x, KT ++ (⟨#[58]⟩ : ByteArray) = x := ⟨_, rfl⟩
  obtain ⟨T2, hT2⟩ : ∃ x, T1 ++ NT = x := ⟨_, rfl⟩
  obtain ⟨T3, hT3⟩ : ∃ x, T2 ++ (⟨#[58]⟩ : ByteArray) = x := ⟨_, rfl⟩
  have hT4 : T3 ++ ST = T := by rw [← hT, ← hT3, ← hT2, ← hT1, ← hKT, ← hNT, ← hST, show (⟨#[58]⟩ : ByteArray) = ⟨[(58 : UInt8)].toArray⟩ from rfl, ba_app, ba_app, ba_app, ba_app]; simp
  have hs1 : T1.size ≤ 5 := by rw [← hT1, ByteArray.size_append]; show KT.size + 1 ≤ _; omega
  have hs2 : T2.size ≤ 9 := by rw [← hT2, ByteArray.size_append]; omega
  have hs3 : T3.size ≤ 10 := by rw [← hT3, ByteArray.size_append]; show T2.size + 1 ≤ _; omega
  have hc1 := fun (W : World) => (show (Op.stringOp .add KT ⟨#[58]⟩).run Tryd.prog W = .ok (.string T1) W by rw [run_string_add_sum W _ _ (by show KT.size + 1 ≤ _; omega), hT1])
  have hc2 := fun (W : World) => (show (Op.stringOp .add T1 NT).run Tryd.prog W = .ok (.string T2) W by rw [run_string_add_sum W _ _ (by omega), hT2])
  have hc3 := fun (W : World) => (show (Op.stringOp .add T2 ⟨#[58]⟩).run Tryd.prog W = .ok (.string T3) W by rw [run_string_add_sum W _ _ (by show T2.size + 1 ≤ _; omega), hT3])
  have hc4 := fun (W : World) => (show (Op.stringOp .add T3 ST).run Tryd.prog W = .ok (.string T) W by rw [run_string_add_sum W _ _ (by omega), hT4])
  rw [hT]
  clear hCX hal hw hT hT1 hT2 hT3 hT4 hs1 hs2 hs3 hks hns hss hKT hNT hST HI htab h0 h1
  go_enter Tryd.func60, Tryd.ntmps60
  go_upto_region 1 with fail
  obtain ⟨b, hb⟩ : ∃ g, w.heap.size = g := ⟨_, rfl⟩
  rw [hb] at HC0 ⊢
  generalize w.alloc (.cells CX 28) = w1 at *
  have HKEEP := Lib.hid (fun (W : World) (h : Below w1.heap.size w1 W) => (show (W.cell? ⟨b, 49, none⟩ = some (.int .i64 c.k) ∧ W.cell? ⟨b, 50, none⟩ = some (.int .i64 c.n) ∧ W.cell? ⟨b, 51, none⟩ = some (.int .i64 c.size)) ∧ Below w1.heap.size w1 W from ⟨⟨(HC0.out.below h).cells.2.1, (HC0.out.below h).cells.2.2.1, (HC0.out.below h).cells.2.2.2.1⟩, h⟩))
  have HJK := Lib.hid (fun (W : World) (hW : Below w1.heap.size w1 W) => (HIK.out W (HAL.out.trans (hW.mono HAL.out.size))).mono fun e w' h => (⟨h.1, hW.trans (h.2.mono hW.size)⟩ : e = .returned (.string KT) ∧ Below w1.heap.size w1 w'))
  have HJN := Lib.hid (fun (W : World) (hW : Below w1.heap.size w1 W) => (HIN.out W (HAL.out.trans (hW.mono HAL.out.size))).mono fun e w' h => (⟨h.1, hW.trans (h.2.mono hW.size)⟩ : e = .returned (.string NT) ∧ Below w1.heap.size w1 w'))
  have HJS := Lib.hid (fun (W : World) (hW : Below w1.heap.size w1 W) => (HIS.out W (HAL.out.trans (hW.mono HAL.out.size))).mono fun e w' h => (⟨h.1, hW.trans (h.2.mono hW.size)⟩ : e = .returned (.string ST) ∧ Below w1.heap.size w1 w'))
  clear HIK HIN HIS
  go_region_held3 (fun W => (W.cell? ⟨b, 49, none⟩ = some (.int .i64 c.k) ∧ W.cell? ⟨b, 50, none⟩ = some (.int .i64 c.n) ∧ W.cell? ⟨b, 51, none⟩ = some (.int .i64 c.size)) ∧ Below w1.heap.size w1 W)
    ((first | exact HKEEP.out _ ‹_› | exact HKEEP.out _ (Below.refl _ _) | exact HKEEP.out _ (Below.refl _ _).drew | exact HKEEP.out _ (below_drewN (Below.refl _ _) _) | exact HKEEP.out _ (Below.drew ‹_›) | exact HKEEP.out _ (below_drewN ‹_› _)))
    ((first
      | (go_at_call 75; with_reducible refine (HJK.out _ (by first | assumption | exact Below.refl _ _ | exact (Below.refl _ _).drew | exact below_drewN (by assumption) _ | exact below_drewN (Below.refl _ _) _)).mono ?_; rintro e W ⟨rfl, hbW⟩)
      | (go_at_call 75; with_reducible refine (HJN.out _ (by first | assumption | exact Below.refl _ _ | exact (Below.refl _ _).drew | exact below_drewN (by assumption) _ | exact below_drewN (Below.refl _ _) _)).mono ?_; rintro e W ⟨rfl, hbW⟩)
      | (go_at_call 75; with_reducible refine (HJS.out _ (by first | assumption | exact Below.refl _ _ | exact (Below.refl _ _).drew | exact below_drewN (by assumption) _ | exact below_drewN (Below.refl _ _) _)).mono ?_; rintro e W ⟨rfl, hbW⟩)
      | fail "none"))
  all_goals
    have hfin := HAL.out.trans (hbW.mono HAL.out.size)
    go_wp2_with fail
    go_ret
    exact ⟨rfl, hfin⟩

def wordV (l : List UInt8) : Value := .string ⟨l.toArray⟩
def wordsA : Array Value := (words13.map wordV).toArray
theorem run_index_w13 (k : Int) (h0 : 0 ≤ k) (h1 : k ≤ 9) (W : World) : (Instr.index 66 (.agg wordsA) (.int .i64 k)).run Tryd.prog W = .ok (.string ⟨(wordL k).toArray⟩) W := by
  obtain rfl | rfl | rfl | rfl | rfl | rfl | rfl | rfl | rfl | rfl : k = 0 ∨ k = 1 ∨ k = 2 ∨ k = 3 ∨ k = 4 ∨ k = 5 ∨ k = 6 ∨ k = 7 ∨ k = 8 ∨ k = 9 := by omega
  all_goals rfl
set_option maxHeartbeats 2000000 in
theorem pwords_any (w : World) :
    Calls Tryd.prog 57 #[] w fun e w' => e = .returned (.agg wordsA) ∧ Below w.heap.size w w' := by
  have hal : Below w.heap.size w (w.alloc (.cells wordsA 66)) := (Below.refl _ _).alloc (Nat.le_refl _) _
  have HAL := Lib.hid hal
  clear hal
  go_enter Tryd.func57, Tryd.ntmps57
  go_wp2_with fail
  exact bodyPost_ret (v := .agg wordsA) (results_cell_row (p := 0) (ty := 66) (by kernel_rfl) _ _ w.heap.size 66 wordsA (0, 0) _ rfl (Blk.new w wordsA 66) Tryd.underlying66 rfl (by kernel_rfl)) rfl ⟨rfl, HAL.out⟩
end Go.Proofs.YtkkokngdhhakdaaDoor
