/- The document's own one-time signatures: a step, many steps. The document's own one-time signatures: where a chain starts. The document's own one-time signatures: all ends of a leaf's chains. The document's own one-time signatures: the text of a public hash. -/
import Derived.Test.YtciflbkgfmbfdaaDoorTreeB
import Derived.Test.YtciflbkgfmbfdaaDoorRTClimb
import Derived.Test.YtciflbkgfmbfdaaDoorWotsA
import Derived.Test.YtciflbkgfmbfdaaDoorRShort
import Derived.Test.YtciflbkgfmbfdaaDoorPut
import Derived.Test.YtciflbkgfmbfdaaDoorFreeL
import Derived.Test.YtciflbkgfmbfdaaDoorRText
import Derived.Lib.SlBytesConst
namespace Go.Proofs.YtciflbkgfmbfdaaDoor
open Go.RowKit

def stepT (h : List UInt8) : List UInt8 := netsL [[115, 116, 101, 112], h]
def stepH (h : List UInt8) : List UInt8 := shaL (stepT h)
theorem stepH_len (h : List UInt8) : (stepH h).length = 32 := outTo_len _ 8 (by omega)
theorem stepT_len (h : List UInt8) (hh : h.length = 32) : (stepT h).length ≤ 1000000 :=
  Nat.le_trans (nets_short [[115, 116, 101, 112], h] (by simp) (by
    intro r hr
    simp at hr
    rcases hr with rfl | rfl
    · decide
    · omega)) (by omega)
/-- n steps from a hash. -/
def alongH (n : Nat) (h : List UInt8) : List UInt8 := wots.along stepH n h
theorem alongH_len {h : List UInt8} (hh : h.length = 32) : ∀ n, (alongH n h).length = 32
  | 0 => hh
  | n + 1 => by rw [show alongH (n + 1) h = stepH (alongH n h) from wots.along_succ stepH n h]; exact stepH_len _
set_option maxRecDepth 100000 in
set_option maxHeartbeats 4000000 in
theorem rsteptext_any (h : List UInt8) (w : World) (hh : h.length = 32) :
    Calls Tryd.prog 39 #[.agg (u8A h)] w fun e w' => ∃ A c, e = .returned (.slice A (stepT h).length c) ∧ (stepT h).length ≤ c ∧ Rd w' w'.heap.size A (stepT h) ∧ Below w.heap.size w w' := by
  obtain ⟨X, hX⟩ : ∃ x, u8A h = x := ⟨_, rfl⟩
  have HX := Lib.hid hX
  rw [hX]
  clear hX
  have hal0 : Below w.heap.size w (w.alloc (.cells X 34)) := (Below.refl _ _).alloc (Nat.le_refl _) _
  have HA := Lib.hid (show Blk (w.alloc (.cells X 34)) w.heap.size (u8A h) 34 by rw [HX.out]; exact Blk.new w _ _)
  have HB2 := Lib.hid hal0
  clear hal0
  go_enter Tryd.func39, Tryd.ntmps39
  go_upto_region 1 with fail
  generalize w.alloc (.cells X 34) = w2 at *
  have HTX := Lib.hid (rtext_own [115, 116, 101, 112] (some ⟨w2.heap.size, 0, none⟩) 1 1 [h] (w2.alloc (.cells #[.slice (some ⟨w.heap.size, 0, none⟩) 32 32] 24)) (by decide) rfl (by decide) (fun r hr => by
    simp at hr
    subst hr
    omega) (rdr_leaf w2 _ hh (Nat.le_refl _) (by decide) (rd_of_blk HA.out)))
  have hal : Below w2.heap.size w2 (w2.alloc (.cells #[.slice (some ⟨w.heap.size, 0, none⟩) 32 32] 24)) := (Below.refl _ _).alloc (Nat.le_refl _) _
  have HB3 := Lib.hid (HB2.out.trans (hal.mono HB2.out.size))
  clear hal HB2 HA
  go_wp2_with fail
  with_reducible refine (HTX.out).mono ?_
  rintro e w4 ⟨v4, rfl, hown, hb⟩
  have hown2 : OwnM w4 w.heap.size 5 v4 (stepT h).length (stepT h) := by
    obtain ⟨hl, g, cap, cur, fz, e, hbs, rest⟩ := hown
    exact ⟨hl, g, cap, cur, fz, e, Nat.le_trans HB3.out.size hbs, rest⟩
  obtain ⟨g4, c4, rfl, hc4, _⟩ := ownM_form hown2
  have HR := Lib.hid hown2.rd
  have HC := Lib.hid hc4
  have HB4 := Lib.hid (HB3.out.trans (hb.mono HB3.out.size))
  clear hown hown2 hb HTX HB3 hc4
  go_wp2_with fail
  go_ret
  exact ⟨_, _, rfl, HC.out, HR.out, HB4.out⟩
set_option maxRecDepth 100000 in
set_option maxHeartbeats 4000000 in
theorem rstep_any (h : List UInt8) (w : World) (hh : h.length = 32) :
    Calls Tryd.prog 22 #[.agg (u8A h)] w fun e w' => e = .returned (.agg (u8A (stepH h))) ∧ Below w.heap.size w w' := by
  obtain ⟨X, hX⟩ : ∃ x, u8A h = x := ⟨_, rfl⟩
  obtain ⟨Z, hZ⟩ : ∃ x, u8A (stepH h) = x := ⟨_, rfl⟩
  have HX := Lib.hid hX
  have HZ := Lib.hid hZ
  have HZS := Lib.hid (show Z.size = 32 by rw [← hZ, u8A_size]; exact stepH_len h)
  have HZO := Lib.hid (show Z.all (·.oneCell') = true by rw [← hZ]; exact u8A_one _)
  rw [hX]
  clear hX hZ
  go_enter Tryd.func22, Tryd.ntmps22
  go_upto_region 1 with fail
  generalize hw3 : World.alloc _ _ = w3
  obtain ⟨g1, hg1⟩ : ∃ g, w.heap.size = g := ⟨_, rfl⟩
  obtain ⟨g2, hg2⟩ : ∃ g, w.heap.size + 1 = g := ⟨_, rfl⟩
  have hf : Blk w3 g1 X 34 ∧ (∃ rs, Blk w3 g2 rs 34 ∧ rs.size = 32) ∧ Below w.heap.size w w3 := by
    obtain ⟨Y, hw, hY⟩ : ∃ Y, w3 = (w.alloc (.cells X 34)).alloc (.cells Y 34) ∧ Y.size = 32 := ⟨_, hw3.symm, rfl⟩
    have e1 : (w.alloc (.cells X 34)).heap.size = w.heap.size + 1 := by simp
    rw [hw, ← hg1, ← hg2]
    refine ⟨(Blk.new w _ _).alloc _, ⟨Y, ?_, hY⟩, ((Below.refl _ _).alloc (Nat.le_refl _) _).alloc (by simp) _⟩
    rw [← e1]; exact Blk.new _ _ _
  have HRX := Lib.hid (range_of_blk (l := h) (by rw [HX.out]; exact hf.1))
  have HB2 := Lib.hid hf.2.1
  have HB3 := Lib.hid hf.2.2
  have HG := Lib.hid (show w.heap.size ≤ g2 by omega)
  have HNT := Lib.hid (show Calls Tryd.prog 39 #[.agg X] w3 fun e w' => ∃ A c, e = .returned (.slice A (stepT h).length c) ∧ (stepT h).length ≤ c ∧ Rd w' w'.heap.size A (stepT h) ∧ Below w3.heap.size w3 w' by
    rw [← HX.out]
    exact rsteptext_any h w3 hh)
  clear hf hw3
  rw [hg2, hg1]
  clear hg1 hg2
  go_wp2_with (with_reducible refine wpList_load_hash rfl (.tmp 1) rfl g1 0 rfl h hh HRX.out X HX.out ?_)
  with_reducible refine (HNT.out).mono ?_
  rintro e w4 ⟨A4, c4, rfl, hc4, hr4, hb4⟩
  obtain ⟨tl, htl⟩ : ∃ x, stepT h = x := ⟨_, rfl⟩
  have HTL := Lib.hid (show tl.length ≤ 1000000 by rw [← htl]; exact stepT_len h hh)
  rw [htl] at hr4 hc4 ⊢
  have HSU := Lib.hid (show Calls Tryd.prog 38 #[.slice A4 tl.length c4] w4 fun e w' => e = .returned (.agg Z) ∧ Below w4.heap.size w4 w' by
    have h := rsum_any A4 tl.length c4 tl w4 rfl HTL.out hr4
    rw [← HZ.out]
    unfold stepH
    rw [htl]
    exact h)
  obtain ⟨rs, hrs, hrz⟩ := HB2.out
  have HR4 := Lib.hid (hrs.below hb4 hrs.lt)
  have HRZ := Lib.hid hrz
  have HB4 := Lib.hid (HB3.out.trans (hb4.mono HB3.out.size))
  obtain ⟨q, hq⟩ : ∃ q, tl.length = q := ⟨_, rfl⟩
  rw [hq] at HSU ⊢
  clear hr4 hb4 hc4 HNT HB2 HB3 htl hq hrs hrz
  go_wp2_with fail
  with_reducible refine (HSU.out).mono ?_
  rintro e w5 ⟨rfl, hb5⟩
  have HR5 := Lib.hid (HR4.out.below hb5 HR4.out.lt)
  have HB5 := Lib.hid (HB4.out.trans (hb5.mono HB4.out.size))
  clear hb5 HR4 HB4 HSU
  go_wp2_with (with_reducible refine wpList_store_blk rfl 34 (.tmp 2) (.tmp 5) rfl g2 Z rfl rfl 34 rs HR5.out (by rw [HZS.out]; kernel_rfl) (by rw [HZS.out, HRZ.out]) HZO.out ?_)
  refine bodyPost_ret (v := .agg Z) (results_cell_row (p := 2) (ty := 34) (by kernel_rfl) _ _ g2 34 _ (0, 0) _ rfl (HR5.out.row Z) Tryd.underlying34 rfl (by rw [HZS.out]; kernel_rfl)) rfl ⟨by rw [HZ.out], below_row HB5.out HB5.out.size HG.out _⟩
set_option maxRecDepth 100000 in
set_option maxHeartbeats 4000000 in
theorem ralong_any (h : List UInt8) (n : Int) (w : World) (hh : h.length = 32) :
    Calls Tryd.prog 23 #[.agg (u8A h), .int .i64 n] w fun e w' => e = .returned (.agg (u8A (alongH (wots.clampS n) h))) ∧ Below w.heap.size w w' := by
  obtain ⟨X, hX⟩ : ∃ x, u8A h = x := ⟨_, rfl⟩
  have HX := Lib.hid hX
  obtain ⟨M, hM⟩ : ∃ m, wots.clampS n = m := ⟨_, rfl⟩
  have hM15 : M ≤ 15 := by rw [← hM]; unfold wots.clampS; split <;> (try split) <;> omega
  have HLT := Lib.hid (fun (i : Nat) => (show ((i : Int) < n ∧ (i : Int) < 15) ↔ i < M by
    rw [← hM]
    unfold wots.clampS
    split <;> (try split) <;> omega))
  rw [hX, hM]
  clear hX hM
  go_enter Tryd.func23, Tryd.ntmps23
  go_upto_region 1 with fail
  generalize hw3 : World.alloc _ _ = w3
  obtain ⟨g1, hg1⟩ : ∃ g, w.heap.size = g := ⟨_, rfl⟩
  obtain ⟨g2, hg2⟩ : ∃ g, w.heap.size + 1 = g := ⟨_, rfl⟩
  have hf : Blk w3 g1 X 34 ∧ (∃ rs, Blk w3 g2 rs 34 ∧ rs.size = 32) ∧ Below w.heap.size w w3 := by
    obtain ⟨Y, hw, hY⟩ : ∃ Y, w3 = (w.alloc (.cells X 34)).alloc (.cells Y 34) ∧ Y.size = 32 := ⟨_, hw3.symm, rfl⟩
    have e1 : (w.alloc (.cells X 34)).heap.size = w.heap.size + 1 := by simp
    rw [hw, ← hg1, ← hg2]
    refine ⟨(Blk.new w _ _).alloc _, ⟨Y, ?_, hY⟩, ((Below.refl _ _).alloc (Nat.le_refl _) _).alloc (by simp) _⟩
    rw [← e1]; exact Blk.new _ _ _
  have HB1 := Lib.hid (show Blk w3 g1 (u8A (alongH 0 h)) 34 by
    show Blk w3 g1 (u8A h) _
    rw [HX.out]
    exact hf.1)
  have HB2 := Lib.hid hf.2.1
  have HB3 := Lib.hid hf.2.2
  have HG := Lib.hid (show w.heap.size ≤ g1 ∧ g1 + 1 = g2 by omega)
  clear hf hw3
  rw [hg2, hg1]
  clear hg1 hg2
  go_wp2_with fail
  go_loopw [5] (fun t wq => ∃ i : Nat, i ≤ M ∧ t = .int .i64 (i : Int) ∧ Hid (Blk wq g1 (u8A (alongH i h)) 34) ∧ Hid (∃ rs, Blk wq g2 rs 34 ∧ rs.size = 32) ∧ Hid (Below w.heap.size w wq)) (fun t _ => M - (intOf t).toNat)
  case atStart => exact ⟨0, Nat.zero_le _, rfl, HB1, HB2, HB3⟩
  case round =>
    clear HB1 HB2 HB3
    obtain ⟨i, hi, rfl, HB1, HB2, HB3⟩ := hrel
    have hlen := alongH_len hh i
    by_cases hlt : i < M
    · obtain ⟨h1, h2⟩ := (HLT.out i).2 hlt
      have HSN := Lib.hid (show alongH (i + 1) h = stepH (alongH i h) from wots.along_succ stepH i h)
      have HRX := Lib.hid (range_of_blk HB1.out)
      generalize alongH i h = cur at *
      obtain ⟨C, hC⟩ : ∃ x, u8A cur = x := ⟨_, rfl⟩
      obtain ⟨Z, hZ⟩ : ∃ x, u8A (stepH cur) = x := ⟨_, rfl⟩
      have HC := Lib.hid hC
      have HZ := Lib.hid hZ
      have HZS := Lib.hid (show Z.size = 32 by rw [← hZ, u8A_size]; exact stepH_len _)
      have HZO := Lib.hid (show Z.all (·.oneCell') = true by rw [← hZ]; exact u8A_one _)
      have HCS := Lib.hid (show (u8A cur).size = 32 by rw [u8A_size]; exact hlen)
      have HST := Lib.hid (show Calls Tryd.prog 22 #[.agg C] wr fun e w' => e = .returned (.agg Z) ∧ Below wr.heap.size wr w' by
        rw [← hC, ← hZ]
        exact rstep_any cur wr hlen)
      clear hC hZ
      go_wp2_with (with_reducible refine wpList_load_hash rfl (.tmp 2) rfl g1 0 rfl cur hlen HRX.out C HC.out ?_)
      with_reducible refine (HST.out).mono ?_
      rintro e w5 ⟨rfl, hb5⟩
      have HB15 := Lib.hid (HB1.out.below hb5 HB1.out.lt)
      have HN1 := Lib.hid (show Blk (w5.setRow g1 Z) g1 (u8A (alongH (i + 1) h)) 34 by
        rw [HSN.out, HZ.out]
        exact HB15.out.row Z)
      have HN2 := Lib.hid (show ∃ rs, Blk (w5.setRow g1 Z) g2 rs 34 ∧ rs.size = 32 by
        obtain ⟨rs, h3, h4⟩ := HB2.out
        exact ⟨rs, (h3.below hb5 h3.lt).rowOther (by have := HG.out.2; omega) _, h4⟩)
      have hb15 := HB3.out.trans (hb5.mono HB3.out.size)
      have HN3 := Lib.hid (below_row hb15 hb15.size HG.out.1 Z)
      clear hb5 hb15 HST HRX HB1 HB2 HB3
      go_wp2_with (with_reducible refine wpList_store_blk rfl 34 (.tmp 2) (.tmp 16) rfl g1 Z rfl rfl 34 (u8A cur) HB15.out (by rw [HZS.out]; kernel_rfl) (by rw [HZS.out]; exact HCS.out) HZO.out ?_)
      go_roundw
      case rel => exact ⟨i + 1, hlt, by go_num, HN1, HN2, HN3⟩
      case measure => simp [intOf]; omega
    · obtain rfl : M = i := by omega
      have hno : ¬ ((M : Int) < n ∧ (M : Int) < 15) := fun h => hlt ((HLT.out M).1 h)
      have HRX := Lib.hid (range_of_blk HB1.out)
      have HCU := Lib.hid (show ∃ c, alongH M h = c from ⟨_, rfl⟩)
      obtain ⟨cur, hcur⟩ := HCU.out
      replace HCU := Lib.hid hcur
      rw [hcur] at hlen HRX
      clear hcur
      obtain ⟨C, hC⟩ : ∃ x, u8A cur = x := ⟨_, rfl⟩
      have HC := Lib.hid hC
      have HZS := Lib.hid (show C.size = 32 by rw [← hC, u8A_size]; exact hlen)
      have HZO := Lib.hid (show C.all (·.oneCell') = true by rw [← hC]; exact u8A_one _)
      obtain ⟨rs, hrs, hrz⟩ := HB2.out
      have HRS := Lib.hid hrs
      have HRZ := Lib.hid hrz
      clear hC hrs hrz HB1 HB2
      by_cases h1 : (M : Int) < n
      · have h2 : ¬ (M : Int) < 15 := fun h => hno ⟨h1, h⟩
        clear hno
        go_wp2_with (first
          | (with_reducible refine wpList_load_hash rfl (.tmp 2) rfl g1 0 rfl cur hlen HRX.out C HC.out ?_)
          | (with_reducible refine wpList_store_blk rfl 34 (.tmp 4) (.tmp 17) rfl g2 C rfl rfl 34 rs HRS.out (by rw [HZS.out]; kernel_rfl) (by rw [HZS.out, HRZ.out]) HZO.out ?_))
        refine bodyPost_ret (v := .agg C) (results_cell_row (p := 4) (ty := 34) (by kernel_rfl) _ _ g2 34 _ (0, 0) _ rfl (HRS.out.row C) Tryd.underlying34 rfl (by rw [HZS.out]; kernel_rfl)) rfl ⟨by rw [HCU.out, HC.out], below_row HB3.out HB3.out.size (by have := HG.out; omega) _⟩
      · clear hno
        go_wp2_with (first
          | (with_reducible refine wpList_load_hash rfl (.tmp 2) rfl g1 0 rfl cur hlen HRX.out C HC.out ?_)
          | (with_reducible refine wpList_store_blk rfl 34 (.tmp 4) (.tmp 17) rfl g2 C rfl rfl 34 rs HRS.out (by rw [HZS.out]; kernel_rfl) (by rw [HZS.out, HRZ.out]) HZO.out ?_))
        refine bodyPost_ret (v := .agg C) (results_cell_row (p := 4) (ty := 34) (by kernel_rfl) _ _ g2 34 _ (0, 0) _ rfl (HRS.out.row C) Tryd.underlying34 rfl (by rw [HZS.out]; kernel_rfl)) rfl ⟨by rw [HCU.out, HC.out], below_row HB3.out HB3.out.size (by have := HG.out; omega) _⟩
end Go.Proofs.YtciflbkgfmbfdaaDoor
namespace Go.Proofs.YtciflbkgfmbfdaaDoor
open Go.RowKit

/-- The value is a slice that reads as the bytes, its room bounded. -/
def Spec.byc (n : Nat) (l : List UInt8) : Spec := .any (fun v w => ∃ X c, v = .slice X n c ∧ n ≤ c ∧ c ≤ maxLen ∧ Rd w w.heap.size X l) (fun _ _ _ h hb => by
  obtain ⟨X, c, h1, h2, h3, h4⟩ := h
  exact ⟨X, c, h1, h2, h3, (h4.below hb (Nat.le_refl _)).more hb.size⟩)
theorem rdr_start (w : World) (A B C : Option Addr) {n1 n2 n3 c1 c2 c3 : Nat} {l1 l2 l3 : List UInt8} (h1 : l1.length = n1) (h2 : l2.length = n2) (h3 : l3.length = n3) (a1 : n1 ≤ c1) (b1 : c1 ≤ maxLen) (a2 : n2 ≤ c2) (b2 : c2 ≤ maxLen) (a3 : n3 ≤ c3) (b3 : c3 ≤ maxLen)
    (r1 : Rd w w.heap.size A l1) (r2 : Rd w w.heap.size B l2) (r3 : Rd w w.heap.size C l3) :
    RdR (w.alloc (.cells #[.slice A n1 c1, .slice B n2 c2, .slice C n3 c3] 24)) (w.alloc (.cells #[.slice A n1 c1, .slice B n2 c2, .slice C n3 c3] 24)).heap.size (some ⟨w.heap.size, 0, none⟩) [l1, l2, l3] := by
  subst h1 h2 h3
  have hal : Below w.heap.size w (w.alloc (.cells #[.slice A l1.length c1, .slice B l2.length c2, .slice C l3.length c3] 24)) := (Below.refl _ _).alloc (Nat.le_refl _) _
  have hblk := Blk.new w #[.slice A l1.length c1, .slice B l2.length c2, .slice C l3.length c3] 24
  refine .inr ⟨w.heap.size, 0, rfl, hblk.lt, fun i hi => ?_⟩
  rw [Nat.zero_add]
  match i, hi with
  | 0, _ => exact ⟨A, c1, hblk.cell 0, a1, b1, (r1.below hal (Nat.le_refl _)).more hal.size⟩
  | 1, _ => exact ⟨B, c2, hblk.cell 1, a2, b2, (r2.below hal (Nat.le_refl _)).more hal.size⟩
  | 2, _ => exact ⟨C, c3, hblk.cell 2, a3, b3, (r3.below hal (Nat.le_refl _)).more hal.size⟩
def put4 (n : Int) : List UInt8 := putL (putN n) 4
theorem put4_len (n : Int) : (put4 n).length = 4 := putL_length _ _
def startH (sd : List UInt8) (leaf chain : Int) : List UInt8 := shaL (netsL [[115, 116, 97, 114, 116], sd, put4 leaf, put4 chain])
theorem startH_len (sd : List UInt8) (leaf chain : Int) : (startH sd leaf chain).length = 32 := outTo_len _ 8 (by omega)
theorem rput4 (n : Int) (w : World) (hn : n ≤ 9223372036854775807) : Calls Tryd.prog 37 #[.int .i64 n, .int .i64 4] w fun e w' => ∃ A c, e = .returned (.slice A 4 c) ∧ 4 ≤ c ∧ c ≤ maxLen ∧ Rd w' w'.heap.size A (put4 n) ∧ Below w.heap.size w w' :=
  (rput_any n 4 w hn).mono fun _ _ ⟨A, c, he, ho, hb⟩ => by
    have e4 : putW 4 = 4 := rfl
    rw [e4] at he ho
    obtain ⟨A', c', e, h1, h2⟩ := own_caps ho
    injection e with e1 e2 e3
    subst e1 e3
    exact ⟨A, c, he, h1, h2, Rd.of_own ho, hb⟩
set_option maxRecDepth 100000 in
set_option maxHeartbeats 4000000 in
theorem rstart_any (sd : List UInt8) (leaf chain : Int) (w : World) (hs : sd.length = 16) (hl : leaf ≤ 9223372036854775807) (hc : chain ≤ 9223372036854775807) :
    Calls Tryd.prog 20 #[.agg (u8A sd), .int .i64 leaf, .int .i64 chain] w fun e w' => e = .returned (.agg (u8A (startH sd leaf chain))) ∧ Below w.heap.size w w' := by
  obtain ⟨X, hX⟩ : ∃ x, u8A sd = x := ⟨_, rfl⟩
  obtain ⟨Z, hZ⟩ : ∃ x, u8A (startH sd leaf chain) = x := ⟨_, rfl⟩
  obtain ⟨pa, hpa⟩ : ∃ x, put4 leaf = x := ⟨_, rfl⟩
  obtain ⟨pb, hpb⟩ : ∃ x, put4 chain = x := ⟨_, rfl⟩
  have HX := Lib.hid hX
  have HZ := Lib.hid hZ
  have HSL := Lib.hid hs
  have HZS := Lib.hid (show Z.size = 32 by rw [← hZ, u8A_size]; exact startH_len _ _ _)
  have HZO := Lib.hid (show Z.all (·.oneCell') = true by rw [← hZ]; exact u8A_one _)
  have HPL := Lib.hid (show pa.length = 4 ∧ pb.length = 4 by rw [← hpa, ← hpb]; exact ⟨put4_len _, put4_len _⟩)
  have HPA := Lib.hid (fun W => (show Calls Tryd.prog 37 #[.int .i64 leaf, .int .i64 4] W fun e w' => ∃ A c, e = .returned (.slice A 4 c) ∧ 4 ≤ c ∧ c ≤ maxLen ∧ Rd w' w'.heap.size A pa ∧ Below W.heap.size W w' from by rw [← hpa]; exact rput4 leaf W hl))
  have HPB := Lib.hid (fun W => (show Calls Tryd.prog 37 #[.int .i64 chain, .int .i64 4] W fun e w' => ∃ A c, e = .returned (.slice A 4 c) ∧ 4 ≤ c ∧ c ≤ maxLen ∧ Rd w' w'.heap.size A pb ∧ Below W.heap.size W w' from by rw [← hpb]; exact rput4 chain W hc))
  have HTG := Lib.hid (fun g W (hr : RdR W W.heap.size (some ⟨g, 0, none⟩) [sd, pa, pb]) => (show Calls Tryd.prog 36 #[.string ⟨#[115, 116, 97, 114, 116]⟩, .slice (some ⟨g, 0, none⟩) 3 3] W fun e w' => e = .returned (.agg Z) ∧ Below W.heap.size W w' from by
    have h := rtagged_any [115, 116, 97, 114, 116] (some ⟨g, 0, none⟩) 3 3 [sd, pa, pb] W (by decide) rfl (by decide) (fun r hr2 => by
      have h1 := HPL.out.1
      have h2 := HPL.out.2
      simp at hr2
      rcases hr2 with rfl | rfl | rfl <;> omega) hr
    rw [← hZ]
    unfold startH
    rw [hpa, hpb]
    exact h))
  rw [hX]
  clear hX hpa hpb
  go_enter Tryd.func20, Tryd.ntmps20
  go_upto_region 1 with fail
  generalize hw3 : World.alloc _ _ = w3
  obtain ⟨g1, hg1⟩ : ∃ g, w.heap.size = g := ⟨_, rfl⟩
  obtain ⟨g2, hg2⟩ : ∃ g, w.heap.size + 1 = g := ⟨_, rfl⟩
  have hf : Blk w3 g1 X 23 ∧ (∃ rs, Blk w3 g2 rs 34 ∧ rs.size = 32) ∧ Below w.heap.size w w3 := by
    obtain ⟨Y, hw, hY⟩ : ∃ Y, w3 = (w.alloc (.cells X 23)).alloc (.cells Y 34) ∧ Y.size = 32 := ⟨_, hw3.symm, rfl⟩
    have e1 : (w.alloc (.cells X 23)).heap.size = w.heap.size + 1 := by simp
    rw [hw, ← hg1, ← hg2]
    refine ⟨(Blk.new w _ _).alloc _, ⟨Y, ?_, hY⟩, ((Below.refl _ _).alloc (Nat.le_refl _) _).alloc (by simp) _⟩
    rw [← e1]; exact Blk.new _ _ _
  have hbx : Blk w3 g1 (u8A sd) 23 := by rw [HX.out]; exact hf.1
  have HSR := Lib.hid (fun W (h : Below w3.heap.size w3 W) => (show Rd W W.heap.size (some ⟨g1, 0, none⟩) sd from rd_of_blk (hbx.below h hbx.lt)))
  obtain ⟨rs, hrs, hrz⟩ := hf.2.1
  have HB2 := Lib.hid hrs
  have HRZ := Lib.hid hrz
  have HB3 := Lib.hid hf.2.2
  have HG := Lib.hid (show w.heap.size ≤ g2 by omega)
  clear hf hw3 hbx hrs hrz hZ
  rw [hg2, hg1]
  clear hg1 hg2
  refine wp_region_loose 7 1 (fun i => false) (promises [.is (.slice (some ⟨g1, 0, none⟩) 16 16), .is (.int .i64 leaf), .byc 4 pa, .is (.int .i64 chain), .byc 4 pb, .rows 3 [sd, pa, pb], .is (.agg Z)]) (by kernel_rfl) rfl (by kernel_rfl) (fun i v w w' h hb => Spec.keep h hb) ⟨?_, ?_, ?_, ?_, ?_, ?_, ?_, trivial⟩ ?_
  · refine StepOKl.of ?_
    intro ac w hb hu hk
    refine ⟨wanted_none rfl, ?_⟩
    have e3 : ac.eval (.tmp 3) = .pointer (some ⟨g1, 0, none⟩) := hu.is (t := 3) (by kernel_rfl)
    refine step_value (w' := w) (v := .slice (some ⟨g1, 0, none⟩) 16 16) ?_ (Below.refl _ _) rfl
    generalize ac.eval = ρ at e3 ⊢
    go_simp
  · refine StepOKl.of ?_
    intro ac w hb hu hk
    refine ⟨wanted_none rfl, ?_⟩
    have e1 : ac.eval (.tmp 1) = .int .i64 leaf := hu.is (t := 1) (by kernel_rfl)
    exact step_value (BigFrame.run_move (.tmp 1) rfl w) (Below.refl _ _) e1
  · refine StepOKl.of ?_
    intro ac w hb hu hk
    refine ⟨wanted_none rfl, ?_⟩
    have e8 : ac.eval (.tmp 8) = (.int .i64 leaf) := (hk ⟨1, .data⟩ (by simp) rfl).is rfl rfl
    have ef : ac.eval (.func 37) = .func (.func 37) #[] #[] := rfl
    have ec : ac.eval (.const (.int .i64 4)) = .int .i64 4 := rfl
    refine step_enter (f := 37) (args := #[.int .i64 leaf, .int .i64 4]) ?_ ?_
    · generalize ac.eval = ρ at e8 ec ef ⊢
      go_simp
    · exact (HPA.out w).mono fun e w' ⟨A, c, he, hc, hm, hr, hq⟩ => ⟨_, he, ⟨A, c, rfl, hc, hm, hr⟩, hq⟩
  · refine StepOKl.of ?_
    intro ac w hb hu hk
    refine ⟨wanted_none rfl, ?_⟩
    have e2 : ac.eval (.tmp 2) = .int .i64 chain := hu.is (t := 2) (by kernel_rfl)
    exact step_value (BigFrame.run_move (.tmp 2) rfl w) (Below.refl _ _) e2
  · refine StepOKl.of ?_
    intro ac w hb hu hk
    refine ⟨wanted_none rfl, ?_⟩
    have e10 : ac.eval (.tmp 10) = (.int .i64 chain) := (hk ⟨3, .data⟩ (by simp) rfl).is rfl rfl
    have ef : ac.eval (.func 37) = .func (.func 37) #[] #[] := rfl
    have ec : ac.eval (.const (.int .i64 4)) = .int .i64 4 := rfl
    refine step_enter (f := 37) (args := #[.int .i64 chain, .int .i64 4]) ?_ ?_
    · generalize ac.eval = ρ at e10 ec ef ⊢
      go_simp
    · exact (HPB.out w).mono fun e w' ⟨A, c, he, hc, hm, hr, hq⟩ => ⟨_, he, ⟨A, c, rfl, hc, hm, hr⟩, hq⟩
  · refine StepOKl.of ?_
    intro ac w hb hu hk
    refine ⟨wanted_none rfl, ?_⟩
    have e7 : ac.eval (.tmp 7) = (.slice (some ⟨g1, 0, none⟩) 16 16) := (hk ⟨0, .data⟩ (by simp) rfl).is rfl rfl
    have e9 : ∃ X c, ac.eval (.tmp 9) = .slice X 4 c ∧ 4 ≤ c ∧ c ≤ maxLen ∧ Rd w w.heap.size X pa := (hk ⟨2, .data⟩ (by simp) rfl).is rfl rfl
    have e11 : ∃ X c, ac.eval (.tmp 11) = .slice X 4 c ∧ 4 ≤ c ∧ c ≤ maxLen ∧ Rd w w.heap.size X pb := (hk ⟨4, .data⟩ (by simp) rfl).is rfl rfl
    obtain ⟨A, c, eA, hcA, hmA, hrA⟩ := e9
    obtain ⟨B, d, eB, hcB, hmB, hrB⟩ := e11
    refine step_value (w' := w.alloc (.cells #[.slice (some ⟨g1, 0, none⟩) 16 16, .slice A 4 c, .slice B 4 d] 24)) (v := .slice (some ⟨w.heap.size, 0, none⟩) 3 3) ?_ ((Below.refl _ _).alloc (Nat.le_refl _) _) ⟨w.heap.size, rfl, rdr_start w _ _ _ HSL.out HPL.out.1 HPL.out.2 (by decide) (by decide) hcA hmA hcB hmB (HSR.out w hb) hrA hrB⟩
    generalize ac.eval = ρ at e7 eA eB ⊢
    go_simp
  · refine StepOKl.of ?_
    intro ac w hb hu hk
    refine ⟨wanted_none rfl, ?_⟩
    have e12 : ∃ g, ac.eval (.tmp 12) = .slice (some ⟨g, 0, none⟩) 3 3 ∧ RdR w w.heap.size (some ⟨g, 0, none⟩) [sd, pa, pb] := (hk ⟨5, .data⟩ (by simp) rfl).is rfl rfl
    obtain ⟨g, eg, hr⟩ := e12
    have ef : ac.eval (.func 36) = .func (.func 36) #[] #[] := rfl
    have es : ac.eval (.const (.string ⟨#[115, 116, 97, 114, 116]⟩)) = .string ⟨#[115, 116, 97, 114, 116]⟩ := rfl
    refine step_enter (f := 36) (args := #[.string ⟨#[115, 116, 97, 114, 116]⟩, .slice (some ⟨g, 0, none⟩) 3 3]) ?_ ?_
    · generalize ac.eval = ρ at eg es ef ⊢
      go_simp
    · exact (HTG.out g w hr).mono fun e w' ⟨he, hq⟩ => ⟨_, he, rfl, hq⟩
  · intro ac w' hb hu hk hap
    obtain ⟨_, h7, rfl⟩ := (hk 0 (by decide)).put rfl rfl
    obtain ⟨_, h8, rfl⟩ := (hk 1 (by decide)).put rfl rfl
    obtain ⟨_, h9, ⟨X9, xc9, rfl, hxc9, hX9⟩⟩ := (hk 2 (by decide)).put rfl rfl
    obtain ⟨_, h10, rfl⟩ := (hk 3 (by decide)).put rfl rfl
    obtain ⟨_, h11, ⟨X11, xc11, rfl, hxc11, hX11⟩⟩ := (hk 4 (by decide)).put rfl rfl
    obtain ⟨_, h12, ⟨g12, rfl, hG12⟩⟩ := (hk 5 (by decide)).put rfl rfl
    obtain ⟨_, h13, rfl⟩ := (hk 6 (by decide)).put rfl rfl
    clear hap
    have hF : AllPuts ac.tmps ((7, _) :: (8, _) :: (9, _) :: (10, _) :: (11, _) :: (12, _) :: (13, _) :: []) := ⟨h7, h8, h9, h10, h11, h12, h13, trivial⟩
    obtain rfl := frame_puts hu (by kernel_rfl) hF
    simp only [puts, Act.put, List.setIfInBounds_toArray, List.set_cons_zero, List.set_cons_succ, List.drop_succ_cons, List.drop_zero]
    clear hk hu hF h7 h8 h9 h10 h11 h12 h13
    have HRS := Lib.hid (HB2.out.below hb HB2.out.lt)
    have HBE := Lib.hid (HB3.out.trans (hb.mono HB3.out.size))
    clear hb HPA HPB HTG HSR HB2 HB3
    go_wp2_with (with_reducible refine wpList_store_blk rfl 34 (.tmp 6) (.tmp 13) rfl g2 Z rfl rfl 34 rs HRS.out (by rw [HZS.out]; kernel_rfl) (by rw [HZS.out, HRZ.out]) HZO.out ?_)
    refine bodyPost_ret (v := .agg Z) (results_cell_row (p := 6) (ty := 34) (by kernel_rfl) _ _ g2 34 _ (0, 0) _ rfl (HRS.out.row Z) Tryd.underlying34 rfl (by rw [HZS.out]; kernel_rfl)) rfl ⟨by rw [HZ.out], below_row HBE.out HBE.out.size HG.out _⟩
end Go.Proofs.YtciflbkgfmbfdaaDoor
namespace Go.Proofs.YtciflbkgfmbfdaaDoor
open Go.RowKit

def endsL (sd : List UInt8) (leaf : Int) (k : Nat) : List (List UInt8) := (List.range k).map fun (c : Nat) => alongH 15 (startH sd leaf (c : Int))
theorem endsL_len (sd : List UInt8) (leaf : Int) (k : Nat) : (endsL sd leaf k).length = k := by simp [endsL]
theorem endsL_snoc (sd : List UInt8) (leaf : Int) (k : Nat) : endsL sd leaf (k + 1) = endsL sd leaf k ++ [alongH 15 (startH sd leaf (k : Int))] := by simp [endsL, List.range_succ]
set_option maxRecDepth 100000 in
set_option maxHeartbeats 8000000 in
theorem rends_any (sd : List UInt8) (leaf : Int) (w : World) (hs : sd.length = 16) (hl : leaf ≤ 9223372036854775807) :
    Calls Tryd.prog 42 #[.agg (u8A sd), .int .i64 leaf] w fun e w' => ∃ v, e = .returned v ∧ OwnH w' w.heap.size v (endsL sd leaf 67) ∧ Below w.heap.size w w' := by
  obtain ⟨X, hX⟩ : ∃ x, u8A sd = x := ⟨_, rfl⟩
  have HX := Lib.hid hX
  have HXS := Lib.hid (show X.size = 16 by rw [← hX, u8A_size]; exact hs)
  rw [hX]
  clear hX
  have HAL := Lib.hid (show Below w.heap.size w (w.alloc (.cells X 23)) from (Below.refl _ _).alloc (Nat.le_refl _) _)
  have HB0 := Lib.hid (show Blk (w.alloc (.cells X 23)) w.heap.size X 23 from Blk.new _ _ _)
  go_enter Tryd.func42, Tryd.ntmps42
  go_upto_region 1 with fail
  generalize w.alloc (.cells X 23) = w1 at *
  go_wp2_with fail
  go_loopw [5, 6] (fun lv t wq => ∃ k : Nat, k ≤ 67 ∧ t = .int .i64 (k : Int) ∧ Hid (OwnH wq w1.heap.size lv (endsL sd leaf k)) ∧ Hid (Below w1.heap.size w1 wq)) (fun _ t _ => 67 - (intOf t).toNat)
  case atStart => exact ⟨0, Nat.zero_le _, rfl, Lib.hid (OwnH.nil _ _), Lib.hid (Below.refl _ _)⟩
  case round =>
    obtain ⟨k, hk, rfl, HO, HBL⟩ := hrel
    obtain ⟨A, c, rfl, hNc, _⟩ := HO.out.form (endsL_len sd leaf k)
    by_cases hlt : k < 67
    · have hki : (k : Int) < 67 := by omega
      obtain ⟨s0, hs0⟩ : ∃ x, startH sd leaf (k : Int) = x := ⟨_, rfl⟩
      obtain ⟨x, hx⟩ : ∃ x, alongH 15 s0 = x := ⟨_, rfl⟩
      have hsl : s0.length = 32 := by rw [← hs0]; exact startH_len _ _ _
      have HXL := Lib.hid (show x.length = 32 by rw [← hx]; exact alongH_len hsl 15)
      have HSN := Lib.hid (show endsL sd leaf (k + 1) = endsL sd leaf k ++ [x] by rw [endsL_snoc, hs0, hx])
      obtain ⟨S, hS⟩ : ∃ X, u8A s0 = X := ⟨_, rfl⟩
      obtain ⟨Y, hY⟩ : ∃ X, u8A x = X := ⟨_, rfl⟩
      have HYE := Lib.hid hY
      have HYZ := Lib.hid (show Y.size = 32 by rw [← hY, u8A_size]; exact HXL.out)
      have HLIM := Lib.hid (show (endsL sd leaf k).length ≤ 1000000 by rw [endsL_len]; omega)
      obtain ⟨wo, rfl⟩ : ∃ y : World, y = wr := ⟨_, rfl⟩
      have HB2 := Lib.hid (HB0.out.below HBL.out HB0.out.lt)
      have HST := Lib.hid (show Calls Tryd.prog 20 #[.agg X, .int .i64 leaf, .int .i64 (k : Int)] wo fun e w' => e = .returned (.agg S) ∧ Below wo.heap.size wo w' by
        rw [← HX.out, ← hS, ← hs0]
        exact rstart_any sd leaf (k : Int) wo hs hl (by omega))
      have HAG := Lib.hid (fun W => (show Calls Tryd.prog 23 #[.agg S, .int .i64 15] W fun e w' => e = .returned (.agg Y) ∧ Below W.heap.size W w' from by
        rw [← hS, ← hY, ← hx]
        exact ralong_any s0 15 W hsl))
      clear hs0 hx hS hY hsl
      go_wp2_with (with_reducible refine wpList_load_blk rfl 23 (.tmp 2) rfl w.heap.size rfl 23 X _ HB2.out Tryd.underlying23 rfl (by rw [HXS.out]; kernel_rfl) ?_)
      with_reducible refine (HST.out).mono ?_
      rintro e w3 ⟨rfl, hb3⟩
      have HB3 := Lib.hid hb3
      clear hb3 HST
      go_wp2_with fail
      with_reducible refine (HAG.out w3).mono ?_
      rintro e w4 ⟨rfl, hb4⟩
      have hb := HB3.out.trans (hb4.mono HB3.out.size)
      have hal5 : Below w4.heap.size w4 (w4.alloc (.cells Y 34)) := (Below.refl _ _).alloc (Nat.le_refl _) _
      have hb5 := hb.trans (hal5.mono hb.size)
      have HOW := Lib.hid (HO.out.on hb5)
      have HBZ := Lib.hid (show Blk (w4.alloc (.cells Y 34)) w4.heap.size (u8A x) 34 by
        rw [HYE.out]
        exact Blk.new _ _ _)
      have HBAL := Lib.hid (HBL.out.trans (hb5.mono HBL.out.size))
      have hle2 : w1.heap.size ≤ (w4.alloc (.cells Y 34)).heap.size := HBAL.out.size
      clear hb hb4 hal5 hb5 HAG HB3 HB2 HO HBL
      go_wp2_with (first
        | (with_reducible refine wpList_build_hash rfl (.tmp 16) rfl Y rfl HYZ.out ?_)
        | (at_builtin; refine wpList_append_hashG rfl _ _ rfl w1.heap.size _ (endsL sd leaf k) rfl HOW.out w4.heap.size x HXL.out HBZ.out rfl HLIM.out hle2 ?_))
      intro v7 w7 hown7 hg7
      rw [← HSN.out] at hown7
      have HB7 := Lib.hid (HBAL.out.grown hg7 hle2 (fun k hk => HOW.out.lt k hk))
      have HO7 := Lib.hid hown7
      clear hown7 hg7 HOW HBZ HBAL hle2
      go_wp2_with fail
      go_roundw
      case rel => exact ⟨k + 1, hlt, by go_num, HO7, HB7⟩
      case measure => simp [intOf]; omega
    · obtain rfl : k = 67 := by omega
      have HBE := Lib.hid (HAL.out.trans (HBL.out.mono HAL.out.size))
      have HOE := Lib.hid (show OwnH wr w.heap.size (.slice A 67 c) (endsL sd leaf 67) from ⟨HO.out.1, own_baseK HO.out.2 HAL.out.size⟩)
      clear HO HBL
      go_wp2_with fail
      go_ret
      exact ⟨_, rfl, HOE.out, HBE.out⟩
end Go.Proofs.YtciflbkgfmbfdaaDoor
namespace Go.Proofs.YtciflbkgfmbfdaaDoor
open Go.RowKit

def pubT (hs : List (List UInt8)) : List UInt8 := netsL ([112, 117, 98, 108, 105, 99] :: hs)
theorem pubT_snoc (hs : List (List UInt8)) (x : List UInt8) : pubT (hs ++ [x]) = pubT hs ++ netL x := by simp [pubT, netsL]
theorem netL_len32 (x : List UInt8) (h : x.length = 32) : (netL x).length = 36 := by
  unfold netL
  simp only [List.length_append, h, List.length_cons, List.length_nil]
  rw [show (Lib.itoa ((32 : Nat) : Int)).length = 2 by decide +kernel]
theorem pubT_len (hs : List (List UInt8)) (h : ∀ r ∈ hs, r.length = 32) : (pubT hs).length = 9 + 36 * hs.length := by
  have e : ∀ l : List (List UInt8), (∀ r ∈ l, r.length = 32) → ((l.map netL).flatten).length = 36 * l.length := by
    intro l
    induction l with
    | nil => intro _; rfl
    | cons x r ih =>
      intro h
      rw [List.map_cons, List.flatten_cons, List.length_append, netL_len32 x (h x (List.mem_cons_self ..)), ih fun y hy => h y (List.mem_cons_of_mem _ hy), List.length_cons]
      omega
  unfold pubT netsL
  rw [List.map_cons, List.flatten_cons, List.length_append, e hs h]
  rw [show (netL [112, 117, 98, 108, 105, 99]).length = 9 by decide +kernel]
set_option maxRecDepth 100000 in
set_option maxHeartbeats 8000000 in
theorem rpubtext_any (A : Option Addr) (n c : Nat) (hs : List (List UInt8)) (w : World) (hn : hs.length = n) (h1 : n ≤ 1000) (hl : ∀ r ∈ hs, r.length = 32) (hr : RdH w w.heap.size A hs) :
    Calls Tryd.prog 41 #[.slice A n c] w fun e w' => ∃ A' c', e = .returned (.slice A' (pubT hs).length c') ∧ (pubT hs).length ≤ c' ∧ Rd w' w'.heap.size A' (pubT hs) ∧ Below w.heap.size w w' := by
  obtain ⟨i0, hi, hz0, hz1, hz2⟩ := info_parts info5
  have HN := Lib.hid hn
  have HL := Lib.hid hl
  have HR := Lib.hid hr
  have kc := fun (w : World) (C : Array Value) (n c : Nat) => Lib.run_convert_bytes_const (P := Tryd.prog) w 24 5 C n c Tryd.underlying24 Tryd.underlying5
  clear hn hl hr
  go_enter Tryd.func41, Tryd.ntmps41
  go_wp2_with fail
  have hal : Below w.heap.size w (w.alloc (.cells #[.int .u8 112, .int .u8 117, .int .u8 98, .int .u8 108, .int .u8 105, .int .u8 99] 5 (6, 7))) := (Below.refl _ _).alloc (Nat.le_refl _) _
  have HRT := Lib.hid (show Rd (w.alloc (.cells #[.int .u8 112, .int .u8 117, .int .u8 98, .int .u8 108, .int .u8 105, .int .u8 99] 5 (6, 7))) (w.alloc (.cells #[.int .u8 112, .int .u8 117, .int .u8 98, .int .u8 108, .int .u8 105, .int .u8 99] 5 (6, 7))).heap.size (some ⟨w.heap.size, 0, none⟩) [112, 117, 98, 108, 105, 99] from .inr ⟨w.heap.size, 0, rfl, by simp, fun i hi => by
    have hk := cell_of_row (w.alloc (.cells #[.int .u8 112, .int .u8 117, .int .u8 98, .int .u8 108, .int .u8 105, .int .u8 99] 5 (6, 7))) w.heap.size i #[.int .u8 112, .int .u8 117, .int .u8 98, .int .u8 108, .int .u8 105, .int .u8 99] 5 (6, 7) (heap_alloc_new w _)
    rw [Nat.zero_add, hk]
    match i, hi with
    | 0, _ => rfl
    | 1, _ => rfl
    | 2, _ => rfl
    | 3, _ => rfl
    | 4, _ => rfl
    | 5, _ => rfl⟩)
  have HAL := Lib.hid hal
  have HNT := Lib.hid (rnetM_any 6 6 _ [112, 117, 98, 108, 105, 99] _ rfl (by omega) HRT.out)
  clear hal kc HRT
  generalize w.alloc (.cells #[.int .u8 112, .int .u8 117, .int .u8 98, .int .u8 108, .int .u8 105, .int .u8 99] 5 (6, 7)) = w1 at *
  with_reducible refine (HNT.out).mono ?_
  rintro e w2 ⟨v2, rfl, hown2, hb2⟩
  have e0 : netL [112, 117, 98, 108, 105, 99] = pubT (hs.take 0) := by simp [pubT, netsL]
  rw [e0] at hown2
  obtain ⟨g2, c2, rfl, _, _⟩ := ownM_form hown2
  have HO2 := Lib.hid hown2
  have HB2 := Lib.hid (Below.refl w2.heap.size w2)
  have HBO := Lib.hid (HAL.out.trans (hb2.mono HAL.out.size))
  have HBX := Lib.hid (show w1.heap.size ≤ w2.heap.size ∧ w.heap.size ≤ w1.heap.size from ⟨hb2.size, HAL.out.size⟩)
  clear hown2 hb2 HNT HAL
  go_wp2_with fail
  go_loopw [3, 4, 10] (fun v _ t wq => ∃ (k L : Nat) (g cc : Nat), k ≤ n ∧ t = .int .i64 (k : Int) ∧ v = .slice (some ⟨g, 0, none⟩) L cc ∧ Hid ((pubT (hs.take k)).length = L) ∧ Hid (OwnM wq w1.heap.size 5 (.slice (some ⟨g, 0, none⟩) L cc) L (pubT (hs.take k))) ∧ Hid (Below w1.heap.size w2 wq)) (fun _ _ t _ => n - (intOf t).toNat)
  case atStart => exact ⟨0, _, g2, c2, Nat.zero_le _, rfl, rfl, Lib.hid rfl, HO2, Lib.hid (Below.refl _ _)⟩
  case round =>
    clear HO2 HB2
    obtain ⟨k, L, g, cc, hk, rfl, rfl, HLL, HO, HB⟩ := hrel
    have hbw : Below w.heap.size w wr := HBO.out.trans (HB.out.mono HBX.out.2)
    by_cases hlt : k < n
    · have hki : (k : Int) < (n : Int) := by omega
      have hk0 : (0 : Int) ≤ (k : Int) := by omega
      have hkl : k < hs.length := by rw [HN.out]; exact hlt
      obtain ⟨x, hx⟩ : ∃ x, hs[k] = x := ⟨_, rfl⟩
      have hxl : x.length = 32 := by rw [← hx]; exact HL.out _ (List.getElem_mem _)
      have HSN := Lib.hid (show pubT (hs.take (k + 1)) = pubT (hs.take k) ++ netL x by rw [List.take_succ_eq_append_getElem hkl, hx, pubT_snoc])
      have HL36 := Lib.hid (netL_len32 x hxl)
      have hpl := pubT_len (hs.take k) (fun r hr => HL.out r (List.mem_of_mem_take hr))
      rw [HLL.out, List.length_take, HN.out] at hpl
      have hL : L ≤ 40000 := by omega
      have hrq := HR.out.below hbw (Nat.le_refl _)
      rcases hrq with h0 | ⟨b, off, rfl, hbs, hcs⟩
      · rw [h0] at hkl; simp at hkl
      have hra := hcs k hkl
      rw [hx] at hra
      have hrd : Rd wr wr.heap.size (some ⟨b, off + k * 32, none⟩) x := .inr ⟨b, off + k * 32, rfl, Nat.lt_of_lt_of_le hbs hbw.size, fun j hj => hra j _ (by simp [Lib.byteCells, hj])⟩
      have HNX := Lib.hid (rnetM_any 32 32 _ x wr hxl (by omega) hrd)
      clear hra hcs hx hrd hpl
      go_wp2_with fail
      with_reducible refine (HNX.out).mono ?_
      rintro e w4 ⟨v4, rfl, hown4, hb4⟩
      rw [HL36.out] at hown4
      obtain ⟨g4, c4, rfl, _, _⟩ := ownM_form hown4
      have HR4 := Lib.hid hown4.rd
      have HO4 := Lib.hid (HO.out.on hb4)
      have hB4 : Below w1.heap.size w2 w4 := HB.out.trans (hb4.mono (Nat.le_trans HBX.out.1 HB.out.size))
      have hs4 : w1.heap.size ≤ w4.heap.size := Nat.le_trans HBX.out.1 hB4.size
      clear hown4 hb4 HNX HO HB hbw
      go_wp2_with (at_builtin; refine wpList_append_M rfl _ _ 24 rfl w1.heap.size 5 i0 Tryd.underlying24 hi hz0 hz1 hz2 _ _ (pubT (hs.take k)) rfl HO4.out _ (some ⟨g4, 0, none⟩) 36 c4 (netL x) rfl HL36.out HR4.out (by omega) hs4 ?_)
      intro v5 w5 hown5 hg5
      rw [← HSN.out] at hown5
      obtain ⟨g5, c5, rfl, _, _⟩ := ownM_form hown5
      have HB5 := Lib.hid (show Below w1.heap.size w2 w5 from hB4.grown hg5 hs4 (fun q hq => HO4.out.lt q hq))
      have HO5 := Lib.hid hown5
      have HL5 := Lib.hid hown5.1
      clear hown5 hg5 hB4 HO4 HR4 hs4
      go_wp2_with fail
      go_roundw
      case rel => exact ⟨k + 1, L + 36, g5, c5, hlt, by go_num, rfl, HL5, HO5, HB5⟩
      case measure => simp [intOf]; omega
    · obtain rfl : n = k := by omega
      have hki : ¬ (n : Int) < (n : Int) := by omega
      have HTA := Lib.hid (show hs.take n = hs from List.take_of_length_le (by rw [HN.out]; exact Nat.le_refl _))
      rw [HTA.out] at HO HLL
      have hcc : L ≤ cc := by
        obtain ⟨_, _, e, h, _⟩ := ownM_form HO.out
        injection e with _ _ e3
        omega
      have HC := Lib.hid hcc
      have HRE := Lib.hid HO.out.rd
      have HBE := Lib.hid hbw
      clear HO HB hbw hcc
      go_wp2_with fail
      go_ret
      exact ⟨some ⟨g, 0, none⟩, cc, by rw [HLL.out]; rfl, by rw [HLL.out]; exact HC.out, HRE.out, HBE.out⟩
/-- What a public hash is of given ends. -/
def pubH (hs : List (List UInt8)) : List UInt8 := shaL (pubT hs)
theorem pubH_len (hs : List (List UInt8)) : (pubH hs).length = 32 := outTo_len _ 8 (by omega)
set_option maxRecDepth 100000 in
set_option maxHeartbeats 8000000 in
theorem rpublic_any (sd : List UInt8) (leaf : Int) (w : World) (hs : sd.length = 16) (hl : leaf ≤ 9223372036854775807) :
    Calls Tryd.prog 25 #[.agg (u8A sd), .int .i64 leaf] w fun e w' => e = .returned (.agg (u8A (pubH (endsL sd leaf 67)))) ∧ Below w.heap.size w w' := by
  have HEA := Lib.hid (fun W => rends_any sd leaf W hs hl)
  have HEL := Lib.hid (endsL_len sd leaf 67)
  generalize endsL sd leaf 67 = E at *
  obtain ⟨X, hX⟩ : ∃ x, u8A sd = x := ⟨_, rfl⟩
  obtain ⟨Z, hZ⟩ : ∃ x, u8A (pubH E) = x := ⟨_, rfl⟩
  have HX := Lib.hid hX
  have HZ := Lib.hid hZ
  have HXS := Lib.hid (show X.size = 16 by rw [← hX, u8A_size]; exact hs)
  have HZS := Lib.hid (show Z.size = 32 by rw [← hZ, u8A_size]; exact pubH_len _)
  have HZO := Lib.hid (show Z.all (·.oneCell') = true by rw [← hZ]; exact u8A_one _)
  rw [hX]
  clear hX hZ
  go_enter Tryd.func25, Tryd.ntmps25
  go_upto_region 1 with fail
  generalize hw3 : World.alloc _ _ = w3
  obtain ⟨g1, hg1⟩ : ∃ g, w.heap.size = g := ⟨_, rfl⟩
  obtain ⟨g2, hg2⟩ : ∃ g, w.heap.size + 1 = g := ⟨_, rfl⟩
  have hf : Blk w3 g1 X 23 ∧ (∃ rs, Blk w3 g2 rs 34 ∧ rs.size = 32) ∧ Below w.heap.size w w3 := by
    obtain ⟨Y, hw, hY⟩ : ∃ Y, w3 = (w.alloc (.cells X 23)).alloc (.cells Y 34) ∧ Y.size = 32 := ⟨_, hw3.symm, rfl⟩
    have e1 : (w.alloc (.cells X 23)).heap.size = w.heap.size + 1 := by simp
    rw [hw, ← hg1, ← hg2]
    refine ⟨(Blk.new w _ _).alloc _, ⟨Y, ?_, hY⟩, ((Below.refl _ _).alloc (Nat.le_refl _) _).alloc (by simp) _⟩
    rw [← e1]; exact Blk.new _ _ _
  have HB1 := Lib.hid hf.1
  obtain ⟨rs, hrs, hrz⟩ := hf.2.1
  have HB2 := Lib.hid hrs
  have HRZ := Lib.hid hrz
  have HB3 := Lib.hid hf.2.2
  have HG := Lib.hid (show w.heap.size ≤ g2 by omega)
  have HEN := Lib.hid (show Calls Tryd.prog 42 #[.agg X, .int .i64 leaf] w3 fun e w' => ∃ v, e = .returned v ∧ OwnH w' w3.heap.size v E ∧ Below w3.heap.size w3 w' by
    rw [← HX.out]
    exact HEA.out w3)
  clear hf hw3 hrs hrz
  rw [hg2, hg1]
  clear hg1 hg2
  go_wp2_with (with_reducible refine wpList_load_blk rfl 23 (.tmp 2) rfl g1 rfl 23 X _ HB1.out Tryd.underlying23 rfl (by rw [HXS.out]; kernel_rfl) ?_)
  with_reducible refine (HEN.out).mono ?_
  rintro e w4 ⟨v4, rfl, hown, hb4⟩
  obtain ⟨A4, c4, rfl, _, _⟩ := hown.form HEL.out
  have hrd : RdH w4 w4.heap.size A4 E := by
    obtain ⟨_, X, d, e, _, h2⟩ := hown.hv
    injection e with e1 _ _
    subst e1
    exact h2
  have HPT := Lib.hid (rpubtext_any A4 67 c4 E w4 HEL.out (by omega) hown.1 hrd)
  replace HB2 := Lib.hid (HB2.out.below hb4 HB2.out.lt)
  replace HB3 := Lib.hid (HB3.out.trans (hb4.mono HB3.out.size))
  have HPL := Lib.hid (pubT_len E hown.1)
  clear hb4 hown hrd HEN HB1
  go_wp2_with fail
  with_reducible refine (HPT.out).mono ?_
  rintro e w5 ⟨A5, c5, rfl, hc5, hr5, hb5⟩
  obtain ⟨q, hq⟩ : ∃ q, (pubT E).length = q := ⟨_, rfl⟩
  rw [hq] at hc5 ⊢
  have HQ := Lib.hid (show q ≤ 1000000 by rw [← hq, HPL.out, HEL.out]; omega)
  have HSU := Lib.hid (show Calls Tryd.prog 38 #[.slice A5 q c5] w5 fun e w' => e = .returned (.agg Z) ∧ Below w5.heap.size w5 w' by
    rw [← HZ.out]
    exact rsum_any A5 q c5 (pubT E) w5 hq HQ.out hr5)
  replace HB2 := Lib.hid (HB2.out.below hb5 HB2.out.lt)
  replace HB3 := Lib.hid (HB3.out.trans (hb5.mono HB3.out.size))
  clear hb5 hr5 hc5 HPT HPL hq
  go_wp2_with fail
  with_reducible refine (HSU.out).mono ?_
  rintro e w6 ⟨rfl, hb6⟩
  replace HB2 := Lib.hid (HB2.out.below hb6 HB2.out.lt)
  replace HB3 := Lib.hid (HB3.out.trans (hb6.mono HB3.out.size))
  clear hb6 HSU
  go_wp2_with (with_reducible refine wpList_store_blk rfl 34 (.tmp 4) (.tmp 9) rfl g2 Z rfl rfl 34 rs HB2.out (by rw [HZS.out]; kernel_rfl) (by rw [HZS.out, HRZ.out]) HZO.out ?_)
  refine bodyPost_ret (v := .agg Z) (results_cell_row (p := 4) (ty := 34) (by kernel_rfl) _ _ g2 34 _ (0, 0) _ rfl (HB2.out.row Z) Tryd.underlying34 rfl (by rw [HZS.out]; kernel_rfl)) rfl ⟨by rw [HZ.out], below_row HB3.out HB3.out.size HG.out _⟩
end Go.Proofs.YtciflbkgfmbfdaaDoor
