/- The document's own nodes: their texts, their hashes. The document's own leaf; its cuts of hashes and of bytes. The program's tree of hashes: leaves, nodes, their texts. -/
import Derived.StillTailTactics
import Derived.Deep.CutRange
import Derived.Deep.MidRow
import Derived.Test.YtndknifdajjalaaGreatDoorPTreeA
import Derived.Test.YtndknifdajjalaaGreatDoorPRShort
import Derived.Test.YtndknifdajjalaaGreatDoorPShaD
namespace Go.Proofs.YtndknifdajjalaaGreatDoor
open Go.RowKit

theorem rd_of_blk {w : World} {g : Nat} {l : List UInt8} {T : TypeId} (h : Blk w g (u8A l) T) : Rd w w.heap.size (some ⟨g, 0, none⟩) l := .inr ⟨g, 0, rfl, h.lt, fun i hi => by
  rw [Nat.zero_add, h.byteAt hi]
  simp [List.getD_eq_getElem?_getD, hi]⟩
/-- Two slices in a block of their own, as rows. -/
theorem rdr_two (w : World) (A B : Option Addr) {n m c e : Nat} {l k : List UInt8} (hl : l.length = n) (hc : n ≤ c) (hcm : c ≤ maxLen) (hk : k.length = m) (he : m ≤ e) (hem : e ≤ maxLen) (h1 : Rd w w.heap.size A l) (h2 : Rd w w.heap.size B k) :
    RdR (w.alloc (.cells #[.slice A n c, .slice B m e] 35)) (w.alloc (.cells #[.slice A n c, .slice B m e] 35)).heap.size (some ⟨w.heap.size, 0, none⟩) [l, k] := by
  subst hl hk
  have hal : Below w.heap.size w (w.alloc (.cells #[.slice A l.length c, .slice B k.length e] 35)) := (Below.refl _ _).alloc (Nat.le_refl _) _
  have hblk := Blk.new w #[.slice A l.length c, .slice B k.length e] 35
  refine .inr ⟨w.heap.size, 0, rfl, hblk.lt, fun i hi => ?_⟩
  rw [Nat.zero_add]
  match i, hi with
  | 0, _ => exact ⟨A, c, hblk.cell 0, hc, hcm, (h1.below hal (Nat.le_refl _)).more hal.size⟩
  | 1, _ => exact ⟨B, e, hblk.cell 1, he, hem, (h2.below hal (Nat.le_refl _)).more hal.size⟩
/-- A node's text: the tag and two hashes. -/
def nodeT (a b : List UInt8) : List UInt8 := netsL [[110, 111, 100, 101], a, b]
set_option maxRecDepth 100000 in
set_option maxHeartbeats 4000000 in
theorem rnodetext_own (a b : List UInt8) (w : World) (ha : a.length = 32) (hb : b.length = 32) :
    Calls Tryz.prog 104 #[.agg (u8A a), .agg (u8A b)] w fun e w' => ∃ v, e = .returned v ∧ OwnM w' w.heap.size 5 v (nodeT a b).length (nodeT a b) ∧ Below w.heap.size w w' := by
  obtain ⟨X, hX⟩ : ∃ x, u8A a = x := ⟨_, rfl⟩
  obtain ⟨Y, hY⟩ : ∃ x, u8A b = x := ⟨_, rfl⟩
  have HX := Lib.hid hX
  have HY := Lib.hid hY
  rw [hX, hY]
  clear hX hY
  go_enter Tryz.func104, Tryz.ntmps104
  go_wp2_with fail
  go_still_tail 2, (by kernel_rfl)
  change wpList _ _ _ _ _ ((w.alloc (.cells X 44)).alloc (.cells Y 44)).drew
  have hb2 : Below w.heap.size w ((w.alloc (.cells X 44)).alloc (.cells Y 44)).drew := (((Below.refl _ _).alloc (Nat.le_refl _) _).alloc (by simp) _).drew
  have HA := Lib.hid (show Blk ((w.alloc (.cells X 44)).alloc (.cells Y 44)).drew w.heap.size (u8A a) 44 by rw [HX.out]; exact (Blk.new w _ _).alloc _)
  have HB := Lib.hid (show Blk ((w.alloc (.cells X 44)).alloc (.cells Y 44)).drew (w.heap.size + 1) (u8A b) 44 by
    rw [HY.out]
    have := Blk.new (w.alloc (.cells X 44)) Y 44
    rwa [show (w.alloc (.cells X 44)).heap.size = w.heap.size + 1 by simp] at this)
  have HB2 := Lib.hid hb2
  clear hb2
  generalize ((w.alloc (.cells X 44)).alloc (.cells Y 44)).drew = w2 at *
  obtain ⟨g1, hg1⟩ : ∃ g, w.heap.size = g := ⟨_, rfl⟩
  obtain ⟨g2, hg2⟩ : ∃ g, w.heap.size + 1 = g := ⟨_, rfl⟩
  rw [hg2] at HB ⊢
  rw [hg1] at HA
  have HTX := Lib.hid (rtext_own [110, 111, 100, 101] (some ⟨w2.heap.size, 0, none⟩) 2 2 [a, b] (w2.alloc (.cells #[.slice (some ⟨g1, 0, none⟩) 32 32, .slice (some ⟨g2, 0, none⟩) 32 32] 35)) (by decide) rfl (by decide) (fun r hr => by
    simp at hr
    rcases hr with rfl | rfl <;> omega) (rdr_two w2 _ _ ha (Nat.le_refl _) (by decide) hb (Nat.le_refl _) (by decide) (rd_of_blk HA.out) (rd_of_blk HB.out)))
  have hal : Below w2.heap.size w2 (w2.alloc (.cells #[.slice (some ⟨g1, 0, none⟩) 32 32, .slice (some ⟨g2, 0, none⟩) 32 32] 35)) := (Below.refl _ _).alloc (Nat.le_refl _) _
  have HB3 := Lib.hid (HB2.out.trans (hal.mono HB2.out.size))
  clear hal HB2 HA HB hg2
  rw [hg1]
  go_wp2_with fail
  with_reducible refine (HTX.out).mono ?_
  rintro e w4 ⟨v4, rfl, hown, hb⟩
  have hown2 : OwnM w4 w.heap.size 5 v4 (nodeT a b).length (nodeT a b) := by
    obtain ⟨hl, g, cap, cur, fz, e, hbs, rest⟩ := hown
    exact ⟨hl, g, cap, cur, fz, e, Nat.le_trans HB3.out.size hbs, rest⟩
  obtain ⟨g4, c4, rfl, _, _⟩ := ownM_form hown2
  have HR := Lib.hid hown2
  have HB4 := Lib.hid (HB3.out.trans (hb.mono HB3.out.size))
  clear hown hown2 hb HTX HB3
  go_wp2_with fail
  go_ret
  exact ⟨_, rfl, HR.out, HB4.out⟩
theorem rnodetext_any (a b : List UInt8) (w : World) (ha : a.length = 32) (hb : b.length = 32) :
    Calls Tryz.prog 104 #[.agg (u8A a), .agg (u8A b)] w fun e w' => ∃ A c, e = .returned (.slice A (nodeT a b).length c) ∧ (nodeT a b).length ≤ c ∧ Rd w' w'.heap.size A (nodeT a b) ∧ Below w.heap.size w w' :=
  (rnodetext_own a b w ha hb).mono fun _ _ ⟨v, he, ho, hb⟩ => by
    obtain ⟨g, c, rfl, hc, _⟩ := ownM_form ho
    exact ⟨_, c, he, hc, ho.rd, hb⟩
def nodeH (a b : List UInt8) : List UInt8 := shaL (nodeT a b)
theorem nodeT_len (a b : List UInt8) (ha : a.length = 32) (hb : b.length = 32) : (nodeT a b).length ≤ 1000000 :=
  Nat.le_trans (nets_short [[110, 111, 100, 101], a, b] (by simp) (by
    intro r hr
    simp at hr
    rcases hr with rfl | rfl | rfl
    · decide
    · omega
    · omega)) (by omega)
theorem range_of_blk {w : World} {g : Nat} {l : List UInt8} {T : TypeId} (h : Blk w g (u8A l) T) : w.rangeAt g 0 (Lib.byteCells l) := fun j v hv => by
  rw [Nat.zero_add, h.cell j]
  simpa [u8A] using hv
set_option maxRecDepth 100000 in
set_option maxHeartbeats 4000000 in
theorem rnode_any (a b : List UInt8) (w : World) (ha : a.length = 32) (hb : b.length = 32) :
    Calls Tryz.prog 71 #[.agg (u8A a), .agg (u8A b)] w fun e w' => e = .returned (.agg (u8A (nodeH a b))) ∧ Below w.heap.size w w' := by
  obtain ⟨X, hX⟩ : ∃ x, u8A a = x := ⟨_, rfl⟩
  obtain ⟨Y, hY⟩ : ∃ x, u8A b = x := ⟨_, rfl⟩
  have HX := Lib.hid hX
  have HY := Lib.hid hY
  rw [hX, hY]
  clear hX hY
  have hzX := u8A_size a
  have hzY := u8A_size b
  rw [ha] at hzX
  rw [hb] at hzY
  have HXA := Lib.hid (show X = (Lib.byteCells a).toArray by rw [← HX.out]; rfl)
  go_enter Tryz.func71, Tryz.ntmps71
  go_upto_region 1 with fail
  generalize hw3 : World.alloc _ _ = w3
  obtain ⟨g1, hg1⟩ : ∃ g, w.heap.size = g := ⟨_, rfl⟩
  obtain ⟨g2, hg2⟩ : ∃ g, w.heap.size + 1 = g := ⟨_, rfl⟩
  obtain ⟨g3, hg3⟩ : ∃ g, w.heap.size + 1 + 1 = g := ⟨_, rfl⟩
  have hf : Blk w3 g1 X 44 ∧ Blk w3 g2 Y 44 ∧ (∃ rs, Blk w3 g3 rs 44 ∧ rs.size = 32) ∧ Below w.heap.size w w3 := by
    obtain ⟨Z, hw, hZ⟩ : ∃ Z, w3 = ((w.alloc (.cells X 44)).alloc (.cells Y 44)).alloc (.cells Z 44) ∧ Z.size = 32 := ⟨_, hw3.symm, rfl⟩
    have e1 : (w.alloc (.cells X 44)).heap.size = w.heap.size + 1 := by simp
    have e2 : ((w.alloc (.cells X 44)).alloc (.cells Y 44)).heap.size = w.heap.size + 1 + 1 := by simp
    rw [hw, ← hg1, ← hg2, ← hg3]
    refine ⟨((Blk.new w _ _).alloc _).alloc _, ?_, ⟨Z, ?_, hZ⟩, (((Below.refl _ _).alloc (Nat.le_refl _) _).alloc (by simp) _).alloc (by simp; omega) _⟩
    · have := (Blk.new (w.alloc (.cells X 44)) Y 44).alloc (.cells Z 44)
      rwa [e1] at this
    · rw [← e2]; exact Blk.new _ _ _
  obtain ⟨hA, hB, hR, hbel⟩ := hf
  have HA := Lib.hid hA
  have HB := Lib.hid hB
  have HR := Lib.hid hR
  have HB3 := Lib.hid hbel
  have HXZ := Lib.hid (show X.size = 32 by rw [← HX.out]; exact hzX)
  have HYZ := Lib.hid (show Y.size = 32 by rw [← HY.out]; exact hzY)
  have hlt : w.heap.size ≤ g3 ∧ g3 < w3.heap.size := ⟨by omega, by obtain ⟨rs, h, _⟩ := hR; exact h.lt⟩
  have HNT := Lib.hid (show Calls Tryz.prog 104 #[.agg X, .agg Y] w3 fun e w' => ∃ A c, e = .returned (.slice A (nodeT a b).length c) ∧ (nodeT a b).length ≤ c ∧ Rd w' w'.heap.size A (nodeT a b) ∧ Below w3.heap.size w3 w' by
    have := rnodetext_any a b w3 ha hb
    rwa [HX.out, HY.out] at this)
  clear hA hB hR hbel hw3 hzX hzY
  rw [hg3, hg2, hg1]
  clear hg1 hg2 hg3
  go_wp2_with (first
    | (with_reducible refine wpList_load_blk rfl 44 (.tmp 2) rfl g1 rfl 44 X _ HA.out Tryz.underlying44 rfl (by rw [HXZ.out]; kernel_rfl) ?_)
    | (with_reducible refine wpList_load_blk rfl 44 (.tmp 3) rfl g2 rfl 44 Y _ HB.out Tryz.underlying44 rfl (by rw [HYZ.out]; kernel_rfl) ?_))
  with_reducible refine (HNT.out).mono ?_
  rintro e w4 ⟨A4, c4, rfl, hc4, hr4, hb4⟩
  obtain ⟨tl, htl⟩ : ∃ x, nodeT a b = x := ⟨_, rfl⟩
  have HTL := Lib.hid (show tl.length ≤ 1000000 by rw [← htl]; exact nodeT_len a b ha hb)
  rw [htl] at hr4 hc4 ⊢
  have HNH := Lib.hid (show nodeH a b = shaL tl by rw [← htl]; rfl)
  have HSU := Lib.hid (rsum_any A4 tl.length c4 tl w4 rfl HTL.out hr4)
  have HR4 := Lib.hid (show ∃ rs, Blk w4 g3 rs 44 ∧ rs.size = 32 by obtain ⟨rs, h, hz⟩ := HR.out; exact ⟨rs, h.below hb4 hlt.2, hz⟩)
  have HB4 := Lib.hid (HB3.out.trans (hb4.mono HB3.out.size))
  have hlt4 := Nat.lt_of_lt_of_le hlt.2 hb4.size
  obtain ⟨q, hq⟩ : ∃ q, tl.length = q := ⟨_, rfl⟩
  rw [hq] at HSU ⊢
  clear hr4 hb4 hc4 HNT HA HB HR HB3 htl hq
  go_wp2_with fail
  with_reducible refine (HSU.out).mono ?_
  rintro e w5 ⟨rfl, hb5⟩
  obtain ⟨rs, hrs4, hrz⟩ := HR4.out
  have hrs := hrs4.below hb5 hlt4
  have hb05 := HB4.out.trans (hb5.mono HB4.out.size)
  have hsz : (u8A (shaL tl)).size = 32 := by rw [u8A_size]; exact outTo_len _ 8 (by omega)
  have hone := u8A_one (shaL tl)
  obtain ⟨fin, hfe⟩ : ∃ x, u8A (shaL tl) = x := ⟨_, rfl⟩
  rw [hfe] at hsz hone
  rw [hfe]
  have HFE := Lib.hid hfe
  have HZ := Lib.hid hsz
  have HONE2 := Lib.hid hone
  have HRZ := Lib.hid hrz
  have hsw := hb05.size
  have hin := hrs.lt
  clear hfe hsz hone hrz hb5 hrs4 HR4 HB4 HSU
  go_wp2_with (with_reducible refine wpList_store_blk rfl 44 (.tmp 4) (.tmp 8) rfl g3 fin rfl rfl 44 rs hrs (by rw [HZ.out]; kernel_rfl) (by rw [HZ.out, HRZ.out]) HONE2.out ?_)
  refine bodyPost_ret (v := .agg fin) (results_cell_row (p := 4) (ty := 44) (by kernel_rfl) _ _ g3 44 _ (0, 0) _ rfl (hrs.row fin) Tryz.underlying44 rfl (by rw [HZ.out]; kernel_rfl)) rfl ⟨by rw [HNH.out, HFE.out], below_row hb05 hsw hlt.1 _⟩

/-- One slice in a block of its own, as a row. -/
theorem rdr_leaf (w : World) (A : Option Addr) {n c : Nat} {l : List UInt8} (hl : l.length = n) (hc : n ≤ c) (hcm : c ≤ maxLen) (h1 : Rd w w.heap.size A l) :
    RdR (w.alloc (.cells #[.slice A n c] 35)) (w.alloc (.cells #[.slice A n c] 35)).heap.size (some ⟨w.heap.size, 0, none⟩) [l] := by
  subst hl
  have hal : Below w.heap.size w (w.alloc (.cells #[.slice A l.length c] 35)) := (Below.refl _ _).alloc (Nat.le_refl _) _
  have hblk := Blk.new w #[.slice A l.length c] 35
  refine .inr ⟨w.heap.size, 0, rfl, hblk.lt, fun i hi => ?_⟩
  rw [Nat.zero_add]
  match i, hi with
  | 0, _ => exact ⟨A, c, hblk.cell 0, hc, hcm, (h1.below hal (Nat.le_refl _)).more hal.size⟩

theorem nodeT_len8 (a b : List UInt8) (ha : a.length = 32) (hb : b.length = 32) : (nodeT a b).length ≤ 800000 :=
  Nat.le_trans (nets_short [[110, 111, 100, 101], a, b] (by simp) (by
    intro r hr
    simp at hr
    rcases hr with rfl | rfl | rfl
    · decide
    · omega
    · omega)) (by omega)
set_option maxRecDepth 100000 in
set_option maxHeartbeats 4000000 in
theorem pnodetext_any (a b : List UInt8) (w : World) (ha : a.length = 32) (hb : b.length = 32) (htab : Pow10 w.heap.size w) :
    Calls Tryz.prog 130 #[.agg (u8A a), .agg (u8A b)] w fun e w' => ∃ A c, e = .returned (.slice A (nodeT a b).length c) ∧ (nodeT a b).length ≤ c ∧ Rd w' w'.heap.size A (nodeT a b) ∧ Below w.heap.size w w' := by
  obtain ⟨X, hX⟩ : ∃ x, u8A a = x := ⟨_, rfl⟩
  obtain ⟨Y, hY⟩ : ∃ x, u8A b = x := ⟨_, rfl⟩
  have HX := Lib.hid hX
  have HY := Lib.hid hY
  have HTAB := Lib.hid htab
  rw [hX, hY]
  clear hX hY htab
  go_enter Tryz.func130, Tryz.ntmps130
  go_wp2_with fail
  go_still_tail 2, (by kernel_rfl)
  change wpList _ _ _ _ _ ((w.alloc (.cells X 44)).alloc (.cells Y 44)).drew
  have hb2 : Below w.heap.size w ((w.alloc (.cells X 44)).alloc (.cells Y 44)).drew := (((Below.refl _ _).alloc (Nat.le_refl _) _).alloc (by simp) _).drew
  have HA := Lib.hid (show Blk ((w.alloc (.cells X 44)).alloc (.cells Y 44)).drew w.heap.size (u8A a) 44 by rw [HX.out]; exact (Blk.new w _ _).alloc _)
  have HB := Lib.hid (show Blk ((w.alloc (.cells X 44)).alloc (.cells Y 44)).drew (w.heap.size + 1) (u8A b) 44 by
    rw [HY.out]
    have := Blk.new (w.alloc (.cells X 44)) Y 44
    rwa [show (w.alloc (.cells X 44)).heap.size = w.heap.size + 1 by simp] at this)
  have HB2 := Lib.hid hb2
  clear hb2
  generalize ((w.alloc (.cells X 44)).alloc (.cells Y 44)).drew = w2 at *
  obtain ⟨g1, hg1⟩ : ∃ g, w.heap.size = g := ⟨_, rfl⟩
  obtain ⟨g2, hg2⟩ : ∃ g, w.heap.size + 1 = g := ⟨_, rfl⟩
  rw [hg2] at HB ⊢
  rw [hg1] at HA
  have hal : Below w2.heap.size w2 (w2.alloc (.cells #[.slice (some ⟨g1, 0, none⟩) 32 32, .slice (some ⟨g2, 0, none⟩) 32 32] 35)) := (Below.refl _ _).alloc (Nat.le_refl _) _
  have HTX := Lib.hid (text_any [110, 111, 100, 101] (some ⟨w2.heap.size, 0, none⟩) 2 2 [a, b] (w2.alloc (.cells #[.slice (some ⟨g1, 0, none⟩) 32 32, .slice (some ⟨g2, 0, none⟩) 32 32] 35)) (by decide) rfl (by decide) (fun r hr => by
    simp at hr
    rcases hr with rfl | rfl <;> omega) (rdr_two w2 _ _ ha (Nat.le_refl _) (by decide) hb (Nat.le_refl _) (by decide) (rd_of_blk HA.out) (rd_of_blk HB.out)) (tab_on HTAB.out (HB2.out.trans (hal.mono HB2.out.size)) (HB2.out.trans (hal.mono HB2.out.size)).size))
  have HB3 := Lib.hid (HB2.out.trans (hal.mono HB2.out.size))
  clear hal HB2 HA HB hg2
  rw [hg1]
  go_wp2_with fail
  with_reducible refine (HTX.out).mono ?_
  rintro e w4 ⟨A4, c4, rfl, hc4, hr4, hb⟩
  have HR := Lib.hid (show Rd w4 w4.heap.size A4 (nodeT a b) from hr4)
  have HC := Lib.hid (show (nodeT a b).length ≤ c4 from hc4)
  have HB4 := Lib.hid (HB3.out.trans (hb.mono HB3.out.size))
  clear hc4 hr4 hb HTX HB3
  go_wp2_with fail
  go_ret
  exact ⟨A4, c4, rfl, HC.out, HR.out, HB4.out⟩
set_option maxRecDepth 100000 in
set_option maxHeartbeats 4000000 in
theorem pnode_any (a b : List UInt8) (w : World) (ha : a.length = 32) (hb : b.length = 32) (htab : Pow10 w.heap.size w) :
    Calls Tryz.prog 110 #[.agg (u8A a), .agg (u8A b)] w fun e w' => e = .returned (.agg (u8A (nodeH a b))) ∧ Below w.heap.size w w' := by
  obtain ⟨X, hX⟩ : ∃ x, u8A a = x := ⟨_, rfl⟩
  obtain ⟨Y, hY⟩ : ∃ x, u8A b = x := ⟨_, rfl⟩
  have HX := Lib.hid hX
  have HY := Lib.hid hY
  rw [hX, hY]
  clear hX hY
  have hzX := u8A_size a
  have hzY := u8A_size b
  rw [ha] at hzX
  rw [hb] at hzY
  have HXA := Lib.hid (show X = (Lib.byteCells a).toArray by rw [← HX.out]; rfl)
  go_enter Tryz.func110, Tryz.ntmps110
  go_upto_region 1 with fail
  generalize hw3 : World.alloc _ _ = w3
  obtain ⟨g1, hg1⟩ : ∃ g, w.heap.size = g := ⟨_, rfl⟩
  obtain ⟨g2, hg2⟩ : ∃ g, w.heap.size + 1 = g := ⟨_, rfl⟩
  obtain ⟨g3, hg3⟩ : ∃ g, w.heap.size + 1 + 1 = g := ⟨_, rfl⟩
  have hf : Blk w3 g1 X 44 ∧ Blk w3 g2 Y 44 ∧ (∃ rs, Blk w3 g3 rs 44 ∧ rs.size = 32) ∧ Below w.heap.size w w3 := by
    obtain ⟨Z, hw, hZ⟩ : ∃ Z, w3 = ((w.alloc (.cells X 44)).alloc (.cells Y 44)).alloc (.cells Z 44) ∧ Z.size = 32 := ⟨_, hw3.symm, rfl⟩
    have e1 : (w.alloc (.cells X 44)).heap.size = w.heap.size + 1 := by simp
    have e2 : ((w.alloc (.cells X 44)).alloc (.cells Y 44)).heap.size = w.heap.size + 1 + 1 := by simp
    rw [hw, ← hg1, ← hg2, ← hg3]
    refine ⟨((Blk.new w _ _).alloc _).alloc _, ?_, ⟨Z, ?_, hZ⟩, (((Below.refl _ _).alloc (Nat.le_refl _) _).alloc (by simp) _).alloc (by simp; omega) _⟩
    · have := (Blk.new (w.alloc (.cells X 44)) Y 44).alloc (.cells Z 44)
      rwa [e1] at this
    · rw [← e2]; exact Blk.new _ _ _
  obtain ⟨hA, hB, hR, hbel⟩ := hf
  have HA := Lib.hid hA
  have HB := Lib.hid hB
  have HR := Lib.hid hR
  have HB3 := Lib.hid hbel
  have HXZ := Lib.hid (show X.size = 32 by rw [← HX.out]; exact hzX)
  have HYZ := Lib.hid (show Y.size = 32 by rw [← HY.out]; exact hzY)
  have hlt : w.heap.size ≤ g3 ∧ g3 < w3.heap.size := ⟨by omega, by obtain ⟨rs, h, _⟩ := hR; exact h.lt⟩
  have HNT := Lib.hid (show Calls Tryz.prog 130 #[.agg X, .agg Y] w3 fun e w' => ∃ A c, e = .returned (.slice A (nodeT a b).length c) ∧ (nodeT a b).length ≤ c ∧ Rd w' w'.heap.size A (nodeT a b) ∧ Below w3.heap.size w3 w' by
    have := pnodetext_any a b w3 ha hb (tab_on htab HB3.out HB3.out.size)
    rwa [HX.out, HY.out] at this)
  clear hA hB hR hbel hw3 hzX hzY htab
  rw [hg3, hg2, hg1]
  clear hg1 hg2 hg3
  go_wp2_with (first
    | (with_reducible refine wpList_load_blk rfl 44 (.tmp 2) rfl g1 rfl 44 X _ HA.out Tryz.underlying44 rfl (by rw [HXZ.out]; kernel_rfl) ?_)
    | (with_reducible refine wpList_load_blk rfl 44 (.tmp 3) rfl g2 rfl 44 Y _ HB.out Tryz.underlying44 rfl (by rw [HYZ.out]; kernel_rfl) ?_))
  with_reducible refine (HNT.out).mono ?_
  rintro e w4 ⟨A4, c4, rfl, hc4, hr4, hb4⟩
  obtain ⟨tl, htl⟩ : ∃ x, nodeT a b = x := ⟨_, rfl⟩
  have HTL := Lib.hid (show tl.length ≤ 800000 by rw [← htl]; exact nodeT_len8 a b ha hb)
  rw [htl] at hr4 hc4 ⊢
  have HNH := Lib.hid (show nodeH a b = shaL tl by rw [← htl]; rfl)
  have HSU := Lib.hid (sum_any A4 tl.length c4 tl w4 rfl hc4 HTL.out hr4)
  have HR4 := Lib.hid (show ∃ rs, Blk w4 g3 rs 44 ∧ rs.size = 32 by obtain ⟨rs, h, hz⟩ := HR.out; exact ⟨rs, h.below hb4 hlt.2, hz⟩)
  have HB4 := Lib.hid (HB3.out.trans (hb4.mono HB3.out.size))
  have hlt4 := Nat.lt_of_lt_of_le hlt.2 hb4.size
  obtain ⟨q, hq⟩ : ∃ q, tl.length = q := ⟨_, rfl⟩
  rw [hq] at HSU ⊢
  clear hr4 hb4 hc4 HNT HA HB HR HB3 htl hq
  go_wp2_with fail
  with_reducible refine (HSU.out).mono ?_
  rintro e w5 ⟨rfl, hb5⟩
  obtain ⟨rs, hrs4, hrz⟩ := HR4.out
  have hrs := hrs4.below hb5 hlt4
  have hb05 := HB4.out.trans (hb5.mono HB4.out.size)
  have hsz : (u8A (shaL tl)).size = 32 := by rw [u8A_size]; exact outTo_len _ 8 (by omega)
  have hone := u8A_one (shaL tl)
  obtain ⟨fin, hfe⟩ : ∃ x, u8A (shaL tl) = x := ⟨_, rfl⟩
  rw [hfe] at hsz hone
  rw [hfe]
  have HFE := Lib.hid hfe
  have HZ := Lib.hid hsz
  have HONE2 := Lib.hid hone
  have HRZ := Lib.hid hrz
  have hsw := hb05.size
  have hin := hrs.lt
  clear hfe hsz hone hrz hb5 hrs4 HR4 HB4 HSU
  go_wp2_with (with_reducible refine wpList_store_blk rfl 44 (.tmp 4) (.tmp 8) rfl g3 fin rfl rfl 44 rs hrs (by rw [HZ.out]; kernel_rfl) (by rw [HZ.out, HRZ.out]) HONE2.out ?_)
  refine bodyPost_ret (v := .agg fin) (results_cell_row (p := 4) (ty := 44) (by kernel_rfl) _ _ g3 44 _ (0, 0) _ rfl (hrs.row fin) Tryz.underlying44 rfl (by rw [HZ.out]; kernel_rfl)) rfl ⟨by rw [HNH.out, HFE.out], below_row hb05 hsw hlt.1 _⟩
end Go.Proofs.YtndknifdajjalaaGreatDoor
