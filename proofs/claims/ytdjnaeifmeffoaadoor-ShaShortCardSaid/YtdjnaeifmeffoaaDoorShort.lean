/- The short hash of a tag and rows is the tagged one's first 16 bytes. -/
import Derived.Test.YtdjnaeifmeffoaaDoorText
import Derived.Test.YtdjnaeifmeffoaaDoorWrite
namespace Go.Proofs.YtdjnaeifmeffoaaDoor
open Go.RowKit

set_option maxRecDepth 100000 in
set_option maxHeartbeats 2000000 in
theorem short_any (tag : List UInt8) (A : Option Addr) (n c : Nat) (ls : List (List UInt8)) (w : World) (ht : tag.length ≤ 1000) (hn : ls.length = n) (h1 : n ≤ 100) (h2 : ∀ r ∈ ls, r.length ≤ 1000) (hr : RdR w w.heap.size A ls) (htab : Pow10 w.heap.size w) :
    Calls Tryd.prog 8 #[.string ⟨tag.toArray⟩, .slice A n c] w fun e w' => e = .returned (.agg (u8A ((shaL (netsL (tag :: ls))).take 16))) ∧ Below w.heap.size w w' := by
  have HTG := Lib.hid (fun (W : World) (hb : Below w.heap.size w W) => tagged_any tag A n c ls W ht hn h1 h2 ((hr.below hb (Nat.le_refl _)).more hb.size) (tab_on htab hb hb.size))
  clear hr htab h2 hn
  obtain ⟨hs, hse⟩ : ∃ y, shaL (netsL (tag :: ls)) = y := ⟨_, rfl⟩
  have hsl : hs.length = 32 := by rw [← hse]; exact outTo_len _ 8 (by omega)
  rw [hse] at HTG ⊢
  clear hse
  have HSL := Lib.hid hsl
  have hz := u8A_size hs
  rw [hsl] at hz
  have HZ := Lib.hid hz
  have HONE := Lib.hid (u8A_one hs)
  clear hsl hz
  go_enter Tryd.func8, Tryd.ntmps8
  go_wp2_with fail
  generalize hw1 : w.alloc _ = w1
  have hb1 : Below w.heap.size w w1 := by rw [← hw1]; exact (Below.refl _ _).alloc (Nat.le_refl _) _
  have HR1 := Lib.hid (show ∃ rs, Blk w1 w.heap.size rs 26 ∧ rs.size = 16 by rw [← hw1]; exact ⟨_, Blk.new w _ _, rfl⟩)
  have hs1 : w.heap.size < w1.heap.size := by rw [← hw1]; simp
  clear hw1
  refine (HTG.out _ hb1).mono ?_
  rintro e w2 ⟨rfl, hb2⟩
  have HR2 := Lib.hid (show ∃ rs, Blk w2 w.heap.size rs 26 ∧ rs.size = 16 by obtain ⟨rs, h, hz⟩ := HR1.out; exact ⟨rs, h.below hb2 hs1, hz⟩)
  have hb02 := hb1.trans (hb2.mono (Nat.le_of_lt hs1))
  have hs2 := Nat.lt_of_lt_of_le hs1 hb2.size
  clear hb2 HR1 hb1
  go_wp2_with (first
    | (with_reducible refine wpList_store_blkTo rfl 29 (.tmp 5) (.tmp 9) rfl rfl w2.heap.size (u8A hs) rfl rfl 29 _ (Blk.new w2 _ _) (by rw [HZ.out]; kernel_rfl) (by rw [HZ.out]; kernel_rfl) HONE.out ?_
       generalize hw3 : World.setRow _ _ _ = w3
       obtain ⟨hB3, hb3⟩ := store_new hw3 hb02))
  have hs3 : w3.heap.size = w2.heap.size + 1 := by rw [← hw3]; simp
  have HR3 := Lib.hid (show ∃ rs, Blk w3 w.heap.size rs 26 ∧ rs.size = 16 by obtain ⟨rs, h, hz⟩ := HR2.out; exact ⟨rs, by rw [← hw3]; exact (h.alloc _).rowOther (by omega) _, hz⟩)
  generalize hw4 : w3.alloc _ = w4
  obtain ⟨bk, hbk⟩ : ∃ y, w3.heap.size = y := ⟨_, rfl⟩
  obtain ⟨bh, hbh⟩ : ∃ y, w2.heap.size = y := ⟨_, rfl⟩
  have hK4 : Blk w4 bk (u8A (List.replicate 16 0)) 26 := by rw [← hw4, ← hbk]; exact Blk.new w3 (u8A (List.replicate 16 0)) 26
  have hH4 : Blk w4 bh (u8A hs) 29 := by rw [← hw4, ← hbh]; exact hB3.alloc _
  have hb4 : Below w.heap.size w w4 := by rw [← hw4]; exact hb3.alloc hb3.size _
  have HR4 := Lib.hid (show ∃ rs, Blk w4 w.heap.size rs 26 ∧ rs.size = 16 by obtain ⟨rs, h, hz⟩ := HR3.out; exact ⟨rs, by rw [← hw4]; exact h.alloc _, hz⟩)
  have hlt : w.heap.size < bh ∧ bh < bk := by omega
  rw [hbk, hbh]
  have HK4 := Lib.hid hK4
  have HH4 := Lib.hid hH4
  clear hw3 hB3 hb3 hs3 HR3 hw4 hbk hbh hK4 hH4 hb02 HR2
  go_still_tail 2, (by kernel_rfl)
  change wpList _ _ _ _ _ w4.drew
  have hcp : ∀ ty, (Builtin.copy_ #[22, 22] ty #[.slice (some ⟨bk, 0, none⟩) 16 16, .slice (some ⟨bh, 0, none⟩) 32 32]).run Tryd.prog w4.drew = .ok (.int .i64 16) (w4.drew.setRow bk (u8A (hs.take 16))) := fun ty => by
    have h := run_copy_row (P := Tryd.prog) w4.drew 22 22 ty 5 bk 0 16 16 ⟨bh, 0, none⟩ 32 32 (u8A (List.replicate 16 0)) 26 (Lib.byteCells (hs.take 16)) Tryd.underlying22 sizeByte' HK4.out (by rw [Lib.byteCells_length, List.length_take, HSL.out]; rfl)
      (Rd.cells (B := w4.heap.size) (.inr ⟨bh, 0, rfl, by have := HH4.out.lt; exact this, fun i hi => by
        rw [List.getElem_take]
        have hi2 : i < hs.length := by rw [List.length_take] at hi; omega
        have := HH4.out.cell (0 + i)
        rw [Nat.zero_add] at this ⊢
        refine Eq.trans this ?_
        simp [u8A, Lib.byteCells, hi2]⟩)) (by rw [Lib.byteCells_length, List.length_take, HSL.out, u8A_size]; simp) (Lib.byteCells_one _)
    rw [Lib.byteCells_length, List.length_take, HSL.out] at h
    refine h.trans ?_
    simp [goInt, u8A, Lib.byteCells]
  have hcp1 := hcp 3
  clear hcp
  obtain ⟨w5, hw5⟩ : ∃ y, w4.drew.setRow bk (u8A (hs.take 16)) = y := ⟨_, rfl⟩
  rw [hw5] at hcp1
  have hK5 : Blk w5 bk (u8A (hs.take 16)) 26 := by rw [← hw5]; exact Blk.row (w := w4.drew) HK4.out _
  have hb5 : Below w.heap.size w w5 := by rw [← hw5]; exact below_row (w := w4.drew) hb4.drew hb4.size (by omega) _
  obtain ⟨rs, hrs4, hrz⟩ := HR4.out
  have hrs5 : Blk w5 w.heap.size rs 26 := by rw [← hw5]; exact Blk.rowOther (w := w4.drew) hrs4 (by omega) _
  have hkz : (u8A (hs.take 16)).size = 16 := by rw [u8A_size, List.length_take, HSL.out]; rfl
  have hkone := u8A_one (hs.take 16)
  obtain ⟨fin, hfe⟩ : ∃ y, u8A (hs.take 16) = y := ⟨_, rfl⟩
  rw [hfe] at hkz hkone hK5
  have HFE := Lib.hid hfe
  have HKZ := Lib.hid hkz
  have HKONE := Lib.hid hkone
  have HRZ := Lib.hid hrz
  clear hw5 hrs4 hrz hkz hkone hfe HR4 hb4
  go_wp2_with (first
    | (with_reducible refine wpList_load_blk rfl 26 (.tmp 6) rfl bk rfl 26 fin _ hK5 Tryd.underlying26 rfl (by rw [HKZ.out]; kernel_rfl) ?_)
    | (with_reducible refine wpList_store_blk rfl 26 (.tmp 4) (.tmp 13) rfl w.heap.size fin rfl rfl 26 rs hrs5 (by rw [HKZ.out]; kernel_rfl) (by rw [HKZ.out, HRZ.out]) HKONE.out ?_))
  refine bodyPost_ret (v := .agg fin) (results_cell_row (p := 4) (ty := 26) (by kernel_rfl) _ _ w.heap.size 26 _ (0, 0) _ rfl (hrs5.row fin) Tryd.underlying26 rfl (by rw [HKZ.out]; kernel_rfl)) rfl ⟨by rw [HFE.out], below_row hb5 (by have := hb5.size; omega) (Nat.le_refl _) _⟩
end Go.Proofs.YtdjnaeifmeffoaaDoor
