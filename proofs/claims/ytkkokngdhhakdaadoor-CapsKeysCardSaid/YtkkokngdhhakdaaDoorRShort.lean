/- The tagged hash and the short one, as the document has them. -/
import Derived.Test.YtkkokngdhhakdaaDoorRText
import Derived.Test.YtkkokngdhhakdaaDoorRSum
import Derived.Test.YtkkokngdhhakdaaDoorHashD
namespace Go.Proofs.YtkkokngdhhakdaaDoor
open Go.RowKit

set_option maxRecDepth 100000 in
set_option maxHeartbeats 2000000 in
theorem rtagged_any (tag : List UInt8) (A : Option Addr) (n c : Nat) (ls : List (List UInt8)) (w : World) (ht : tag.length ≤ 1000) (hn : ls.length = n) (h1 : n ≤ 100) (h2 : ∀ r ∈ ls, r.length ≤ 1000) (hr : RdR w w.heap.size A ls) :
    Calls Tryd.prog 65 #[.string ⟨tag.toArray⟩, .slice A n c] w fun e w' => e = .returned (.agg (u8A (shaL (netsL (tag :: ls))))) ∧ Below w.heap.size w w' := by
  have hnl := nets_short (tag :: ls) (by simp [hn]; omega) (by
    intro r hr
    rcases List.mem_cons.1 hr with rfl | hr
    · exact ht
    · exact h2 r hr)
  have HTX := Lib.hid (fun (W : World) (hb : Below w.heap.size w W) => rtext_any tag A n c ls W ht hn h1 h2 ((hr.below hb (Nat.le_refl _)).more hb.size))
  clear hr h2 hn
  go_enter Tryd.func65, Tryd.ntmps65
  go_wp2_with fail
  generalize hw1 : w.alloc _ = w1
  have hb1 : Below w.heap.size w w1 := by rw [← hw1]; exact (Below.refl _ _).alloc (Nat.le_refl _) _
  have HR1 := Lib.hid (show ∃ rs, Blk w1 w.heap.size rs 25 ∧ rs.size = 32 by rw [← hw1]; exact ⟨_, Blk.new w _ _, rfl⟩)
  have hs1 : w.heap.size < w1.heap.size := by rw [← hw1]; simp
  clear hw1
  refine (HTX.out _ hb1).mono ?_
  rintro e w2 ⟨A2, c2, rfl, hc2, hr2, hb2⟩
  obtain ⟨nl, hnle⟩ : ∃ y, netsL (tag :: ls) = y := ⟨_, rfl⟩
  rw [hnle] at hnl hc2 hr2 ⊢
  have HNL := Lib.hid hnle
  have HR2 := Lib.hid (show ∃ rs, Blk w2 w.heap.size rs 25 ∧ rs.size = 32 by obtain ⟨rs, h, hz⟩ := HR1.out; exact ⟨rs, h.below hb2 hs1, hz⟩)
  have hb02 := hb1.trans (hb2.mono (Nat.le_of_lt hs1))
  have HRD := Lib.hid hr2
  obtain ⟨k, hk⟩ : ∃ k, nl.length = k := ⟨_, rfl⟩
  have HK := Lib.hid hk
  rw [hk] at hnl ⊢
  have hs2 := Nat.lt_of_lt_of_le hs1 hb2.size
  clear hb2 hr2 hc2 hnle HR1 hk hb1
  go_wp2_with fail
  refine (rsum_any A2 k c2 nl _ HK.out (by omega) HRD.out).mono ?_
  rintro e w3 ⟨rfl, hb3⟩
  have hb03 := hb02.trans (hb3.mono (Nat.le_of_lt hs2))
  obtain ⟨rs, hrs2, hrz⟩ := HR2.out
  have hrs := hrs2.below hb3 hs2
  have hsz : (u8A (shaL nl)).size = 32 := by rw [u8A_size]; exact outTo_len _ 8 (by omega)
  have hone := u8A_one (shaL nl)
  obtain ⟨fin, hfe⟩ : ∃ x, u8A (shaL nl) = x := ⟨_, rfl⟩
  rw [hfe] at hsz hone
  rw [hfe]
  have HFE := Lib.hid hfe
  have HZ := Lib.hid hsz
  have HONE2 := Lib.hid hone
  have HRZ := Lib.hid hrz
  have hin := hrs.lt
  clear hfe hsz hone hrz hb3 hrs2 HR2 hb02
  go_wp2_with (with_reducible refine wpList_store_blk rfl 25 (.tmp 4) (.tmp 8) rfl w.heap.size fin rfl rfl 25 rs hrs (by rw [HZ.out]; kernel_rfl) (by rw [HZ.out, HRZ.out]) HONE2.out ?_)
  refine bodyPost_ret (v := .agg fin) (results_cell_row (p := 4) (ty := 25) (by kernel_rfl) _ _ w.heap.size 25 _ (0, 0) _ rfl (hrs.row fin) Tryd.underlying25 rfl (by rw [HZ.out]; kernel_rfl)) rfl ⟨by rw [HNL.out, HFE.out], below_row hb03 (by omega) (Nat.le_refl _) _⟩
set_option maxRecDepth 100000 in
set_option maxHeartbeats 2000000 in
theorem rshort_any (tag : List UInt8) (A : Option Addr) (n c : Nat) (ls : List (List UInt8)) (w : World) (ht : tag.length ≤ 1000) (hn : ls.length = n) (h1 : n ≤ 100) (h2 : ∀ r ∈ ls, r.length ≤ 1000) (hr : RdR w w.heap.size A ls) :
    Calls Tryd.prog 46 #[.string ⟨tag.toArray⟩, .slice A n c] w fun e w' => e = .returned (.agg (u8A ((shaL (netsL (tag :: ls))).take 16))) ∧ Below w.heap.size w w' := by
  have HTG := Lib.hid (fun (W : World) (hb : Below w.heap.size w W) => rtagged_any tag A n c ls W ht hn h1 h2 ((hr.below hb (Nat.le_refl _)).more hb.size))
  clear hr h2 hn
  obtain ⟨hs, hse⟩ : ∃ y, shaL (netsL (tag :: ls)) = y := ⟨_, rfl⟩
  have hsl : hs.length = 32 := by rw [← hse]; exact outTo_len _ 8 (by omega)
  rw [hse] at HTG ⊢
  clear hse
  have HSL := Lib.hid hsl
  have hz := u8A_size hs
  rw [hsl] at hz
  have HZ := Lib.hid hz
  have HONE := Lib.hid (u8A_one hs)
  clear hsl hz
  go_enter Tryd.func46, Tryd.ntmps46
  go_wp2_with fail
  generalize hw1 : w.alloc _ = w1
  have hb1 : Below w.heap.size w w1 := by rw [← hw1]; exact (Below.refl _ _).alloc (Nat.le_refl _) _
  have HR1 := Lib.hid (show ∃ rs, Blk w1 w.heap.size rs 23 ∧ rs.size = 16 by rw [← hw1]; exact ⟨_, Blk.new w _ _, rfl⟩)
  have hs1 : w.heap.size < w1.heap.size := by rw [← hw1]; simp
  clear hw1
  refine (HTG.out _ hb1).mono ?_
  rintro e w2 ⟨rfl, hb2⟩
  have HR2 := Lib.hid (show ∃ rs, Blk w2 w.heap.size rs 23 ∧ rs.size = 16 by obtain ⟨rs, h, hz⟩ := HR1.out; exact ⟨rs, h.below hb2 hs1, hz⟩)
  have hb02 := hb1.trans (hb2.mono (Nat.le_of_lt hs1))
  have hs2 := Nat.lt_of_lt_of_le hs1 hb2.size
  clear hb2 HR1 hb1
  go_wp2_with (first
    | (with_reducible refine wpList_store_blkTo rfl 25 (.tmp 5) (.tmp 10) rfl rfl w2.heap.size (u8A hs) rfl rfl 25 _ (Blk.new w2 _ _) (by rw [HZ.out]; kernel_rfl) (by rw [HZ.out]; kernel_rfl) HONE.out ?_
       generalize hw3 : World.setRow _ _ _ = w3
       obtain ⟨hB3, hb3⟩ := store_new hw3 hb02))
  have hs3 : w3.heap.size = w2.heap.size + 1 := by rw [← hw3]; simp
  have HR3 := Lib.hid (show ∃ rs, Blk w3 w.heap.size rs 23 ∧ rs.size = 16 by obtain ⟨rs, h, hz⟩ := HR2.out; exact ⟨rs, by rw [← hw3]; exact (h.alloc _).rowOther (by omega) _, hz⟩)
  generalize hw4 : w3.alloc _ = w4
  obtain ⟨bk, hbk⟩ : ∃ y, w3.heap.size = y := ⟨_, rfl⟩
  obtain ⟨bh, hbh⟩ : ∃ y, w2.heap.size = y := ⟨_, rfl⟩
  have hK4 : Blk w4 bk (u8A (List.replicate 16 0)) 23 := by rw [← hw4, ← hbk]; exact Blk.new w3 (u8A (List.replicate 16 0)) 23
  have hH4 : Blk w4 bh (u8A hs) 25 := by rw [← hw4, ← hbh]; exact hB3.alloc _
  have hb4 : Below w.heap.size w w4 := by rw [← hw4]; exact hb3.alloc hb3.size _
  have HR4 := Lib.hid (show ∃ rs, Blk w4 w.heap.size rs 23 ∧ rs.size = 16 by obtain ⟨rs, h, hz⟩ := HR3.out; exact ⟨rs, by rw [← hw4]; exact h.alloc _, hz⟩)
  have hlt : w.heap.size < bh ∧ bh < bk := by omega
  rw [hbk, hbh]
  have HH4 := Lib.hid hH4
  have HK4 := Lib.hid (show Blk w4 bk (u8A (padB 16 (hs.take 0))) 23 from hK4)
  have hk4s : bk < w4.heap.size := hK4.lt
  have hfin4 : Below bk w4 w4 := Below.refl _ _
  clear hw3 hB3 hb3 hs3 HR3 hw4 hbk hbh hK4 hH4 hb02 HR2
  have HB4 := Lib.hid hb4
  clear hb4
  go_loopw [11] (fun t wr => ∃ z : Nat, z ≤ 16 ∧ t = .int .i64 z ∧ Below bk w4 wr ∧ Hid (Blk wr bk (u8A (padB 16 (hs.take z))) 23)) (fun t _ => 16 - (intOf t).toNat)
  case atStart => exact ⟨0, by omega, rfl, hfin4, HK4⟩
  case round =>
    clear hfin4 HK4
    obtain ⟨z, hz, rfl, hbel, HB⟩ := hrel
    by_cases hz16 : z < 16
    · have hzl : z < hs.length := by rw [HSL.out]; omega
      have hch := ((HH4.out.below hbel hlt.2).cell z).trans (show (u8A hs)[z]? = some (.int .u8 (hs[z].toNat : Int)) by simp [u8A, Lib.byteCells, hzl])
      have hf := HB.out.frozen z
      have htl : (hs.take z).length = z := by rw [List.length_take, HSL.out]; omega
      obtain ⟨old, ho⟩ : ∃ old, wr.cell? ⟨bk, z, none⟩ = some old := by
        obtain ⟨o, p⟩ := u8A_get (bs := padB 16 (hs.take z)) (i := z) (by rw [padB_len (by omega)]; omega)
        exact ⟨o, (HB.out.cell z).trans p⟩
      have HTS := Lib.hid (List.take_succ_eq_append_getElem hzl)
      have HTL := Lib.hid htl
      have hz32 : (z : Int) < 32 := by omega
      have hzi : (z : Int) < 16 := by omega
      generalize hs[z] = v at *
      clear htl
      go_wp2_with fail
      go_roundw
      case rel =>
        refine ⟨z + 1, by omega, by go_num, hbel.setCell (Nat.le_refl _) _, Lib.hid ?_⟩
        rw [HTS.out]
        exact HB.out.byte HTL.out hz16 rfl
      case measure => simp [intOf]; omega
    · obtain rfl : z = 16 := by omega
      have hkz : (u8A (hs.take 16)).size = 16 := by rw [u8A_size, List.length_take, HSL.out]; rfl
      have hkone := u8A_one (hs.take 16)
      have hK5 : Blk wr bk (u8A (hs.take 16)) 23 := by
        have := HB.out
        rwa [padB_full (by rw [List.length_take, HSL.out]; rfl)] at this
      have hb5 : Below w.heap.size w wr := HB4.out.trans (hbel.mono (by omega))
      obtain ⟨rs, hrs4, hrz⟩ := HR4.out
      have hrs5 : Blk wr w.heap.size rs 23 := hrs4.below hbel (by omega)
      obtain ⟨fin, hfe⟩ : ∃ y, u8A (hs.take 16) = y := ⟨_, rfl⟩
      rw [hfe] at hkz hkone hK5
      have HFE := Lib.hid hfe
      have HKZ := Lib.hid hkz
      have HKONE := Lib.hid hkone
      have HRZ := Lib.hid hrz
      clear hrs4 hrz hkz hkone hfe HR4 hbel HB HB4 HH4 hz hz16
      go_wp2_with (first
        | (with_reducible refine wpList_load_blk rfl 23 (.tmp 6) rfl bk rfl 23 fin _ hK5 Tryd.underlying23 rfl (by rw [HKZ.out]; kernel_rfl) ?_)
        | (with_reducible refine wpList_store_blk rfl 23 (.tmp 4) (.tmp 20) rfl w.heap.size fin rfl rfl 23 rs hrs5 (by rw [HKZ.out]; kernel_rfl) (by rw [HKZ.out, HRZ.out]) HKONE.out ?_))
      refine bodyPost_ret (v := .agg fin) (results_cell_row (p := 4) (ty := 23) (by kernel_rfl) _ _ w.heap.size 23 _ (0, 0) _ rfl (hrs5.row fin) Tryd.underlying23 rfl (by rw [HKZ.out]; kernel_rfl)) rfl ⟨by rw [HFE.out], below_row hb5 hb5.size (Nat.le_refl _) _⟩
end Go.Proofs.YtkkokngdhhakdaaDoor
