/- The tagged hash and the short one, as the document has them. -/
import Derived.Test.YtobealijkbnojaaDoorRText
import Derived.Test.YtobealijkbnojaaDoorRSum
import Derived.Test.YtobealijkbnojaaDoorHashD
namespace Go.Proofs.YtobealijkbnojaaDoor
open Go.RowKit

set_option maxRecDepth 100000 in
set_option maxHeartbeats 2000000 in
theorem rtagged_any (tag : List UInt8) (A : Option Addr) (n c : Nat) (ls : List (List UInt8)) (w : World) (ht : tag.length ≤ 1000) (hn : ls.length = n) (h1 : n ≤ 100) (h2 : ∀ r ∈ ls, r.length ≤ 1000) (hr : RdR w w.heap.size A ls) :
    Calls Tryd.prog 57 #[.string ⟨tag.toArray⟩, .slice A n c] w fun e w' => e = .returned (.agg (u8A (shaL (netsL (tag :: ls))))) ∧ Below w.heap.size w w' := by
  have hnl := nets_short (tag :: ls) (by simp [hn]; omega) (by
    intro r hr
    rcases List.mem_cons.1 hr with rfl | hr
    · exact ht
    · exact h2 r hr)
  have HTX := Lib.hid (fun (W : World) (hb : Below w.heap.size w W) => rtext_any tag A n c ls W ht hn h1 h2 ((hr.below hb (Nat.le_refl _)).more hb.size))
  clear hr h2 hn
  go_enter Tryd.func57, Tryd.ntmps57
  go_wp2_with fail
  generalize hw1 : w.alloc _ = w1
  have hb1 : Below w.heap.size w w1 := by rw [← hw1]; exact (Below.refl _ _).alloc (Nat.le_refl _) _
  have HR1 := Lib.hid (show ∃ rs, Blk w1 w.heap.size rs 26 ∧ rs.size = 32 by rw [← hw1]; exact ⟨_, Blk.new w _ _, rfl⟩)
  have hs1 : w.heap.size < w1.heap.size := by rw [← hw1]; simp
  clear hw1
  refine (HTX.out _ hb1).mono ?_
  rintro e w2 ⟨A2, c2, rfl, hc2, hr2, hb2⟩
  obtain ⟨nl, hnle⟩ : ∃ y, netsL (tag :: ls) = y := ⟨_, rfl⟩
  rw [hnle] at hnl hc2 hr2 ⊢
  have HNL := Lib.hid hnle
  have HR2 := Lib.hid (show ∃ rs, Blk w2 w.heap.size rs 26 ∧ rs.size = 32 by obtain ⟨rs, h, hz⟩ := HR1.out; exact ⟨rs, h.below hb2 hs1, hz⟩)
  have hb02 := hb1.trans (hb2.mono (Nat.le_of_lt hs1))
  have HRD := Lib.hid hr2
  obtain ⟨k, hk⟩ : ∃ k, nl.length = k := ⟨_, rfl⟩
  have HK := Lib.hid hk
  rw [hk] at hnl ⊢
  have hs2 := Nat.lt_of_lt_of_le hs1 hb2.size
  clear hb2 hr2 hc2 hnle HR1 hk hb1
  go_wp2_with fail
  refine (rsum_any A2 k c2 nl _ HK.out (by omega) HRD.out).mono ?_
  rintro e w3 ⟨rfl, hb3⟩
  have hb03 := hb02.trans (hb3.mono (Nat.le_of_lt hs2))
  obtain ⟨rs, hrs2, hrz⟩ := HR2.out
  have hrs := hrs2.below hb3 hs2
  have hsz : (u8A (shaL nl)).size = 32 := by rw [u8A_size]; exact outTo_len _ 8 (by omega)
  have hone := u8A_one (shaL nl)
  obtain ⟨fin, hfe⟩ : ∃ x, u8A (shaL nl) = x := ⟨_, rfl⟩
  rw [hfe] at hsz hone
  rw [hfe]
  have HFE := Lib.hid hfe
  have HZ := Lib.hid hsz
  have HONE2 := Lib.hid hone
  have HRZ := Lib.hid hrz
  have hin := hrs.lt
  clear hfe hsz hone hrz hb3 hrs2 HR2 hb02
  go_wp2_with (with_reducible refine wpList_store_blk rfl 26 (.tmp 4) (.tmp 8) rfl w.heap.size fin rfl rfl 26 rs hrs (by rw [HZ.out]; kernel_rfl) (by rw [HZ.out, HRZ.out]) HONE2.out ?_)
  refine bodyPost_ret (v := .agg fin) (results_cell_row (p := 4) (ty := 26) (by kernel_rfl) _ _ w.heap.size 26 _ (0, 0) _ rfl (hrs.row fin) Tryd.underlying26 rfl (by rw [HZ.out]; kernel_rfl)) rfl ⟨by rw [HNL.out, HFE.out], below_row hb03 (by omega) (Nat.le_refl _) _⟩
end Go.Proofs.YtobealijkbnojaaDoor
