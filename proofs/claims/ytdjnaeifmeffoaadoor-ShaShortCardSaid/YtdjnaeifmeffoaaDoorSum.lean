/- Sum of the program is the law on plain numbers; the document's example of chapter 2 holds. -/
import Derived.Test.YtdjnaeifmeffoaaDoorShaSum
namespace Go.Proofs.YtdjnaeifmeffoaaDoor
open Go.RowKit

set_option maxRecDepth 100000 in
set_option maxHeartbeats 1000000 in
theorem sum_any (A : Option Addr) (n c : Nat) (l : List UInt8) (w : World) (hl : l.length = n) (hc : n ≤ c) (h1 : n ≤ 800000) (hr : Rd w w.heap.size A l) :
    Calls Tryd.prog 13 #[.slice A n c] w fun e w' => e = .returned (.agg (u8A (shaL l))) ∧ Below w.heap.size w w' := by
  have HL := Lib.hid hl
  clear hl
  go_enter Tryd.func13, Tryd.ntmps13
  go_wp2_with fail
  generalize hw1 : w.alloc _ = w1
  have hb1 : Below w.heap.size w w1 := by rw [← hw1]; exact (Below.refl _ _).alloc (Nat.le_refl _) _
  have HR1 := Lib.hid (show ∃ rs, Blk w1 w.heap.size rs 29 ∧ rs.size = 32 by rw [← hw1]; exact ⟨_, Blk.new w _ _, rfl⟩)
  have hs1 : w.heap.size < w1.heap.size := by rw [← hw1]; simp
  clear hw1
  refine (new_any _).mono ?_
  rintro e w2 ⟨g, rfl, hg, hs, hb2⟩
  have hb02 := hb1.trans (hb2.mono (Nat.le_of_lt hs1))
  have HR2 := Lib.hid (show ∃ rs, Blk w2 w.heap.size rs 29 ∧ rs.size = 32 by obtain ⟨rs, h, hz⟩ := HR1.out; exact ⟨rs, h.below hb2 hs1, hz⟩)
  have hgl := hs.lt
  have hcall := write_any g n c A l [] w2 HL.out hc (by simp; omega) ((hr.below hb02 (Nat.le_refl _)).notAt (g := g) (by omega) |>.more hb02.size) hs
  rw [List.nil_append] at hcall
  have HCALL := Lib.hid hcall
  clear hcall hs hb2 HR1 hr hb1
  go_wp2_with fail
  refine HCALL.out.mono ?_
  rintro e w3 ⟨rfl, hs3, hg3⟩
  have hb03 := hb02.trans (grown_in hg3 (B := w.heap.size) hb02.size (by omega))
  have HR3 := Lib.hid (show ∃ rs, Blk w3 w.heap.size rs 29 ∧ rs.size = 32 by obtain ⟨rs, h, hz⟩ := HR2.out; exact ⟨rs, h.grown hg3 (by simp; omega), hz⟩)
  have hg3l := hs3.lt
  have HC4 := Lib.hid (shaSum_any g l w3 hs3 (by rw [HL.out]; omega))
  clear HCALL hs3 hg3 HR2 hb02
  go_wp2_with fail
  refine HC4.out.mono ?_
  rintro e w4 ⟨rfl, hb4⟩
  have hb04 := hb03.trans (hb4.mono (by omega))
  obtain ⟨rs, hrs3, hrz⟩ := HR3.out
  have hrs := hrs3.below hb4 (by omega)
  have hsz : (u8A (shaL l)).size = 32 := by rw [u8A_size]; exact outTo_len _ 8 (by omega)
  have hone := u8A_one (shaL l)
  obtain ⟨fin, hfe⟩ : ∃ x, u8A (shaL l) = x := ⟨_, rfl⟩
  rw [hfe] at hsz hone
  rw [hfe]
  have HFE := Lib.hid hfe
  have HZ := Lib.hid hsz
  have HONE2 := Lib.hid hone
  have HRZ := Lib.hid hrz
  have hin := hrs.lt
  clear hfe hsz hone hrz HC4 hb4 hrs3 HR3 hb03
  go_wp2_with (with_reducible refine wpList_store_blk rfl 29 (.tmp 2) (.tmp 9) rfl w.heap.size fin rfl rfl 29 rs hrs (by rw [HZ.out]; kernel_rfl) (by rw [HZ.out, HRZ.out]) HONE2.out ?_)
  refine bodyPost_ret (v := .agg fin) (results_cell_row (p := 2) (ty := 29) (by kernel_rfl) _ _ w.heap.size 29 _ (0, 0) _ rfl (hrs.row fin) Tryd.underlying29 rfl (by rw [HZ.out]; kernel_rfl)) rfl ⟨by rw [HFE.out], below_row hb04 (by omega) (Nat.le_refl _) _⟩

theorem shaL_nil : shaL [] = [227, 176, 196, 66, 152, 252, 28, 20, 154, 251, 244, 200, 153, 111, 185, 36, 39, 174, 65, 228, 100, 155, 147, 76, 164, 149, 153, 27, 120, 82, 184, 85] := by decide +kernel
def shaNil : Array Value := u8A [227, 176, 196, 66, 152, 252, 28, 20, 154, 251, 244, 200, 153, 111, 185, 36, 39, 174, 65, 228, 100, 155, 147, 76, 164, 149, 153, 27, 120, 82, 184, 85]

/-- A value of many cells laid into a new variable. -/
theorem store_new {W w w2 : World} {zs cs : Array Value} {T : TypeId} (hw : (w.alloc (.cells zs T)).setRow w.heap.size cs = w2) (hb : Below W.heap.size W w) : Blk w2 w.heap.size cs T ∧ Below W.heap.size W w2 := by
  subst hw
  exact ⟨(Blk.new w zs T).row _, below_row (hb.alloc hb.size _) (by have := hb.size; simp; omega) hb.size _⟩

set_option maxRecDepth 100000 in
set_option maxHeartbeats 1000000 in
theorem wakes2_any (w : World) : Calls Tryd.prog 6 #[] w fun e w' => e = .returned (.bool true) ∧ Below w.heap.size w w' := by
  go_enter Tryd.func6, Tryd.ntmps6
  go_wp2_with fail
  refine (sum_any none 0 0 [] _ rfl (Nat.le_refl _) (by omega) (.inl rfl)).mono ?_
  rintro e w1 ⟨rfl, hb1⟩
  rw [shaL_nil]
  obtain ⟨fin, hfe⟩ : ∃ x, u8A [227, 176, 196, 66, 152, 252, 28, 20, 154, 251, 244, 200, 153, 111, 185, 36, 39, 174, 65, 228, 100, 155, 147, 76, 164, 149, 153, 27, 120, 82, 184, 85] = x := ⟨_, rfl⟩
  have hsz : fin.size = 32 := by rw [← hfe]; rfl
  have hone : fin.all (·.oneCell') = true := by rw [← hfe]; exact u8A_one _
  have f0 : fin[0]? = some (.int .u8 227) := by rw [← hfe]; rfl
  have f1 : fin[1]? = some (.int .u8 176) := by rw [← hfe]; rfl
  have f2 : fin[2]? = some (.int .u8 196) := by rw [← hfe]; rfl
  have f3 : fin[3]? = some (.int .u8 66) := by rw [← hfe]; rfl
  rw [hfe]
  have HZ := Lib.hid hsz
  have HONE := Lib.hid hone
  have HF := Lib.hid (And.intro f0 (And.intro f1 (And.intro f2 f3)))
  clear hfe hsz hone f0 f1 f2 f3
  go_wp2_with (first
    | (with_reducible refine wpList_store_blkTo rfl 29 (.tmp 1) (.tmp 2) rfl rfl w1.heap.size fin rfl rfl 29 _ (Blk.new w1 _ _) (by rw [HZ.out]; kernel_rfl) (by rw [HZ.out]; kernel_rfl) HONE.out ?_
       generalize hw2 : World.setRow _ _ _ = w2
       obtain ⟨hB, hb2⟩ := store_new hw2 hb1
       have c0 := (hB.cell 0).trans HF.out.1
       have c1 := (hB.cell 1).trans HF.out.2.1
       have c2 := (hB.cell 2).trans HF.out.2.2.1
       have c3 := (hB.cell 3).trans HF.out.2.2.2
       clear hw2 hB))
  go_ret
  exact ⟨rfl, hb2⟩
end Go.Proofs.YtdjnaeifmeffoaaDoor
