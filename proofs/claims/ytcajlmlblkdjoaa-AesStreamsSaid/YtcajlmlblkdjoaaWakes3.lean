/- The document's example of chapter 3. -/
import Derived.Test.YtcajlmlblkdjoaaPAes
import Derived.Test.YtcajlmlblkdjoaaAesT
namespace Go.Proofs.Ytcajlmlblkdjoaa
open Go.RowKit

theorem block0 (W : World) : Calls Try.prog 12 #[.agg #[.int .u8 0, .int .u8 0, .int .u8 0, .int .u8 0, .int .u8 0, .int .u8 0, .int .u8 0, .int .u8 0, .int .u8 0, .int .u8 0, .int .u8 0, .int .u8 0, .int .u8 0, .int .u8 0, .int .u8 0, .int .u8 0], .agg #[.int .u8 0, .int .u8 0, .int .u8 0, .int .u8 0, .int .u8 0, .int .u8 0, .int .u8 0, .int .u8 0, .int .u8 0, .int .u8 0, .int .u8 0, .int .u8 0, .int .u8 0, .int .u8 0, .int .u8 0, .int .u8 0]] W fun e w' => e = .returned (.agg (u8A (blockL (keysTo (List.replicate 16 0) 11) (List.replicate 16 0)))) ∧ Below W.heap.size W w' := by
  have e : u8A (List.replicate 16 0) = #[.int .u8 0, .int .u8 0, .int .u8 0, .int .u8 0, .int .u8 0, .int .u8 0, .int .u8 0, .int .u8 0, .int .u8 0, .int .u8 0, .int .u8 0, .int .u8 0, .int .u8 0, .int .u8 0, .int .u8 0, .int .u8 0] := rfl
  have := pBlock_any (List.replicate 16 0) (List.replicate 16 0) W (List.length_replicate ..) (List.length_replicate ..)
  rw [e] at this
  exact this
set_option maxRecDepth 100000 in
set_option maxHeartbeats 4000000 in
theorem wakes3_core (bl : List UInt8) (hlen : bl.length = 16) (hex : bl.take 4 = [0x66, 0xe9, 0x4b, 0xd4]) (w : World) (HB : ∀ W, Calls Try.prog 12 #[.agg #[.int .u8 0, .int .u8 0, .int .u8 0, .int .u8 0, .int .u8 0, .int .u8 0, .int .u8 0, .int .u8 0, .int .u8 0, .int .u8 0, .int .u8 0, .int .u8 0, .int .u8 0, .int .u8 0, .int .u8 0, .int .u8 0], .agg #[.int .u8 0, .int .u8 0, .int .u8 0, .int .u8 0, .int .u8 0, .int .u8 0, .int .u8 0, .int .u8 0, .int .u8 0, .int .u8 0, .int .u8 0, .int .u8 0, .int .u8 0, .int .u8 0, .int .u8 0, .int .u8 0]] W fun e w' => e = .returned (.agg (u8A bl)) ∧ Below W.heap.size W w') :
    Calls Try.prog 11 #[] w fun e w' => e = .returned (.bool true) ∧ Below w.heap.size w w' := by
  have hat : ∀ i, i < 4 → (u8A bl)[i]? = some (.int .u8 (([0x66, 0xe9, 0x4b, 0xd4] : List UInt8).getD i 0).toNat) := by
    intro i hi
    rw [u8A_at (by omega), ← hex]
    simp [List.getD_eq_getElem?_getD, hi]
  have f0 : (u8A bl)[0]? = some (.int .u8 102) := hat 0 (by decide)
  have f1 : (u8A bl)[1]? = some (.int .u8 233) := hat 1 (by decide)
  have f2 : (u8A bl)[2]? = some (.int .u8 75) := hat 2 (by decide)
  have f3 : (u8A bl)[3]? = some (.int .u8 212) := hat 3 (by decide)
  have hsz : (u8A bl).size = 16 := by rw [u8A_size, hlen]
  have hone := u8A_one bl
  obtain ⟨fin, hfe⟩ : ∃ z, u8A bl = z := ⟨_, rfl⟩
  simp only [hfe] at hsz hone f0 f1 f2 f3 HB
  have HB := Lib.hid HB
  have HZ := Lib.hid hsz
  have HONE := Lib.hid hone
  have HF := Lib.hid (And.intro f0 (And.intro f1 (And.intro f2 f3)))
  have hz := fun W => qzero16 W
  obtain ⟨Z, hZ⟩ : ∃ Z, u8A (List.replicate 16 0) = Z := ⟨_, rfl⟩
  rw [hZ] at hz
  have HZZ := Lib.hid (show Z.size = 16 by rw [← hZ, u8A_size]; exact List.length_replicate ..)
  have HZV := Lib.hid hz
  clear hz hex hlen hat f0 f1 f2 f3 hsz hone hfe hZ
  go_enter Try.func11, Try.ntmps11
  go_wp2_with fail
  with_reducible refine (HB.out _).mono ?_
  rintro e w1 ⟨rfl, hb1⟩
  have hz := HZV.out
  go_wp2_with (first
    | (with_reducible refine wpList_store_blkTo rfl 22 (.tmp 1) (.tmp 4) rfl rfl w1.heap.size fin rfl rfl 22 Z (Blk.new w1 _ _) (by rw [HZ.out]; kernel_rfl) (by rw [HZ.out, HZZ.out]) HONE.out ?_
       generalize hw2 : World.setRow _ _ _ = w2
       obtain ⟨hB, hb2⟩ := store_new hw2 hb1
       have c0 := (hB.cell 0).trans HF.out.1
       have c1 := (hB.cell 1).trans HF.out.2.1
       have c2 := (hB.cell 2).trans HF.out.2.2.1
       have c3 := (hB.cell 3).trans HF.out.2.2.2
       clear hw2 hB))
  go_ret
  exact ⟨rfl, hb2⟩
theorem wakes3_any (w : World) : Calls Try.prog 11 #[] w fun e w' => e = .returned (.bool true) ∧ Below w.heap.size w w' :=
  wakes3_core _ (stU_len _ _ _) example3 w block0
end Go.Proofs.Ytcajlmlblkdjoaa
