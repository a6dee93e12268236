/- The program's sum of two blocks of AES. -/
import Derived.Test.YtcajlmlblkdjoaaPTwice
import Derived.Test.YtcajlmlblkdjoaaU8Mid
import Derived.Test.YtcajlmlblkdjoaaAesB
import Derived.IntWalk
import Derived.RegionTactic
import Derived.BigRegion
import Derived.Deep.RegionHeld3
import Derived.StillTailTactics
namespace Go.Proofs.Ytcajlmlblkdjoaa
open Go.RowKit

theorem pzero16 (w : World) : (zeroValue 48).run Try.prog w = .ok (.agg (u8A (List.replicate 16 0))) w := by kernel_rfl
def xorL (x y : List UInt8) : List UInt8 := (List.range 16).map fun n => x.getD n 0 ^^^ y.getD n 0
theorem xorL_len (x y : List UInt8) : (xorL x y).length = 16 := by simp [xorL]
theorem xorL_at (x y : List UInt8) {n : Nat} (h : n < 16) : (xorL x y).getD n 0 = x.getD n 0 ^^^ y.getD n 0 := map_getD _ 16 n h

theorem alloc2 (w : World) (A B : Array Value) (S T : TypeId) : Blk ((w.alloc (.cells A S)).alloc (.cells B T)) w.heap.size A S ∧ Blk ((w.alloc (.cells A S)).alloc (.cells B T)) (w.heap.size + 1) B T ∧ Below w.heap.size w ((w.alloc (.cells A S)).alloc (.cells B T)) := by
  have a2 := Blk.new (w.alloc (.cells A S)) B T
  simp only [World.size_alloc] at a2
  exact ⟨(Blk.new w A S).alloc _, a2, ((Below.refl _ _).alloc (Nat.le_refl _) _).alloc (by simp) _⟩
theorem alloc3 (w : World) (A B C : Array Value) (S T U : TypeId) : Blk (((w.alloc (.cells A S)).alloc (.cells B T)).alloc (.cells C U)) w.heap.size A S ∧ Blk (((w.alloc (.cells A S)).alloc (.cells B T)).alloc (.cells C U)) (w.heap.size + 1) B T ∧ Blk (((w.alloc (.cells A S)).alloc (.cells B T)).alloc (.cells C U)) (w.heap.size + 1 + 1) C U ∧ Below w.heap.size w (((w.alloc (.cells A S)).alloc (.cells B T)).alloc (.cells C U)) := by
  obtain ⟨h1, h2, h3⟩ := alloc2 w A B S T
  have a3 := Blk.new ((w.alloc (.cells A S)).alloc (.cells B T)) C U
  simp only [World.size_alloc] at a3
  exact ⟨h1.alloc _, h2.alloc _, a3, h3.alloc (by simp; omega) _⟩

set_option maxRecDepth 100000 in
set_option maxHeartbeats 4000000 in
theorem sumB_any (x y : List UInt8) (w : World) (hx : x.length = 16) (hy : y.length = 16) :
    Calls Try.prog 35 #[.agg (u8A x), .agg (u8A y)] w fun e w' => e = .returned (.agg (u8A (xorL x y))) ∧ Below w.heap.size w w' := by
  have hz := fun W => pzero16 W
  obtain ⟨Z, hZ⟩ : ∃ Z, u8A (List.replicate 16 0) = Z := ⟨_, rfl⟩
  rw [hZ] at hz
  have hzz : Z.size = 16 := by rw [← hZ, u8A_size]; exact List.length_replicate ..
  have HX := Lib.hid hx
  have HY := Lib.hid hy
  obtain ⟨xA, hxe⟩ : ∃ K, u8A x = K := ⟨_, rfl⟩
  obtain ⟨yA, hye⟩ : ∃ K, u8A y = K := ⟨_, rfl⟩
  rw [hxe, hye]
  have HZ := Lib.hid hZ
  have HZZ := Lib.hid hzz
  have HXE := Lib.hid hxe
  have HYE := Lib.hid hye
  clear hx hy hxe hye hZ hzz
  go_enter Try.func35, Try.ntmps35
  go_wp2_with fail
  obtain ⟨g1, g2, g3, hbel⟩ := alloc3 w xA yA Z 48 48 48
  generalize World.alloc (World.alloc (World.alloc w _) _) _ = w1 at *
  obtain ⟨xb, hxb⟩ : ∃ z, w.heap.size = z := ⟨_, rfl⟩
  rw [hxb] at g1 g2 g3 hbel ⊢
  obtain ⟨yb, hyb⟩ : ∃ z, xb + 1 = z := ⟨_, rfl⟩
  rw [hyb] at g2 g3 ⊢
  obtain ⟨rb, hrb⟩ : ∃ z, yb + 1 = z := ⟨_, rfl⟩
  rw [hrb] at g3 ⊢
  have hxy : xb < yb := by omega
  have hyr : yb < rb := by omega
  have HW := Lib.hid hxb
  have G1 := Lib.hid (show Blk w1 xb (u8A (part (xorL x y) x 0)) 48 by rw [part_zero, HXE.out]; exact g1)
  have G2 := Lib.hid (show Blk w1 yb (u8A y) 48 by rw [HYE.out]; exact g2)
  have G3 := Lib.hid (show ∃ rs, Blk w1 rb rs 48 ∧ rs.size = 16 from ⟨_, g3, HZZ.out⟩)
  clear g1 g2 g3 hxb hyb hrb hz
  go_loopw [6] (fun t wq => ∃ i : Nat, i ≤ 16 ∧ t = .int .i64 i ∧ Below xb w wq ∧ Hid (Blk wq xb (u8A (part (xorL x y) x i)) 48) ∧ Hid (Blk wq yb (u8A y) 48) ∧ Hid (∃ rs, Blk wq rb rs 48 ∧ rs.size = 16)) (fun t _ => 16 - (intOf t).toNat)
  case atStart => exact ⟨0, by omega, rfl, hbel, G1, G2, G3⟩
  case round =>
    clear hbel G1 G2 G3
    obtain ⟨i, hi, rfl, hbel, G1, G2, G3⟩ := hrel
    by_cases hlt : i < 16
    · have hii : (i : Int) < 16 := by omega
      have cx := G1.out.byteAt (i := i) (by rw [part_len (xorL_len x y) HX.out (by omega)]; exact hlt)
      rw [part_later (xorL_len x y) (by omega) (Nat.le_refl i)] at cx
      have cy := G2.out.byteAt (i := i) (by rw [HY.out]; exact hlt)
      have hf := G1.out.frozen i
      have HV := Lib.hid (show bits .xor .u8 ((x.getD i 0).toNat : Int) ((y.getD i 0).toNat : Int) = (((xorL x y).getD i 0).toNat : Int) by rw [xor_byte8, xorL_at x y hlt])
      have HPS := Lib.hid (part_set (xorL_len x y) HX.out hlt)
      generalize x.getD i 0 = a0 at *
      generalize y.getD i 0 = b0 at *
      go_wp2_with fail
      refine wp_region_noPanic ?_
      go_region
      refine NoPanic.normal ?_
      go_wp2_with fail
      go_roundw
      case rel =>
        refine ⟨i + 1, by omega, by go_num, (hbel.setCell (by simp) _).drew, Lib.hid ?_, Lib.hid (G2.out.other (by simp; omega) _), Lib.hid ?_⟩
        · rw [← HPS.out]
          exact G1.out.put _ HV.out
        · obtain ⟨rs, h, hz⟩ := G3.out
          exact ⟨rs, h.other (by simp; omega) _, hz⟩
      case measure => simp [intOf]; omega
    · obtain rfl : i = 16 := by omega
      have hge : ¬ ((16 : Nat) : Int) < 16 := by omega
      have hfull : Blk wr xb (u8A (xorL x y)) 48 := by
        have := G1.out
        rwa [part_full (xorL_len x y) HX.out] at this
      obtain ⟨rs, hrs, hrz⟩ := G3.out
      have hfz : (u8A (xorL x y)).size = 16 := by rw [u8A_size, xorL_len]
      have hone := u8A_one (xorL x y)
      obtain ⟨fin, hfe⟩ : ∃ z, u8A (xorL x y) = z := ⟨_, rfl⟩
      rw [hfe] at hfull hfz hone
      have HFE := Lib.hid hfe
      have HFZ := Lib.hid hfz
      have HONE := Lib.hid hone
      have HRZ := Lib.hid hrz
      clear hfe hfz hone hrz G1 G2 G3
      go_wp2_with (first
        | (with_reducible refine wpList_load_blk rfl 48 (.tmp 2) rfl xb rfl 48 fin _ hfull Try.underlying48 rfl (by rw [HFZ.out]; kernel_rfl) ?_)
        | (with_reducible refine wpList_store_blk rfl 48 (.tmp 4) (.tmp 18) rfl rb fin rfl rfl 48 rs hrs (by rw [HFZ.out]; kernel_rfl) (by rw [HFZ.out, HRZ.out]) HONE.out ?_))
      refine bodyPost_ret (v := .agg fin) (results_cell_row (p := 4) (ty := 48) (by kernel_rfl) _ _ rb 48 _ (0, 0) _ rfl (hrs.row fin) Try.underlying48 rfl (by rw [HFZ.out]; kernel_rfl)) rfl ⟨by rw [HFE.out], ?_⟩
      rw [HW.out]
      exact below_row hbel (by have := hfull.lt; omega) (by omega) _
end Go.Proofs.Ytcajlmlblkdjoaa
