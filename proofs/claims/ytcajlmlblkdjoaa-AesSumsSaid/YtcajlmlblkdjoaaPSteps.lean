/- The program's twice of a byte, its turns of a byte, and what it makes of a byte's inverse. The program's sum of two blocks of AES. What the program's table has for each byte of a block of AES. The program's turning of the rows of a block of AES. -/
import Derived.Test.YtcajlmlblkdjoaaAesB
import Derived.Test.YtcajlmlblkdjoaaU8
import Derived.BigQuiet
import Derived.RegionTactic
import Derived.IntWalk
import Derived.BigRegion
import Derived.Deep.RegionHeld3
import Derived.StillTailTactics
import Derived.Test.YtcajlmlblkdjoaaArrEq
namespace Go.Proofs.Ytcajlmlblkdjoaa
open Go.RowKit

theorem ret8 {a b : Int} (h : a = b) : Ending.returned (.int .u8 a) = .returned (.int .u8 b) := by rw [h]
theorem twU_other (x : UInt8) : bits .xor .u8 ((x.toNat : Int) * 2 % 256) ((x.toNat : Int) / 128 * 27) = ((twU x).toNat : Int) := by
  have hx := x.toNat_lt
  by_cases h : 128 ≤ x.toNat
  · rw [show (x.toNat : Int) / 128 * 27 = 27 by omega]
    exact (twU_val x).1 h
  · rw [show (x.toNat : Int) / 128 * 27 = ((0 : Nat) : Int) by omega, show (x.toNat : Int) * 2 % 256 = ((x.toNat * 2 : Nat) : Int) by omega, xor_u8 _ _ (by omega) (by decide), Nat.xor_zero]
    have := (twU_val x).2 (by omega)
    omega
set_option maxHeartbeats 400000 in
theorem double_any (x : UInt8) (w : World) :
    Calls Try.prog 34 #[.int .u8 (x.toNat : Int)] w fun e w' => e = .returned (.int .u8 ((twU x).toNat : Int)) ∧ w = w' := by
  have hx := x.toNat_lt
  go_enter Try.func34, Try.ntmps34
  go_wp2_with fail
  go_ret
  exact ⟨ret8 (twU_other x), rfl⟩
theorem and7 (k : Nat) (hk : k < 8) : bits .and .u64 (k : Int) 7 = (k : Int) := by
  have key : ∀ k : Fin 8, bits .and .u64 (k.val : Int) 7 = (k.val : Int) := by decide
  exact key ⟨k, hk⟩
set_option maxHeartbeats 400000 in
theorem rot8_any (x : UInt8) (k : Nat) (hk : k < 8) (w : World) :
    Calls Try.prog 40 #[.int .u8 (x.toNat : Int), .int .i64 (k : Int)] w fun e w' => e = .returned (.int .u8 (bits .or .u8 ((x.toNat : Int) * 2 ^ k % 256) ((x.toNat : Int) / 2 ^ (8 - k)))) ∧ w = w' := by
  have hx := x.toNat_lt
  have ha := and7 k hk
  have h8 : (0 : Int) ≤ 8 - (k : Int) := by omega
  have ht : (8 - (k : Int)).toNat = 8 - k := by omega
  go_enter Try.func40, Try.ntmps40
  go_wp2_with fail
  go_ret
  exact ⟨rfl, rfl⟩
theorem affU_one (x : UInt8) : bits .xor .u8 (x.toNat : Int) 99 = ((affU x 1).toNat : Int) := by
  have hx := x.toNat_lt
  rw [show (99 : Int) = ((99 : UInt8).toNat : Int) from rfl, xor_byte8]
  congr 2
  show x ^^^ 99 = 99 ^^^ UInt8.ofNat (x.toNat * 2 ^ 0 % 256 ||| x.toNat / 2 ^ (8 - 0))
  rw [Nat.pow_zero, Nat.mul_one, Nat.mod_eq_of_lt hx, Nat.div_eq_of_lt hx, Nat.or_zero, UInt8.ofNat_toNat, UInt8.xor_comm]
set_option maxHeartbeats 400000 in
theorem mixBits_any (x : UInt8) (w : World) :
    Calls Try.prog 32 #[.int .u8 (x.toNat : Int)] w fun e w' => e = .returned (.int .u8 ((affU x 5).toNat : Int)) ∧ w = w' := by
  have hx := x.toNat_lt
  have H1 := Lib.hid (affU_one x)
  go_enter Try.func32, Try.ntmps32
  go_wp2_with fail
  go_loop [3, 4] (fun s t => ∃ k : Nat, k ≤ 4 ∧ t = .int .i64 ((k : Int) + 1) ∧ s = .int .u8 ((affU x (k + 1)).toNat : Int)) (fun _ t => (5 - intOf t).toNat)
  case atStart => exact ⟨0, by omega, rfl, by rw [H1.out]⟩
  case round =>
    obtain ⟨k, hk, rfl, rfl⟩ := hrel
    by_cases hlt : k < 4
    · have hki : (k : Int) + 1 ≤ 4 := by omega
      have HV := Lib.hid (affU_val x (k + 1) (affU x (k + 1)))
      have HA := Lib.hid (show affU x (k + 1 + 1) = affU x (k + 1) ^^^ UInt8.ofNat (x.toNat * 2 ^ (k + 1) % 256 ||| x.toNat / 2 ^ (8 - (k + 1))) from rfl)
      have hs := (affU x (k + 1)).toNat_lt
      generalize affU x (k + 1) = s at *
      go_wp2_with fail
      refine (rot8_any x (k + 1) (by omega) _).mono ?_
      rintro e w' ⟨rfl, rfl⟩
      go_wp2_with fail
      go_round
      case rel => exact ⟨k + 1, by omega, by go_num, by rw [HA.out, ← HV.out, show 8 - (k + 1) = 7 - k by omega]⟩
      case measure => simp [intOf]; omega
    · obtain rfl : k = 4 := by omega
      go_wp2_with fail
      go_ret
      exact ⟨rfl, rfl⟩
end Go.Proofs.Ytcajlmlblkdjoaa
namespace Go.Proofs.Ytcajlmlblkdjoaa
open Go.RowKit

theorem pzero16 (w : World) : (zeroValue 48).run Try.prog w = .ok (.agg (u8A (List.replicate 16 0))) w := by kernel_rfl
def xorL (x y : List UInt8) : List UInt8 := (List.range 16).map fun n => x.getD n 0 ^^^ y.getD n 0
theorem xorL_len (x y : List UInt8) : (xorL x y).length = 16 := by simp [xorL]
theorem xorL_at (x y : List UInt8) {n : Nat} (h : n < 16) : (xorL x y).getD n 0 = x.getD n 0 ^^^ y.getD n 0 := map_getD _ 16 n h

theorem alloc2 (w : World) (A B : Array Value) (S T : TypeId) : Blk ((w.alloc (.cells A S)).alloc (.cells B T)) w.heap.size A S ∧ Blk ((w.alloc (.cells A S)).alloc (.cells B T)) (w.heap.size + 1) B T ∧ Below w.heap.size w ((w.alloc (.cells A S)).alloc (.cells B T)) := by
  have a2 := Blk.new (w.alloc (.cells A S)) B T
  simp only [World.size_alloc] at a2
  exact ⟨(Blk.new w A S).alloc _, a2, ((Below.refl _ _).alloc (Nat.le_refl _) _).alloc (by simp) _⟩
theorem alloc3 (w : World) (A B C : Array Value) (S T U : TypeId) : Blk (((w.alloc (.cells A S)).alloc (.cells B T)).alloc (.cells C U)) w.heap.size A S ∧ Blk (((w.alloc (.cells A S)).alloc (.cells B T)).alloc (.cells C U)) (w.heap.size + 1) B T ∧ Blk (((w.alloc (.cells A S)).alloc (.cells B T)).alloc (.cells C U)) (w.heap.size + 1 + 1) C U ∧ Below w.heap.size w (((w.alloc (.cells A S)).alloc (.cells B T)).alloc (.cells C U)) := by
  obtain ⟨h1, h2, h3⟩ := alloc2 w A B S T
  have a3 := Blk.new ((w.alloc (.cells A S)).alloc (.cells B T)) C U
  simp only [World.size_alloc] at a3
  exact ⟨h1.alloc _, h2.alloc _, a3, h3.alloc (by simp; omega) _⟩

set_option maxRecDepth 100000 in
set_option maxHeartbeats 4000000 in
theorem sumB_any (x y : List UInt8) (w : World) (hx : x.length = 16) (hy : y.length = 16) :
    Calls Try.prog 35 #[.agg (u8A x), .agg (u8A y)] w fun e w' => e = .returned (.agg (u8A (xorL x y))) ∧ Below w.heap.size w w' := by
  have hz := fun W => pzero16 W
  obtain ⟨Z, hZ⟩ : ∃ Z, u8A (List.replicate 16 0) = Z := ⟨_, rfl⟩
  rw [hZ] at hz
  have hzz : Z.size = 16 := by rw [← hZ, u8A_size]; exact List.length_replicate ..
  have HX := Lib.hid hx
  have HY := Lib.hid hy
  obtain ⟨xA, hxe⟩ : ∃ K, u8A x = K := ⟨_, rfl⟩
  obtain ⟨yA, hye⟩ : ∃ K, u8A y = K := ⟨_, rfl⟩
  rw [hxe, hye]
  have HZ := Lib.hid hZ
  have HZZ := Lib.hid hzz
  have HXE := Lib.hid hxe
  have HYE := Lib.hid hye
  clear hx hy hxe hye hZ hzz
  go_enter Try.func35, Try.ntmps35
  go_wp2_with fail
  obtain ⟨g1, g2, g3, hbel⟩ := alloc3 w xA yA Z 48 48 48
  generalize World.alloc (World.alloc (World.alloc w _) _) _ = w1 at *
  obtain ⟨xb, hxb⟩ : ∃ z, w.heap.size = z := ⟨_, rfl⟩
  rw [hxb] at g1 g2 g3 hbel ⊢
  obtain ⟨yb, hyb⟩ : ∃ z, xb + 1 = z := ⟨_, rfl⟩
  rw [hyb] at g2 g3 ⊢
  obtain ⟨rb, hrb⟩ : ∃ z, yb + 1 = z := ⟨_, rfl⟩
  rw [hrb] at g3 ⊢
  have hxy : xb < yb := by omega
  have hyr : yb < rb := by omega
  have HW := Lib.hid hxb
  have G1 := Lib.hid (show Blk w1 xb (u8A (part (xorL x y) x 0)) 48 by rw [part_zero, HXE.out]; exact g1)
  have G2 := Lib.hid (show Blk w1 yb (u8A y) 48 by rw [HYE.out]; exact g2)
  have G3 := Lib.hid (show ∃ rs, Blk w1 rb rs 48 ∧ rs.size = 16 from ⟨_, g3, HZZ.out⟩)
  clear g1 g2 g3 hxb hyb hrb hz
  go_loopw [6] (fun t wq => ∃ i : Nat, i ≤ 16 ∧ t = .int .i64 i ∧ Below xb w wq ∧ Hid (Blk wq xb (u8A (part (xorL x y) x i)) 48) ∧ Hid (Blk wq yb (u8A y) 48) ∧ Hid (∃ rs, Blk wq rb rs 48 ∧ rs.size = 16)) (fun t _ => 16 - (intOf t).toNat)
  case atStart => exact ⟨0, by omega, rfl, hbel, G1, G2, G3⟩
  case round =>
    clear hbel G1 G2 G3
    obtain ⟨i, hi, rfl, hbel, G1, G2, G3⟩ := hrel
    by_cases hlt : i < 16
    · have hii : (i : Int) < 16 := by omega
      have cx := G1.out.byteAt (i := i) (by rw [part_len (xorL_len x y) HX.out (by omega)]; exact hlt)
      rw [part_later (xorL_len x y) (by omega) (Nat.le_refl i)] at cx
      have cy := G2.out.byteAt (i := i) (by rw [HY.out]; exact hlt)
      have hf := G1.out.frozen i
      have HV := Lib.hid (show bits .xor .u8 ((x.getD i 0).toNat : Int) ((y.getD i 0).toNat : Int) = (((xorL x y).getD i 0).toNat : Int) by rw [xor_byte8, xorL_at x y hlt])
      have HPS := Lib.hid (part_set (xorL_len x y) HX.out hlt)
      generalize x.getD i 0 = a0 at *
      generalize y.getD i 0 = b0 at *
      go_wp2_with fail
      refine wp_region_noPanic ?_
      go_region
      refine NoPanic.normal ?_
      go_wp2_with fail
      go_roundw
      case rel =>
        refine ⟨i + 1, by omega, by go_num, (hbel.setCell (by simp) _).drew, Lib.hid ?_, Lib.hid (G2.out.other (by simp; omega) _), Lib.hid ?_⟩
        · rw [← HPS.out]
          exact G1.out.put _ HV.out
        · obtain ⟨rs, h, hz⟩ := G3.out
          exact ⟨rs, h.other (by simp; omega) _, hz⟩
      case measure => simp [intOf]; omega
    · obtain rfl : i = 16 := by omega
      have hge : ¬ ((16 : Nat) : Int) < 16 := by omega
      have hfull : Blk wr xb (u8A (xorL x y)) 48 := by
        have := G1.out
        rwa [part_full (xorL_len x y) HX.out] at this
      obtain ⟨rs, hrs, hrz⟩ := G3.out
      have hfz : (u8A (xorL x y)).size = 16 := by rw [u8A_size, xorL_len]
      have hone := u8A_one (xorL x y)
      obtain ⟨fin, hfe⟩ : ∃ z, u8A (xorL x y) = z := ⟨_, rfl⟩
      rw [hfe] at hfull hfz hone
      have HFE := Lib.hid hfe
      have HFZ := Lib.hid hfz
      have HONE := Lib.hid hone
      have HRZ := Lib.hid hrz
      clear hfe hfz hone hrz G1 G2 G3
      go_wp2_with (first
        | (with_reducible refine wpList_load_blk rfl 48 (.tmp 2) rfl xb rfl 48 fin _ hfull Try.underlying48 rfl (by rw [HFZ.out]; kernel_rfl) ?_)
        | (with_reducible refine wpList_store_blk rfl 48 (.tmp 4) (.tmp 18) rfl rb fin rfl rfl 48 rs hrs (by rw [HFZ.out]; kernel_rfl) (by rw [HFZ.out, HRZ.out]) HONE.out ?_))
      refine bodyPost_ret (v := .agg fin) (results_cell_row (p := 4) (ty := 48) (by kernel_rfl) _ _ rb 48 _ (0, 0) _ rfl (hrs.row fin) Try.underlying48 rfl (by rw [HFZ.out]; kernel_rfl)) rfl ⟨by rw [HFE.out], ?_⟩
      rw [HW.out]
      exact below_row hbel (by have := hfull.lt; omega) (by omega) _
end Go.Proofs.Ytcajlmlblkdjoaa
namespace Go.Proofs.Ytcajlmlblkdjoaa
open Go.RowKit

def sAll (x : List UInt8) : List UInt8 := (List.range 16).map fun n => sU (x.getD n 0)
theorem sAll_len (x : List UInt8) : (sAll x).length = 16 := by simp [sAll]
theorem sAll_at (x : List UInt8) {n : Nat} (h : n < 16) : (sAll x).getD n 0 = sU (x.getD n 0) := map_getD _ 16 n h

theorem run_index_byte {T : TypeId} {len : Nat} (hT : Try.prog.underlying T = some (.array len 5)) (W : World) (cs : Array Value) (i : Nat) (hi : i < len) {a : UInt8} (h : cs[i]? = some (.int .u8 (a.toNat : Int))) :
    (Instr.index T (.agg cs) (.int .i64 (i : Int))).run Try.prog W = .ok (.int .u8 (a.toNat : Int)) W := by
  have h3 : Try.prog.underlying 5 = some (.int .u8) := Try.underlying5
  have hs : (sizeOf 5).run Try.prog W = .ok 1 W := by
    obtain ⟨j, hq, _⟩ := infoByte
    rw [run_sizeOf W hq, show Try.prog.cellsOf 5 = 1 from by kernel_rfl]
  have hp : (Go.part 5 cs i).run Try.prog W = .ok (.int .u8 (a.toNat : Int)) W := by simp [Go.part, isAgg, run_underlying h3, h]
  have hii : (0 : Int) ≤ (i : Int) ∧ (i : Int) < (len : Int) := by omega
  simp [Instr.index, asIntOf, run_underlying hT, hii, hs, hp]
  intro h2
  omega

set_option maxRecDepth 100000 in
set_option maxHeartbeats 4000000 in
theorem replB_any (x : List UInt8) (sb : Nat) (w : World) (hx : x.length = 16) (hs : Blk w sb (u8A boxL) 43) :
    Calls Try.prog 38 #[.agg (u8A x), .pointer (some ⟨sb, 0, none⟩)] w fun e w' => e = .returned (.agg (u8A (sAll x))) ∧ Below w.heap.size w w' := by
  have hz := fun W => pzero16 W
  obtain ⟨Z, hZ⟩ : ∃ Z, u8A (List.replicate 16 0) = Z := ⟨_, rfl⟩
  rw [hZ] at hz
  have hzz : Z.size = 16 := by rw [← hZ, u8A_size]; exact List.length_replicate ..
  have hsw := hs.lt
  have HS := Lib.hid hs
  have HX := Lib.hid hx
  have hxz : (u8A x).size = 16 := by rw [u8A_size, hx]
  have hit : ∀ i, i < 16 → (u8A x)[i]? = some (.int .u8 ((x.getD i 0).toNat : Int)) := fun i hi => u8A_at (by rw [hx]; exact hi)
  obtain ⟨xA, hxe⟩ : ∃ K, u8A x = K := ⟨_, rfl⟩
  rw [hxe] at hxz hit ⊢
  have HZ := Lib.hid hZ
  have HZZ := Lib.hid hzz
  have HXE := Lib.hid hxe
  have HXZ := Lib.hid hxz
  have HIT := Lib.hid hit
  clear hx hxe hZ hzz hs hxz hit
  go_enter Try.func38, Try.ntmps38
  go_wp2_with (with_reducible refine wpList_load_blk rfl 48 (.tmp 2) rfl w.heap.size rfl 48 xA _ (alloc2 w xA Z 48 48).1 Try.underlying48 rfl (by rw [HXZ.out]; kernel_rfl) ?_)
  obtain ⟨g1, g3, hbel⟩ := alloc2 w xA Z 48 48
  have g2 := HS.out.below hbel hsw
  generalize World.alloc (World.alloc w _) _ = w1 at *
  obtain ⟨xb, hxb⟩ : ∃ z, w.heap.size = z := ⟨_, rfl⟩
  rw [hxb] at g1 g3 hbel hsw ⊢
  obtain ⟨rb, hrb⟩ : ∃ z, xb + 1 = z := ⟨_, rfl⟩
  rw [hrb] at g3 ⊢
  have hxr : xb < rb := by omega
  have HW := Lib.hid hxb
  have G1 := Lib.hid (show Blk w1 xb (u8A (part (sAll x) x 0)) 48 by rw [part_zero, HXE.out]; exact g1)
  have G2 := Lib.hid g2
  have G3 := Lib.hid (show ∃ rs, Blk w1 rb rs 48 ∧ rs.size = 16 from ⟨_, g3, HZZ.out⟩)
  clear g1 g2 g3 hxb hrb hz HS
  go_loopw [8] (fun t wq => ∃ i : Nat, i ≤ 16 ∧ t = .int .i64 i ∧ Below xb w wq ∧ Hid (Blk wq xb (u8A (part (sAll x) x i)) 48) ∧ Hid (Blk wq sb (u8A boxL) 43) ∧ Hid (∃ rs, Blk wq rb rs 48 ∧ rs.size = 16)) (fun t _ => 16 - (intOf t).toNat)
  case atStart => exact ⟨0, by omega, rfl, hbel, G1, G2, G3⟩
  case round =>
    clear hbel G1 G2 G3
    obtain ⟨i, hi, rfl, hbel, G1, G2, G3⟩ := hrel
    by_cases hlt : i < 16
    · have hii : (i : Int) < 16 := by omega
      have hie := fun W => run_index_byte Try.underlying48 W xA i hlt (HIT.out i hlt)
      have hy := (x.getD i 0).toNat_lt
      have cs := G2.out.byteAt (i := (x.getD i 0).toNat) (by rw [boxL_len]; exact hy)
      have hf := G1.out.frozen i
      obtain ⟨o, ho⟩ : ∃ old, wr.cell? ⟨xb, i, none⟩ = some old := ⟨_, G1.out.byteAt (i := i) (by rw [part_len (sAll_len x) HX.out (by omega)]; exact hlt)⟩
      have HV := Lib.hid (show boxL.getD (x.getD i 0).toNat 0 = (sAll x).getD i 0 by rw [sAll_at x hlt]; rfl)
      have HPS := Lib.hid (part_set (sAll_len x) HX.out hlt)
      generalize boxL.getD (x.getD i 0).toNat 0 = b0 at *
      generalize x.getD i 0 = a0 at *
      go_wp2_with fail
      go_roundw
      case rel =>
        refine ⟨i + 1, by omega, by go_num, hbel.setCell (by simp) _, Lib.hid ?_, Lib.hid (G2.out.other (by simp; omega) _), Lib.hid ?_⟩
        · rw [← HPS.out, ← HV.out]
          exact G1.out.put _ rfl
        · obtain ⟨rs, h, hz⟩ := G3.out
          exact ⟨rs, h.other (by simp; omega) _, hz⟩
      case measure => simp [intOf]; omega
    · obtain rfl : i = 16 := by omega
      have hge : ¬ ((16 : Nat) : Int) < 16 := by omega
      have hfull : Blk wr xb (u8A (sAll x)) 48 := by
        have := G1.out
        rwa [part_full (sAll_len x) HX.out] at this
      obtain ⟨rs, hrs, hrz⟩ := G3.out
      have hfz : (u8A (sAll x)).size = 16 := by rw [u8A_size, sAll_len]
      have hone := u8A_one (sAll x)
      obtain ⟨fin, hfe⟩ : ∃ z, u8A (sAll x) = z := ⟨_, rfl⟩
      rw [hfe] at hfull hfz hone
      have HFE := Lib.hid hfe
      have HFZ := Lib.hid hfz
      have HONE := Lib.hid hone
      have HRZ := Lib.hid hrz
      clear hfe hfz hone hrz G1 G2 G3
      go_wp2_with (first
        | (with_reducible refine wpList_load_blk rfl 48 (.tmp 2) rfl xb rfl 48 fin _ hfull Try.underlying48 rfl (by rw [HFZ.out]; kernel_rfl) ?_)
        | (with_reducible refine wpList_store_blk rfl 48 (.tmp 4) (.tmp 20) rfl rb fin rfl rfl 48 rs hrs (by rw [HFZ.out]; kernel_rfl) (by rw [HFZ.out, HRZ.out]) HONE.out ?_))
      refine bodyPost_ret (v := .agg fin) (results_cell_row (p := 4) (ty := 48) (by kernel_rfl) _ _ rb 48 _ (0, 0) _ rfl (hrs.row fin) Try.underlying48 rfl (by rw [HFZ.out]; kernel_rfl)) rfl ⟨by rw [HFE.out], ?_⟩
      rw [HW.out]
      exact below_row hbel (by have := hfull.lt; omega) (by omega) _
end Go.Proofs.Ytcajlmlblkdjoaa
namespace Go.Proofs.Ytcajlmlblkdjoaa
open Go.RowKit

def turnL (x : List UInt8) : List UInt8 := (List.range 16).map fun n => x.getD ((n + n % 4 * 4) % 16) 0
theorem turnL_len (x : List UInt8) : (turnL x).length = 16 := by simp [turnL]
theorem turnL_at (x : List UInt8) {n : Nat} (h : n < 16) : (turnL x).getD n 0 = x.getD ((n + n % 4 * 4) % 16) 0 := map_getD _ 16 n h

set_option maxRecDepth 100000 in
set_option maxHeartbeats 4000000 in
theorem turnB_any (x : List UInt8) (w : World) (hx : x.length = 16) :
    Calls Try.prog 37 #[.agg (u8A x)] w fun e w' => e = .returned (.agg (u8A (turnL x))) ∧ Below w.heap.size w w' := by
  have hz := fun W => pzero16 W
  obtain ⟨Z, hZ⟩ : ∃ Z, u8A (List.replicate 16 0) = Z := ⟨_, rfl⟩
  rw [hZ] at hz
  have hzz : Z.size = 16 := by rw [← hZ, u8A_size]; exact List.length_replicate ..
  have HX := Lib.hid hx
  obtain ⟨xA, hxe⟩ : ∃ K, u8A x = K := ⟨_, rfl⟩
  rw [hxe]
  have HZ := Lib.hid hZ
  have HZZ := Lib.hid hzz
  have HXE := Lib.hid hxe
  clear hx hxe hZ hzz
  go_enter Try.func37, Try.ntmps37
  go_wp2_with fail
  obtain ⟨g1, g2, g3, hbel⟩ := alloc3 w xA Z Z 48 48 48
  generalize World.alloc (World.alloc (World.alloc w _) _) _ = w1 at *
  obtain ⟨xb, hxb⟩ : ∃ z, w.heap.size = z := ⟨_, rfl⟩
  rw [hxb] at g1 g2 g3 hbel ⊢
  obtain ⟨rb, hrb⟩ : ∃ z, xb + 1 = z := ⟨_, rfl⟩
  rw [hrb] at g2 g3 ⊢
  obtain ⟨tb, htb⟩ : ∃ z, rb + 1 = z := ⟨_, rfl⟩
  rw [htb] at g3 ⊢
  have hxr : xb < rb := by omega
  have hrt : rb < tb := by omega
  have HW := Lib.hid hxb
  have z16 : (List.replicate 16 (0 : UInt8)).length = 16 := List.length_replicate ..
  have HZL := Lib.hid z16
  have G1 := Lib.hid (show Blk w1 xb (u8A x) 48 by rw [HXE.out]; exact g1)
  have G2 := Lib.hid (show Blk w1 tb (u8A (part (turnL x) (List.replicate 16 0) 0)) 48 by rw [part_zero, HZ.out]; exact g3)
  have G3 := Lib.hid (show ∃ rs, Blk w1 rb rs 48 ∧ rs.size = 16 from ⟨_, g2, HZZ.out⟩)
  clear g1 g2 g3 hxb hrb htb hz z16
  go_loopw [6] (fun t wq => ∃ i : Nat, i ≤ 16 ∧ t = .int .i64 i ∧ Below xb w wq ∧ Hid (Blk wq xb (u8A x) 48) ∧ Hid (Blk wq tb (u8A (part (turnL x) (List.replicate 16 0) i)) 48) ∧ Hid (∃ rs, Blk wq rb rs 48 ∧ rs.size = 16)) (fun t _ => 16 - (intOf t).toNat)
  case atStart => exact ⟨0, by omega, rfl, hbel, G1, G2, G3⟩
  case round =>
    clear hbel G1 G2 G3
    obtain ⟨i, hi, rfl, hbel, G1, G2, G3⟩ := hrel
    by_cases hlt : i < 16
    · have hii : (i : Int) < 16 := by omega
      obtain ⟨m, hm⟩ : ∃ m, (i + i % 4 * 4) % 16 = m := ⟨_, rfl⟩
      have m2 : (((i : Int) + (i : Int) % 4 * 4) % 16).toNat = m := by omega
      have m0 : (0 : Int) ≤ ((i : Int) + (i : Int) % 4 * 4) % 16 := by omega
      have m1 : ((i : Int) + (i : Int) % 4 * 4) % 16 < 16 := by omega
      have hml : m < 16 := by omega
      have cx := G1.out.byteAt (i := m) (by rw [HX.out]; exact hml)
      have hf := G2.out.frozen i
      obtain ⟨o, ho⟩ : ∃ old, wr.cell? ⟨tb, i, none⟩ = some old := ⟨_, G2.out.byteAt (i := i) (by rw [part_len (turnL_len x) HZL.out (by omega)]; exact hlt)⟩
      have HV := Lib.hid (show x.getD m 0 = (turnL x).getD i 0 by rw [turnL_at x hlt, hm])
      have HPS := Lib.hid (part_set (turnL_len x) HZL.out hlt)
      generalize x.getD m 0 = a0 at *
      clear hm
      go_wp2_with fail
      go_roundw
      case rel =>
        refine ⟨i + 1, by omega, by go_num, hbel.setCell (by simp; omega) _, Lib.hid (G1.out.other (by simp; omega) _), Lib.hid ?_, Lib.hid ?_⟩
        · rw [← HPS.out, ← HV.out]
          exact G2.out.put _ rfl
        · obtain ⟨rs, h, hz⟩ := G3.out
          exact ⟨rs, h.other (by simp; omega) _, hz⟩
      case measure => simp [intOf]; omega
    · obtain rfl : i = 16 := by omega
      have hge : ¬ ((16 : Nat) : Int) < 16 := by omega
      have hfull : Blk wr tb (u8A (turnL x)) 48 := by
        have := G2.out
        rwa [part_full (turnL_len x) HZL.out] at this
      obtain ⟨rs, hrs, hrz⟩ := G3.out
      have hfz : (u8A (turnL x)).size = 16 := by rw [u8A_size, turnL_len]
      have hone := u8A_one (turnL x)
      obtain ⟨fin, hfe⟩ : ∃ z, u8A (turnL x) = z := ⟨_, rfl⟩
      rw [hfe] at hfull hfz hone
      have HFE := Lib.hid hfe
      have HFZ := Lib.hid hfz
      have HONE := Lib.hid hone
      have HRZ := Lib.hid hrz
      clear hfe hfz hone hrz G1 G2 G3
      go_wp2_with (first
        | (with_reducible refine wpList_load_blk rfl 48 (.tmp 3) rfl tb rfl 48 fin _ hfull Try.underlying48 rfl (by rw [HFZ.out]; kernel_rfl) ?_)
        | (with_reducible refine wpList_store_blk rfl 48 (.tmp 2) (.tmp 21) rfl rb fin rfl rfl 48 rs hrs (by rw [HFZ.out]; kernel_rfl) (by rw [HFZ.out, HRZ.out]) HONE.out ?_))
      refine bodyPost_ret (v := .agg fin) (results_cell_row (p := 2) (ty := 48) (by kernel_rfl) _ _ rb 48 _ (0, 0) _ rfl (hrs.row fin) Try.underlying48 rfl (by rw [HFZ.out]; kernel_rfl)) rfl ⟨by rw [HFE.out], ?_⟩
      rw [HW.out]
      exact below_row hbel (by have := hfull.lt; omega) (by omega) _
end Go.Proofs.Ytcajlmlblkdjoaa
