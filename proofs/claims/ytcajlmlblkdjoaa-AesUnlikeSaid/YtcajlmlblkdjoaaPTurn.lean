/- The program's turning of the rows of a block of AES. -/
import Derived.Test.YtcajlmlblkdjoaaPRepl
namespace Go.Proofs.Ytcajlmlblkdjoaa
open Go.RowKit

def turnL (x : List UInt8) : List UInt8 := (List.range 16).map fun n => x.getD ((n + n % 4 * 4) % 16) 0
theorem turnL_len (x : List UInt8) : (turnL x).length = 16 := by simp [turnL]
theorem turnL_at (x : List UInt8) {n : Nat} (h : n < 16) : (turnL x).getD n 0 = x.getD ((n + n % 4 * 4) % 16) 0 := map_getD _ 16 n h

set_option maxRecDepth 100000 in
set_option maxHeartbeats 4000000 in
theorem turnB_any (x : List UInt8) (w : World) (hx : x.length = 16) :
    Calls Try.prog 37 #[.agg (u8A x)] w fun e w' => e = .returned (.agg (u8A (turnL x))) ∧ Below w.heap.size w w' := by
  have hz := fun W => pzero16 W
  obtain ⟨Z, hZ⟩ : ∃ Z, u8A (List.replicate 16 0) = Z := ⟨_, rfl⟩
  rw [hZ] at hz
  have hzz : Z.size = 16 := by rw [← hZ, u8A_size]; exact List.length_replicate ..
  have HX := Lib.hid hx
  obtain ⟨xA, hxe⟩ : ∃ K, u8A x = K := ⟨_, rfl⟩
  rw [hxe]
  have HZ := Lib.hid hZ
  have HZZ := Lib.hid hzz
  have HXE := Lib.hid hxe
  clear hx hxe hZ hzz
  go_enter Try.func37, Try.ntmps37
  go_wp2_with fail
  obtain ⟨g1, g2, g3, hbel⟩ := alloc3 w xA Z Z 48 48 48
  generalize World.alloc (World.alloc (World.alloc w _) _) _ = w1 at *
  obtain ⟨xb, hxb⟩ : ∃ z, w.heap.size = z := ⟨_, rfl⟩
  rw [hxb] at g1 g2 g3 hbel ⊢
  obtain ⟨rb, hrb⟩ : ∃ z, xb + 1 = z := ⟨_, rfl⟩
  rw [hrb] at g2 g3 ⊢
  obtain ⟨tb, htb⟩ : ∃ z, rb + 1 = z := ⟨_, rfl⟩
  rw [htb] at g3 ⊢
  have hxr : xb < rb := by omega
  have hrt : rb < tb := by omega
  have HW := Lib.hid hxb
  have z16 : (List.replicate 16 (0 : UInt8)).length = 16 := List.length_replicate ..
  have HZL := Lib.hid z16
  have G1 := Lib.hid (show Blk w1 xb (u8A x) 48 by rw [HXE.out]; exact g1)
  have G2 := Lib.hid (show Blk w1 tb (u8A (part (turnL x) (List.replicate 16 0) 0)) 48 by rw [part_zero, HZ.out]; exact g3)
  have G3 := Lib.hid (show ∃ rs, Blk w1 rb rs 48 ∧ rs.size = 16 from ⟨_, g2, HZZ.out⟩)
  clear g1 g2 g3 hxb hrb htb hz z16
  go_loopw [6] (fun t wq => ∃ i : Nat, i ≤ 16 ∧ t = .int .i64 i ∧ Below xb w wq ∧ Hid (Blk wq xb (u8A x) 48) ∧ Hid (Blk wq tb (u8A (part (turnL x) (List.replicate 16 0) i)) 48) ∧ Hid (∃ rs, Blk wq rb rs 48 ∧ rs.size = 16)) (fun t _ => 16 - (intOf t).toNat)
  case atStart => exact ⟨0, by omega, rfl, hbel, G1, G2, G3⟩
  case round =>
    clear hbel G1 G2 G3
    obtain ⟨i, hi, rfl, hbel, G1, G2, G3⟩ := hrel
    by_cases hlt : i < 16
    · have hii : (i : Int) < 16 := by omega
      obtain ⟨m, hm⟩ : ∃ m, (i + i % 4 * 4) % 16 = m := ⟨_, rfl⟩
      have m2 : (((i : Int) + (i : Int) % 4 * 4) % 16).toNat = m := by omega
      have m0 : (0 : Int) ≤ ((i : Int) + (i : Int) % 4 * 4) % 16 := by omega
      have m1 : ((i : Int) + (i : Int) % 4 * 4) % 16 < 16 := by omega
      have hml : m < 16 := by omega
      have cx := G1.out.byteAt (i := m) (by rw [HX.out]; exact hml)
      have hf := G2.out.frozen i
      obtain ⟨o, ho⟩ : ∃ old, wr.cell? ⟨tb, i, none⟩ = some old := ⟨_, G2.out.byteAt (i := i) (by rw [part_len (turnL_len x) HZL.out (by omega)]; exact hlt)⟩
      have HV := Lib.hid (show x.getD m 0 = (turnL x).getD i 0 by rw [turnL_at x hlt, hm])
      have HPS := Lib.hid (part_set (turnL_len x) HZL.out hlt)
      generalize x.getD m 0 = a0 at *
      clear hm
      go_wp2_with fail
      go_roundw
      case rel =>
        refine ⟨i + 1, by omega, by go_num, hbel.setCell (by simp; omega) _, Lib.hid (G1.out.other (by simp; omega) _), Lib.hid ?_, Lib.hid ?_⟩
        · rw [← HPS.out, ← HV.out]
          exact G2.out.put _ rfl
        · obtain ⟨rs, h, hz⟩ := G3.out
          exact ⟨rs, h.other (by simp; omega) _, hz⟩
      case measure => simp [intOf]; omega
    · obtain rfl : i = 16 := by omega
      have hge : ¬ ((16 : Nat) : Int) < 16 := by omega
      have hfull : Blk wr tb (u8A (turnL x)) 48 := by
        have := G2.out
        rwa [part_full (turnL_len x) HZL.out] at this
      obtain ⟨rs, hrs, hrz⟩ := G3.out
      have hfz : (u8A (turnL x)).size = 16 := by rw [u8A_size, turnL_len]
      have hone := u8A_one (turnL x)
      obtain ⟨fin, hfe⟩ : ∃ z, u8A (turnL x) = z := ⟨_, rfl⟩
      rw [hfe] at hfull hfz hone
      have HFE := Lib.hid hfe
      have HFZ := Lib.hid hfz
      have HONE := Lib.hid hone
      have HRZ := Lib.hid hrz
      clear hfe hfz hone hrz G1 G2 G3
      go_wp2_with (first
        | (with_reducible refine wpList_load_blk rfl 48 (.tmp 3) rfl tb rfl 48 fin _ hfull Try.underlying48 rfl (by rw [HFZ.out]; kernel_rfl) ?_)
        | (with_reducible refine wpList_store_blk rfl 48 (.tmp 2) (.tmp 21) rfl rb fin rfl rfl 48 rs hrs (by rw [HFZ.out]; kernel_rfl) (by rw [HFZ.out, HRZ.out]) HONE.out ?_))
      refine bodyPost_ret (v := .agg fin) (results_cell_row (p := 2) (ty := 48) (by kernel_rfl) _ _ rb 48 _ (0, 0) _ rfl (hrs.row fin) Try.underlying48 rfl (by rw [HFZ.out]; kernel_rfl)) rfl ⟨by rw [HFE.out], ?_⟩
      rw [HW.out]
      exact below_row hbel (by have := hfull.lt; omega) (by omega) _
end Go.Proofs.Ytcajlmlblkdjoaa
