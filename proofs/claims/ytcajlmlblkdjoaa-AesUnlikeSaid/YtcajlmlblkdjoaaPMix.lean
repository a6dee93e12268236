/- The program's mixing of the columns of a block of AES. -/
import Derived.Test.YtcajlmlblkdjoaaPSteps
import Derived.BigQuiet
import Derived.StillTailTactics
namespace Go.Proofs.Ytcajlmlblkdjoaa
open Go.RowKit

def xAll (x : List UInt8) (f : Nat) : UInt8 := x.getD f 0 ^^^ x.getD (f + 1) 0 ^^^ x.getD (f + 2) 0 ^^^ x.getD (f + 3) 0
def mixL (x : List UInt8) : List UInt8 := (List.range 16).map fun n => x.getD n 0 ^^^ xAll x (n - n % 4) ^^^ twU (x.getD n 0 ^^^ x.getD (n - n % 4 + (n + 1) % 4) 0)
theorem mixL_len (x : List UInt8) : (mixL x).length = 16 := by simp [mixL]
theorem mixL_at (x : List UInt8) {n : Nat} (h : n < 16) : (mixL x).getD n 0 = x.getD n 0 ^^^ xAll x (n - n % 4) ^^^ twU (x.getD n 0 ^^^ x.getD (n - n % 4 + (n + 1) % 4) 0) := map_getD _ 16 n h
theorem xor4_val (a b c d : UInt8) : bits .xor .u8 (bits .xor .u8 (bits .xor .u8 (a.toNat : Int) (b.toNat : Int)) (c.toNat : Int)) (d.toNat : Int) = ((a ^^^ b ^^^ c ^^^ d).toNat : Int) := by
  rw [xor_byte8, xor_byte8, xor_byte8]

set_option maxRecDepth 100000 in
set_option maxHeartbeats 4000000 in
theorem mixB_any (x : List UInt8) (w : World) (hx : x.length = 16) :
    Calls Try.prog 36 #[.agg (u8A x)] w fun e w' => e = .returned (.agg (u8A (mixL x))) ∧ Below w.heap.size w w' := by
  have hz := fun W => pzero16 W
  obtain ⟨Z, hZ⟩ : ∃ Z, u8A (List.replicate 16 0) = Z := ⟨_, rfl⟩
  rw [hZ] at hz
  have hzz : Z.size = 16 := by rw [← hZ, u8A_size]; exact List.length_replicate ..
  have HX := Lib.hid hx
  obtain ⟨xA, hxe⟩ : ∃ K, u8A x = K := ⟨_, rfl⟩
  rw [hxe]
  have HZ := Lib.hid hZ
  have HZZ := Lib.hid hzz
  have HXE := Lib.hid hxe
  clear hx hxe hZ hzz
  go_enter Try.func36, Try.ntmps36
  go_wp2_with fail
  obtain ⟨g1, g2, g3, hbel⟩ := alloc3 w xA Z Z 48 48 48
  generalize World.alloc (World.alloc (World.alloc w _) _) _ = w1 at *
  obtain ⟨xb, hxb⟩ : ∃ z, w.heap.size = z := ⟨_, rfl⟩
  rw [hxb] at g1 g2 g3 hbel ⊢
  obtain ⟨rb, hrb⟩ : ∃ z, xb + 1 = z := ⟨_, rfl⟩
  rw [hrb] at g2 g3 ⊢
  obtain ⟨tb, htb⟩ : ∃ z, rb + 1 = z := ⟨_, rfl⟩
  rw [htb] at g3 ⊢
  have hxr : xb < rb := by omega
  have hrt : rb < tb := by omega
  have HW := Lib.hid hxb
  have z16 : (List.replicate 16 (0 : UInt8)).length = 16 := List.length_replicate ..
  have HZL := Lib.hid z16
  have G1 := Lib.hid (show Blk w1 xb (u8A x) 48 by rw [HXE.out]; exact g1)
  have G2 := Lib.hid (show Blk w1 tb (u8A (part (mixL x) (List.replicate 16 0) 0)) 48 by rw [part_zero, HZ.out]; exact g3)
  have G3 := Lib.hid (show ∃ rs, Blk w1 rb rs 48 ∧ rs.size = 16 from ⟨_, g2, HZZ.out⟩)
  clear g1 g2 g3 hxb hrb htb hz z16
  go_loopw [8] (fun t wq => ∃ i : Nat, i ≤ 16 ∧ t = .int .i64 i ∧ Below xb w wq ∧ Hid (Blk wq xb (u8A x) 48) ∧ Hid (Blk wq tb (u8A (part (mixL x) (List.replicate 16 0) i)) 48) ∧ Hid (∃ rs, Blk wq rb rs 48 ∧ rs.size = 16)) (fun t _ => 16 - (intOf t).toNat)
  case atStart => exact ⟨0, by omega, rfl, hbel, G1, G2, G3⟩
  case round =>
    clear hbel G1 G2 G3
    obtain ⟨i, hi, rfl, hbel, G1, G2, G3⟩ := hrel
    by_cases hlt : i < 16
    · have hii : (i : Int) < 16 := by omega
      obtain ⟨f, hfm⟩ : ∃ f, i - i % 4 = f := ⟨_, rfl⟩
      obtain ⟨m, hm⟩ : ∃ m, f + (i + 1) % 4 = m := ⟨_, rfl⟩
      have f0 : (i : Int) - (i : Int) % 4 = (f : Int) := by omega
      have fl : f + 3 < 16 := by omega
      have m1 : (f : Int) + ((i : Int) + 1) % 4 = (m : Int) := by omega
      have ml : m < 16 := by omega
      have c0 := G1.out.byteAt (i := f) (by rw [HX.out]; omega)
      have c1 := G1.out.byteAt (i := f + 1) (by rw [HX.out]; omega)
      have c2 := G1.out.byteAt (i := f + 2) (by rw [HX.out]; omega)
      have c3 := G1.out.byteAt (i := f + 3) (by rw [HX.out]; omega)
      have cm := G1.out.byteAt (i := m) (by rw [HX.out]; omega)
      have ci := G1.out.byteAt (i := i) (by rw [HX.out]; omega)
      have hf := G2.out.frozen i
      obtain ⟨o, ho⟩ : ∃ old, wr.cell? ⟨tb, i, none⟩ = some old := ⟨_, G2.out.byteAt (i := i) (by rw [part_len (mixL_len x) HZL.out (by omega)]; exact hlt)⟩
      obtain ⟨al, hal⟩ : ∃ z, x.getD f 0 ^^^ x.getD (f + 1) 0 ^^^ x.getD (f + 2) 0 ^^^ x.getD (f + 3) 0 = z := ⟨_, rfl⟩
      have HV := Lib.hid (show x.getD i 0 ^^^ (x.getD f 0 ^^^ x.getD (f + 1) 0 ^^^ x.getD (f + 2) 0 ^^^ x.getD (f + 3) 0) ^^^ twU (x.getD i 0 ^^^ x.getD m 0) = (mixL x).getD i 0 by rw [mixL_at x hlt, hfm, hm]; rfl)
      rw [hal] at HV
      have HPS := Lib.hid (part_set (mixL_len x) HZL.out hlt)
      have hx4 := Lib.hid (xor4_val (x.getD f 0) (x.getD (f + 1) 0) (x.getD (f + 2) 0) (x.getD (f + 3) 0))
      rw [hal] at hx4
      clear hal
      generalize x.getD f 0 = a0 at *
      generalize x.getD (f + 1) 0 = a1 at *
      generalize x.getD (f + 2) 0 = a2 at *
      generalize x.getD (f + 3) 0 = a3 at *
      generalize x.getD m 0 = am at *
      generalize x.getD i 0 = ai at *
      have HD := Lib.hid (fun W => (show Calls Try.prog 34 #[.int .u8 (bits .xor .u8 (ai.toNat : Int) (am.toNat : Int))] W fun e w' => e = .returned (.int .u8 ((twU (ai ^^^ am)).toNat : Int)) ∧ w' = W by
        rw [xor_byte8]
        exact (double_any (ai ^^^ am) W).mono fun e w' h => ⟨h.1, h.2.symm⟩))
      clear hm hfm
      go_wp2_with fail
      have w1 : IntKind.i64.wrap ((f : Int) + 1) = (f : Int) + 1 := IntWalk.i64_in _ (by omega)
      have w2 : IntKind.i64.wrap ((f : Int) + 2) = (f : Int) + 2 := IntWalk.i64_in _ (by omega)
      have w3 : IntKind.i64.wrap ((f : Int) + 3) = (f : Int) + 3 := IntWalk.i64_in _ (by omega)
      have p1 : (0 : Int) ≤ (f : Int) + 1 := by omega
      have p2 : (0 : Int) ≤ (f : Int) + 2 := by omega
      have p3 : (0 : Int) ≤ (f : Int) + 3 := by omega
      have l0 : (f : Int) < 16 := by omega
      have l1 : (f : Int) + 1 < 16 := by omega
      have l2 : (f : Int) + 2 < 16 := by omega
      have l3 : (f : Int) + 3 < 16 := by omega
      have t1 : ((f : Int) + 1).toNat = f + 1 := by omega
      have t2 : ((f : Int) + 2).toNat = f + 2 := by omega
      have t3 : ((f : Int) + 3).toNat = f + 3 := by omega
      go_quiet (fail)
      rw [hx4.out]
      have hst : (wr.drewN nq).cell? ⟨xb, i, none⟩ = some (.int .u8 (ai.toNat : Int)) ∧ (wr.drewN nq).cell? ⟨tb, i, none⟩ = some o ∧ (wr.drewN nq).frozen? ⟨tb, i, none⟩ = false ∧ Blk (wr.drewN nq) xb (u8A x) 48 ∧ Blk (wr.drewN nq) tb (u8A (part (mixL x) (List.replicate 16 0) i)) 48 ∧ (∃ rs, Blk (wr.drewN nq) rb rs 48 ∧ rs.size = 16) ∧ Below xb w (wr.drewN nq) := ⟨ci, ho, hf, G1.out.drewN nq, G2.out.drewN nq, G3.out, below_drewN hbel nq⟩
      generalize wr.drewN nq = w4 at *
      obtain ⟨ci, ho, hf, g1, g2, g3, hbel4⟩ := hst
      have G1 := Lib.hid g1
      have G2 := Lib.hid g2
      have G3 := Lib.hid g3
      clear g1 g2 g3 w1 w2 w3 p1 p2 p3 l0 l1 l2 l3 t1 t2 t3 c0 c1 c2 c3
      go_wp2_with fail
      go_still_tail 13, (by kernel_rfl)
      still_call (HD.out _)
      repeat still_step
      refine wpStill_nil ?_
      change wpList _ _ _ _ _ w4.drew
      have hst : w4.drew.cell? ⟨tb, i, none⟩ = some o ∧ w4.drew.frozen? ⟨tb, i, none⟩ = false ∧ Blk w4.drew xb (u8A x) 48 ∧ Blk w4.drew tb (u8A (part (mixL x) (List.replicate 16 0) i)) 48 ∧ (∃ rs, Blk w4.drew rb rs 48 ∧ rs.size = 16) ∧ Below xb w w4.drew := ⟨ho, hf, G1.out, G2.out, G3.out, hbel4.drew⟩
      clear ci ho hf G1 G2 G3 hbel4
      generalize w4.drew = w5 at hst ⊢
      obtain ⟨ho, hf, g1, g2, g3, hbel5⟩ := hst
      have G1 := Lib.hid g1
      have G2 := Lib.hid g2
      have G3 := Lib.hid g3
      have HV2 := Lib.hid (show bits .xor .u8 (bits .xor .u8 (ai.toNat : Int) (al.toNat : Int)) ((twU (ai ^^^ am)).toNat : Int) = (((mixL x).getD i 0).toNat : Int) by rw [xor_byte8, xor_byte8, HV.out])
      clear g1 g2 g3 HD
      go_wp2_with fail
      go_roundw
      case rel =>
        refine ⟨i + 1, by omega, by go_num, hbel5.setCell (by simp; omega) _, Lib.hid (G1.out.other (by simp; omega) _), Lib.hid ?_, Lib.hid ?_⟩
        · rw [← HPS.out, HV2.out]
          exact G2.out.put _ rfl
        · obtain ⟨rs, h, hz⟩ := G3.out
          exact ⟨rs, h.other (by simp; omega) _, hz⟩
      case measure => simp [intOf]; omega
    · obtain rfl : i = 16 := by omega
      have hge : ¬ ((16 : Nat) : Int) < 16 := by omega
      have hfull : Blk wr tb (u8A (mixL x)) 48 := by
        have := G2.out
        rwa [part_full (mixL_len x) HZL.out] at this
      obtain ⟨rs, hrs, hrz⟩ := G3.out
      have hfz : (u8A (mixL x)).size = 16 := by rw [u8A_size, mixL_len]
      have hone := u8A_one (mixL x)
      obtain ⟨fin, hfe⟩ : ∃ z, u8A (mixL x) = z := ⟨_, rfl⟩
      rw [hfe] at hfull hfz hone
      have HFE := Lib.hid hfe
      have HFZ := Lib.hid hfz
      have HONE := Lib.hid hone
      have HRZ := Lib.hid hrz
      clear hfe hfz hone hrz G1 G2 G3
      go_wp2_with (first
        | (with_reducible refine wpList_load_blk rfl 48 (.tmp 3) rfl tb rfl 48 fin _ hfull Try.underlying48 rfl (by rw [HFZ.out]; kernel_rfl) ?_)
        | (with_reducible refine wpList_store_blk rfl 48 (.tmp 2) (.tmp 55) rfl rb fin rfl rfl 48 rs hrs (by rw [HFZ.out]; kernel_rfl) (by rw [HFZ.out, HRZ.out]) HONE.out ?_))
      refine bodyPost_ret (v := .agg fin) (results_cell_row (p := 2) (ty := 48) (by kernel_rfl) _ _ rb 48 _ (0, 0) _ rfl (hrs.row fin) Try.underlying48 rfl (by rw [HFZ.out]; kernel_rfl)) rfl ⟨by rw [HFE.out], ?_⟩
      rw [HW.out]
      exact below_row hbel (by have := hfull.lt; omega) (by omega) _
end Go.Proofs.Ytcajlmlblkdjoaa
