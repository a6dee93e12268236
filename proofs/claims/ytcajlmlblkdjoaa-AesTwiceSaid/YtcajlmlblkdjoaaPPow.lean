/- The program's list of the powers of 3 in AES's field. -/
import Derived.Test.YtcajlmlblkdjoaaPRepl
namespace Go.Proofs.Ytcajlmlblkdjoaa
open Go.RowKit

theorem pzero255 (w : World) : (zeroValue 58).run Try.prog w = .ok (.agg (u8A (List.replicate 255 0))) w := by kernel_rfl
set_option maxRecDepth 100000 in
set_option maxHeartbeats 4000000 in
theorem powers_any (w : World) :
    Calls Try.prog 31 #[] w fun e w' => e = .returned (.agg (u8A (powT 255))) ∧ Below w.heap.size w w' := by
  have hz := fun W => pzero255 W
  obtain ⟨Z, hZ⟩ : ∃ Z, u8A (List.replicate 255 0) = Z := ⟨_, rfl⟩
  rw [hZ] at hz
  have hzz : Z.size = 255 := by rw [← hZ, u8A_size]; exact List.length_replicate ..
  have HZ := Lib.hid hZ
  have HZZ := Lib.hid hzz
  clear hZ hzz
  go_enter Try.func31, Try.ntmps31
  go_wp2_with fail
  obtain ⟨g1, g2, hbel⟩ := alloc2 w Z Z 58 58
  generalize World.alloc (World.alloc w _) _ = w1 at *
  obtain ⟨rb, hrb⟩ : ∃ z, w.heap.size = z := ⟨_, rfl⟩
  rw [hrb] at g1 g2 hbel ⊢
  obtain ⟨tb, htb⟩ : ∃ z, rb + 1 = z := ⟨_, rfl⟩
  rw [htb] at g2 ⊢
  have hrt : rb < tb := by omega
  have HW := Lib.hid hrb
  have G1 := Lib.hid (show Blk w1 tb (u8A (padB 255 (powT 0))) 58 by rw [← HZ.out] at g2; exact g2)
  have G2 := Lib.hid (show ∃ rs, Blk w1 rb rs 58 ∧ rs.size = 255 from ⟨_, g1, HZZ.out⟩)
  clear g1 g2 hrb htb hz
  go_loopw [2, 4] (fun x t wr => ∃ n : Nat, n ≤ 255 ∧ t = .int .i64 n ∧ x = .int .u8 ((powU n).toNat : Int) ∧ Below rb w wr ∧ Hid (Blk wr tb (u8A (padB 255 (powT n))) 58) ∧ Hid (∃ rs, Blk wr rb rs 58 ∧ rs.size = 255)) (fun _ t _ => 255 - (intOf t).toNat)
  case atStart => exact ⟨0, by omega, rfl, rfl, hbel, G1, G2⟩
  case round =>
    clear hbel G1 G2
    obtain ⟨n, hn, rfl, rfl, hbel, G1, G2⟩ := hrel
    by_cases hlt : n < 255
    · have hni : (n : Int) < 255 := by omega
      have HP := Lib.hid (powT_succ n)
      have HPL := Lib.hid (powT_len n)
      have HPU := Lib.hid (show powU (n + 1) = powU n ^^^ twU (powU n) from rfl)
      have hf := G1.out.frozen n
      obtain ⟨o, ho⟩ : ∃ old, wr.cell? ⟨tb, n, none⟩ = some old := ⟨_, G1.out.byteAt (i := n) (by rw [padB_len (by rw [powT_len]; omega)]; omega)⟩
      generalize powU n = x at *
      go_wp2_with fail
      refine (double_any x _).mono ?_
      rintro e w2 ⟨rfl, rfl⟩
      have hst : Below rb w (wr.setCell ⟨tb, n, none⟩ (.int .u8 (x.toNat : Int))) ∧ Blk (wr.setCell ⟨tb, n, none⟩ (.int .u8 (x.toNat : Int))) tb (u8A (padB 255 (powT (n + 1)))) 58 ∧ ∃ rs, Blk (wr.setCell ⟨tb, n, none⟩ (.int .u8 (x.toNat : Int))) rb rs 58 ∧ rs.size = 255 := by
        refine ⟨hbel.setCell (by simp; omega) _, ?_, ?_⟩
        · rw [HP.out]
          exact G1.out.byte HPL.out (by omega) rfl
        · obtain ⟨rs, h, hz⟩ := G2.out
          exact ⟨rs, h.other (by simp; omega) _, hz⟩
      generalize wr.setCell ⟨tb, n, none⟩ (.int .u8 (x.toNat : Int)) = w3 at hst ⊢
      obtain ⟨hbel3, g1, g2⟩ := hst
      have K1 := Lib.hid g1
      have K2 := Lib.hid g2
      clear g1 g2 G1 G2 hbel hf ho
      go_wp2_with fail
      go_roundw
      case rel => exact ⟨n + 1, by omega, by go_num, by rw [HPU.out, xor_byte8], hbel3, K1, K2⟩
      case measure => simp [intOf]; omega
    · obtain rfl : n = 255 := by omega
      have hge : ¬ ((255 : Nat) : Int) < 255 := by omega
      have hfull : Blk wr tb (u8A (powT 255)) 58 := by
        have := G1.out
        rwa [padB_full (powT_len 255)] at this
      obtain ⟨rs, hrs, hrz⟩ := G2.out
      have hfz : (u8A (powT 255)).size = 255 := by rw [u8A_size, powT_len]
      have hone := u8A_one (powT 255)
      obtain ⟨fin, hfe⟩ : ∃ z, u8A (powT 255) = z := ⟨_, rfl⟩
      rw [hfe] at hfull hfz hone
      have HFE := Lib.hid hfe
      have HFZ := Lib.hid hfz
      have HONE := Lib.hid hone
      have HRZ := Lib.hid hrz
      clear hfe hfz hone hrz G1 G2
      go_wp2_with (first
        | (with_reducible refine wpList_load_blk rfl 58 (.tmp 1) rfl tb rfl 58 fin _ hfull Try.underlying58 rfl (by rw [HFZ.out]; kernel_rfl) ?_)
        | (with_reducible refine wpList_store_blk rfl 58 (.tmp 0) (.tmp 15) rfl rb fin rfl rfl 58 rs hrs (by rw [HFZ.out]; kernel_rfl) (by rw [HFZ.out, HRZ.out]) HONE.out ?_))
      refine bodyPost_ret (v := .agg fin) (results_cell_row (p := 0) (ty := 58) (by kernel_rfl) _ _ rb 58 _ (0, 0) _ rfl (hrs.row fin) Try.underlying58 rfl (by rw [HFZ.out]; kernel_rfl)) rfl ⟨by rw [HFE.out], ?_⟩
      rw [HW.out]
      exact below_row hbel (by have := hfull.lt; omega) (by omega) _
end Go.Proofs.Ytcajlmlblkdjoaa
