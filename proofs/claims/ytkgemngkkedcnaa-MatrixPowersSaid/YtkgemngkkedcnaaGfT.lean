/- The program's tables of the field: the powers of x, the logs. -/
import Derived.Test.YtkgemngkkedcnaaGfP
namespace Go.Proofs.Ytkgemngkkedcnaa
open Go.RowKit

theorem zero510 (w : World) : (zeroValue 69).run Try.prog w = .ok (.agg (u8A (List.replicate 510 0))) w := by kernel_rfl
theorem zero510r (w : World) : (zeroValue 70).run Try.prog w = .ok (.agg (u8A (List.replicate 510 0))) w := by kernel_rfl
theorem zero256t (w : World) : (zeroValue 72).run Try.prog w = .ok (.agg (u8A (List.replicate 256 0))) w := by kernel_rfl

theorem two_new (w : World) (A B : Array Value) (S T : TypeId) : Blk ((w.alloc (.cells A S)).alloc (.cells B T)) w.heap.size A S ∧ Blk ((w.alloc (.cells A S)).alloc (.cells B T)) (w.heap.size + 1) B T ∧ Below w.heap.size w ((w.alloc (.cells A S)).alloc (.cells B T)) := by
  have a2 := Blk.new (w.alloc (.cells A S)) B T
  simp only [World.size_alloc] at a2
  exact ⟨(Blk.new w A S).alloc _, a2, ((Below.refl _ _).alloc (Nat.le_refl _) _).alloc (by simp) _⟩

set_option maxRecDepth 100000 in
set_option maxHeartbeats 4000000 in
theorem prow_any (w : World) :
    Calls Try.prog 48 #[] w fun e w' => e = .returned (.agg (u8A (xpT 510))) ∧ Below w.heap.size w w' := by
  have hz := fun W => zero510r W
  obtain ⟨Z, hZ⟩ : ∃ Z, u8A (List.replicate 510 0) = Z := ⟨_, rfl⟩
  have hzz : Z.size = 510 := by rw [← hZ, u8A_size]; exact List.length_replicate ..
  rw [hZ] at hz
  have HZ := Lib.hid hZ
  have HZZ := Lib.hid hzz
  clear hZ hzz
  go_enter Try.func48, Try.ntmps48
  go_wp2_with fail
  obtain ⟨g1, g2, hbel⟩ := two_new w Z Z 70 70
  generalize World.alloc (World.alloc w _) _ = w1 at *
  obtain ⟨rb, hrb⟩ : ∃ z, w.heap.size = z := ⟨_, rfl⟩
  rw [hrb] at g1 g2 hbel ⊢
  obtain ⟨tb, htb⟩ : ∃ z, rb + 1 = z := ⟨_, rfl⟩
  rw [htb] at g2 ⊢
  have hrt : rb < tb := by omega
  have HW := Lib.hid hrb
  have G1 := Lib.hid (show ∃ rs, Blk w1 rb rs 70 ∧ rs.size = 510 from ⟨_, g1, HZZ.out⟩)
  have G2 := Lib.hid (show Blk w1 tb (u8A (padB 510 (xpT 0))) 70 by rw [show padB 510 (xpT 0) = List.replicate 510 0 from rfl, HZ.out]; exact g2)
  clear g1 g2 hrb htb hz
  go_loopw [2, 4] (fun x t wr => ∃ n : Nat, n ≤ 510 ∧ t = .int .i64 n ∧ x = .int .u8 ((xpU n).toNat : Int) ∧ Below rb w wr ∧ Hid (∃ rs, Blk wr rb rs 70 ∧ rs.size = 510) ∧ Hid (Blk wr tb (u8A (padB 510 (xpT n))) 70)) (fun _ t _ => 510 - (intOf t).toNat)
  case atStart => exact ⟨0, by omega, rfl, rfl, hbel, G1, G2⟩
  case round =>
    clear hbel G1 G2
    obtain ⟨n, hn, rfl, rfl, hbel, G1, G2⟩ := hrel
    by_cases hlt : n < 510
    · have hni : (n : Int) < 510 := by omega
      have hx := (xpU n).toNat_lt
      have HP := Lib.hid (xpT_succ n)
      have HPL := Lib.hid (xpT_len n)
      have HPU := Lib.hid (xpU_succ n)
      have hf1 := G2.out.frozen n
      obtain ⟨o1, ho1⟩ : ∃ old, wr.cell? ⟨tb, n, none⟩ = some old := by
        obtain ⟨o, p⟩ := u8A_get (bs := padB 510 (xpT n)) (i := n) (by rw [padB_len (by rw [xpT_len]; omega)]; omega)
        exact ⟨o, (G2.out.cell n).trans p⟩
      generalize xpU n = x at *
      go_wp2_with fail
      have hst : Below rb w (wr.setCell ⟨tb, n, none⟩ (.int .u8 (x.toNat : Int))) ∧ Blk (wr.setCell ⟨tb, n, none⟩ (.int .u8 (x.toNat : Int))) tb (u8A (padB 510 (xpT (n + 1)))) 70 ∧ ∃ rs, Blk (wr.setCell ⟨tb, n, none⟩ (.int .u8 (x.toNat : Int))) rb rs 70 ∧ rs.size = 510 := by
        refine ⟨hbel.setCell (by simp; omega) _, ?_, ?_⟩
        · rw [HP.out]
          exact G2.out.byte HPL.out (by omega) rfl
        · obtain ⟨rs, h, hz⟩ := G1.out
          exact ⟨rs, h.other (by simp; omega) _, hz⟩
      generalize wr.setCell ⟨tb, n, none⟩ (.int .u8 (x.toNat : Int)) = w3 at hst ⊢
      obtain ⟨h1, h2, h3⟩ := hst
      have K2 := Lib.hid h2
      have K3 := Lib.hid h3
      clear hf1 ho1 h2 h3 G1 G2 hbel
      refine (double_any x w3).mono ?_
      rintro e w4 ⟨rfl, rfl⟩
      go_wp2_with fail
      go_roundw
      case rel => exact ⟨n + 1, by omega, by go_num, by rw [HPU.out], h1, K3, K2⟩
      case measure => simp [intOf]; omega
    · obtain rfl : n = 510 := by omega
      clear hn hlt
      obtain ⟨fin, hfe⟩ : ∃ x, u8A (xpT 510) = x := ⟨_, rfl⟩
      have hsz : fin.size = 510 := by rw [← hfe, u8A_size, xpT_len]
      have hone := u8A_one (xpT 510)
      rw [hfe] at hone
      have hfull : Blk wr tb fin 70 := by
        rw [← hfe]
        exact by have := G2.out; rwa [padB_full (xpT_len 510)] at this
      obtain ⟨rs, hrs, hrz⟩ := G1.out
      have HFE := Lib.hid hfe
      have HS2 := Lib.hid hsz
      have HONE := Lib.hid hone
      have HRZ := Lib.hid hrz
      clear hfe hsz hone hrz G1 G2
      go_wp2_with (first
        | (with_reducible refine wpList_load_blk rfl 70 (.tmp 1) rfl tb rfl 70 fin _ hfull Try.underlying70 rfl (by rw [HS2.out]; kernel_rfl) ?_)
        | (with_reducible refine wpList_store_blk rfl 70 (.tmp 0) (.tmp 13) rfl rb fin rfl rfl 70 rs hrs (by rw [HS2.out]; kernel_rfl) (by rw [HS2.out, HRZ.out]) HONE.out ?_))
      refine bodyPost_ret (v := .agg fin) (results_cell_row (p := 0) (ty := 70) (by kernel_rfl) _ _ rb 70 _ (0, 0) _ rfl (hrs.row fin) Try.underlying70 rfl (by rw [HS2.out]; kernel_rfl)) rfl ⟨by rw [HFE.out], ?_⟩
      rw [HW.out]
      exact below_row hbel (by have := hbel.size; have := HW.out; omega) (Nat.le_refl _) _

set_option maxRecDepth 100000 in
set_option maxHeartbeats 4000000 in
theorem plog_any (g : Nat) (w : World) (hg : g < w.heap.size) (hp : ∀ n, n < 510 → w.cell? ⟨g, n, none⟩ = some (.int .u8 ((xpU n).toNat : Int))) :
    Calls Try.prog 49 #[.pointer (some ⟨g, 0, none⟩)] w fun e w' => e = .returned (.agg (u8A (lgT 255))) ∧ Below w.heap.size w w' := by
  have hz := fun W => zero256t W
  have HPC := Lib.hid hp
  clear hp
  obtain ⟨Z, hZ⟩ : ∃ Z, u8A (List.replicate 256 0) = Z := ⟨_, rfl⟩
  have hzz : Z.size = 256 := by rw [← hZ, u8A_size]; exact List.length_replicate ..
  rw [hZ] at hz
  have HZ := Lib.hid hZ
  have HZZ := Lib.hid hzz
  clear hZ hzz
  go_enter Try.func49, Try.ntmps49
  go_wp2_with fail
  obtain ⟨g1, g2, hbel⟩ := two_new w Z Z 72 72
  generalize World.alloc (World.alloc w _) _ = w1 at *
  obtain ⟨rb, hrb⟩ : ∃ z, w.heap.size = z := ⟨_, rfl⟩
  rw [hrb] at g1 g2 hbel hg ⊢
  obtain ⟨tb, htb⟩ : ∃ z, rb + 1 = z := ⟨_, rfl⟩
  rw [htb] at g2 ⊢
  have hrt : rb < tb := by omega
  have HW := Lib.hid hrb
  have G1 := Lib.hid (show ∃ rs, Blk w1 rb rs 72 ∧ rs.size = 256 from ⟨_, g1, HZZ.out⟩)
  have G2 := Lib.hid (show Blk w1 tb (u8A (lgT 0)) 72 by rw [show lgT 0 = List.replicate 256 0 from rfl, HZ.out]; exact g2)
  clear g1 g2 hrb htb hz
  go_loopw [5] (fun t wr => ∃ n : Nat, n ≤ 255 ∧ t = .int .i64 n ∧ Below rb w wr ∧ Hid (∃ rs, Blk wr rb rs 72 ∧ rs.size = 256) ∧ Hid (Blk wr tb (u8A (lgT n)) 72)) (fun t _ => 255 - (intOf t).toNat)
  case atStart => exact ⟨0, by omega, rfl, hbel, G1, G2⟩
  case round =>
    clear hbel G1 G2
    obtain ⟨n, hn, rfl, hbel, G1, G2⟩ := hrel
    by_cases hlt : n < 255
    · have hni : (n : Int) < 255 := by omega
      have hni2 : (n : Int) < 510 := by omega
      have hx := (xpU n).toNat_lt
      have HLG := Lib.hid (show lgT (n + 1) = (lgT n).set (xpU n).toNat (UInt8.ofNat n) from rfl)
      have hc := (hbel.cell (p := ⟨g, n, none⟩) hg).trans (HPC.out n (by omega))
      have hf1 := G2.out.frozen (xpU n).toNat
      obtain ⟨o1, ho1⟩ : ∃ old, wr.cell? ⟨tb, (xpU n).toNat, none⟩ = some old := by
        obtain ⟨o, p⟩ := u8A_get (bs := lgT n) (i := (xpU n).toNat) (by rw [lgT_len]; exact hx)
        exact ⟨o, (G2.out.cell _).trans p⟩
      generalize xpU n = x at *
      have hxi : (x.toNat : Int) < 256 := by omega
      go_wp2_with fail
      have hst : Below rb w (wr.setCell ⟨tb, x.toNat, none⟩ (.int .u8 (n : Int))) ∧ Blk (wr.setCell ⟨tb, x.toNat, none⟩ (.int .u8 (n : Int))) tb (u8A (lgT (n + 1))) 72 ∧ ∃ rs, Blk (wr.setCell ⟨tb, x.toNat, none⟩ (.int .u8 (n : Int))) rb rs 72 ∧ rs.size = 256 := by
        refine ⟨hbel.setCell (by simp; omega) _, ?_, ?_⟩
        · rw [HLG.out]
          exact G2.out.put _ (by rw [UInt8.toNat_ofNat']; omega)
        · obtain ⟨rs, h, hz⟩ := G1.out
          exact ⟨rs, h.other (by simp; omega) _, hz⟩
      generalize wr.setCell ⟨tb, x.toNat, none⟩ (.int .u8 (n : Int)) = w3 at hst ⊢
      obtain ⟨h1, h2, h3⟩ := hst
      have K2 := Lib.hid h2
      have K3 := Lib.hid h3
      clear hf1 ho1 h2 h3 G1 G2 hbel
      try go_wp2_with fail
      go_roundw
      case rel => exact ⟨n + 1, by omega, by go_num, h1, K3, K2⟩
      case measure => simp [intOf]; omega
    · obtain rfl : n = 255 := by omega
      clear hn hlt
      obtain ⟨fin, hfe⟩ : ∃ x, u8A (lgT 255) = x := ⟨_, rfl⟩
      have hsz : fin.size = 256 := by rw [← hfe, u8A_size, lgT_len]
      have hone := u8A_one (lgT 255)
      rw [hfe] at hone
      have hfull : Blk wr tb fin 72 := by
        rw [← hfe]
        exact G2.out
      obtain ⟨rs, hrs, hrz⟩ := G1.out
      have HFE := Lib.hid hfe
      have HS2 := Lib.hid hsz
      have HONE := Lib.hid hone
      have HRZ := Lib.hid hrz
      clear hfe hsz hone hrz G1 G2
      go_wp2_with (first
        | (with_reducible refine wpList_load_blk rfl 72 (.tmp 3) rfl tb rfl 72 fin _ hfull Try.underlying72 rfl (by rw [HS2.out]; kernel_rfl) ?_)
        | (with_reducible refine wpList_store_blk rfl 72 (.tmp 2) (.tmp 17) rfl rb fin rfl rfl 72 rs hrs (by rw [HS2.out]; kernel_rfl) (by rw [HS2.out, HRZ.out]) HONE.out ?_))
      refine bodyPost_ret (v := .agg fin) (results_cell_row (p := 2) (ty := 72) (by kernel_rfl) _ _ rb 72 _ (0, 0) _ rfl (hrs.row fin) Try.underlying72 rfl (by rw [HS2.out]; kernel_rfl)) rfl ⟨by rw [HFE.out], ?_⟩
      rw [HW.out]
      exact below_row hbel (by have := hbel.size; have := HW.out; omega) (Nat.le_refl _) _
end Go.Proofs.Ytkgemngkkedcnaa
