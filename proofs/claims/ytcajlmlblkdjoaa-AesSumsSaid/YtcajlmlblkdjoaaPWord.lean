/- The program's changed word of a round key. -/
import Derived.Test.YtcajlmlblkdjoaaPRepl
import Derived.Test.YtcajlmlblkdjoaaAesK
namespace Go.Proofs.Ytcajlmlblkdjoaa
open Go.RowKit

theorem pzero4 (w : World) : (zeroValue 61).run Try.prog w = .ok (.agg (u8A (List.replicate 4 0))) w := by kernel_rfl
def wordL (p : List UInt8) : List UInt8 := (List.range 4).map fun n => sU (p.getD (12 + (n + 1) % 4) 0)
theorem wordL_len (p : List UInt8) : (wordL p).length = 4 := by simp [wordL]
theorem wordL_at (p : List UInt8) {n : Nat} (h : n < 4) : (wordL p).getD n 0 = sU (p.getD (12 + (n + 1) % 4) 0) := map_getD _ 4 n h
theorem wordL_kT0 (p : List UInt8) (c : UInt8) : (wordL p).set 0 ((wordL p).getD 0 0 ^^^ c) = kT0 p c := rfl

set_option maxRecDepth 100000 in
set_option maxHeartbeats 4000000 in
theorem changed_any (p : List UInt8) (sb : Nat) (c : UInt8) (w : World) (hx : p.length = 16) (hs : Blk w sb (u8A boxL) 43) :
    Calls Try.prog 33 #[.agg (u8A p), .pointer (some ⟨sb, 0, none⟩), .int .u8 (c.toNat : Int)] w fun e w' => e = .returned (.agg (u8A (kT0 p c))) ∧ Below w.heap.size w w' := by
  have hz := fun W => pzero4 W
  obtain ⟨Z, hZ⟩ : ∃ Z, u8A (List.replicate 4 0) = Z := ⟨_, rfl⟩
  rw [hZ] at hz
  have hzz : Z.size = 4 := by rw [← hZ, u8A_size]; exact List.length_replicate ..
  have hsw := hs.lt
  have HS := Lib.hid hs
  have HX := Lib.hid hx
  obtain ⟨xA, hxe⟩ : ∃ K, u8A p = K := ⟨_, rfl⟩
  rw [hxe]
  have HZ := Lib.hid hZ
  have HZZ := Lib.hid hzz
  have HXE := Lib.hid hxe
  clear hx hxe hZ hzz hs
  go_enter Try.func33, Try.ntmps33
  go_wp2_with fail
  obtain ⟨g1, g2, g3, hbel⟩ := alloc3 w xA Z Z 48 61 61
  have g4 := HS.out.below hbel hsw
  generalize World.alloc (World.alloc (World.alloc w _) _) _ = w1 at *
  obtain ⟨xb, hxb⟩ : ∃ z, w.heap.size = z := ⟨_, rfl⟩
  rw [hxb] at g1 g2 g3 hbel hsw ⊢
  obtain ⟨rb, hrb⟩ : ∃ z, xb + 1 = z := ⟨_, rfl⟩
  rw [hrb] at g2 g3 ⊢
  obtain ⟨tb, htb⟩ : ∃ z, rb + 1 = z := ⟨_, rfl⟩
  rw [htb] at g3 ⊢
  have hxr : xb < rb := by omega
  have hrt : rb < tb := by omega
  have HW := Lib.hid hxb
  have z16 : (List.replicate 4 (0 : UInt8)).length = 4 := List.length_replicate ..
  have HZL := Lib.hid z16
  have G1 := Lib.hid (show Blk w1 xb (u8A p) 48 by rw [HXE.out]; exact g1)
  have G2 := Lib.hid (show Blk w1 tb (u8A (part (wordL p) (List.replicate 4 0) 0)) 61 by rw [part_zero, HZ.out]; exact g3)
  have G3 := Lib.hid (show ∃ rs, Blk w1 rb rs 61 ∧ rs.size = 4 from ⟨_, g2, HZZ.out⟩)
  have G4 := Lib.hid g4
  clear g1 g2 g3 g4 hxb hrb htb hz z16 HS
  go_loopw [9] (fun t wq => ∃ i : Nat, i ≤ 4 ∧ t = .int .i64 i ∧ Below xb w wq ∧ Hid (Blk wq xb (u8A p) 48) ∧ Hid (Blk wq tb (u8A (part (wordL p) (List.replicate 4 0) i)) 61) ∧ Hid (∃ rs, Blk wq rb rs 61 ∧ rs.size = 4) ∧ Hid (Blk wq sb (u8A boxL) 43)) (fun t _ => 4 - (intOf t).toNat)
  case atStart => exact ⟨0, by omega, rfl, hbel, G1, G2, G3, G4⟩
  case round =>
    clear hbel G1 G2 G3 G4
    obtain ⟨i, hi, rfl, hbel, G1, G2, G3, G4⟩ := hrel
    by_cases hlt : i < 4
    · have hii : (i : Int) < 4 := by omega
      obtain ⟨m, hm⟩ : ∃ m, 12 + (i + 1) % 4 = m := ⟨_, rfl⟩
      have m3 : 12 + ((i : Int) + 1) % 4 = (m : Int) := by omega
      have hml : m < 16 := by omega
      have cx := G1.out.byteAt (i := m) (by rw [HX.out]; exact hml)
      have hy := (p.getD m 0).toNat_lt
      have hyi : ((p.getD m 0).toNat : Int) < 256 := by omega
      have cs := G4.out.byteAt (i := (p.getD m 0).toNat) (by rw [boxL_len]; exact hy)
      have hf := G2.out.frozen i
      obtain ⟨o, ho⟩ : ∃ old, wr.cell? ⟨tb, i, none⟩ = some old := ⟨_, G2.out.byteAt (i := i) (by rw [part_len (wordL_len p) HZL.out (by omega)]; exact hlt)⟩
      have HV := Lib.hid (show boxL.getD (p.getD m 0).toNat 0 = (wordL p).getD i 0 by rw [wordL_at p hlt, hm]; rfl)
      have HPS := Lib.hid (part_set (wordL_len p) HZL.out hlt)
      generalize boxL.getD (p.getD m 0).toNat 0 = b0 at *
      generalize p.getD m 0 = a0 at *
      have w1 : IntKind.i64.wrap ((i : Int) + 1) = (i : Int) + 1 := IntWalk.i64_in _ (by omega)
      clear hm
      go_wp2_with fail
      refine wp_region_noPanic ?_
      go_region
      refine NoPanic.normal ?_
      clear w1
      go_wp2_with fail
      go_roundw
      case rel =>
        refine ⟨i + 1, by omega, by go_num, (hbel.setCell (by simp; omega) _).drew, Lib.hid (G1.out.other (by simp; omega) _), Lib.hid ?_, Lib.hid ?_, Lib.hid (G4.out.other (by simp; omega) _)⟩
        · rw [← HPS.out, ← HV.out]
          exact G2.out.put _ rfl
        · obtain ⟨rs, h, hz⟩ := G3.out
          exact ⟨rs, h.other (by simp; omega) _, hz⟩
      case measure => simp [intOf]; omega
    · obtain rfl : i = 4 := by omega
      have hge : ¬ ((4 : Nat) : Int) < 4 := by omega
      have hwl : Blk wr tb (u8A (wordL p)) 61 := by
        have := G2.out
        rwa [part_full (wordL_len p) HZL.out] at this
      have c0 := hwl.byteAt (i := 0) (by rw [wordL_len]; decide)
      have hf := hwl.frozen 0
      have HV := Lib.hid (xor_byte8 ((wordL p).getD 0 0) c)
      have HK := Lib.hid (wordL_kT0 p c)
      have HWL := Lib.hid hwl
      generalize (wordL p).getD 0 0 = a0 at *
      obtain ⟨rs, hrs, hrz⟩ := G3.out
      have hfz : (u8A (kT0 p c)).size = 4 := by rw [u8A_size]; rfl
      have hone := u8A_one (kT0 p c)
      have HST := Lib.hid (show ∀ w2, wr.setCell ⟨tb, 0, none⟩ (.int .u8 (bits .xor .u8 (a0.toNat : Int) (c.toNat : Int))) = w2 → Blk w2 tb (u8A (kT0 p c)) 61 ∧ Blk w2 rb rs 61 ∧ Below xb w w2 by
        rintro w2 rfl
        refine ⟨?_, hrs.other (by simp; omega) _, hbel.setCell (by simp; omega) _⟩
        rw [← HK.out]
        exact HWL.out.put 0 HV.out)
      obtain ⟨fin, hfe⟩ : ∃ z, u8A (kT0 p c) = z := ⟨_, rfl⟩
      rw [hfe] at hfz hone HST
      have HFE := Lib.hid hfe
      have HFZ := Lib.hid hfz
      have HONE := Lib.hid hone
      have HRZ := Lib.hid hrz
      clear hfe hfz hone hrz G1 G2 G3 G4 hwl hrs
      go_wp2_with (first
        | (with_reducible refine wpList_load_blk rfl 61 (.tmp 7) rfl tb rfl 61 fin _ (HST.out _ rfl).1 Try.underlying61 rfl (by rw [HFZ.out]; kernel_rfl) ?_)
        | (with_reducible refine wpList_store_blk rfl 61 (.tmp 6) (.tmp 30) rfl rb fin rfl rfl 61 rs (HST.out _ rfl).2.1 (by rw [HFZ.out]; kernel_rfl) (by rw [HFZ.out, HRZ.out]) HONE.out ?_))
      obtain ⟨h1, h2, h3⟩ := HST.out _ rfl
      refine bodyPost_ret (v := .agg fin) (results_cell_row (p := 6) (ty := 61) (by kernel_rfl) _ _ rb 61 _ (0, 0) _ rfl (h2.row fin) Try.underlying61 rfl (by rw [HFZ.out]; kernel_rfl)) rfl ⟨by rw [HFE.out], ?_⟩
      rw [HW.out]
      exact below_row h3 (by have := h1.lt; omega) (by omega) _
end Go.Proofs.Ytcajlmlblkdjoaa
