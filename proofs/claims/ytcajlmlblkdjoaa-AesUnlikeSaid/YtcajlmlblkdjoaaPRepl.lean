/- What the program's table has for each byte of a block of AES. -/
import Derived.Test.YtcajlmlblkdjoaaPSum
import Derived.Test.YtcajlmlblkdjoaaArrEq
namespace Go.Proofs.Ytcajlmlblkdjoaa
open Go.RowKit

def sAll (x : List UInt8) : List UInt8 := (List.range 16).map fun n => sU (x.getD n 0)
theorem sAll_len (x : List UInt8) : (sAll x).length = 16 := by simp [sAll]
theorem sAll_at (x : List UInt8) {n : Nat} (h : n < 16) : (sAll x).getD n 0 = sU (x.getD n 0) := map_getD _ 16 n h

theorem run_index_byte {T : TypeId} {len : Nat} (hT : Try.prog.underlying T = some (.array len 5)) (W : World) (cs : Array Value) (i : Nat) (hi : i < len) {a : UInt8} (h : cs[i]? = some (.int .u8 (a.toNat : Int))) :
    (Instr.index T (.agg cs) (.int .i64 (i : Int))).run Try.prog W = .ok (.int .u8 (a.toNat : Int)) W := by
  have h3 : Try.prog.underlying 5 = some (.int .u8) := Try.underlying5
  have hs : (sizeOf 5).run Try.prog W = .ok 1 W := by
    obtain ⟨j, hq, _⟩ := infoByte
    rw [run_sizeOf W hq, show Try.prog.cellsOf 5 = 1 from by kernel_rfl]
  have hp : (Go.part 5 cs i).run Try.prog W = .ok (.int .u8 (a.toNat : Int)) W := by simp [Go.part, isAgg, run_underlying h3, h]
  have hii : (0 : Int) ≤ (i : Int) ∧ (i : Int) < (len : Int) := by omega
  simp [Instr.index, asIntOf, run_underlying hT, hii, hs, hp]
  intro h2
  omega

set_option maxRecDepth 100000 in
set_option maxHeartbeats 4000000 in
theorem replB_any (x : List UInt8) (sb : Nat) (w : World) (hx : x.length = 16) (hs : Blk w sb (u8A boxL) 43) :
    Calls Try.prog 38 #[.agg (u8A x), .pointer (some ⟨sb, 0, none⟩)] w fun e w' => e = .returned (.agg (u8A (sAll x))) ∧ Below w.heap.size w w' := by
  have hz := fun W => pzero16 W
  obtain ⟨Z, hZ⟩ : ∃ Z, u8A (List.replicate 16 0) = Z := ⟨_, rfl⟩
  rw [hZ] at hz
  have hzz : Z.size = 16 := by rw [← hZ, u8A_size]; exact List.length_replicate ..
  have hsw := hs.lt
  have HS := Lib.hid hs
  have HX := Lib.hid hx
  have hxz : (u8A x).size = 16 := by rw [u8A_size, hx]
  have hit : ∀ i, i < 16 → (u8A x)[i]? = some (.int .u8 ((x.getD i 0).toNat : Int)) := fun i hi => u8A_at (by rw [hx]; exact hi)
  obtain ⟨xA, hxe⟩ : ∃ K, u8A x = K := ⟨_, rfl⟩
  rw [hxe] at hxz hit ⊢
  have HZ := Lib.hid hZ
  have HZZ := Lib.hid hzz
  have HXE := Lib.hid hxe
  have HXZ := Lib.hid hxz
  have HIT := Lib.hid hit
  clear hx hxe hZ hzz hs hxz hit
  go_enter Try.func38, Try.ntmps38
  go_wp2_with (with_reducible refine wpList_load_blk rfl 48 (.tmp 2) rfl w.heap.size rfl 48 xA _ (alloc2 w xA Z 48 48).1 Try.underlying48 rfl (by rw [HXZ.out]; kernel_rfl) ?_)
  obtain ⟨g1, g3, hbel⟩ := alloc2 w xA Z 48 48
  have g2 := HS.out.below hbel hsw
  generalize World.alloc (World.alloc w _) _ = w1 at *
  obtain ⟨xb, hxb⟩ : ∃ z, w.heap.size = z := ⟨_, rfl⟩
  rw [hxb] at g1 g3 hbel hsw ⊢
  obtain ⟨rb, hrb⟩ : ∃ z, xb + 1 = z := ⟨_, rfl⟩
  rw [hrb] at g3 ⊢
  have hxr : xb < rb := by omega
  have HW := Lib.hid hxb
  have G1 := Lib.hid (show Blk w1 xb (u8A (part (sAll x) x 0)) 48 by rw [part_zero, HXE.out]; exact g1)
  have G2 := Lib.hid g2
  have G3 := Lib.hid (show ∃ rs, Blk w1 rb rs 48 ∧ rs.size = 16 from ⟨_, g3, HZZ.out⟩)
  clear g1 g2 g3 hxb hrb hz HS
  go_loopw [8] (fun t wq => ∃ i : Nat, i ≤ 16 ∧ t = .int .i64 i ∧ Below xb w wq ∧ Hid (Blk wq xb (u8A (part (sAll x) x i)) 48) ∧ Hid (Blk wq sb (u8A boxL) 43) ∧ Hid (∃ rs, Blk wq rb rs 48 ∧ rs.size = 16)) (fun t _ => 16 - (intOf t).toNat)
  case atStart => exact ⟨0, by omega, rfl, hbel, G1, G2, G3⟩
  case round =>
    clear hbel G1 G2 G3
    obtain ⟨i, hi, rfl, hbel, G1, G2, G3⟩ := hrel
    by_cases hlt : i < 16
    · have hii : (i : Int) < 16 := by omega
      have hie := fun W => run_index_byte Try.underlying48 W xA i hlt (HIT.out i hlt)
      have hy := (x.getD i 0).toNat_lt
      have cs := G2.out.byteAt (i := (x.getD i 0).toNat) (by rw [boxL_len]; exact hy)
      have hf := G1.out.frozen i
      obtain ⟨o, ho⟩ : ∃ old, wr.cell? ⟨xb, i, none⟩ = some old := ⟨_, G1.out.byteAt (i := i) (by rw [part_len (sAll_len x) HX.out (by omega)]; exact hlt)⟩
      have HV := Lib.hid (show boxL.getD (x.getD i 0).toNat 0 = (sAll x).getD i 0 by rw [sAll_at x hlt]; rfl)
      have HPS := Lib.hid (part_set (sAll_len x) HX.out hlt)
      generalize boxL.getD (x.getD i 0).toNat 0 = b0 at *
      generalize x.getD i 0 = a0 at *
      go_wp2_with fail
      go_roundw
      case rel =>
        refine ⟨i + 1, by omega, by go_num, hbel.setCell (by simp) _, Lib.hid ?_, Lib.hid (G2.out.other (by simp; omega) _), Lib.hid ?_⟩
        · rw [← HPS.out, ← HV.out]
          exact G1.out.put _ rfl
        · obtain ⟨rs, h, hz⟩ := G3.out
          exact ⟨rs, h.other (by simp; omega) _, hz⟩
      case measure => simp [intOf]; omega
    · obtain rfl : i = 16 := by omega
      have hge : ¬ ((16 : Nat) : Int) < 16 := by omega
      have hfull : Blk wr xb (u8A (sAll x)) 48 := by
        have := G1.out
        rwa [part_full (sAll_len x) HX.out] at this
      obtain ⟨rs, hrs, hrz⟩ := G3.out
      have hfz : (u8A (sAll x)).size = 16 := by rw [u8A_size, sAll_len]
      have hone := u8A_one (sAll x)
      obtain ⟨fin, hfe⟩ : ∃ z, u8A (sAll x) = z := ⟨_, rfl⟩
      rw [hfe] at hfull hfz hone
      have HFE := Lib.hid hfe
      have HFZ := Lib.hid hfz
      have HONE := Lib.hid hone
      have HRZ := Lib.hid hrz
      clear hfe hfz hone hrz G1 G2 G3
      go_wp2_with (first
        | (with_reducible refine wpList_load_blk rfl 48 (.tmp 2) rfl xb rfl 48 fin _ hfull Try.underlying48 rfl (by rw [HFZ.out]; kernel_rfl) ?_)
        | (with_reducible refine wpList_store_blk rfl 48 (.tmp 4) (.tmp 20) rfl rb fin rfl rfl 48 rs hrs (by rw [HFZ.out]; kernel_rfl) (by rw [HFZ.out, HRZ.out]) HONE.out ?_))
      refine bodyPost_ret (v := .agg fin) (results_cell_row (p := 4) (ty := 48) (by kernel_rfl) _ _ rb 48 _ (0, 0) _ rfl (hrs.row fin) Try.underlying48 rfl (by rw [HFZ.out]; kernel_rfl)) rfl ⟨by rw [HFE.out], ?_⟩
      rw [HW.out]
      exact below_row hbel (by have := hfull.lt; omega) (by omega) _
end Go.Proofs.Ytcajlmlblkdjoaa
