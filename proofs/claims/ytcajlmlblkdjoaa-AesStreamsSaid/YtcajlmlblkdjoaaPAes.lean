/- AES of the program: a block, the round keys. -/
import Derived.Test.YtcajlmlblkdjoaaPEnc
import Derived.Test.YtcajlmlblkdjoaaPExp
import Derived.Test.YtcajlmlblkdjoaaPSub
namespace Go.Proofs.Ytcajlmlblkdjoaa
open Go.RowKit

theorem qzero16 (w : World) : (zeroValue 22).run Try.prog w = .ok (.agg (u8A (List.replicate 16 0))) w := by kernel_rfl
theorem qzero176 (w : World) : (zeroValue 30).run Try.prog w = .ok (.agg (u8A (List.replicate 176 0))) w := by kernel_rfl
set_option maxRecDepth 100000 in
set_option maxHeartbeats 4000000 in
theorem pExpand_any (k : List UInt8) (w : World) (hk : k.length = 16) :
    Calls Try.prog 14 #[.agg (u8A k)] w fun e w' => e = .returned (.agg (u8A (keysTo k 11))) ∧ Below w.heap.size w w' := by
  have hz6 := fun W => qzero176 W
  have hz2 := fun W => pzero256 W
  obtain ⟨Y, hY⟩ : ∃ Z, u8A (List.replicate 176 0) = Z := ⟨_, rfl⟩
  obtain ⟨Z, hZ⟩ : ∃ Z, u8A (List.replicate 256 0) = Z := ⟨_, rfl⟩
  rw [hY] at hz6
  rw [hZ] at hz2
  have HY := Lib.hid (show Y.size = 176 by rw [← hY, u8A_size]; exact List.length_replicate ..)
  have HZ := Lib.hid (show Z.size = 256 by rw [← hZ, u8A_size]; exact List.length_replicate ..)
  have HEX := Lib.hid (fun (sb : Nat) (W : World) (hs : Blk W sb (u8A boxL) 43) => expand_any sb k W hk hs)
  have hkz : (u8A k).size = 16 := by rw [u8A_size, hk]
  have hkl := keysTo_len hk 11
  obtain ⟨kA, hke⟩ : ∃ K, u8A k = K := ⟨_, rfl⟩
  rw [hke] at hkz HEX ⊢
  have HKZ := Lib.hid hkz
  have hfz : (u8A (keysTo k 11)).size = 176 := by rw [u8A_size, hkl]
  have hfo := u8A_one (keysTo k 11)
  obtain ⟨fin, hfe⟩ : ∃ K, u8A (keysTo k 11) = K := ⟨_, rfl⟩
  rw [hfe] at hfz hfo HEX ⊢
  have HFZ := Lib.hid hfz
  have HFO := Lib.hid hfo
  have hbz : (u8A boxL).size = 256 := by rw [u8A_size, boxL_len]
  have hbo := u8A_one boxL
  have HBX := Lib.hid (fun (W : World) => subTable_any W)
  obtain ⟨bA, hbe⟩ : ∃ K, u8A boxL = K := ⟨_, rfl⟩
  rw [hbe] at hbz hbo HBX HEX
  have HBZ := Lib.hid hbz
  have HBO := Lib.hid hbo
  clear hY hZ hk hkz hkl hke hfz hfo hfe hbz hbo hbe
  go_enter Try.func14, Try.ntmps14
  go_wp2_with fail
  have hst : Blk ((w.alloc (.cells kA 23)).alloc (.cells Y 30)) w.heap.size kA 23 ∧ Blk ((w.alloc (.cells kA 23)).alloc (.cells Y 30)) (w.heap.size + 1) Y 30 ∧ Below w.heap.size w ((w.alloc (.cells kA 23)).alloc (.cells Y 30)) := by
    have a2 := Blk.new (w.alloc (.cells kA 23)) Y 30
    simp only [World.size_alloc] at a2
    exact ⟨(Blk.new w _ _).alloc _, a2, ((Below.refl _ _).alloc (Nat.le_refl _) _).alloc (by simp) _⟩
  generalize (w.alloc (.cells kA 23)).alloc (.cells Y 30) = w1 at hst ⊢
  obtain ⟨h1, h2, hb1⟩ := hst
  refine (HBX.out _).mono ?_
  rintro e w2 ⟨rfl, hb2⟩
  have hl1 := h1.lt
  have hl2 := h2.lt
  have K1 := Lib.hid (h1.below hb2 hl1)
  have K2 := Lib.hid (h2.below hb2 hl2)
  have hb02 := hb1.trans (hb2.mono (by omega))
  have hs2 := hb2.size
  clear h1 h2 hb1 hb2
  have hpair : ∀ w3, (w2.alloc (.cells Z 43)).setRow w2.heap.size bA = w3 → Blk w3 w2.heap.size bA 43 ∧ Blk w3 w.heap.size kA 23 ∧ Blk w3 (w.heap.size + 1) Y 30 ∧ Below w.heap.size w w3 := by
    rintro w3 rfl
    exact ⟨(Blk.new w2 _ _).row _, (K1.out.alloc _).rowOther (by omega) _, (K2.out.alloc _).rowOther (by omega) _, below_row (hb02.alloc (by omega) _) (by simp; omega) (by omega) _⟩
  have HPAIR := Lib.hid hpair
  clear hpair
  go_wp2_with (first
    | (with_reducible refine wpList_store_blkTo rfl 43 (.tmp 3) (.tmp 4) rfl rfl w2.heap.size bA rfl rfl 43 Z (Blk.new w2 _ _) (by rw [HBZ.out]; kernel_rfl) (by rw [HBZ.out, HZ.out]) HBO.out ?_
       generalize hw3 : World.setRow _ _ _ = w3
       obtain ⟨g1, g2, g3, hb3⟩ := HPAIR.out _ hw3
       clear hw3)
    | (with_reducible refine wpList_load_blk rfl 23 (.tmp 1) rfl w.heap.size rfl 23 kA _ g2 Try.underlying23 rfl (by rw [HKZ.out]; kernel_rfl) ?_))
  have K3 := Lib.hid g3
  have hl3 := g3.lt
  have K4 := Lib.hid g1
  clear g1 g2 g3 K1 K2 HPAIR
  refine (HEX.out _ _ K4.out).mono ?_
  rintro e w4 ⟨rfl, hb4⟩
  have hrs := K3.out.below hb4 hl3
  have hb04 := hb3.trans (hb4.mono (by omega))
  have hs4 := hb4.size
  clear K3 K4 hb4 hb3
  go_wp2_with (with_reducible refine wpList_store_blk rfl 30 (.tmp 2) (.tmp 6) rfl (w.heap.size + 1) fin rfl rfl 30 Y hrs (by rw [HFZ.out]; kernel_rfl) (by rw [HFZ.out, HY.out]) HFO.out ?_)
  refine bodyPost_ret (v := .agg fin) (results_cell_row (p := 2) (ty := 30) (by kernel_rfl) _ _ (w.heap.size + 1) 30 _ (0, 0) _ rfl (hrs.row fin) Try.underlying30 rfl (by rw [HFZ.out]; kernel_rfl)) rfl ⟨rfl, below_row hb04 (by omega) (by omega) _⟩

set_option maxRecDepth 100000 in
set_option maxHeartbeats 4000000 in
theorem pBlock_any (k x : List UInt8) (w : World) (hk : k.length = 16) (hx : x.length = 16) :
    Calls Try.prog 12 #[.agg (u8A k), .agg (u8A x)] w fun e w' => e = .returned (.agg (u8A (blockL (keysTo k 11) x))) ∧ Below w.heap.size w w' := by
  have hz6 := fun W => pzero176 W
  have hz2 := fun W => pzero256 W
  have hz1 := fun W => qzero16 W
  obtain ⟨Y, hY⟩ : ∃ Z, u8A (List.replicate 176 0) = Z := ⟨_, rfl⟩
  obtain ⟨Z, hZ⟩ : ∃ Z, u8A (List.replicate 256 0) = Z := ⟨_, rfl⟩
  obtain ⟨X, hX⟩ : ∃ Z, u8A (List.replicate 16 0) = Z := ⟨_, rfl⟩
  rw [hY] at hz6
  rw [hZ] at hz2
  rw [hX] at hz1
  have HY := Lib.hid (show Y.size = 176 by rw [← hY, u8A_size]; exact List.length_replicate ..)
  have HZ := Lib.hid (show Z.size = 256 by rw [← hZ, u8A_size]; exact List.length_replicate ..)
  have HX := Lib.hid (show X.size = 16 by rw [← hX, u8A_size]; exact List.length_replicate ..)
  have hkl := keysTo_len hk 11
  have HEX := Lib.hid (fun (sb : Nat) (W : World) (hs : Blk W sb (u8A boxL) 43) => expand_any sb k W hk hs)
  have HBK := Lib.hid (fun (sb kb : Nat) (W : World) (hs : Blk W sb (u8A boxL) 43) (h2 : Blk W kb (u8A (keysTo k 11)) 45) => encipher_any kb sb (keysTo k 11) x W hx hkl h2 hs)
  have hkz : (u8A k).size = 16 := by rw [u8A_size, hk]
  obtain ⟨kA, hke⟩ : ∃ K, u8A k = K := ⟨_, rfl⟩
  rw [hke] at hkz HEX ⊢
  have HKZ := Lib.hid hkz
  have hxz : (u8A x).size = 16 := by rw [u8A_size, hx]
  obtain ⟨xA, hxe⟩ : ∃ K, u8A x = K := ⟨_, rfl⟩
  rw [hxe] at hxz HBK ⊢
  have HXZ := Lib.hid hxz
  have hez : (u8A (keysTo k 11)).size = 176 := by rw [u8A_size, hkl]
  have heo := u8A_one (keysTo k 11)
  obtain ⟨eA, hee⟩ : ∃ K, u8A (keysTo k 11) = K := ⟨_, rfl⟩
  rw [hee] at hez heo HEX HBK
  have HEZ := Lib.hid hez
  have HEO := Lib.hid heo
  have hfz : (u8A (blockL (keysTo k 11) x)).size = 16 := by rw [u8A_size]; exact stU_len _ _ _
  have hfo := u8A_one (blockL (keysTo k 11) x)
  obtain ⟨fin, hfe⟩ : ∃ K, u8A (blockL (keysTo k 11) x) = K := ⟨_, rfl⟩
  rw [hfe] at hfz hfo HBK ⊢
  have HFZ := Lib.hid hfz
  have HFO := Lib.hid hfo
  have hbz : (u8A boxL).size = 256 := by rw [u8A_size, boxL_len]
  have hbo := u8A_one boxL
  have HBX := Lib.hid (fun (W : World) => subTable_any W)
  obtain ⟨bA, hbe⟩ : ∃ K, u8A boxL = K := ⟨_, rfl⟩
  rw [hbe] at hbz hbo HBX HEX HBK
  have HBZ := Lib.hid hbz
  have HBO := Lib.hid hbo
  clear hY hZ hX hk hx hkz hkl hke hxz hxe hez heo hee hfz hfo hfe hbz hbo hbe
  go_enter Try.func12, Try.ntmps12
  go_wp2_with fail
  have hst : Blk (((w.alloc (.cells kA 23)).alloc (.cells xA 22)).alloc (.cells X 22)) w.heap.size kA 23 ∧ Blk (((w.alloc (.cells kA 23)).alloc (.cells xA 22)).alloc (.cells X 22)) (w.heap.size + 1) xA 22 ∧ Blk (((w.alloc (.cells kA 23)).alloc (.cells xA 22)).alloc (.cells X 22)) (w.heap.size + 1 + 1) X 22 ∧ Below w.heap.size w (((w.alloc (.cells kA 23)).alloc (.cells xA 22)).alloc (.cells X 22)) := by
    have a2 := Blk.new (w.alloc (.cells kA 23)) xA 22
    have a3 := Blk.new ((w.alloc (.cells kA 23)).alloc (.cells xA 22)) X 22
    simp only [World.size_alloc] at a2 a3
    exact ⟨((Blk.new w _ _).alloc _).alloc _, a2.alloc _, a3, (((Below.refl _ _).alloc (Nat.le_refl _) _).alloc (by simp) _).alloc (by simp; omega) _⟩
  generalize ((w.alloc (.cells kA 23)).alloc (.cells xA 22)).alloc (.cells X 22) = w1 at hst ⊢
  obtain ⟨h1, h2, h3, hb1⟩ := hst
  refine (HBX.out _).mono ?_
  rintro e w2 ⟨rfl, hb2⟩
  have hl1 := h1.lt
  have hl2 := h2.lt
  have hl3 := h3.lt
  have K1 := Lib.hid (h1.below hb2 hl1)
  have K2 := Lib.hid (h2.below hb2 hl2)
  have K3 := Lib.hid (h3.below hb2 hl3)
  have hb02 := hb1.trans (hb2.mono (by omega))
  have hs2 := hb2.size
  clear h1 h2 h3 hb1 hb2
  have HPAIR := Lib.hid (show ∀ w3, (w2.alloc (.cells Z 43)).setRow w2.heap.size bA = w3 → Blk w3 w2.heap.size bA 43 ∧ Blk w3 w.heap.size kA 23 ∧ Blk w3 (w.heap.size + 1) xA 22 ∧ Blk w3 (w.heap.size + 1 + 1) X 22 ∧ Below w.heap.size w w3 by
    rintro w3 rfl
    exact ⟨(Blk.new w2 _ _).row _, (K1.out.alloc _).rowOther (by omega) _, (K2.out.alloc _).rowOther (by omega) _, (K3.out.alloc _).rowOther (by omega) _, below_row (hb02.alloc (by omega) _) (by simp; omega) (by omega) _⟩)
  go_wp2_with (first
    | (with_reducible refine wpList_store_blkTo rfl 43 (.tmp 5) (.tmp 7) rfl rfl w2.heap.size bA rfl rfl 43 Z (Blk.new w2 _ _) (by rw [HBZ.out]; kernel_rfl) (by rw [HBZ.out, HZ.out]) HBO.out ?_
       generalize hw3 : World.setRow _ _ _ = w3
       obtain ⟨g1, g2, g3, g4, hb3⟩ := HPAIR.out _ hw3
       clear hw3)
    | (with_reducible refine wpList_load_blk rfl 23 (.tmp 2) rfl w.heap.size rfl 23 kA _ g2 Try.underlying23 rfl (by rw [HKZ.out]; kernel_rfl) ?_))
  obtain ⟨sb, hsb⟩ : ∃ y, w2.heap.size = y := ⟨_, rfl⟩
  rw [hsb] at g1 ⊢
  have L1 := Lib.hid g1
  have L2 := Lib.hid g3
  have L3 := Lib.hid g4
  have m1 := g1.lt
  have m2 := g3.lt
  have m3 := g4.lt
  clear g1 g2 g3 g4 K1 K2 K3 HPAIR HBX hb02
  refine (HEX.out _ _ L1.out).mono ?_
  rintro e w4 ⟨rfl, hb4⟩
  have M1 := Lib.hid (L1.out.below hb4 m1)
  have M2 := Lib.hid (L2.out.below hb4 m2)
  have M3 := Lib.hid (L3.out.below hb4 m3)
  have hb04 := hb3.trans (hb4.mono (by omega))
  have hs4 := hb4.size
  clear L1 L2 L3 hb4 hb3 HEX
  have HPAIR := Lib.hid (show ∀ w5, (w4.alloc (.cells Y 45)).setRow w4.heap.size eA = w5 → Blk w5 w4.heap.size eA 45 ∧ Blk w5 sb bA 43 ∧ Blk w5 (w.heap.size + 1) xA 22 ∧ Blk w5 (w.heap.size + 1 + 1) X 22 ∧ Below w.heap.size w w5 by
    rintro w5 rfl
    exact ⟨(Blk.new w4 _ _).row _, (M1.out.alloc _).rowOther (by omega) _, (M2.out.alloc _).rowOther (by omega) _, (M3.out.alloc _).rowOther (by omega) _, below_row (hb04.alloc (by omega) _) (by simp; omega) (by omega) _⟩)
  go_wp2_with (first
    | (with_reducible refine wpList_store_blkTo rfl 45 (.tmp 6) (.tmp 9) rfl rfl w4.heap.size eA rfl rfl 45 Y (Blk.new w4 _ _) (by rw [HEZ.out]; kernel_rfl) (by rw [HEZ.out, HY.out]) HEO.out ?_
       generalize hw5 : World.setRow _ _ _ = w5
       obtain ⟨g1, g2, g3, g4, hb5⟩ := HPAIR.out _ hw5
       clear hw5)
    | (with_reducible refine wpList_load_blk rfl 22 (.tmp 3) rfl (w.heap.size + 1) rfl 22 xA _ g3 Try.underlying22 rfl (by rw [HXZ.out]; kernel_rfl) ?_))
  have L1 := Lib.hid g1
  have L2 := Lib.hid g2
  have L3 := Lib.hid g4
  have m5 := g4.lt
  clear g1 g2 g3 g4 M1 M2 M3 HPAIR hb04
  refine (HBK.out _ _ _ L2.out L1.out).mono ?_
  rintro e w6 ⟨rfl, hb6⟩
  have hrs := L3.out.below hb6 m5
  have hb06 := hb5.trans (hb6.mono (by omega))
  have hs6 := hb6.size
  clear L1 L2 L3 hb5 hb6 HBK
  go_wp2_with (with_reducible refine wpList_store_blk rfl 22 (.tmp 4) (.tmp 11) rfl (w.heap.size + 1 + 1) fin rfl rfl 22 X hrs (by rw [HFZ.out]; kernel_rfl) (by rw [HFZ.out, HX.out]) HFO.out ?_)
  refine bodyPost_ret (v := .agg fin) (results_cell_row (p := 4) (ty := 22) (by kernel_rfl) _ _ (w.heap.size + 1 + 1) 22 _ (0, 0) _ rfl (hrs.row fin) Try.underlying22 rfl (by rw [HFZ.out]; kernel_rfl)) rfl ⟨rfl, below_row hb06 (by omega) (by omega) _⟩
end Go.Proofs.Ytcajlmlblkdjoaa
