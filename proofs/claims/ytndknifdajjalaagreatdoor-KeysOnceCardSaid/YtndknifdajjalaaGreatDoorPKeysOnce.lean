/- KeysOnce: no leaf signs twice, wherever the disk stops, and however often the keystore is opened again, or twice at once. For all seeds, heights and calls. -/
import Derived.Deep.CutRange
import Derived.Test.YtndknifdajjalaaGreatDoorPLaw
import Derived.Test.YtndknifdajjalaaGreatDoorPKeyT
import Derived.Test.YtndknifdajjalaaGreatDoorPOpenAk
import Derived.Test.YtndknifdajjalaaGreatDoorPKeep
import Derived.Test.YtndknifdajjalaaGreatDoorPSub
namespace Go.Proofs.YtndknifdajjalaaGreatDoor.keysOnce
open Go.ChangeShapes Go.WideShapes Go.ChangeAt Go.RowKit

set_option maxRecDepth 100000 in
set_option maxHeartbeats 16000000 in
theorem walk (sd : List UInt8) (height : Int) (A : Option Addr) (nA cA : Nat) (la : List Act12) (w : World) (hs : sd.length = 16) (h0 : -9223372036854775808 ≤ height) (h1 : height ≤ 9223372036854775807) (hla : la.length = nA) (hca : nA ≤ cA) (hcma : cA ≤ maxLen) (hok : ∀ a ∈ la, a.ok) (hra : RdAk w w.heap.size A la) (htab : Pow10 w.heap.size w) :
    Calls Tryz.prog 5 #[.agg (u8A sd), .int .i64 height, .slice A nA cA] w fun e w' => e = .returned (.bool true) ∧ Below w.heap.size w w' := by
  have HT := Lib.hid htab
  have HRA := Lib.hid hra
  have HNA := Lib.hid hla
  have HOK := Lib.hid hok
  have hma : nA ≤ maxLen := by omega
  unfold maxLen at hma
  have hr3 := withinI_range height 3 (by omega)
  obtain ⟨h, hh⟩ : ∃ h : Nat, withinI height 3 = (h : Int) := ⟨(withinI height 3).toNat, by omega⟩
  have hh3 : h < 3 := by omega
  have HWN := Lib.hid (fun W => (show Calls Tryz.prog 15 #[.int .i64 height, .int .i64 3] W fun e w' => e = .returned (.int .i64 (h : Int)) ∧ W = w' from by rw [← hh]; exact within_any height 3 W (by omega) (by omega) (by omega)))
  obtain ⟨X, hX⟩ : ∃ x, u8A sd = x := ⟨_, rfl⟩
  have HX := Lib.hid hX
  have HZX := Lib.hid (show X.size = 16 by rw [← hX, u8A_size]; exact hs)
  have HSD := Lib.hid hs
  obtain ⟨Z, hZ⟩ : ∃ x, u8A (printH (h : Int) (keyRoot sd h)) = x := ⟨_, rfl⟩
  have HZ := Lib.hid hZ
  have HZZ := Lib.hid (show Z.size = 32 by rw [← hZ, u8A_size]; exact printH_len _ _)
  have HZO := Lib.hid (show Z.all (·.oneCell') = true by rw [← hZ]; exact u8A_one _)
  have HPR := Lib.hid (fun W => rprint9_any sd h W hs (by omega))
  rw [hX, hZ] at HPR
  rw [hX]
  clear htab hra hla hok hs hX hZ hca hcma hh hr3 h0 h1
  go_enter Tryz.func5, Tryz.ntmps5
  go_upto_region 1 with fail
  have hB := Blk.new w X 23
  have hal : Below w.heap.size w (w.alloc (.cells X 23)) := (Below.refl _ _).alloc (Nat.le_refl _) _
  generalize w.alloc (.cells X 23) = w3 at *
  have HB3 := Lib.hid hB
  have HBW := Lib.hid hal
  clear hB hal
  go_wp2_with fail
  with_reducible refine (HWN.out _).mono ?_
  rintro e w' ⟨rfl, rfl⟩
  clear HWN
  go_wp2_with fail
  with_reducible refine (pnew_at 16 16 rfl w3 (by omega) (by omega)).mono ?_
  rintro e w1 ⟨p, rfl, hp, g, hg, D1, hb1⟩
  have HD1 := Lib.hid (show DP w1 p g (4 * (3 + 1)) 16 (newD (4 * (3 + 1))) from D1)
  clear D1
  go_wp2_with fail
  with_reducible refine (open_re HD1.out (by omega) (by omega) (new_re 3 4) rfl (i := 4) (j := 3) rfl rfl).mono ?_
  rintro e w2 ⟨q, b, rfl, hq, hb, S2, L2, C2⟩
  rw [new_same] at S2 L2
  have HS2 := Lib.hid S2
  have hb12 := hb1.trans (C2.below hb1.size (two_ge hp hg))
  have HG4X := Lib.hid (show fourS q p g b w.heap.size → False from fun e => by have h3 := HB3.out.lt; have h4 := fourS_ge (Nat.le_trans hb1.size hq) hp hg (Nat.le_trans hb1.size hb) _ e; omega)
  have HPG := Lib.hid (And.intro (Nat.le_trans HBW.out.size hp) (Nat.le_trans HBW.out.size hg))
  have HGE := Lib.hid (fourS_ge (q := q) (b := b) (Nat.le_trans (Nat.le_trans HBW.out.size hb1.size) hq) (Nat.le_trans HBW.out.size hp) (Nat.le_trans HBW.out.size hg) (Nat.le_trans (Nat.le_trans HBW.out.size hb1.size) hb))
  have HQB := Lib.hid (And.intro (Nat.le_trans (Nat.le_trans HBW.out.size hb1.size) hq) (Nat.le_trans (Nat.le_trans HBW.out.size hb1.size) hb))
  have HB2 := Lib.hid (HBW.out.trans (hb12.mono HBW.out.size))
  replace HB3 := Lib.hid (HB3.out.below hb12 HB3.out.lt)
  clear S2 L2 C2 HD1 hb1 hb12 hq hb hp hg HBW
  go_wp2_with (with_reducible refine wpList_load_blk rfl 23 (.tmp 3) rfl w.heap.size rfl 23 X _ HB3.out Tryz.underlying23 rfl (by rw [HZX.out]; kernel_rfl) ?_)
  with_reducible refine (HPR.out w2).mono ?_
  rintro e w4 ⟨rfl, hb4⟩
  have HS4 := Lib.hid (HS2.out.below hb4)
  have HB4 := Lib.hid (HB2.out.trans (hb4.mono HB2.out.size))
  replace HB3 := Lib.hid (HB3.out.below hb4 HB3.out.lt)
  clear hb4 HPR HS2 HB2
  go_upto_region 9 with (with_reducible refine wpList_store_blk rfl 44 (.tmp 11) (.tmp 43) rfl w4.heap.size Z rfl rfl 44 _ (Blk.new _ _ _) (by rw [HZZ.out]; kernel_rfl) (by rw [HZZ.out]; kernel_rfl) HZO.out ?_)
  generalize hwn : World.setRow _ _ _ = w5
  have hal5 : Below w4.heap.size w4 w5 := by
    rw [← hwn]
    exact below_row ((Below.refl _ _).alloc (Nat.le_refl _) _) (by simp) (Nat.le_refl _) _
  have HF5 := Lib.hid (show Blk w5 w4.heap.size Z 44 by
    rw [← hwn]
    exact (Blk.new _ _ _).row _)
  have HS5 := Lib.hid (HS4.out.below hal5)
  have HB5 := Lib.hid (HB4.out.trans (hal5.mono HB4.out.size))
  replace HB3 := Lib.hid (HB3.out.below hal5 HB3.out.lt)
  have HGF := Lib.hid HB4.out.size
  have HG4F := Lib.hid (show fourS q p g b w4.heap.size → False from fun e => by have := HS4.out.four_lt _ e; omega)
  generalize w4.heap.size = gf at *
  clear hal5 hwn HS4 HB4
  go_upto_region 10 with fail
  have hUB := Blk.new w5 #[.bool false, .bool false, .bool false, .bool false] 66
  have hal6 := (Below.refl w5.heap.size w5).alloc (Nat.le_refl _) (.cells #[.bool false, .bool false, .bool false, .bool false] 66)
  generalize w5.alloc (.cells #[.bool false, .bool false, .bool false, .bool false] 66) = w6 at *
  have HU6 := Lib.hid hUB
  have HF6 := Lib.hid (HF5.out.below hal6 HF5.out.lt)
  have HS6 := Lib.hid (HS5.out.below hal6)
  have HB6 := Lib.hid (HB5.out.trans (hal6.mono HB5.out.size))
  replace HB3 := Lib.hid (HB3.out.below hal6 HB3.out.lt)
  have HGU := Lib.hid HB5.out.size
  have HG4U := Lib.hid (show fourS q p g b w5.heap.size → False from fun e => by have := HS5.out.four_lt _ e; omega)
  generalize w5.heap.size = gu at *
  clear hUB hal6 HS5 HB5 HF5
  go_upto_region 11 with (with_reducible refine wpList_make_two rfl _ _ rfl rfl rfl (fun w7 hT7 hal7 => ?_))
  have HT7 := Lib.hid (show OpenedK w7 w6.heap.size q p g b w.heap.size sd h 0 0 from .inl ⟨rfl, _, _, hT7⟩)
  have HS7 := Lib.hid (HS6.out.below hal7)
  have HU7 := Lib.hid (show Blk w7 gu (uA fun _ => false) 66 from HU6.out.below hal7 HU6.out.lt)
  have HF7 := Lib.hid (HF6.out.below hal7 HF6.out.lt)
  have HX7 := Lib.hid (HB3.out.below hal7 HB3.out.lt)
  have HB7 := Lib.hid (HB6.out.trans (hal7.mono HB6.out.size))
  have HGT := Lib.hid HB6.out.size
  have HG4 := Lib.hid (show fourS q p g b w6.heap.size → False from fun e => by have := HS6.out.four_lt _ e; omega)
  generalize w6.heap.size = gt at *
  clear hT7 hal7 HS6 HB6 HU6 HF6 HB3
  have HSH := Lib.hid (short_none (t := ⟨[], false⟩) (name := [107]) rfl)
  have HNX := Lib.hid (next_none (t := ⟨[], false⟩) (name := [107]) rfl 0)
  go_wp2_with fail
  go_loopw [47] (fun tj wr => ∃ j : Nat, j ≤ 2 ∧ tj = .int .i64 j ∧ Hid (OpenedK wr gt q p g b w.heap.size sd h 0 j) ∧ Hid (ST wr q p g b 16 (newD (4 * (3 + 1))) 3 4 0 ⟨[], false⟩) ∧ Hid (Blk wr gu (uA (fun _ => false)) 66) ∧ Hid (Blk wr gf Z 44) ∧ Hid (Blk wr w.heap.size X 23) ∧ Hid (Below w.heap.size w wr)) (fun tj _ => 2 - (intOf tj).toNat)
  case atStart => exact ⟨0, by omega, rfl, HT7, HS7, HU7, HF7, HX7, HB7⟩
  case round =>
    obtain ⟨j, hj, rfl, HTW, HS8, HU8, HF8, HX8, HB8⟩ := hrel
    clear HB7 HF7 HS7 HT7 HU7 HX7
    rcases HTW.out with ⟨rfl, hop⟩ | ⟨rfl, hop⟩ | ⟨rfl, k0, k1, hT, hk0, hk1, hne⟩
    · clear HTW
      obtain ⟨P0, P1, hT⟩ := hop
      have HT8 := Lib.hid hT
      clear hT 
      have HO := Lib.hid (popenk_any (name := [107]) (sd := sd) (h := h) HS8.out HSH.out HSD.out (by omega) (by simp) (i := (h : Int)) rfl (nb := ⟨#[107]⟩) rfl)
      rw [HX.out, HNX.out] at HO
      have hji : (0 : Int) < 2 := by omega
      go_wp2_with (with_reducible refine wpList_load_blk rfl 23 (.tmp 3) rfl w.heap.size rfl 23 X _ HX8.out Tryz.underlying23 rfl (by rw [HZX.out]; kernel_rfl) ?_)
      with_reducible refine HO.out.mono ?_
      rintro e w9 ⟨k, rfl, hk, K9, hb9⟩
      have HT9 := Lib.hid (HT8.out.below hb9 HT8.out.lt)
      have HS9 := Lib.hid (HS8.out.below hb9)
      have HU9 := Lib.hid (HU8.out.below hb9 HU8.out.lt)
      have HF9 := Lib.hid (HF8.out.below hb9 HF8.out.lt)
      have HX9 := Lib.hid (HX8.out.below hb9 HX8.out.lt)
      have HB9 := Lib.hid (HB8.out.trans (hb9.mono HB8.out.size))
      have HKA := Lib.hid (KAt.mk (B := w.heap.size) K9 (Apart5.of_lt (k := k) fun i hi => Nat.lt_of_lt_of_le (HS8.out.four_lt i hi) hk) (Nat.le_trans HB8.out.size hk))
      have c0 : w9.cell? ⟨gt, 0, none⟩ = some P0 := HT9.out.cell 0
      have f0 := HT9.out.frozen 0
      clear K9 hb9 HO hk HT8 HS8 HU8 HF8 HX8 HB8 
      go_wp2_with fail
      have hc := lay_chg (w := w9) (gt := gt) 0 (.pointer (some ⟨k, 0, none⟩))
      have HK9 := Lib.hid (HKA.out.chg hc (gt_ne HT9.out HKA.out.ks.blk (by decide)))
      have HSx := Lib.hid (HS9.out.lay hc HG4.out)
      have HUx := Lib.hid (HU9.out.other (p := ⟨gt, 0, none⟩) (fun e => gt_ne HT9.out HU9.out (by decide) e.symm) (.pointer (some ⟨k, 0, none⟩)))
      have HFx := Lib.hid (HF9.out.other (p := ⟨gt, 0, none⟩) (fun e => gt_ne HT9.out HF9.out (by decide) e.symm) (.pointer (some ⟨k, 0, none⟩)))
      have HXx := Lib.hid (HX9.out.other (p := ⟨gt, 0, none⟩) (fun e => gt_ne HT9.out HX9.out (by decide) e.symm) (.pointer (some ⟨k, 0, none⟩)))
      have HBx := Lib.hid (HB9.out.trans (hc.below HB9.out.size (fun i e => by rw [e]; exact HGT.out)))
      clear hc c0 f0
      go_roundw
      case rel => exact ⟨1, by omega, by go_num, Lib.hid (.inr (.inl ⟨rfl, k, P1, HT9.out.set 0 _, HK9.out⟩)), HSx, HUx, HFx, HXx, HBx⟩
      case measure => simp [intOf]
    · clear HTW
      obtain ⟨k0, P1, hT, hk0⟩ := hop
      have HT8 := Lib.hid hT
      have HK8 := Lib.hid hk0
      clear hT hk0
      have HO := Lib.hid (popenk_any (name := [107]) (sd := sd) (h := h) HS8.out HSH.out HSD.out (by omega) (by simp) (i := (h : Int)) rfl (nb := ⟨#[107]⟩) rfl)
      rw [HX.out, HNX.out] at HO
      have hji : (1 : Int) < 2 := by omega
      go_wp2_with (with_reducible refine wpList_load_blk rfl 23 (.tmp 3) rfl w.heap.size rfl 23 X _ HX8.out Tryz.underlying23 rfl (by rw [HZX.out]; kernel_rfl) ?_)
      with_reducible refine HO.out.mono ?_
      rintro e w9 ⟨k, rfl, hk, K9, hb9⟩
      have HT9 := Lib.hid (HT8.out.below hb9 HT8.out.lt)
      have HS9 := Lib.hid (HS8.out.below hb9)
      have HU9 := Lib.hid (HU8.out.below hb9 HU8.out.lt)
      have HF9 := Lib.hid (HF8.out.below hb9 HF8.out.lt)
      have HX9 := Lib.hid (HX8.out.below hb9 HX8.out.lt)
      have HB9 := Lib.hid (HB8.out.trans (hb9.mono HB8.out.size))
      have HKA := Lib.hid (KAt.mk (B := w.heap.size) K9 (Apart5.of_lt (k := k) fun i hi => Nat.lt_of_lt_of_le (HS8.out.four_lt i hi) hk) (Nat.le_trans HB8.out.size hk))
      have HNE := Lib.hid (show k0 ≠ k by have := HK8.out.ks.lt; omega)
      have HKB := Lib.hid (HK8.out.below hb9)
      have c0 : w9.cell? ⟨gt, 1, none⟩ = some P1 := HT9.out.cell 1
      have f0 := HT9.out.frozen 1
      clear K9 hb9 HO hk HT8 HS8 HU8 HF8 HX8 HB8 HK8
      go_wp2_with fail
      have hc := lay_chg (w := w9) (gt := gt) 1 (.pointer (some ⟨k, 0, none⟩))
      have HK9 := Lib.hid (HKA.out.chg hc (gt_ne HT9.out HKA.out.ks.blk (by decide)))
      have HSx := Lib.hid (HS9.out.lay hc HG4.out)
      have HUx := Lib.hid (HU9.out.other (p := ⟨gt, 1, none⟩) (fun e => gt_ne HT9.out HU9.out (by decide) e.symm) (.pointer (some ⟨k, 0, none⟩)))
      have HFx := Lib.hid (HF9.out.other (p := ⟨gt, 1, none⟩) (fun e => gt_ne HT9.out HF9.out (by decide) e.symm) (.pointer (some ⟨k, 0, none⟩)))
      have HXx := Lib.hid (HX9.out.other (p := ⟨gt, 1, none⟩) (fun e => gt_ne HT9.out HX9.out (by decide) e.symm) (.pointer (some ⟨k, 0, none⟩)))
      have HBx := Lib.hid (HB9.out.trans (hc.below HB9.out.size (fun i e => by rw [e]; exact HGT.out)))
      have HK0 := Lib.hid (HKB.out.chg hc (gt_ne HT9.out HKB.out.ks.blk (by decide)))
      clear hc c0 f0
      go_roundw
      case rel => exact ⟨2, by omega, by go_num, Lib.hid (.inr (.inr ⟨rfl, k0, k, HT9.out.set 1 _, HK0.out, HK9.out, HNE.out⟩)), HSx, HUx, HFx, HXx, HBx⟩
      case measure => simp [intOf]
    · clear HTW
      have HI := Lib.hid (OnceW.mk HS8.out once_new hT hk0.ks hk1.ks (by omega) (by omega) hk0.ap hk1.ap HGE.out hk0.ge hk1.ge hne HU8.out HF8.out HX8.out HB8.out ⟨HG4.out, HG4U.out, HG4F.out, HG4X.out⟩)
      clear hT hk0 hk1 hne HS8 HU8 HF8 HX8 HB8 HGE HG4 HG4U HG4F HG4X HSH HNX hj
      go_wp2_with fail
      go_loopw [9, 17] (fun t9 t17 wr => ∃ (i q b k0 k1 n0 n1 m N : Nat) (s : Dsk) (t : Sto) (U : Nat → Bool), i ≤ 12 ∧ i ≤ nA ∧ t9 = .pointer (some ⟨q, 0, none⟩) ∧ t17 = .int .i64 i ∧ m ≤ i ∧ Hid (OnceW w wr gf gu gt p g X Z sd h q b k0 k1 n0 n1 s t m N U)) (fun _ t17 _ => 12 - (intOf t17).toNat)
      case atStart => exact ⟨0, q, b, k0, k1, 0, 0, 0, 0, _, _, _, by omega, by omega, rfl, rfl, by omega, HI⟩
      case round =>
        clear HI
        obtain ⟨i, q, b, k0, k1, n0, n1, m, N, s, t, U, hi, hiA, rfl, rfl, hm, HI⟩ := hrel
        by_cases hlt : i < nA ∧ i < 12
        · obtain ⟨hln, hl12⟩ := hlt
          have hln1 : (i : Int) < (nA : Int) := by omega
          have hl121 : (i : Int) < 12 := by omega
          have hlL : i < la.length := by rw [HNA.out]; exact hln
          obtain ⟨bb, oo, hA, hbb, hact⟩ : ∃ b off, A = some ⟨b, off, none⟩ ∧ b < w.heap.size ∧ ∀ i (h : i < la.length), ActKy w w.heap.size b (off + i * 4) la[i] := by
            rcases HRA.out with h0 | h0
            · rw [h0] at hlL; cases hlL
            · exact h0
          subst hA
          obtain ⟨d0, d1, d2, A', cB, d3, hM, hcB, hRd⟩ := hact i hlL
          obtain ⟨⟨ak1, ak2⟩, at1, at2⟩ := HOK.out _ (List.getElem_mem hlL)
          generalize la[i] = a at *
          obtain ⟨V, AT, KP, B⟩ := a
          dsimp only at d0 d1 d2 d3 hM hRd ak1 ak2 at1 at2
          obtain ⟨M, hMM⟩ : ∃ M, B.length = M := ⟨_, rfl⟩
          rw [hMM] at d3 hM
          have HBl := Lib.hid hMM
          have c0 : wr.cell? ⟨bb, oo + i * 4, none⟩ = some (.int .i64 V) := (HI.out.bel.cell (p := ⟨bb, oo + i * 4, none⟩) hbb).trans d0
          have c1 : wr.cell? ⟨bb, oo + i * 4 + 1, none⟩ = some (.int .i64 AT) := (HI.out.bel.cell (p := ⟨bb, oo + i * 4 + 1, none⟩) hbb).trans d1
          have c2 : wr.cell? ⟨bb, oo + i * 4 + 2, none⟩ = some (.int .i64 KP) := (HI.out.bel.cell (p := ⟨bb, oo + i * 4 + 2, none⟩) hbb).trans d2
          have c3 : wr.cell? ⟨bb, oo + i * 4 + 3, none⟩ = some (.slice A' M cB) := (HI.out.bel.cell (p := ⟨bb, oo + i * 4 + 3, none⟩) hbb).trans d3
          clear d0 d1 d2 d3 hact hMM
          go_upto_region 23 with fail
          have hAB := Blk.new wr #[.int .i64 V, .int .i64 AT, .int .i64 KP, .slice A' M cB] 62
          have hal := (Below.refl wr.heap.size wr).alloc (Nat.le_refl _) (.cells #[.int .i64 V, .int .i64 AT, .int .i64 KP, .slice A' M cB] 62)
          generalize wr.alloc (.cells #[.int .i64 V, .int .i64 AT, .int .i64 KP, .slice A' M cB] 62) = w7 at *
          have HI7 := Lib.hid (HI.out.below hal)
          have HAB := Lib.hid hAB
          have HG18 := Lib.hid (show ¬ Go.Proofs.YtndknifdajjalaaGreatDoor.two p g wr.heap.size from fun e => by have := HI.out.st.four_lt _ (two_fourK _ e); omega)
          generalize wr.heap.size = g18 at *
          clear hal hAB c0 c1 c2 c3 HI
          obtain ⟨x, hx⟩ : ∃ x, min M 10 = x := ⟨_, rfl⟩
          have hx1 : x ≤ 10 := by omega
          have HCB := Lib.hid (fun W => (show Calls Tryz.prog 9 #[.slice A' M cB, .int .i64 10] W fun e w' => e = .returned (.slice A' x cB) ∧ W = w' from by rw [← hx]; exact cut_any A' M cB 10 W hM))
          have HME := Lib.hid (show (B.take x).length = x by rw [List.length_take, HBl.out]; omega)
          have HRW := Lib.hid (hRd.take x)
          clear hx hRd hM HBl
          generalize B.take x = bl at *
          clear B
          have HW8 := Lib.hid (show ((UInt8.ofNat i).toNat : Int) = (i : Int) by
            rw [UInt8.toNat_ofNat']
            omega)
          obtain ⟨i0, hi0, hi1, hi2, hi3⟩ := info_parts info5
          have HO1 := Lib.hid (⟨rfl, .inr ⟨w7.heap.size, 1, #[.int .u8 ((UInt8.ofNat i).toNat : Int)], rfl, Nat.le_refl _, heap_alloc_new _ _, Nat.le_refl _, by decide, rfl, rfl⟩⟩ : (w7.alloc (.cells #[.int .u8 ((UInt8.ofNat i).toNat : Int)] 5)).ownsRow w7.heap.size 5 1 (.slice (some ⟨w7.heap.size, 0, none⟩) 1 1) 1 [.int .u8 ((UInt8.ofNat i).toNat : Int)])
          have hal : Below w7.heap.size w7 (w7.alloc (.cells #[.int .u8 ((UInt8.ofNat i).toNat : Int)] 5)) := (Below.refl _ _).alloc (Nat.le_refl _) _
          have HCR := Lib.hid ((HRW.out.on HI7.out.bel).below hal (Nat.le_refl _))
          have HAL7 := Lib.hid (HAB.out.alloc (.cells #[.int .u8 ((UInt8.ofNat i).toNat : Int)] 5))
          have e3 : (w7.alloc (.cells #[.int .u8 ((UInt8.ofNat i).toNat : Int)] 5)).cell? ⟨g18, 3, none⟩ = some (.slice A' M cB) := HAL7.out.cell 3
          have e3' : (w7.alloc (.cells #[.int .u8 ((i : Int) % 256)] 5)).cell? ⟨g18, 3, none⟩ = some (.slice A' M cB) := (HAB.out.alloc _).cell 3
          have e3'' : (w7.alloc (.cells #[.int .u8 (i : Int)] 5)).cell? ⟨g18, 3, none⟩ = some (.slice A' M cB) := (HAB.out.alloc _).cell 3
          go_wp2_with fail
          with_reducible refine (HCB.out _).mono ?_
          rintro e wx ⟨rfl, rfl⟩
          first
            | rw [show (Value.int .u8 ((i : Int) % 256)) = .int .u8 ((UInt8.ofNat i).toNat : Int) by rw [HW8.out, Int.emod_eq_of_lt (by omega) (by omega)]]
            | rw [show (Value.int .u8 (i : Int)) = .int .u8 ((UInt8.ofNat i).toNat : Int) by rw [HW8.out]]
          go_wp2_with (at_builtin; refine wpList_append_rd rfl _ _ 35 rfl w7.heap.size 5 i0 Tryz.underlying35 hi0 hi1 hi2 hi3 _ 1 [.int .u8 ((UInt8.ofNat i).toNat : Int)] rfl HO1.out w7.heap.size A' x cB bl rfl HME.out HCR.out (by omega) (by simp) ?_)
          intro vq w8 ho hg8
          have hb8 : Below w7.heap.size w7 w8 := hal.grown hg8 (by simp) (fun k hk => by simp [Value.ownBlock] at hk; omega)
          obtain ⟨AQ, cQ, rfl, hcq, hcmq⟩ := own_caps ho
          have HMS := Lib.hid (show w8.ownsRow w7.heap.size 5 1 (.slice AQ (1 + x) cQ) (1 + x) (Lib.byteCells (UInt8.ofNat i :: bl)) from ho)
          have HI8 := Lib.hid (HI7.out.below hb8)
          have HA8 := Lib.hid (HAB.out.below hb8 HAB.out.lt)
          have HS7 := Lib.hid (fun k (hk : k < w7.heap.size) j (hj : fiveS k q p g b j) => (show j < w7.heap.size from by
            rcases hj with e | e
            · rw [e]; exact hk
            · exact HI7.out.st.four_lt _ e))
          have HK7 := Lib.hid (And.intro HI7.out.ks0.lt HI7.out.ks1.lt)
          have HML := Lib.hid (show (UInt8.ofNat i :: bl).length = 1 + x by rw [List.length_cons, HME.out]; omega)
          clear ho hg8 hb8 hal HO1 HCR HAL7 e3 e3' e3'' HCB HI7 HAB HRW HME HW8 hi0 hi1 hi2 hi3
          obtain ⟨e0, e1, e2⟩ : w8.cell? ⟨g18, 0, none⟩ = some (.int .i64 V) ∧ w8.cell? ⟨g18, 1, none⟩ = some (.int .i64 AT) ∧ w8.cell? ⟨g18, 2, none⟩ = some (.int .i64 KP) := ⟨HA8.out.cell 0, HA8.out.cell 1, HA8.out.cell 2⟩
          have hr7 := withinI_range V 7 (by omega)
          obtain ⟨r, hr⟩ : ∃ r, withinI V 7 = r := ⟨_, rfl⟩
          rw [hr] at hr7
          have HWV := Lib.hid (show Calls Tryz.prog 15 #[.int .i64 V, .int .i64 7] w8 fun e w' => e = .returned (.int .i64 r) ∧ w8 = w' from by rw [← hr]; exact within_any V 7 w8 (by omega) (by omega) (by omega))
          clear hr
          go_wp2_with fail
          with_reducible refine HWV.out.mono ?_
          rintro e wx ⟨rfl, rfl⟩
          clear HWV
          by_cases h5 : r = 5
          · subst h5
            have hra := withinI_range AT 5 (by omega)
            obtain ⟨v5, hv5⟩ : ∃ v, withinI AT 5 = v := ⟨_, rfl⟩
            rw [hv5] at hra
            have HWA := Lib.hid (fun W => (show Calls Tryz.prog 15 #[.int .i64 AT, .int .i64 5] W fun e w' => e = .returned (.int .i64 v5) ∧ W = w' from by rw [← hv5]; exact within_any AT 5 W (by omega) (by omega) (by omega)))
            have hcd : Below w8.heap.size w8 w8.drew := (Below.refl _ _).drew
            have HST := Lib.hid (pstop_any (HI8.out.below hcd).st.sp.disk v5 KP (by omega))
            have HKEEP := Lib.hid (fun (W : World) (hc : Chg (Go.Proofs.YtndknifdajjalaaGreatDoor.two p g) w8 W) => (show (W.cell? ⟨g18, 1, none⟩ = some (.int .i64 AT) ∧ W.cell? ⟨g18, 2, none⟩ = some (.int .i64 KP)) ∧ Chg (Go.Proofs.YtndknifdajjalaaGreatDoor.two p g) w8 W from ⟨⟨(hc.blk HA8.out HG18.out).cell 1, (hc.blk HA8.out HG18.out).cell 2⟩, hc⟩))
            have hcc : Chg (Go.Proofs.YtndknifdajjalaaGreatDoor.two p g) w8 w8.drew := .of_below hcd
            clear hv5
            go_wp2_with fail
            go_region_held3 (fun W => (W.cell? ⟨g18, 1, none⟩ = some (.int .i64 AT) ∧ W.cell? ⟨g18, 2, none⟩ = some (.int .i64 KP)) ∧ Chg (Go.Proofs.YtndknifdajjalaaGreatDoor.two p g) w8 W)
              ((first | exact HKEEP.out _ ‹_› | exact HKEEP.out _ (Chg.drew ‹_›) | exact HKEEP.out _ (Chg.drewN ‹_› _) | exact HKEEP.out _ (Chg.of_below hcd)))
              ((first
                | (go_at_call 15; with_reducible refine (HWA.out _).mono ?_; rintro e wx ⟨rfl, rfl⟩)
                | (go_at_call 20; with_reducible refine HST.out.mono ?_; rintro e w9 ⟨rfl, D9, C9⟩; have hch9 : Chg (Go.Proofs.YtndknifdajjalaaGreatDoor.two p g) w8 w9 := Chg.trans hcc C9)
                | fail "none"))
            all_goals
              have HI9 := Lib.hid ((HI8.out.below hcd).stop D9 C9)
              clear HKEEP HST HWA D9 C9 hch9 HI8 HA8 HMS HS7 HK7 e0 e1 e2 hcd hcc
              go_wp2_with fail
              go_roundw
              case rel => (repeat apply Exists.intro); refine ⟨?_, rfl⟩; exact ⟨i + 1, q, b, k0, k1, n0, n1, m, N, _, t, U, by omega, by omega, rfl, by go_num, by omega, HI9⟩
              case measure => simp [intOf]; omega
          · by_cases h6 : r = 6
            · subst h6
              go_wp2_with fail
              with_reducible refine (pdstart_any HI8.out.st.sp.disk).mono ?_
              rintro e w9 ⟨rfl, D9, C9⟩
              have HD9 := Lib.hid (show DP w9 p g (4 * (3 + 1)) 16 s.start from D9)
              obtain ⟨L2, hre, _⟩ := HI8.out.once.re
              have HRE := Lib.hid hre
              clear D9 hre
              go_wp2_with fail
              with_reducible refine (open_re HD9.out (by omega) (by omega) HRE.out rfl (i := 4) (j := 3) rfl rfl).mono ?_
              rintro e w10 ⟨q2, b2, rfl, hq2, hb2, S10, L10, C10⟩
              have hc2 : Chg (Go.Proofs.YtndknifdajjalaaGreatDoor.two p g) w8 w10 := C9.trans C10
              have HS7x := Lib.hid S10
              have HT7 := Lib.hid (show OpenedK w10 gt q2 p g b2 w.heap.size sd h N 0 from .inl ⟨rfl, _, _, hc2.blk HI8.out.two (fun e => HI8.out.four.1 (two_fourK _ e))⟩)
              have HU7 := Lib.hid (hc2.blk HI8.out.us (fun e => HI8.out.four.2.1 (two_fourK _ e)))
              have HF7 := Lib.hid (hc2.blk HI8.out.fp (fun e => HI8.out.four.2.2.1 (two_fourK _ e)))
              have HX7 := Lib.hid (hc2.blk HI8.out.sd_ (fun e => HI8.out.four.2.2.2 (two_fourK _ e)))
              have HB7 := Lib.hid (HI8.out.bel.trans (hc2.below HI8.out.bel.size (fun j e => HI8.out.ge4 j (two_fourK _ e))))
              have HON := Lib.hid (HI8.out.once.again HRE.out L10.good)
              have HSZ := Lib.hid (show w8.heap.size ≤ q2 ∧ w8.heap.size ≤ b2 from ⟨Nat.le_trans C9.size hq2, Nat.le_trans C9.size hb2⟩)
              have HGE := Lib.hid (fourS_ge (q := q2) (b := b2) (B := w.heap.size) (Nat.le_trans HI8.out.bel.size HSZ.out.1) HPG.out.1 HPG.out.2 (Nat.le_trans HI8.out.bel.size HSZ.out.2))
              have hnot : ∀ j, j < w8.heap.size → (fourS q p g b j → False) → (fourS q2 p g b2 j → False) := fun j hj h4 e => by
                rcases e with e | e | e | e
                · have := HSZ.out.1; omega
                · exact h4 (.inr (.inl e))
                · exact h4 (.inr (.inr (.inl e)))
                · have := HSZ.out.2; omega
              have HG4 := Lib.hid (hnot gt HI8.out.two.lt HI8.out.four.1)
              have HG4U := Lib.hid (hnot gu HI8.out.us.lt HI8.out.four.2.1)
              have HG4F := Lib.hid (hnot gf HI8.out.fp.lt HI8.out.four.2.2.1)
              have HG4X := Lib.hid (hnot w.heap.size HI8.out.sd_.lt HI8.out.four.2.2.2)
              have HSH := Lib.hid HON.out.short
              have HNX := Lib.hid (show nextOf ⟨L2, false⟩ [107] 0 = N from by rw [HON.out.next, if_neg (by simp)]; omega)
              have HS7 := HS7x
              have hN4 := HON.out.le
              obtain ⟨s2, hs2⟩ : ∃ x, openD s.start 3 4 = x := ⟨_, rfl⟩
              rw [hs2] at HS7 HON
              clear S10 L10 C10 C9 hc2 HD9 HRE HS7x HI8 HA8 HMS HK7 e0 e1 e2 hq2 hb2 HSZ hnot hs2 HML
              go_wp2_with fail
              go_loopw [114] (fun tj wr => ∃ j : Nat, j ≤ 2 ∧ tj = .int .i64 j ∧ Hid (OpenedK wr gt q2 p g b2 w.heap.size sd h N j) ∧ Hid (ST wr q2 p g b2 16 s2 3 4 m ⟨L2, false⟩) ∧ Hid (Blk wr gu (uA U) 66) ∧ Hid (Blk wr gf Z 44) ∧ Hid (Blk wr w.heap.size X 23) ∧ Hid (Below w.heap.size w wr)) (fun tj _ => 2 - (intOf tj).toNat)
              case atStart => exact ⟨0, by omega, rfl, HT7, HS7, HU7, HF7, HX7, HB7⟩
              case round =>
                obtain ⟨j, hj, rfl, HTW, HS8, HU8, HF8, HX8, HB8⟩ := hrel
                clear HB7 HF7 HS7 HT7 HU7 HX7
                rcases HTW.out with ⟨rfl, hop⟩ | ⟨rfl, hop⟩ | ⟨rfl, k0, k1, hT, hk0, hk1, hne⟩
                · clear HTW
                  obtain ⟨P0, P1, hT⟩ := hop
                  have HT8 := Lib.hid hT
                  clear hT 
                  have HO := Lib.hid (popenk_any (name := [107]) (sd := sd) (h := h) HS8.out HSH.out HSD.out (by omega) (by simp) (i := (h : Int)) rfl (nb := ⟨#[107]⟩) rfl)
                  rw [HX.out, HNX.out] at HO
                  have hji : (0 : Int) < 2 := by omega
                  go_wp2_with (with_reducible refine wpList_load_blk rfl 23 (.tmp 3) rfl w.heap.size rfl 23 X _ HX8.out Tryz.underlying23 rfl (by rw [HZX.out]; kernel_rfl) ?_)
                  with_reducible refine HO.out.mono ?_
                  rintro e w9 ⟨k, rfl, hk, K9, hb9⟩
                  have HT9 := Lib.hid (HT8.out.below hb9 HT8.out.lt)
                  have HS9 := Lib.hid (HS8.out.below hb9)
                  have HU9 := Lib.hid (HU8.out.below hb9 HU8.out.lt)
                  have HF9 := Lib.hid (HF8.out.below hb9 HF8.out.lt)
                  have HX9 := Lib.hid (HX8.out.below hb9 HX8.out.lt)
                  have HB9 := Lib.hid (HB8.out.trans (hb9.mono HB8.out.size))
                  have HKA := Lib.hid (KAt.mk (B := w.heap.size) K9 (Apart5.of_lt (k := k) fun i hi => Nat.lt_of_lt_of_le (HS8.out.four_lt i hi) hk) (Nat.le_trans HB8.out.size hk))
                  have c0 : w9.cell? ⟨gt, 0, none⟩ = some P0 := HT9.out.cell 0
                  have f0 := HT9.out.frozen 0
                  clear K9 hb9 HO hk HT8 HS8 HU8 HF8 HX8 HB8 
                  go_wp2_with fail
                  have hc := lay_chg (w := w9) (gt := gt) 0 (.pointer (some ⟨k, 0, none⟩))
                  have HK9 := Lib.hid (HKA.out.chg hc (gt_ne HT9.out HKA.out.ks.blk (by decide)))
                  have HSx := Lib.hid (HS9.out.lay hc HG4.out)
                  have HUx := Lib.hid (HU9.out.other (p := ⟨gt, 0, none⟩) (fun e => gt_ne HT9.out HU9.out (by decide) e.symm) (.pointer (some ⟨k, 0, none⟩)))
                  have HFx := Lib.hid (HF9.out.other (p := ⟨gt, 0, none⟩) (fun e => gt_ne HT9.out HF9.out (by decide) e.symm) (.pointer (some ⟨k, 0, none⟩)))
                  have HXx := Lib.hid (HX9.out.other (p := ⟨gt, 0, none⟩) (fun e => gt_ne HT9.out HX9.out (by decide) e.symm) (.pointer (some ⟨k, 0, none⟩)))
                  have HBx := Lib.hid (HB9.out.trans (hc.below HB9.out.size (fun i e => by rw [e]; exact HGT.out)))
                  clear hc c0 f0
                  go_roundw
                  case rel => exact ⟨1, by omega, by go_num, Lib.hid (.inr (.inl ⟨rfl, k, P1, HT9.out.set 0 _, HK9.out⟩)), HSx, HUx, HFx, HXx, HBx⟩
                  case measure => simp [intOf]
                · clear HTW
                  obtain ⟨k0, P1, hT, hk0⟩ := hop
                  have HT8 := Lib.hid hT
                  have HK8 := Lib.hid hk0
                  clear hT hk0
                  have HO := Lib.hid (popenk_any (name := [107]) (sd := sd) (h := h) HS8.out HSH.out HSD.out (by omega) (by simp) (i := (h : Int)) rfl (nb := ⟨#[107]⟩) rfl)
                  rw [HX.out, HNX.out] at HO
                  have hji : (1 : Int) < 2 := by omega
                  go_wp2_with (with_reducible refine wpList_load_blk rfl 23 (.tmp 3) rfl w.heap.size rfl 23 X _ HX8.out Tryz.underlying23 rfl (by rw [HZX.out]; kernel_rfl) ?_)
                  with_reducible refine HO.out.mono ?_
                  rintro e w9 ⟨k, rfl, hk, K9, hb9⟩
                  have HT9 := Lib.hid (HT8.out.below hb9 HT8.out.lt)
                  have HS9 := Lib.hid (HS8.out.below hb9)
                  have HU9 := Lib.hid (HU8.out.below hb9 HU8.out.lt)
                  have HF9 := Lib.hid (HF8.out.below hb9 HF8.out.lt)
                  have HX9 := Lib.hid (HX8.out.below hb9 HX8.out.lt)
                  have HB9 := Lib.hid (HB8.out.trans (hb9.mono HB8.out.size))
                  have HKA := Lib.hid (KAt.mk (B := w.heap.size) K9 (Apart5.of_lt (k := k) fun i hi => Nat.lt_of_lt_of_le (HS8.out.four_lt i hi) hk) (Nat.le_trans HB8.out.size hk))
                  have HNE := Lib.hid (show k0 ≠ k by have := HK8.out.ks.lt; omega)
                  have HKB := Lib.hid (HK8.out.below hb9)
                  have c0 : w9.cell? ⟨gt, 1, none⟩ = some P1 := HT9.out.cell 1
                  have f0 := HT9.out.frozen 1
                  clear K9 hb9 HO hk HT8 HS8 HU8 HF8 HX8 HB8 HK8
                  go_wp2_with fail
                  have hc := lay_chg (w := w9) (gt := gt) 1 (.pointer (some ⟨k, 0, none⟩))
                  have HK9 := Lib.hid (HKA.out.chg hc (gt_ne HT9.out HKA.out.ks.blk (by decide)))
                  have HSx := Lib.hid (HS9.out.lay hc HG4.out)
                  have HUx := Lib.hid (HU9.out.other (p := ⟨gt, 1, none⟩) (fun e => gt_ne HT9.out HU9.out (by decide) e.symm) (.pointer (some ⟨k, 0, none⟩)))
                  have HFx := Lib.hid (HF9.out.other (p := ⟨gt, 1, none⟩) (fun e => gt_ne HT9.out HF9.out (by decide) e.symm) (.pointer (some ⟨k, 0, none⟩)))
                  have HXx := Lib.hid (HX9.out.other (p := ⟨gt, 1, none⟩) (fun e => gt_ne HT9.out HX9.out (by decide) e.symm) (.pointer (some ⟨k, 0, none⟩)))
                  have HBx := Lib.hid (HB9.out.trans (hc.below HB9.out.size (fun i e => by rw [e]; exact HGT.out)))
                  have HK0 := Lib.hid (HKB.out.chg hc (gt_ne HT9.out HKB.out.ks.blk (by decide)))
                  clear hc c0 f0
                  go_roundw
                  case rel => exact ⟨2, by omega, by go_num, Lib.hid (.inr (.inr ⟨rfl, k0, k, HT9.out.set 1 _, HK0.out, HK9.out, HNE.out⟩)), HSx, HUx, HFx, HXx, HBx⟩
                  case measure => simp [intOf]
                · clear HTW
                  have HI := Lib.hid (OnceW.mk HS8.out HON.out hT hk0.ks hk1.ks hN4 hN4 hk0.ap hk1.ap HGE.out hk0.ge hk1.ge hne HU8.out HF8.out HX8.out HB8.out ⟨HG4.out, HG4U.out, HG4F.out, HG4X.out⟩)
                  clear hT hk0 hk1 hne HS8 HU8 HF8 HX8 HB8 HGE HG4 HG4U HG4F HG4X HSH HNX hj HON
                  go_wp2_with fail
                  go_roundw
                  case rel => (repeat apply Exists.intro); refine ⟨?_, rfl⟩; exact ⟨i + 1, q2, b2, k0, k1, N, N, m, N, s2, _, U, by omega, by omega, rfl, by go_num, by omega, HI⟩
                  case measure => simp [intOf]; omega
            · have hra := withinI_range AT 2 (by omega)
              obtain ⟨v2, hv2⟩ : ∃ v, withinI AT 2 = v := ⟨_, rfl⟩
              rw [hv2] at hra
              have HWA := Lib.hid (fun W => (show Calls Tryz.prog 15 #[.int .i64 AT, .int .i64 2] W fun e w' => e = .returned (.int .i64 v2) ∧ W = w' from by rw [← hv2]; exact within_any AT 2 W (by omega) (by omega) (by omega)))
              have h5b : (r == 5) = false := beq_eq_false_iff_ne.2 h5
              have h6b : (r == 6) = false := beq_eq_false_iff_ne.2 h6
              have HSG0 := Lib.hid (once_sign0 HI8.out hh3 (by omega) AQ (1 + x) cQ (UInt8.ofNat i :: bl) HML.out (by omega) hcq hcmq (rd_own_chg HMS.out (HS7.out k0 HK7.out.1)) HT.out)
              have HSG1 := Lib.hid (once_sign1 HI8.out hh3 (by omega) AQ (1 + x) cQ (UInt8.ofNat i :: bl) HML.out (by omega) hcq hcmq (rd_own_chg HMS.out (HS7.out k1 HK7.out.2)) HT.out)
              have t0 : w8.cell? ⟨gt, 0, none⟩ = some (.pointer (some ⟨k0, 0, none⟩)) := HI8.out.two.cell 0
              have t1 : w8.cell? ⟨gt, 1, none⟩ = some (.pointer (some ⟨k1, 0, none⟩)) := HI8.out.two.cell 1
              clear hv2
              go_wp2_with fail
              with_reducible refine (HWA.out _).mono ?_
              rintro e wx ⟨rfl, rfl⟩
              clear HWA
              obtain h20 | h20 : v2 = 0 ∨ v2 = 1 := by omega
              all_goals
                subst h20
                go_wp2_with fail
                first
                  | with_reducible refine HSG0.out.mono ?_
                  | with_reducible refine HSG1.out.mono ?_
                intro e w9 hsaid
                unfold OnceSaid at hsaid
                rcases hsaid with ⟨c, n0', n1', N', s', t', hc98, rfl, I9⟩ | ⟨y, n0', n1', N', s', t', V9, P9, cv, cp, hy, huy, rfl, hov, hop, I9, ho9, C9⟩
                · have HI9 := Lib.hid I9
                  obtain ⟨SZ, hSZ⟩ : ∃ x, sig0 = x := ⟨_, rfl⟩
                  have HZS := Lib.hid (show SZ.size = 4 by rw [← hSZ]; rfl)
                  have HOS := Lib.hid (show SZ.all (·.oneCell') = true by rw [← hSZ]; exact sigA_one _ _ _ _ _ _ _ _)
                  rw [hSZ]
                  clear hSZ I9 HSG0 HSG1 HI8 HA8 HMS HS7 HK7 e0 e1 e2 t0 t1
                  go_upto_region 42 with (with_reducible refine wpList_store_blk rfl 39 (.tmp 24) (.tmp 145) rfl w9.heap.size SZ rfl rfl 39 _ (Blk.new _ _ _) (by rw [HZS.out]; kernel_rfl) (by rw [HZS.out]; kernel_rfl) HOS.out ?_)
                  generalize hwn : World.setRow _ _ _ = w10
                  have hal10 : Below w9.heap.size w9 w10 := by
                    rw [← hwn]
                    exact below_row ((Below.refl _ _).alloc (Nat.le_refl _) _) (by simp) (Nat.le_refl _) _
                  have HI10 := Lib.hid (HI9.out.below hal10)
                  generalize w9.heap.size = g24 at *
                  clear hal10 hwn HI9 HZS HOS
                  rcases hc98 with rfl | rfl
                  all_goals
                    go_wp2_with fail
                    go_roundw
                    case rel => (repeat apply Exists.intro); refine ⟨?_, rfl⟩; exact ⟨i + 1, q, b, k0, k1, n0', n1', m + 1, N', s', t', U, by omega, by omega, rfl, by go_num, by omega, HI10⟩
                    case measure => simp [intOf]; omega
                · have HI9 := Lib.hid I9
                  have HO9 := Lib.hid ho9
                  have HOV := Lib.hid hov
                  have HOP := Lib.hid hop
                  have HRM := Lib.hid (fun W (hb : Below w9.heap.size w9 W) => (show Rd W W.heap.size AQ (UInt8.ofNat i :: bl) from by
                    first
                      | exact rd_own_chg HMS.out (HS7.out k0 HK7.out.1) W (C9.trans (.of_below hb))
                      | exact rd_own_chg HMS.out (HS7.out k1 HK7.out.2) W (C9.trans (.of_below hb))))
                  have h4 : 2 ^ h ≤ 4 := Nat.pow_le_pow_right (n := 2) (by omega) (show h ≤ 2 by omega)
                  have HUY := Lib.hid (show ∀ W, Blk W gu (uA U) 66 → W.cell? ⟨gu, y, none⟩ = some (.bool false) from fun W hB => (hB.cell y).trans (by rw [uA_at U (by omega), huy]))
                  obtain ⟨KK, hKK⟩ : ∃ x, (proofV (pubsL sd (2 ^ h)) y).length = x := ⟨_, rfl⟩
                  obtain ⟨c0, hc0⟩ : ∃ x, Value.int .i64 (h : Int) = x := ⟨_, rfl⟩
                  have HSE := Lib.hid (show sigA (h : Int) (y : Int) V9 P9 67 cv (proofV (pubsL sd (2 ^ h)) y).length cp = #[c0, .int .i64 (y : Int), .slice V9 67 cv, .slice P9 KK cp] by rw [← hKK, ← hc0])
                  have HVF := Lib.hid (fun W (hb : Below w9.heap.size w9 W) => kverify_yes sd (UInt8.ofNat i :: bl) (h := h) (X := y) (by omega) hy AQ (1 + x) cQ HML.out (by omega) hcq hcmq (HRM.out W hb) (HOV.out.on hb) (HOP.out.on hb))
                  rw [HZ.out, HSE.out] at HVF
                  rw [HSE.out]
                  obtain ⟨SG, hSG⟩ : ∃ x, (#[c0, .int .i64 (y : Int), .slice V9 67 cv, .slice P9 KK cp] : Array Value) = x := ⟨_, rfl⟩
                  have HZS := Lib.hid (show SG.size = 4 by rw [← hSG]; rfl)
                  have HOS := Lib.hid (show SG.all (·.oneCell') = true by rw [← hSG, ← HSE.out]; exact sigA_one _ _ _ _ _ _ _ _)
                  have HSGE := Lib.hid hSG
                  obtain ⟨Nh, hNh⟩ : ∃ x, 2 ^ h = x := ⟨_, rfl⟩
                  have hp1 : (2 : Int) ^ h = (Nh : Int) := by rw [← hNh]; simp
                  rw [hNh] at hy h4
                  rw [hSG]
                  clear hSG hKK hc0 HOV HOP HRM HSE I9 ho9 hov hop huy C9 HSG0 HSG1 HI8 HA8 HMS HS7 HK7 e0 e1 e2 t0 t1 hNh
                  go_upto_region 42 with (with_reducible refine wpList_store_blk rfl 39 (.tmp 24) (.tmp 145) rfl w9.heap.size SG rfl rfl 39 _ (Blk.new _ _ _) (by rw [HZS.out]; kernel_rfl) (by rw [HZS.out]; kernel_rfl) HOS.out ?_)
                  generalize hwn : World.setRow _ _ _ = w10
                  have hal10 : Below w9.heap.size w9 w10 := by
                    rw [← hwn]
                    exact below_row ((Below.refl _ _).alloc (Nat.le_refl _) _) (by simp) (Nat.le_refl _) _
                  have HBG := Lib.hid (show Blk w10 w9.heap.size SG 39 by
                    rw [← hwn]
                    exact (Blk.new _ _ _).row _)
                  have HI10 := Lib.hid (HI9.out.below hal10)
                  have HVG := Lib.hid (HVF.out w10 hal10)
                  generalize w9.heap.size = g24 at *
                  obtain ⟨s0, s1, s2, s3⟩ : w10.cell? ⟨g24, 0, none⟩ = some c0 ∧ w10.cell? ⟨g24, 1, none⟩ = some (.int .i64 (y : Int)) ∧ w10.cell? ⟨g24, 2, none⟩ = some (.slice V9 67 cv) ∧ w10.cell? ⟨g24, 3, none⟩ = some (.slice P9 KK cp) := by
                    have hB := HBG.out
                    rw [← HSGE.out] at hB
                    exact ⟨hB.cell 0, hB.cell 1, hB.cell 2, hB.cell 3⟩
                  have u0 := HUY.out w10 HI10.out.us
                  have hyn : (y : Int) < (Nh : Int) := by omega
                  have hyn2 : ¬ (Nh : Int) ≤ (y : Int) := by omega
                  have hy0 : ¬ (y : Int) < 0 := by omega
                  have hy4 : (y : Int) < 4 := by omega
                  have hy4n : y < 4 := by omega
                  clear hal10 hwn HI9 HZS HOS HVF
                  go_wp2_with (first | (refine wpList_load_w9 (.tmp 11) rfl gf rfl Z HI10.out.fp HZZ.out ?_ ?_; · rfl))
                  with_reducible refine HVG.out.mono ?_
                  rintro e w11 ⟨rfl, hb11⟩
                  have HI11 := Lib.hid (HI10.out.below hb11)
                  have s1' : w11.cell? ⟨g24, 1, none⟩ = some (.int .i64 (y : Int)) := by
                    have hB := HBG.out.below hb11 HBG.out.lt
                    rw [← HSGE.out] at hB
                    exact hB.cell 1
                  have u1 := HUY.out w11 HI11.out.us
                  have f1 := HI11.out.us.frozen y
                  clear hb11 HVG HI10 s0 s1 s2 s3 u0 HBG HSGE HUY
                  go_wp2_with fail
                  have HI12 := Lib.hid (HI11.out.mark hy4n HGU.out HO9.out)
                  go_roundw
                  case rel => (repeat apply Exists.intro); refine ⟨?_, rfl⟩; exact ⟨i + 1, q, b, k0, k1, n0', n1', m + 1, N', s', t', _, by omega, by omega, rfl, by go_num, by omega, HI12⟩
                  case measure => simp [intOf]; omega
        · have HWK := Lib.hid (wakes12_any wr (tab_on HT.out HI.out.bel HI.out.bel.size))
          have HB := Lib.hid HI.out.bel
          by_cases hln : i < nA
          · have hln1 : (i : Int) < (nA : Int) := by omega
            have hl12 : ¬ (i : Int) < 12 := by omega
            go_wp2_with fail
            with_reducible refine HWK.out.mono ?_
            rintro e w9 ⟨rfl, hb9⟩
            have HB9 := Lib.hid (HB.out.trans (hb9.mono HB.out.size))
            clear hb9
            go_wp2_with fail
            go_ret
            exact ⟨rfl, HB9.out⟩
          · have hln1 : ¬ (i : Int) < (nA : Int) := by omega
            go_wp2_with fail
            with_reducible refine HWK.out.mono ?_
            rintro e w9 ⟨rfl, hb9⟩
            have HB9 := Lib.hid (HB.out.trans (hb9.mono HB.out.size))
            clear hb9
            go_wp2_with fail
            go_ret
            exact ⟨rfl, HB9.out⟩

set_option maxRecDepth 100000 in
theorem contract (H : Type) (enc : TypeId × Value → H) (W : World) (base : Nat) (args : Array Value) (ds gs : List (DataW H)) (before : List MemPlace)
    (hval : ∀ (j : Nat) t v, Tryz.f5.params[j]? = some t → args[j]? = some v → Value.okWide Tryz.prog W .any base t v)
    (hW : DataW.Whole enc Tryz.prog Tryz.f5.params.toList Rows.keysOnceSpec.vars false W args.toList ds gs before) (hL : laidMetH Tryz.prog Rows.keysOnceRow.laid W) :
    Calls Tryz.prog 5 args W fun e W' => ∃ v, e = .returned v ∧ Rows.keysOnceSpec.post enc Tryz.prog Tryz.f5 false true false false W args v W' := by
  have hW' := hW
  obtain ⟨p, q, hA0, hV, rfl, hfz, hnd⟩ := hW
  have hA : DataW.TrodAll enc Tryz.prog W 0 (fun _ => true) true Tryz.f5.params.toList args.toList ds p := hA0
  rw [Tryz.params5] at hA hval
  obtain ⟨v0, v1, v2, d0, d1, d2, p0, p1, p2, rfl, rfl, rfl, h0, h1, h2⟩ := trodAll_three hA
  obtain ⟨rfl, rfl⟩ := trodVars_none hV
  obtain ⟨k0, rfl, hk0⟩ := open_array Tryz.underlying23 (by kernel_rfl) (hval 0 23 v0 rfl rfl) h0
  obtain ⟨n1, rfl, rfl, rfl, wf1⟩ := open_int Tryz.underlying3 (hval 1 3 v1 rfl rfl) h1
  have b1 := bounds_i64 wf1
  obtain ⟨A2, m2, c2, l2, rfl, hl2, hc2, hm2, hk2, hr2⟩ := open_signs (hval 2 49 v2 rfl rfl) h2
  clear hA0
  refine (walk k0 n1 A2 m2 c2 l2 W hk0 b1.1 b1.2 hl2 hc2 hm2 hk2 hr2 (pow10 hL)).mono fun e W' ⟨he, hb⟩ => ?_
  exact ⟨_, he, law_post hW' rfl (by kernel_rfl) rfl (by kernel_rfl) hb⟩

theorem laid_met (os : Os) : laidMet Tryz.prog Rows.keysOnceRow.laid ((laidWorld os).forCall (fun _ _ => 0) ⟨#[], #[.agg #[.int .u8 0, .int .u8 0, .int .u8 0, .int .u8 0, .int .u8 0, .int .u8 0, .int .u8 0, .int .u8 0, .int .u8 0, .int .u8 0, .int .u8 0, .int .u8 0, .int .u8 0, .int .u8 0, .int .u8 0, .int .u8 0], .int .i64 0, .slice none 0 0], []⟩).memory :=
  laidMet_of_run' 8 (by kernel_rfl) (by kernel_rfl)
theorem reads (os : Os) {H : Type} (enc : TypeId × Value → H) : ∃ places, DataW.whole enc Tryz.prog ((laidWorld os).forCall (fun _ _ => 0) ⟨#[], #[.agg #[.int .u8 0, .int .u8 0, .int .u8 0, .int .u8 0, .int .u8 0, .int .u8 0, .int .u8 0, .int .u8 0, .int .u8 0, .int .u8 0, .int .u8 0, .int .u8 0, .int .u8 0, .int .u8 0, .int .u8 0, .int .u8 0], .int .i64 0, .slice none 0 0], []⟩).memory Tryz.f5.params.toList Rows.keysOnceSpec.vars false #[Value.agg #[.int .u8 0, .int .u8 0, .int .u8 0, .int .u8 0, .int .u8 0, .int .u8 0, .int .u8 0, .int .u8 0, .int .u8 0, .int .u8 0, .int .u8 0, .int .u8 0, .int .u8 0, .int .u8 0, .int .u8 0, .int .u8 0], Value.int .i64 0, Value.slice none 0 0].toList 8 = some ([.agg [.lit (.int .u8 0), .lit (.int .u8 0), .lit (.int .u8 0), .lit (.int .u8 0), .lit (.int .u8 0), .lit (.int .u8 0), .lit (.int .u8 0), .lit (.int .u8 0), .lit (.int .u8 0), .lit (.int .u8 0), .lit (.int .u8 0), .lit (.int .u8 0), .lit (.int .u8 0), .lit (.int .u8 0), .lit (.int .u8 0), .lit (.int .u8 0)], .lit (.int .i64 0), .nil], [], places) :=
  ⟨[], by kernel_rfl⟩

set_option maxRecDepth 100000 in
theorem lifted (os : Os) (started : os.Started) (H : Type) (enc : TypeId × Value → H) (F : Stop.Interp) :
    ReturnsInHanded {} Tryz.checked os 5 .any ((OpenSpec.ofChange Rows.keysOnceSpec).preRow enc Tryz.prog Tryz.f5 Rows.keysOnceRow.domain false Rows.keysOnceRow.laid) (((OpenSpec.ofChange Rows.keysOnceSpec).at F).post enc Tryz.prog Tryz.f5 false true false false) := by
  obtain ⟨places, hx⟩ := reads os enc
  refine returnsInHanded_of_row (C := Tryz.checked) (s := OpenSpec.ofChange Rows.keysOnceSpec) own started (by kernel_rfl) Tryz.func5
    (witness_row_at (enc := enc) (C := Tryz.checked) false (laidWorld os) #[.agg #[.int .u8 0, .int .u8 0, .int .u8 0, .int .u8 0, .int .u8 0, .int .u8 0, .int .u8 0, .int .u8 0, .int .u8 0, .int .u8 0, .int .u8 0, .int .u8 0, .int .u8 0, .int .u8 0, .int .u8 0, .int .u8 0], .int .i64 0, .slice none 0 0] rfl (by kernel_rfl) (by kernel_rfl) (by kernel_rfl)
      (OpenSpec.preRow_of_cond 8 hx (by kernel_rfl) (fun k hk => by cases hk) (by kernel_rfl) (laid_met os))) ?_
  intro W base args ds gs before hval hW _ _ _ hL _ _
  exact contract H enc W base args ds gs before hval hW hL

theorem said : Rows.KeysOnceSaid :=
  OpenClaim.holds_of_cond 5 Tryz.f5 rfl rfl rfl rfl rfl rfl rfl ⟨rfl, rfl, rfl, rfl, rfl⟩ rfl rfl rfl rfl rfl (by kernel_rfl) Tryz.func5 (by kernel_rfl)
    (of_decide_eq_true (by kernel_rfl)) (by unfold Func.isWrapper; first | (rw [if_pos (by decide +kernel)]; kernel_rfl) | (rw [if_neg (by decide +kernel)]; exact ⟨rfl, rfl⟩))
    (fun os started H enc _ F => by rw [OpenClaim.pre_eq_preRow]; exact lifted os started H enc F)

theorem plain (f : FuncId) (fn : Func) (hf : Tryz.pinned.checked.prog.funcNamed "aumbry/aumbrylaw12.KeysOnce" = some f) (hfn : Tryz.pinned.checked.prog.funcs[f]? = some fn) :
    false = Tryz.pinned.checked.prog.looks [] ∧ ∀ (j : Nat) t, fn.params[j]? = some t → Tryz.pinned.checked.prog.wantsStandIn t = false := by
  obtain rfl : f = 5 := Option.some.inj ((show Tryz.prog.funcNamed "aumbry/aumbrylaw12.KeysOnce" = some 5 by kernel_rfl).symm.trans hf) |>.symm
  obtain rfl : fn = Tryz.f5 := (Option.some.inj (Tryz.func5.symm.trans hfn)).symm
  refine ⟨by kernel_rfl, fun j t ht => ?_⟩
  exact wants_none (by kernel_rfl) (Array.mem_of_getElem? ht)

/-- The card: the statement holds, its listed tables tied to the program's text. -/
theorem card : Rows.KeysOnceCardSaid :=
  Claim7.holds_tied_plain_at .later [] _ _ _ _ said (fun _ h => by cases h) (by kernel_rfl) (fun _ h => by cases h) keysOnce_row_tie rfl ⟨rfl, rfl⟩ (by kernel_rfl) rfl plain (by kernel_rfl)
end Go.Proofs.YtndknifdajjalaaGreatDoor.keysOnce
