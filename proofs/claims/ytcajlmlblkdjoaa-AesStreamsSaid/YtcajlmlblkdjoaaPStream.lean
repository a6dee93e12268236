/- The program's stream of AES. -/
import Derived.Test.YtcajlmlblkdjoaaPAes
import Derived.Test.YtcajlmlblkdjoaaPNum
import Derived.Test.YtcajlmlblkdjoaaPreB
import Derived.Test.YtcajlmlblkdjoaaOwnB
namespace Go.Proofs.Ytcajlmlblkdjoaa
open Go.RowKit

theorem made_zero (n : Nat) : (madeCells (Value.int .u8 0).cells (n * 1)).toList = Lib.byteCells (List.replicate n 0) := by
  apply List.ext_getElem
  · simp [madeCells, Lib.byteCells]
  · intro i h1 h2
    simp [madeCells, Lib.byteCells, Value.cells, Nat.mod_one]
/-- The block at hand: the stream's that was made last. -/
def NowP (ks : List UInt8) (w : World) (nb N i : Nat) : Prop := ∃ rs, Blk w nb rs 48 ∧ rs.size = 16 ∧ (0 < i → rs = u8A (blockL ks (ctrL ((N + i - 1) / 16))))
set_option maxRecDepth 100000 in
set_option maxHeartbeats 8000000 in
theorem pStream_any (k : List UInt8) (at_ : Int) (A : Option Addr) (n c : Nat) (l : List UInt8) (w : World) (hk : k.length = 16) (hl : l.length = n) (h1 : n ≤ 1000) (hr : Rd w w.heap.size A l) :
    Calls Try.prog 10 #[.agg (u8A k), .int .i64 at_, .slice A n c] w fun e w' => ∃ A' c', e = .returned (.slice A' n c') ∧ n ≤ c' ∧ OwnB w' w.heap.size 5 (.slice A' n c') n (streamL (keysTo k 11) (clampN at_) l) ∧ Below w.heap.size w w' := by
  have hz6 := fun W => pzero176 W
  have hz2 := fun W => pzero256 W
  have hz1 := fun W => pzero16 W
  obtain ⟨Y, hY⟩ : ∃ Z, u8A (List.replicate 176 0) = Z := ⟨_, rfl⟩
  obtain ⟨Z, hZ⟩ : ∃ Z, u8A (List.replicate 256 0) = Z := ⟨_, rfl⟩
  obtain ⟨X, hX⟩ : ∃ Z, u8A (List.replicate 16 0) = Z := ⟨_, rfl⟩
  rw [hY] at hz6
  rw [hZ] at hz2
  rw [hX] at hz1
  have HY := Lib.hid (show Y.size = 176 by rw [← hY, u8A_size]; exact List.length_replicate ..)
  have HZ := Lib.hid (show Z.size = 256 by rw [← hZ, u8A_size]; exact List.length_replicate ..)
  have HX := Lib.hid (show X.size = 16 by rw [← hX, u8A_size]; exact List.length_replicate ..)
  have HXE := Lib.hid hX
  have hkl := keysTo_len hk 11
  have HEX := Lib.hid (fun (sb : Nat) (W : World) (hs : Blk W sb (u8A boxL) 43) => expand_any sb k W hk hs)
  have HBK := Lib.hid (fun (sb kb : Nat) (x : List UInt8) (W : World) (hx : x.length = 16) (hs : Blk W sb (u8A boxL) 43) (h2 : Blk W kb (u8A (keysTo k 11)) 45) => encipher_any kb sb (keysTo k 11) x W hx hkl h2 hs)
  have hkz : (u8A k).size = 16 := by rw [u8A_size, hk]
  obtain ⟨kA, hke⟩ : ∃ K, u8A k = K := ⟨_, rfl⟩
  rw [hke] at hkz HEX ⊢
  have HKZ := Lib.hid hkz
  obtain ⟨ks, hks⟩ : ∃ z, keysTo k 11 = z := ⟨_, rfl⟩
  rw [hks] at hkl HEX HBK ⊢
  have hez : (u8A ks).size = 176 := by rw [u8A_size, hkl]
  have heo := u8A_one ks
  obtain ⟨eA, hee⟩ : ∃ K, u8A ks = K := ⟨_, rfl⟩
  rw [hee] at hez heo HEX HBK
  have HEZ := Lib.hid hez
  have HEO := Lib.hid heo
  have hbz : (u8A boxL).size = 256 := by rw [u8A_size, boxL_len]
  have hbo := u8A_one boxL
  have HBX := Lib.hid (fun (W : World) => subTable_any W)
  obtain ⟨bA, hbe⟩ : ∃ K, u8A boxL = K := ⟨_, rfl⟩
  rw [hbe] at hbz hbo HBX HEX HBK
  have HBZ := Lib.hid hbz
  have HBO := Lib.hid hbo
  have HL := Lib.hid hl
  have HRD := Lib.hid hr
  obtain ⟨i0, hi, hi0, hi1, hi2⟩ := info_parts info5
  obtain ⟨N, hN⟩ : ∃ N, clampN at_ = N := ⟨_, rfl⟩
  rw [hN]
  clear hY hZ hX hk hkz hkl hke hks hez heo hee hbz hbo hbe hl hr
  have key : (at_ < 0 ∧ N = 0) ∨ (0 ≤ at_ ∧ at_ ≤ 1073741824 ∧ (N : Int) = at_) ∨ (1073741824 < at_ ∧ N = 1073741824) := by
    rw [← hN]
    unfold clampN
    by_cases h1 : at_ ≤ 0
    · rw [if_pos h1]
      rcases (show at_ < 0 ∨ at_ = 0 by omega) with h | h
      · exact .inl ⟨h, rfl⟩
      · exact .inr (.inl ⟨by omega, by omega, by omega⟩)
    · rw [if_neg h1]
      by_cases h2 : at_ ≤ 1073741824
      · rw [if_pos h2]; exact .inr (.inl ⟨by omega, h2, by omega⟩)
      · rw [if_neg h2]; exact .inr (.inr ⟨by omega, rfl⟩)
  obtain ⟨M, hM⟩ : ∃ M, (if at_ < 0 then 0 else at_) = M := ⟨_, rfl⟩
  have hMN : (if 1073741824 < M then 1073741824 else M) = (N : Int) := by
    rw [← hM]
    rcases key with ⟨h1, h2⟩ | ⟨h1, h2, h3⟩ | ⟨h1, h2⟩
    · rw [if_pos h1, h2]; rfl
    · rw [if_neg (show ¬ at_ < 0 by omega), if_neg (by omega), h3]
    · rw [if_neg (show ¬ at_ < 0 by omega), if_pos h1, h2]; rfl
  have hNb : N ≤ 1073741824 := by omega
  have hN0 : (0 : Int) ≤ (N : Int) := by omega
  clear hN key
  go_enter Try.func10, Try.ntmps10
  go_wp2_with fail
  have hst : Blk (w.alloc (.cells kA 23)) w.heap.size kA 23 ∧ Below w.heap.size w (w.alloc (.cells kA 23)) := ⟨Blk.new w _ _, (Below.refl _ _).alloc (Nat.le_refl _) _⟩
  generalize w.alloc (.cells kA 23) = w1 at hst ⊢
  obtain ⟨g1, hb1⟩ := hst
  clear hM hMN
  refine (HBX.out _).mono ?_
  rintro e w2 ⟨rfl, hb2⟩
  have hl1 := g1.lt
  have K1 := Lib.hid (g1.below hb2 hl1)
  have hb02 := hb1.trans (hb2.mono (by omega))
  have hs2 := hb2.size
  clear g1 hb1 hb2 HBX
  have HPAIR := Lib.hid (show ∀ w3, (w2.alloc (.cells Z 43)).setRow w2.heap.size bA = w3 → Blk w3 w2.heap.size bA 43 ∧ Blk w3 w.heap.size kA 23 ∧ Below w.heap.size w w3 by
    rintro w3 rfl
    exact ⟨(Blk.new w2 _ _).row _, (K1.out.alloc _).rowOther (by omega) _, below_row (hb02.alloc (by omega) _) (by simp; omega) (by omega) _⟩)
  go_wp2_with (first
    | (with_reducible refine wpList_store_blkTo rfl 43 (.tmp 7) (.tmp 18) rfl rfl w2.heap.size bA rfl rfl 43 Z (Blk.new w2 _ _) (by rw [HBZ.out]; kernel_rfl) (by rw [HBZ.out, HZ.out]) HBO.out ?_
       generalize hw3 : World.setRow _ _ _ = w3
       obtain ⟨g1, g2, hb3⟩ := HPAIR.out _ hw3
       clear hw3)
    | (with_reducible refine wpList_load_blk rfl 23 (.tmp 3) rfl w.heap.size rfl 23 kA _ g2 Try.underlying23 rfl (by rw [HKZ.out]; kernel_rfl) ?_))
  obtain ⟨sb, hsb⟩ : ∃ y, w2.heap.size = y := ⟨_, rfl⟩
  rw [hsb] at g1 ⊢
  have L1 := Lib.hid g1
  have m1 := g1.lt
  clear g1 g2 K1 HPAIR hb02
  refine (HEX.out _ _ L1.out).mono ?_
  rintro e w4 ⟨rfl, hb4⟩
  have M1 := Lib.hid (L1.out.below hb4 m1)
  have hb04 := hb3.trans (hb4.mono (by omega))
  have hs4 := hb4.size
  clear L1 hb4 hb3 HEX
  have HPAIR := Lib.hid (show ∀ w5, (w4.alloc (.cells Y 45)).setRow w4.heap.size eA = w5 → Blk w5 w4.heap.size eA 45 ∧ Blk w5 sb bA 43 ∧ Below w.heap.size w w5 ∧ w5.heap.size = w4.heap.size + 1 by
    rintro w5 rfl
    exact ⟨(Blk.new w4 _ _).row _, (M1.out.alloc _).rowOther (by omega) _, below_row (hb04.alloc (by omega) _) (by simp; omega) (by omega) _, by simp⟩)
  go_wp2_with (first
    | (with_reducible refine wpList_store_blkTo rfl 45 (.tmp 8) (.tmp 20) rfl rfl w4.heap.size eA rfl rfl 45 Y (Blk.new w4 _ _) (by rw [HEZ.out]; kernel_rfl) (by rw [HEZ.out, HY.out]) HEO.out ?_
       generalize hw5 : World.setRow _ _ _ = w5
       obtain ⟨g1, g2, hb5, hs5⟩ := HPAIR.out _ hw5
       have h5l := hb5.size
       clear hw5)
    | (at_make; refine wpList_make_full _ rfl _ _ 24 rfl w5.heap.size 5 i0 (.int .u8 0) 1 Try.underlying24 hi hi0 hi1 _ _ _ _ n rfl rfl rfl rfl (by rw [hi2]; omega) (by unfold maxLen; omega) (Nat.le_refl _) ?_; intro w6 hown6 hg6))
  have hform : ∃ g, w4.heap.size + 1 = g ∧ g < w6.heap.size ∧ Blk w6 g (u8A (List.replicate n 0)) 5 := by
    rcases hown6.2 with ⟨e1, e2⟩ | ⟨g, cap, cur, e1, e2, e3, e4, _, e5, e6⟩
    · simp at e1
    · injection e1 with e1 e1b e1c
      injection e1 with e1
      injection e1 with e1
      refine ⟨g, by omega, (Array.getElem?_eq_some_iff.1 e3).1, ?_⟩
      have e7 := e6.trans (made_zero n)
      rw [List.take_of_length_le (by simp; omega)] at e7
      have e8 : cur = u8A (List.replicate n 0) := by
        apply Array.ext'
        rw [e7]
        simp [u8A]
      rw [← e8]
      exact e3
  obtain ⟨g, hg, hgl, hpre⟩ := hform
  have hbel6 : Below w.heap.size w w6 := hb5.grown hg6 hb5.size (fun k hk => by simp at hk)
  have h65 := hg6.size
  obtain ⟨kb, hkb⟩ : ∃ y, w4.heap.size = y := ⟨_, rfl⟩
  have hsbk : sb < kb := by rw [← hkb]; exact M1.out.lt
  have N3 := Lib.hid ((g2.grown hg6 (by simp)).alloc (.cells X 48))
  have N4 := Lib.hid ((g1.grown hg6 (by simp)).alloc (.cells X 48))
  have N1 := Lib.hid (show Blk (w6.alloc (.cells X 48)) g (u8A (part (streamL ks N l) (List.replicate n 0) 0)) 5 by
    rw [part_zero]
    exact hpre.alloc _)
  have N2 := Lib.hid (show NowP ks (w6.alloc (.cells X 48)) w6.heap.size N 0 from ⟨X, Blk.new w6 _ _, HX.out, fun h => absurd h (by omega)⟩)
  have hbel7 : Below w.heap.size w (w6.alloc (.cells X 48)) := hbel6.alloc (by omega) _
  have hn7 : w6.heap.size < (w6.alloc (.cells X 48)).heap.size := by simp
  generalize w6.alloc (.cells X 48) = w7 at *
  obtain ⟨nb, hnb⟩ : ∃ y, w6.heap.size = y := ⟨_, rfl⟩
  obtain ⟨r, hr⟩ : ∃ y, w.heap.size = y := ⟨_, rfl⟩
  have HRR := Lib.hid hr
  have hrs : r ≤ sb := by rw [← hr, ← hsb]; omega
  rw [hkb] at N4 hg ⊢
  rw [hnb] at N2 hn7 hgl ⊢
  rw [hr] at hbel7 HRD
  rw [hr, hg]
  have hgk : kb < g := by omega
  clear hown6 hpre hg6 g1 g2 hb5 M1 HPAIR hb04 hbel6 hz6 hz2 hz1 hnb hkb hr hg hs5 h65 h5l m1 hs4 hsb hi hi0 hi1 hi2 hs2 hl1 HX HXE HY HZ HEZ HEO HBZ HBO HKZ
  go_loopw [26] (fun t wr => ∃ i : Nat, i ≤ n ∧ t = .int .i64 i ∧ Below r w wr ∧ nb < wr.heap.size ∧ Hid (Blk wr g (u8A (part (streamL ks N l) (List.replicate n 0) i)) 5) ∧ Hid (NowP ks wr nb N i) ∧ Hid (Blk wr sb bA 43) ∧ Hid (Blk wr kb eA 45)) (fun t _ => n - (intOf t).toNat)
  case atStart => exact ⟨0, Nat.zero_le _, rfl, hbel7, hn7, N1, N2, N3, N4⟩
  case round =>
    clear hbel7 hn7 N1 N2 N3 N4
    obtain ⟨i, hi', rfl, hbel, hnl, HG, HNW, HSB, HKB⟩ := hrel
    by_cases hlt : i < n
    · have hin : (i : Int) < (n : Int) := by omega
      obtain ⟨ab, aoff, rfl, _, hac⟩ := (HRD.out.below hbel (Nat.le_refl _)).at_ i (by rw [HL.out]; exact hlt)
      rw [show l[i]'(by rw [HL.out]; exact hlt) = l.getD i 0 by simp [List.getD_eq_getElem?_getD, List.getElem?_eq_getElem (show i < l.length by rw [HL.out]; exact hlt)]] at hac
      obtain ⟨a0, ha0⟩ : ∃ z, l.getD i 0 = z := ⟨_, rfl⟩
      rw [ha0] at hac
      have HA0 := Lib.hid ha0
      clear ha0
      have HGL : g < wr.heap.size := by exact HG.out.lt
      obtain ⟨q, hq⟩ : ∃ q, (N + i) / 16 = q := ⟨_, rfl⟩
      have q1 : ((N : Int) + (i : Int)) / 16 = (q : Int) := by omega
      have qb : q ≤ 100000000 := by omega
      have HKEY := Lib.hid (show keyB ks (N + i) = (blockL ks (ctrL q)).getD ((N + i) % 16) 0 by unfold keyB; rw [hq])
      have HQ := Lib.hid hq
      by_cases hnew : i = 0 ∨ (N + i) % 16 = 0
      · rcases hnew with h | h
        · have e0 : ((i : Int) == 0) = true := by simp; omega
          clear h hq
          go_wp2_with fail
          refine (numbered_any q _ (by omega)).mono ?_
          rintro e w8 ⟨rfl, hb8⟩
          have P1 := Lib.hid (HG.out.below hb8 HGL)
          have P2 := Lib.hid (show ∃ rs, Blk w8 nb rs 48 ∧ rs.size = 16 by obtain ⟨rs, h, hz, _⟩ := HNW.out; exact ⟨rs, h.below hb8 h.lt, hz⟩)
          have P3 := Lib.hid (HSB.out.below hb8 HSB.out.lt)
          have P4 := Lib.hid (HKB.out.below hb8 HKB.out.lt)
          have hbel8 : Below r w w8 := hbel.trans (hb8.mono (by omega))
          have hs8 := hb8.size
          have HBQ := Lib.hid (fun (W : World) h1 h2 => HBK.out sb kb (ctrL q) W (ctrL_len q) h1 h2)
          have hbz : (u8A (blockL ks (ctrL q))).size = 16 := by rw [u8A_size]; exact stU_len _ _ _
          have hbo := u8A_one (blockL ks (ctrL q))
          obtain ⟨cA, hce⟩ : ∃ z, u8A (ctrL q) = z := ⟨_, rfl⟩
          obtain ⟨nA, hne⟩ : ∃ z, u8A (blockL ks (ctrL q)) = z := ⟨_, rfl⟩
          rw [hce, hne] at HBQ
          rw [hce]
          rw [hne] at hbz hbo
          have HNE := Lib.hid hne
          have HNZ := Lib.hid hbz
          have HNO := Lib.hid hbo
          clear HG HNW HSB HKB hbel hb8 hce hne hbz hbo HGL
          go_wp2_with fail
          refine (HBQ.out _ P3.out P4.out).mono ?_
          rintro e w10 ⟨rfl, hb10⟩
          obtain ⟨rs, hrs0, hrz⟩ := P2.out
          have Q1 := Lib.hid (P1.out.below hb10 (by omega))
          have hrs := hrs0.below hb10 hrs0.lt
          have Q3 := Lib.hid (P3.out.below hb10 P3.out.lt)
          have Q4 := Lib.hid (P4.out.below hb10 P4.out.lt)
          have hbel10 : Below r w w10 := hbel8.trans (hb10.mono (by omega))
          have hs10 := hb10.size
          have HRZ := Lib.hid hrz
          have HROW := Lib.hid (show ∀ w11, w10.setRow nb nA = w11 → Blk w11 g (u8A (part (streamL ks N l) (List.replicate n 0) i)) 5 ∧ Blk w11 nb nA 48 ∧ Blk w11 sb bA 43 ∧ Blk w11 kb eA 45 ∧ Below r w w11 ∧ nb < w11.heap.size by
            rintro w11 rfl
            have hb11 := below_row hbel10 (by omega) (by omega) (g := nb) nA
            refine ⟨Q1.out.rowOther (by omega) _, hrs.row _, Q3.out.rowOther (by omega) _, Q4.out.rowOther (by omega) _, hb11, by simp; omega⟩)
          clear hrs0 hrz P1 P2 P3 P4 hbel8 hb10 HBQ
          go_wp2_with (first
            | (with_reducible refine wpList_store_blkTo rfl 48 (.tmp 10) (.tmp 47) rfl rfl nb nA rfl rfl 48 rs hrs (by rw [HNZ.out]; kernel_rfl) (by rw [HNZ.out, HRZ.out]) HNO.out ?_
               generalize hw11 : World.setRow _ _ _ = wx
               obtain ⟨r1, r2, r3, r4, hbel, hnl⟩ := HROW.out _ hw11
               clear hw11
               have HG := Lib.hid r1
               have HNQ := Lib.hid (show Blk wx nb (u8A (blockL ks (ctrL q))) 48 by rw [HNE.out]; exact r2)
               have HSB := Lib.hid r3
               have HKB := Lib.hid r4
               clear r1 r2 r3 r4 Q1 Q3 Q4 hbel10 HROW hrs HNE HNZ HNO HRZ hs10 hs8
               have m0 : (0 : Int) ≤ ((N : Int) + (i : Int)) % 16 := by omega
               have m1 : ((N : Int) + (i : Int)) % 16 < 16 := by omega
               obtain ⟨m, hm⟩ : ∃ m, (N + i) % 16 = m := ⟨_, rfl⟩
               have m2 : (((N : Int) + (i : Int)) % 16).toNat = m := by omega
               have cn := HNQ.out.byteAt (i := m) (by unfold blockL; rw [stU_len]; omega)
               obtain ⟨o, ho⟩ : ∃ old, wx.cell? ⟨g, i, none⟩ = some old := ⟨_, HG.out.byteAt (i := i) (by rw [part_len ((streamL_len ks N l).trans HL.out) (show (List.replicate n (0 : UInt8)).length = n from List.length_replicate ..) (by omega)]; exact hlt)⟩
               have hf := HG.out.frozen i
               have HV := Lib.hid (show bits .xor .u8 (a0.toNat : Int) (((blockL ks (ctrL q)).getD m 0).toNat : Int) = (((streamL ks N l).getD i 0).toNat : Int) by rw [xor_byte8, streamL_at ks N l (by rw [HL.out]; exact hlt), HA0.out, HKEY.out, hm])
               have HPS := Lib.hid (part_set ((streamL_len ks N l).trans HL.out) (show (List.replicate n (0 : UInt8)).length = n from List.length_replicate ..) hlt)
               have HQ2 := Lib.hid (show (N + (i + 1) - 1) / 16 = q by rw [show N + (i + 1) - 1 = N + i by omega]; exact HQ.out)
               generalize (blockL ks (ctrL q)).getD m 0 = b0 at *
               clear hm))
          go_roundw
          case rel =>
            refine ⟨i + 1, by omega, by go_num, hbel.setCell (by simp; omega) _, by simpa using hnl, Lib.hid ?_, Lib.hid ⟨_, HNQ.out.other (by simp; omega) _, by rw [u8A_size]; exact stU_len _ _ _, fun _ => by rw [HQ2.out]⟩, Lib.hid (HSB.out.other (by simp; omega) _), Lib.hid (HKB.out.other (by simp; omega) _)⟩
            rw [← HPS.out]
            exact HG.out.put _ HV.out
          case measure => simp [intOf]; omega
        · by_cases hz0 : i = 0
          · have e0 : ((i : Int) == 0) = true := by simp; omega
            clear h hq hz0
            go_wp2_with fail
            refine (numbered_any q _ (by omega)).mono ?_
            rintro e w8 ⟨rfl, hb8⟩
            have P1 := Lib.hid (HG.out.below hb8 HGL)
            have P2 := Lib.hid (show ∃ rs, Blk w8 nb rs 48 ∧ rs.size = 16 by obtain ⟨rs, h, hz, _⟩ := HNW.out; exact ⟨rs, h.below hb8 h.lt, hz⟩)
            have P3 := Lib.hid (HSB.out.below hb8 HSB.out.lt)
            have P4 := Lib.hid (HKB.out.below hb8 HKB.out.lt)
            have hbel8 : Below r w w8 := hbel.trans (hb8.mono (by omega))
            have hs8 := hb8.size
            have HBQ := Lib.hid (fun (W : World) h1 h2 => HBK.out sb kb (ctrL q) W (ctrL_len q) h1 h2)
            have hbz : (u8A (blockL ks (ctrL q))).size = 16 := by rw [u8A_size]; exact stU_len _ _ _
            have hbo := u8A_one (blockL ks (ctrL q))
            obtain ⟨cA, hce⟩ : ∃ z, u8A (ctrL q) = z := ⟨_, rfl⟩
            obtain ⟨nA, hne⟩ : ∃ z, u8A (blockL ks (ctrL q)) = z := ⟨_, rfl⟩
            rw [hce, hne] at HBQ
            rw [hce]
            rw [hne] at hbz hbo
            have HNE := Lib.hid hne
            have HNZ := Lib.hid hbz
            have HNO := Lib.hid hbo
            clear HG HNW HSB HKB hbel hb8 hce hne hbz hbo HGL
            go_wp2_with fail
            refine (HBQ.out _ P3.out P4.out).mono ?_
            rintro e w10 ⟨rfl, hb10⟩
            obtain ⟨rs, hrs0, hrz⟩ := P2.out
            have Q1 := Lib.hid (P1.out.below hb10 (by omega))
            have hrs := hrs0.below hb10 hrs0.lt
            have Q3 := Lib.hid (P3.out.below hb10 P3.out.lt)
            have Q4 := Lib.hid (P4.out.below hb10 P4.out.lt)
            have hbel10 : Below r w w10 := hbel8.trans (hb10.mono (by omega))
            have hs10 := hb10.size
            have HRZ := Lib.hid hrz
            have HROW := Lib.hid (show ∀ w11, w10.setRow nb nA = w11 → Blk w11 g (u8A (part (streamL ks N l) (List.replicate n 0) i)) 5 ∧ Blk w11 nb nA 48 ∧ Blk w11 sb bA 43 ∧ Blk w11 kb eA 45 ∧ Below r w w11 ∧ nb < w11.heap.size by
              rintro w11 rfl
              have hb11 := below_row hbel10 (by omega) (by omega) (g := nb) nA
              refine ⟨Q1.out.rowOther (by omega) _, hrs.row _, Q3.out.rowOther (by omega) _, Q4.out.rowOther (by omega) _, hb11, by simp; omega⟩)
            clear hrs0 hrz P1 P2 P3 P4 hbel8 hb10 HBQ
            go_wp2_with (first
              | (with_reducible refine wpList_store_blkTo rfl 48 (.tmp 10) (.tmp 47) rfl rfl nb nA rfl rfl 48 rs hrs (by rw [HNZ.out]; kernel_rfl) (by rw [HNZ.out, HRZ.out]) HNO.out ?_
                 generalize hw11 : World.setRow _ _ _ = wx
                 obtain ⟨r1, r2, r3, r4, hbel, hnl⟩ := HROW.out _ hw11
                 clear hw11
                 have HG := Lib.hid r1
                 have HNQ := Lib.hid (show Blk wx nb (u8A (blockL ks (ctrL q))) 48 by rw [HNE.out]; exact r2)
                 have HSB := Lib.hid r3
                 have HKB := Lib.hid r4
                 clear r1 r2 r3 r4 Q1 Q3 Q4 hbel10 HROW hrs HNE HNZ HNO HRZ hs10 hs8
                 have m0 : (0 : Int) ≤ ((N : Int) + (i : Int)) % 16 := by omega
                 have m1 : ((N : Int) + (i : Int)) % 16 < 16 := by omega
                 obtain ⟨m, hm⟩ : ∃ m, (N + i) % 16 = m := ⟨_, rfl⟩
                 have m2 : (((N : Int) + (i : Int)) % 16).toNat = m := by omega
                 have cn := HNQ.out.byteAt (i := m) (by unfold blockL; rw [stU_len]; omega)
                 obtain ⟨o, ho⟩ : ∃ old, wx.cell? ⟨g, i, none⟩ = some old := ⟨_, HG.out.byteAt (i := i) (by rw [part_len ((streamL_len ks N l).trans HL.out) (show (List.replicate n (0 : UInt8)).length = n from List.length_replicate ..) (by omega)]; exact hlt)⟩
                 have hf := HG.out.frozen i
                 have HV := Lib.hid (show bits .xor .u8 (a0.toNat : Int) (((blockL ks (ctrL q)).getD m 0).toNat : Int) = (((streamL ks N l).getD i 0).toNat : Int) by rw [xor_byte8, streamL_at ks N l (by rw [HL.out]; exact hlt), HA0.out, HKEY.out, hm])
                 have HPS := Lib.hid (part_set ((streamL_len ks N l).trans HL.out) (show (List.replicate n (0 : UInt8)).length = n from List.length_replicate ..) hlt)
                 have HQ2 := Lib.hid (show (N + (i + 1) - 1) / 16 = q by rw [show N + (i + 1) - 1 = N + i by omega]; exact HQ.out)
                 generalize (blockL ks (ctrL q)).getD m 0 = b0 at *
                 clear hm))
            go_roundw
            case rel =>
              refine ⟨i + 1, by omega, by go_num, hbel.setCell (by simp; omega) _, by simpa using hnl, Lib.hid ?_, Lib.hid ⟨_, HNQ.out.other (by simp; omega) _, by rw [u8A_size]; exact stU_len _ _ _, fun _ => by rw [HQ2.out]⟩, Lib.hid (HSB.out.other (by simp; omega) _), Lib.hid (HKB.out.other (by simp; omega) _)⟩
              rw [← HPS.out]
              exact HG.out.put _ HV.out
            case measure => simp [intOf]; omega
          · have e0 : ((i : Int) == 0) = false := by simp; omega
            have e1 : (((N : Int) + (i : Int)) % 16 == 0) = true := by simp; omega
            clear h hq hz0
            go_wp2_with fail
            refine (numbered_any q _ (by omega)).mono ?_
            rintro e w8 ⟨rfl, hb8⟩
            have P1 := Lib.hid (HG.out.below hb8 HGL)
            have P2 := Lib.hid (show ∃ rs, Blk w8 nb rs 48 ∧ rs.size = 16 by obtain ⟨rs, h, hz, _⟩ := HNW.out; exact ⟨rs, h.below hb8 h.lt, hz⟩)
            have P3 := Lib.hid (HSB.out.below hb8 HSB.out.lt)
            have P4 := Lib.hid (HKB.out.below hb8 HKB.out.lt)
            have hbel8 : Below r w w8 := hbel.trans (hb8.mono (by omega))
            have hs8 := hb8.size
            have HBQ := Lib.hid (fun (W : World) h1 h2 => HBK.out sb kb (ctrL q) W (ctrL_len q) h1 h2)
            have hbz : (u8A (blockL ks (ctrL q))).size = 16 := by rw [u8A_size]; exact stU_len _ _ _
            have hbo := u8A_one (blockL ks (ctrL q))
            obtain ⟨cA, hce⟩ : ∃ z, u8A (ctrL q) = z := ⟨_, rfl⟩
            obtain ⟨nA, hne⟩ : ∃ z, u8A (blockL ks (ctrL q)) = z := ⟨_, rfl⟩
            rw [hce, hne] at HBQ
            rw [hce]
            rw [hne] at hbz hbo
            have HNE := Lib.hid hne
            have HNZ := Lib.hid hbz
            have HNO := Lib.hid hbo
            clear HG HNW HSB HKB hbel hb8 hce hne hbz hbo HGL
            go_wp2_with fail
            refine (HBQ.out _ P3.out P4.out).mono ?_
            rintro e w10 ⟨rfl, hb10⟩
            obtain ⟨rs, hrs0, hrz⟩ := P2.out
            have Q1 := Lib.hid (P1.out.below hb10 (by omega))
            have hrs := hrs0.below hb10 hrs0.lt
            have Q3 := Lib.hid (P3.out.below hb10 P3.out.lt)
            have Q4 := Lib.hid (P4.out.below hb10 P4.out.lt)
            have hbel10 : Below r w w10 := hbel8.trans (hb10.mono (by omega))
            have hs10 := hb10.size
            have HRZ := Lib.hid hrz
            have HROW := Lib.hid (show ∀ w11, w10.setRow nb nA = w11 → Blk w11 g (u8A (part (streamL ks N l) (List.replicate n 0) i)) 5 ∧ Blk w11 nb nA 48 ∧ Blk w11 sb bA 43 ∧ Blk w11 kb eA 45 ∧ Below r w w11 ∧ nb < w11.heap.size by
              rintro w11 rfl
              have hb11 := below_row hbel10 (by omega) (by omega) (g := nb) nA
              refine ⟨Q1.out.rowOther (by omega) _, hrs.row _, Q3.out.rowOther (by omega) _, Q4.out.rowOther (by omega) _, hb11, by simp; omega⟩)
            clear hrs0 hrz P1 P2 P3 P4 hbel8 hb10 HBQ
            go_wp2_with (first
              | (with_reducible refine wpList_store_blkTo rfl 48 (.tmp 10) (.tmp 47) rfl rfl nb nA rfl rfl 48 rs hrs (by rw [HNZ.out]; kernel_rfl) (by rw [HNZ.out, HRZ.out]) HNO.out ?_
                 generalize hw11 : World.setRow _ _ _ = wx
                 obtain ⟨r1, r2, r3, r4, hbel, hnl⟩ := HROW.out _ hw11
                 clear hw11
                 have HG := Lib.hid r1
                 have HNQ := Lib.hid (show Blk wx nb (u8A (blockL ks (ctrL q))) 48 by rw [HNE.out]; exact r2)
                 have HSB := Lib.hid r3
                 have HKB := Lib.hid r4
                 clear r1 r2 r3 r4 Q1 Q3 Q4 hbel10 HROW hrs HNE HNZ HNO HRZ hs10 hs8
                 have m0 : (0 : Int) ≤ ((N : Int) + (i : Int)) % 16 := by omega
                 have m1 : ((N : Int) + (i : Int)) % 16 < 16 := by omega
                 obtain ⟨m, hm⟩ : ∃ m, (N + i) % 16 = m := ⟨_, rfl⟩
                 have m2 : (((N : Int) + (i : Int)) % 16).toNat = m := by omega
                 have cn := HNQ.out.byteAt (i := m) (by unfold blockL; rw [stU_len]; omega)
                 obtain ⟨o, ho⟩ : ∃ old, wx.cell? ⟨g, i, none⟩ = some old := ⟨_, HG.out.byteAt (i := i) (by rw [part_len ((streamL_len ks N l).trans HL.out) (show (List.replicate n (0 : UInt8)).length = n from List.length_replicate ..) (by omega)]; exact hlt)⟩
                 have hf := HG.out.frozen i
                 have HV := Lib.hid (show bits .xor .u8 (a0.toNat : Int) (((blockL ks (ctrL q)).getD m 0).toNat : Int) = (((streamL ks N l).getD i 0).toNat : Int) by rw [xor_byte8, streamL_at ks N l (by rw [HL.out]; exact hlt), HA0.out, HKEY.out, hm])
                 have HPS := Lib.hid (part_set ((streamL_len ks N l).trans HL.out) (show (List.replicate n (0 : UInt8)).length = n from List.length_replicate ..) hlt)
                 have HQ2 := Lib.hid (show (N + (i + 1) - 1) / 16 = q by rw [show N + (i + 1) - 1 = N + i by omega]; exact HQ.out)
                 generalize (blockL ks (ctrL q)).getD m 0 = b0 at *
                 clear hm))
            go_roundw
            case rel =>
              refine ⟨i + 1, by omega, by go_num, hbel.setCell (by simp; omega) _, by simpa using hnl, Lib.hid ?_, Lib.hid ⟨_, HNQ.out.other (by simp; omega) _, by rw [u8A_size]; exact stU_len _ _ _, fun _ => by rw [HQ2.out]⟩, Lib.hid (HSB.out.other (by simp; omega) _), Lib.hid (HKB.out.other (by simp; omega) _)⟩
              rw [← HPS.out]
              exact HG.out.put _ HV.out
            case measure => simp [intOf]; omega
      · have e0 : ((i : Int) == 0) = false := by simp; omega
        have e1 : (((N : Int) + (i : Int)) % 16 == 0) = false := by simp; omega
        have HNQ := Lib.hid (show Blk wr nb (u8A (blockL ks (ctrL q))) 48 by
          obtain ⟨rs, h, _, hx⟩ := HNW.out
          have h1 := hx (by omega)
          rw [show (N + i - 1) / 16 = q by omega] at h1
          rw [← h1]
          exact h)
        obtain ⟨wx, rfl⟩ : ∃ y : World, y = wr := ⟨_, rfl⟩
        clear hnew hq HNW HGL
        have m0 : (0 : Int) ≤ ((N : Int) + (i : Int)) % 16 := by omega
        have m1 : ((N : Int) + (i : Int)) % 16 < 16 := by omega
        obtain ⟨m, hm⟩ : ∃ m, (N + i) % 16 = m := ⟨_, rfl⟩
        have m2 : (((N : Int) + (i : Int)) % 16).toNat = m := by omega
        have cn := HNQ.out.byteAt (i := m) (by unfold blockL; rw [stU_len]; omega)
        obtain ⟨o, ho⟩ : ∃ old, wx.cell? ⟨g, i, none⟩ = some old := ⟨_, HG.out.byteAt (i := i) (by rw [part_len ((streamL_len ks N l).trans HL.out) (show (List.replicate n (0 : UInt8)).length = n from List.length_replicate ..) (by omega)]; exact hlt)⟩
        have hf := HG.out.frozen i
        have HV := Lib.hid (show bits .xor .u8 (a0.toNat : Int) (((blockL ks (ctrL q)).getD m 0).toNat : Int) = (((streamL ks N l).getD i 0).toNat : Int) by rw [xor_byte8, streamL_at ks N l (by rw [HL.out]; exact hlt), HA0.out, HKEY.out, hm])
        have HPS := Lib.hid (part_set ((streamL_len ks N l).trans HL.out) (show (List.replicate n (0 : UInt8)).length = n from List.length_replicate ..) hlt)
        have HQ2 := Lib.hid (show (N + (i + 1) - 1) / 16 = q by rw [show N + (i + 1) - 1 = N + i by omega]; exact HQ.out)
        generalize (blockL ks (ctrL q)).getD m 0 = b0 at *
        clear hm
        go_wp2_with fail
        go_roundw
        case rel =>
          refine ⟨i + 1, by omega, by go_num, hbel.setCell (by simp; omega) _, by simpa using hnl, Lib.hid ?_, Lib.hid ⟨_, HNQ.out.other (by simp; omega) _, by rw [u8A_size]; exact stU_len _ _ _, fun _ => by rw [HQ2.out]⟩, Lib.hid (HSB.out.other (by simp; omega) _), Lib.hid (HKB.out.other (by simp; omega) _)⟩
          rw [← HPS.out]
          exact HG.out.put _ HV.out
        case measure => simp [intOf]; omega
    · obtain rfl : i = n := by omega
      have hge : ¬ (i : Int) < (i : Int) := by omega
      have hfin : OwnB wr r 5 (.slice (some ⟨g, 0, none⟩) i i) i (streamL ks N l) := by
        have h1 := HG.out
        rw [part_full ((streamL_len ks N l).trans HL.out) (List.length_replicate ..)] at h1
        refine ⟨(streamL_len ks N l).trans HL.out, .inr ⟨g, i, _, rfl, by omega, h1, Nat.le_refl _, by unfold maxLen; omega, (streamL_len ks N l).trans HL.out, ?_⟩⟩
        rw [List.take_of_length_le (by rw [streamL_len, HL.out]; omega)]
      have HFIN := Lib.hid hfin
      clear hfin HG HNW HSB HKB
      go_wp2_with fail
      go_ret
      exact ⟨_, _, rfl, Nat.le_refl _, by rw [HRR.out]; exact HFIN.out, by rw [HRR.out]; exact hbel⟩
end Go.Proofs.Ytcajlmlblkdjoaa
