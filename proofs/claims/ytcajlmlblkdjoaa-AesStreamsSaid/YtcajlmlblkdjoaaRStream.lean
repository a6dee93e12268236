/- The document's stream of AES. -/
import Derived.Test.YtcajlmlblkdjoaaRAes
import Derived.Test.YtcajlmlblkdjoaaAesS
import Derived.Test.YtcajlmlblkdjoaaPreB
import Derived.Test.YtcajlmlblkdjoaaAppend
namespace Go.Proofs.Ytcajlmlblkdjoaa
open Go.RowKit

/-- The block that was made last. -/
def lastI (N i : Nat) : Int := if i = 0 then -1 else (((N + i - 1) / 16 : Nat) : Int)
def NowB (ks : List UInt8) (w : World) (nb N i : Nat) : Prop := ∃ rs, Blk w nb rs 22 ∧ rs.size = 16 ∧ (0 < i → rs = u8A (blockL ks (ctrL ((N + i - 1) / 16))))
set_option maxRecDepth 100000 in
set_option maxHeartbeats 8000000 in
theorem rStream_any (k : List UInt8) (at_ : Int) (A : Option Addr) (n c : Nat) (l : List UInt8) (w : World) (hk : k.length = 16) (hl : l.length = n) (h1 : n ≤ 1000) (hr : Rd w w.heap.size A l) :
    Calls Try.prog 19 #[.agg (u8A k), .int .i64 at_, .slice A n c] w fun e w' => ∃ A' c', e = .returned (.slice A' n c') ∧ Rd w' w'.heap.size A' (streamL (keysTo k 11) (clampN at_) l) ∧ Below w.heap.size w w' := by
  have hz6 := fun W => zero176 W
  have hz2 := fun W => zero256 W
  have hz1 := fun W => zero16 W
  obtain ⟨Y, hY⟩ : ∃ Z, u8A (List.replicate 176 0) = Z := ⟨_, rfl⟩
  obtain ⟨Z, hZ⟩ : ∃ Z, u8A (List.replicate 256 0) = Z := ⟨_, rfl⟩
  obtain ⟨X, hX⟩ : ∃ Z, u8A (List.replicate 16 0) = Z := ⟨_, rfl⟩
  rw [hY] at hz6
  rw [hZ] at hz2
  rw [hX] at hz1
  have HY := Lib.hid (show Y.size = 176 by rw [← hY, u8A_size]; exact List.length_replicate ..)
  have HZ := Lib.hid (show Z.size = 256 by rw [← hZ, u8A_size]; exact List.length_replicate ..)
  have HX := Lib.hid (show X.size = 16 by rw [← hX, u8A_size]; exact List.length_replicate ..)
  have HXE := Lib.hid hX
  have hkl := keysTo_len hk 11
  have HEX := Lib.hid (fun (sb : Nat) (W : World) (hs : Blk W sb (u8A boxL) 42) => rexpand_any sb k W hk hs)
  have HBK := Lib.hid (fun (sb kb : Nat) (x : List UInt8) (W : World) (hx : x.length = 16) (hs : Blk W sb (u8A boxL) 42) (h2 : Blk W kb (u8A (keysTo k 11)) 30) => rblock_any sb kb (keysTo k 11) x W hx hkl hs h2)
  have hkz : (u8A k).size = 16 := by rw [u8A_size, hk]
  obtain ⟨kA, hke⟩ : ∃ K, u8A k = K := ⟨_, rfl⟩
  rw [hke] at hkz HEX ⊢
  have HKZ := Lib.hid hkz
  obtain ⟨ks, hks⟩ : ∃ z, keysTo k 11 = z := ⟨_, rfl⟩
  rw [hks] at hkl HEX HBK ⊢
  have hez : (u8A ks).size = 176 := by rw [u8A_size, hkl]
  have heo := u8A_one ks
  obtain ⟨eA, hee⟩ : ∃ K, u8A ks = K := ⟨_, rfl⟩
  rw [hee] at hez heo HEX HBK
  have HEZ := Lib.hid hez
  have HEO := Lib.hid heo
  have hbz : (u8A boxL).size = 256 := by rw [u8A_size, boxL_len]
  have hbo := u8A_one boxL
  have HBX := Lib.hid (fun (W : World) => rboxes_any W)
  obtain ⟨bA, hbe⟩ : ∃ K, u8A boxL = K := ⟨_, rfl⟩
  rw [hbe] at hbz hbo HBX HEX HBK
  have HBZ := Lib.hid hbz
  have HBO := Lib.hid hbo
  have HL := Lib.hid hl
  have HRD := Lib.hid hr
  obtain ⟨i0, hi, hi0, hi1, hi2⟩ := info_parts info5
  obtain ⟨N, hN⟩ : ∃ N, clampN at_ = N := ⟨_, rfl⟩
  rw [hN]
  clear hY hZ hX hk hkz hkl hke hks hez heo hee hbz hbo hbe hl hr
  by_cases h0 : at_ < 0
  · have hNz : N = 0 := by rw [← hN]; unfold clampN; rw [if_pos (by omega)]
    have hNb : N ≤ 1073741824 := by omega
    have hN0 : (0 : Int) ≤ (N : Int) := by omega
    have HNV := Lib.hid (show Value.int IntKind.i64 0 = Value.int IntKind.i64 (N : Int) by rw [hNz]; rfl)
    clear hN hNz
    go_enter Try.func19, Try.ntmps19
    go_wp2_with fail
    rw [HNV.out]
    clear HNV
    have hst : Blk (w.alloc (.cells kA 23)) w.heap.size kA 23 ∧ Below w.heap.size w (w.alloc (.cells kA 23)) := ⟨Blk.new w _ _, (Below.refl _ _).alloc (Nat.le_refl _) _⟩
    generalize w.alloc (.cells kA 23) = w1 at hst ⊢
    obtain ⟨g1, hb1⟩ := hst
    refine (HBX.out _).mono ?_
    rintro e w2 ⟨rfl, hb2⟩
    have hl1 := g1.lt
    have K1 := Lib.hid (g1.below hb2 hl1)
    have hb02 := hb1.trans (hb2.mono (by omega))
    have hs2 := hb2.size
    clear g1 hb1 hb2 HBX
    have HPAIR := Lib.hid (show ∀ w3, (w2.alloc (.cells Z 42)).setRow w2.heap.size bA = w3 → Blk w3 w2.heap.size bA 42 ∧ Blk w3 w.heap.size kA 23 ∧ Below w.heap.size w w3 by
      rintro w3 rfl
      exact ⟨(Blk.new w2 _ _).row _, (K1.out.alloc _).rowOther (by omega) _, below_row (hb02.alloc (by omega) _) (by simp; omega) (by omega) _⟩)
    go_wp2_with (first
      | (with_reducible refine wpList_store_blkTo rfl 42 (.tmp 7) (.tmp 20) rfl rfl w2.heap.size bA rfl rfl 42 Z (Blk.new w2 _ _) (by rw [HBZ.out]; kernel_rfl) (by rw [HBZ.out, HZ.out]) HBO.out ?_
         generalize hw3 : World.setRow _ _ _ = w3
         obtain ⟨g1, g2, hb3⟩ := HPAIR.out _ hw3
         clear hw3)
      | (with_reducible refine wpList_load_blk rfl 23 (.tmp 3) rfl w.heap.size rfl 23 kA _ g2 Try.underlying23 rfl (by rw [HKZ.out]; kernel_rfl) ?_))
    obtain ⟨sb, hsb⟩ : ∃ y, w2.heap.size = y := ⟨_, rfl⟩
    rw [hsb] at g1 ⊢
    have L1 := Lib.hid g1
    have m1 := g1.lt
    clear g1 g2 K1 HPAIR hb02
    refine (HEX.out _ _ L1.out).mono ?_
    rintro e w4 ⟨rfl, hb4⟩
    have M1 := Lib.hid (L1.out.below hb4 m1)
    have hb04 := hb3.trans (hb4.mono (by omega))
    have hs4 := hb4.size
    clear L1 hb4 hb3 HEX
    have HPAIR := Lib.hid (show ∀ w5, (w4.alloc (.cells Y 30)).setRow w4.heap.size eA = w5 → Blk w5 w4.heap.size eA 30 ∧ Blk w5 sb bA 42 ∧ Below w.heap.size w w5 ∧ w5.heap.size = w4.heap.size + 1 by
      rintro w5 rfl
      exact ⟨(Blk.new w4 _ _).row _, (M1.out.alloc _).rowOther (by omega) _, below_row (hb04.alloc (by omega) _) (by simp; omega) (by omega) _, by simp⟩)
    go_wp2_with (first
      | (with_reducible refine wpList_store_blkTo rfl 30 (.tmp 8) (.tmp 22) rfl rfl w4.heap.size eA rfl rfl 30 Y (Blk.new w4 _ _) (by rw [HEZ.out]; kernel_rfl) (by rw [HEZ.out, HY.out]) HEO.out ?_
         generalize hw5 : World.setRow _ _ _ = w5
         obtain ⟨g1, g2, hb5, hs5⟩ := HPAIR.out _ hw5
         have h5l := hb5.size
         clear hw5)
      | (at_builtin; refine wpList_append_rd rfl _ _ 24 rfl w5.heap.size 5 i0 Try.underlying24 hi hi0 hi1 hi2 _ 0 [] rfl (World.ownsRow_nil _ _ _ _) w.heap.size A n c l rfl HL.out (HRD.out.below hb5 (Nat.le_refl _)) (by omega) (Nat.le_refl _) ?_))
    intro v6 w6 hown6 hg6
    have hown : w6.ownsRow (w4.heap.size + 1) 5 1 v6 n (Lib.byteCells l) := by simpa using hown6
    have hform : ∃ A6 c6, v6 = .slice A6 n c6 ∧ (n = 0 ∨ ∃ g, A6 = some ⟨g, 0, none⟩ ∧ w4.heap.size + 1 ≤ g ∧ g < w6.heap.size ∧ PreB w6 g 5 n l) := by
      rcases hown.2 with ⟨e1, e2⟩ | ⟨g, cap, cur, e1, e2, e3, e4, _, e5, e6⟩
      · exact ⟨none, 0, by rw [e1, e2], .inl e2⟩
      · exact ⟨_, cap, e1, .inr ⟨g, rfl, e2, (Array.getElem?_eq_some_iff.1 e3).1, cur, e3, by omega, HL.out, by simpa using e6⟩⟩
    obtain ⟨A6, c6, rfl, hout⟩ := hform
    have hbel6 : Below w.heap.size w w6 := hb5.grown hg6 hb5.size (fun k hk => by simp [Value.ownBlock] at hk)
    have L1 := Lib.hid (g1.grown hg6 (by simp [Value.ownBlock]))
    have L2 := Lib.hid (g2.grown hg6 (by simp [Value.ownBlock]))
    have HOUT := Lib.hid hout
    have h65 := hg6.size
    obtain ⟨kb, hkb⟩ : ∃ y, w4.heap.size = y := ⟨_, rfl⟩
    rw [hkb] at L1 hs5 HOUT ⊢
    have mk6 : kb + 1 ≤ w6.heap.size := by omega
    have mskb : sb < kb := by have := M1.out.lt; omega
    clear hown6 hown hg6 hout g1 g2 hb5 M1 HPAIR hb04
    go_wp2_with fail
    have hst7 : Blk (w6.alloc (.cells X 22)) w6.heap.size X 22 ∧ Below w6.heap.size w6 (w6.alloc (.cells X 22)) := ⟨Blk.new w6 _ _, (Below.refl _ _).alloc (Nat.le_refl _) _⟩
    generalize w6.alloc (.cells X 22) = w7 at hst7 ⊢
    obtain ⟨x1, x2⟩ := hst7
    obtain ⟨nb, hnb⟩ : ∃ y, w6.heap.size = y := ⟨_, rfl⟩
    have hbel7 : Below w.heap.size w w7 := hbel6.trans (x2.mono hbel6.size)
    have N1 := Lib.hid (L1.out.below x2 (by omega))
    have N2 := Lib.hid (L2.out.below x2 (by omega))
    have hw0 := hbel6.size
    rw [hnb] at x1 x2 mk6 hw0 ⊢
    have N3 := Lib.hid (show NowB ks w7 nb N 0 from ⟨X, x1, HX.out, fun h => absurd h (by omega)⟩)
    have N4 := Lib.hid (show n = 0 ∨ ∃ g, A6 = some ⟨g, 0, none⟩ ∧ kb + 1 ≤ g ∧ g < nb ∧ PreB w7 g 5 n (part (streamL ks N l) l 0) by
      rcases HOUT.out with h | ⟨g, e1, e2, e3, e4⟩
      · exact .inl h
      · rw [hnb] at e3
        exact .inr ⟨g, e1, e2, e3, by rw [part_zero]; exact e4.below x2 e3⟩)
    have hnl := x1.lt
    obtain ⟨r, hr⟩ : ∃ y, w.heap.size = y := ⟨_, rfl⟩
    rw [hr] at hbel7 hw0
    have HRR := Lib.hid hr
    have hrk : r ≤ sb := by have := HRR.out; omega
    clear x1 x2 hbel6 L1 L2 HOUT hnb h65 HRD hr
    go_loopw [10, 27] (fun la t wr => ∃ i : Nat, i ≤ n ∧ t = .int .i64 i ∧ la = .int .i64 (lastI N i) ∧ Below r w wr ∧ nb < wr.heap.size ∧ Hid (n = 0 ∨ ∃ g, A6 = some ⟨g, 0, none⟩ ∧ kb + 1 ≤ g ∧ g < nb ∧ PreB wr g 5 n (part (streamL ks N l) l i)) ∧ Hid (NowB ks wr nb N i) ∧ Hid (Blk wr sb bA 42) ∧ Hid (Blk wr kb eA 30)) (fun _ t _ => n - (intOf t).toNat)
    case atStart => exact ⟨0, Nat.zero_le _, rfl, rfl, hbel7, hnl, N4, N3, N2, N1⟩
    case round =>
      clear hbel7 N1 N2 N3 N4 hnl
      obtain ⟨i, hi', rfl, rfl, hbel, hnl, HO, HNW, HSB, HKB⟩ := hrel
      by_cases hlt : i < n
      · obtain ⟨g, rfl, hg1, hg2, HG0⟩ : ∃ g, A6 = some ⟨g, 0, none⟩ ∧ kb + 1 ≤ g ∧ g < nb ∧ PreB wr g 5 n (part (streamL ks N l) l i) := by
          rcases HO.out with h | h
          · omega
          · exact h
        have HG := Lib.hid HG0
        clear HG0 HO
        have hin : (i : Int) < (n : Int) := by omega
        obtain ⟨q, hq⟩ : ∃ q, (N + i) / 16 = q := ⟨_, rfl⟩
        have q1 : ((N : Int) + (i : Int)) / 16 = (q : Int) := by omega
        have qb : (q : Int) ≤ 100000000 := by omega
        have HKEY := Lib.hid (show keyB ks (N + i) = (blockL ks (ctrL q)).getD ((N + i) % 16) 0 by unfold keyB; rw [hq])
        have HLN := Lib.hid (show lastI N (i + 1) = (q : Int) by unfold lastI; rw [if_neg (by omega), show N + (i + 1) - 1 = N + i by omega, hq])
        by_cases hsame : 0 < i ∧ (N + i - 1) / 16 = q
        · have hla : lastI N i = (q : Int) := by unfold lastI; rw [if_neg (by omega), hsame.2]
          have hcmp : (((N : Int) + (i : Int)) / 16 != lastI N i) = false := by rw [hla, q1]; simp
          have HNQ := Lib.hid (show Blk wr nb (u8A (blockL ks (ctrL q))) 22 by
            obtain ⟨rs, h, _, hx⟩ := HNW.out
            rw [← hsame.2, ← hx hsame.1]; exact h)
          have HQ := Lib.hid hq
          have HLA := Lib.hid hla
          clear HNW hla hsame hq
          go_wp2_with fail
          have m0 : (0 : Int) ≤ ((N : Int) + (i : Int)) % 16 := by omega
          have m1 : ((N : Int) + (i : Int)) % 16 < 16 := by omega
          obtain ⟨m, hm⟩ : ∃ m, (N + i) % 16 = m := ⟨_, rfl⟩
          have m2 : (((N : Int) + (i : Int)) % 16).toNat = m := by omega
          have cn := HNQ.out.byteAt (i := m) (by unfold blockL; rw [stU_len]; omega)
          have co := HG.out.byteAt hlt
          rw [part_later ((streamL_len ks N l).trans HL.out) (by omega) (Nat.le_refl i)] at co
          have hf := HG.out.frozen i
          have HV := Lib.hid (show bits .xor .u8 ((l.getD i 0).toNat : Int) (((blockL ks (ctrL q)).getD m 0).toNat : Int) = (((streamL ks N l).getD i 0).toNat : Int) by rw [xor_byte8, streamL_at ks N l (by rw [HL.out]; exact hlt), HKEY.out, hm])
          have HPS := Lib.hid (part_set ((streamL_len ks N l).trans HL.out) HL.out hlt)
          have HQ2 := Lib.hid (show (N + (i + 1) - 1) / 16 = q by rw [show N + (i + 1) - 1 = N + i by omega]; exact HQ.out)
          generalize l.getD i 0 = a0 at *
          generalize (blockL ks (ctrL q)).getD m 0 = b0 at *
          clear hm
          go_wp2_with fail
          refine wp_region_noPanic ?_
          go_region
          refine NoPanic.normal ?_
          go_wp2_with fail
          go_roundw
          case rel =>
            refine ⟨i + 1, by omega, by go_num, by rw [HLN.out, HLA.out], (hbel.setCell (by simp; omega) _).drew, ?_, Lib.hid (.inr ⟨g, rfl, hg1, hg2, ?_⟩), Lib.hid ⟨_, HNQ.out.other (by simp; omega) _, by rw [u8A_size]; exact stU_len _ _ _, fun _ => by rw [HQ2.out]⟩, Lib.hid (HSB.out.other (by simp; omega) _), Lib.hid (HKB.out.other (by simp; omega) _)⟩
            · simpa using hnl
            · rw [← HPS.out]
              exact HG.out.put _ HV.out
          case measure => simp [intOf]; omega
        · have hcmp : (((N : Int) + (i : Int)) / 16 != lastI N i) = true := by
            rw [q1]
            unfold lastI
            by_cases hi0 : i = 0
            · rw [if_pos hi0]; simp only [bne_iff_ne, ne_eq]; omega
            · rw [if_neg hi0]
              have : (N + i - 1) / 16 ≠ q := fun h => hsame ⟨by omega, h⟩
              simp only [bne_iff_ne, ne_eq]
              omega
          have HQ := Lib.hid hq
          clear hsame hq
          go_wp2_with fail
          have HP8 := Lib.hid (show ∀ W : World, Calls Try.prog 30 #[.int .i64 (q : Int), .int .i64 8] W fun e w' => ∃ A c, e = .returned (.slice A 8 c) ∧ w'.ownsRow W.heap.size 5 1 (.slice A 8 c) 8 (Lib.byteCells (putL q 8)) ∧ Below W.heap.size W w' from fun W => by
            have h := rput_any (q : Int) 8 W (by omega)
            rw [show putW 8 = 8 from rfl, show putN (q : Int) = q from by unfold putN; rw [if_neg (by omega)]; omega] at h
            exact h)
          have hst8 : Blk (wr.alloc (.cells X 22)) wr.heap.size X 22 ∧ Below wr.heap.size wr (wr.alloc (.cells X 22)) ∧ (wr.alloc (.cells X 22)).heap.size = wr.heap.size + 1 := ⟨Blk.new wr _ _, (Below.refl _ _).alloc (Nat.le_refl _) _, by simp⟩
          generalize wr.alloc (.cells X 22) = w8 at hst8 ⊢
          obtain ⟨x1, x2, x3⟩ := hst8
          refine (HP8.out _).mono ?_
          rintro e w9 ⟨A9, c9, rfl, hown9, hb9⟩
          obtain ⟨g9, rfl, hg9, HP9⟩ : ∃ g9, A9 = some ⟨g9, 0, none⟩ ∧ w8.heap.size ≤ g9 ∧ PreB w9 g9 5 8 (putL q 8) := by
            rcases hown9.2 with ⟨_, h⟩ | ⟨g9, cap, cur, e1, e2, e3, e4, _, e5, e6⟩
            · cases h
            · injection e1 with e1
              exact ⟨g9, e1, e2, cur, e3, by omega, putL_length _ _, by simpa using e6⟩
          obtain ⟨ib, hib⟩ : ∃ y, wr.heap.size = y := ⟨_, rfl⟩
          rw [hib] at x1 x2 x3
          rw [x3] at hb9 hg9
          have hb29 : Below ib wr w9 := x2.trans (hb9.mono (by omega))
          have hsb : sb < ib := by omega
          have hgib : g < ib := by omega
          have P1 := Lib.hid (HG.out.below hb29 hgib)
          have P2 := Lib.hid (show ∃ rs, Blk w9 nb rs 22 ∧ rs.size = 16 by obtain ⟨rs, h, hz, _⟩ := HNW.out; exact ⟨rs, h.below hb29 (by omega), hz⟩)
          have P3 := Lib.hid (HSB.out.below hb29 hsb)
          have P4 := Lib.hid (HKB.out.below hb29 (by omega))
          have P5 := Lib.hid (show Blk w9 ib (u8A (part (ctrL q) (List.replicate 16 0) (8 + 0))) 22 by rw [Nat.add_zero, ctrL_low, HXE.out]; exact x1.below hb9 (by omega))
          have P6 := Lib.hid HP9
          have hbel9 : Below r w w9 := hbel.trans (hb29.mono (by omega))
          have hib9 : ib < w9.heap.size := P5.out.lt
          rw [hib]
          clear x1 x2 x3 HG HNW HSB HKB hbel HP9 hown9 hb9 hb29 HP8
          go_wp2_with fail
          go_loopw [43] (fun t wq => ∃ j : Nat, j ≤ 8 ∧ t = .int .i64 j ∧ Below r w wq ∧ ib < wq.heap.size ∧ Hid (PreB wq g 5 n (part (streamL ks N l) l i)) ∧ Hid (∃ rs, Blk wq nb rs 22 ∧ rs.size = 16) ∧ Hid (Blk wq sb bA 42) ∧ Hid (Blk wq kb eA 30) ∧ Hid (Blk wq ib (u8A (part (ctrL q) (List.replicate 16 0) (8 + j))) 22) ∧ Hid (PreB wq g9 5 8 (putL q 8))) (fun t _ => 8 - (intOf t).toNat)
          case atStart => exact ⟨0, by omega, rfl, hbel9, hib9, P1, P2, P3, P4, P5, P6⟩
          case round =>
            clear hbel9 P1 P2 P3 P4 P5 P6 hib9
            obtain ⟨j, hj, rfl, hbel, hibs, HG, HNW, HSB, HKB, HIB, HPU⟩ := hrel
            by_cases hj8 : j < 8
            · have hji : (j : Int) < 8 := by omega
              have j0 : (0 : Int) ≤ 8 + (j : Int) := by omega
              have j1 : 8 + (j : Int) < 16 := by omega
              have j2 : (8 + (j : Int)).toNat = 8 + j := by omega
              have cp := HPU.out.byteAt hj8
              have z16 : (List.replicate 16 (0 : UInt8)).length = 16 := List.length_replicate ..
              have hf := HIB.out.frozen (8 + j)
              obtain ⟨o, ho⟩ : ∃ old, wr.cell? ⟨ib, 8 + j, none⟩ = some old := ⟨_, HIB.out.byteAt (i := 8 + j) (by rw [part_len (ctrL_len q) z16 (by omega)]; omega)⟩
              have HPS := Lib.hid (part_set (ctrL_len q) z16 (show 8 + j < 16 by omega))
              have HCA := Lib.hid (ctrL_at q j hj8)
              generalize (putL q 8).getD j 0 = v at *
              clear z16
              go_wp2_with fail
              go_roundw
              case rel =>
                refine ⟨j + 1, by omega, by go_num, hbel.setCell (by simp; omega) _, by simpa using hibs, Lib.hid (HG.out.other (by simp; omega) _), Lib.hid ?_, Lib.hid (HSB.out.other (by simp; omega) _), Lib.hid (HKB.out.other (by simp; omega) _), Lib.hid ?_, Lib.hid (HPU.out.other (by simp; omega) _)⟩
                · obtain ⟨rs, h, hz⟩ := HNW.out
                  exact ⟨rs, h.other (by simp; omega) _, hz⟩
                · rw [show 8 + (j + 1) = 8 + j + 1 by omega, ← HPS.out]
                  exact HIB.out.put _ (by rw [HCA.out])
              case measure => simp [intOf]; omega
            · obtain rfl : j = 8 := by omega
              have hge8 : ¬ ((8 : Nat) : Int) < 8 := by omega
              have hctr : Blk wr ib (u8A (ctrL q)) 22 := by
                have := HIB.out
                rwa [part_full (ctrL_len q) (show (List.replicate 16 (0 : UInt8)).length = 16 from List.length_replicate ..)] at this
              have HBQ := Lib.hid (fun (W : World) h1 h2 => HBK.out sb kb (ctrL q) W (ctrL_len q) h1 h2)
              have hcz : (u8A (ctrL q)).size = 16 := by rw [u8A_size, ctrL_len]
              obtain ⟨cA, hce⟩ : ∃ z, u8A (ctrL q) = z := ⟨_, rfl⟩
              rw [hce] at hctr HBQ hcz
              have HCZ := Lib.hid hcz
              have hbz : (u8A (blockL ks (ctrL q))).size = 16 := by rw [u8A_size]; exact stU_len _ _ _
              have hbo := u8A_one (blockL ks (ctrL q))
              obtain ⟨nA, hne⟩ : ∃ z, u8A (blockL ks (ctrL q)) = z := ⟨_, rfl⟩
              rw [hne] at HBQ hbz hbo
              have HNE := Lib.hid hne
              have HNZ := Lib.hid hbz
              have HNO := Lib.hid hbo
              clear hce hcz hne hbz hbo HIB HPU hj hj8
              go_wp2_with (with_reducible refine wpList_load_blk rfl 22 (.tmp 14) rfl ib rfl 22 cA _ hctr Try.underlying22 rfl (by rw [HCZ.out]; kernel_rfl) ?_)
              refine (HBQ.out _ HSB.out HKB.out).mono ?_
              rintro e w10 ⟨rfl, hb10⟩
              obtain ⟨rs, hrs0, hrz⟩ := HNW.out
              have Q1 := Lib.hid (HG.out.below hb10 (by omega))
              have hrs := hrs0.below hb10 (by omega)
              have Q3 := Lib.hid (HSB.out.below hb10 (by omega))
              have Q4 := Lib.hid (HKB.out.below hb10 (by omega))
              have hbel10 : Below r w w10 := hbel.trans (hb10.mono (by omega))
              have hs10 := hb10.size
              have HRZ := Lib.hid hrz
              have HROW := Lib.hid (show ∀ w11, w10.setRow nb nA = w11 → PreB w11 g 5 n (part (streamL ks N l) l i) ∧ Blk w11 nb nA 22 ∧ Blk w11 sb bA 42 ∧ Blk w11 kb eA 30 ∧ Below r w w11 ∧ nb < w11.heap.size by
                rintro w11 rfl
                refine ⟨?_, hrs.row _, Q3.out.rowOther (by omega) _, Q4.out.rowOther (by omega) _, below_row hbel10 (by omega) (by omega) _, by simp; omega⟩
                obtain ⟨cur, hb, rest⟩ := Q1.out
                exact ⟨cur, hb.rowOther (by omega) _, rest⟩)
              clear hrs0 hrz HG HNW HSB HKB hbel hb10 HBQ hctr
              go_wp2_with (first
                | (with_reducible refine wpList_store_blkTo rfl 22 (.tmp 11) (.tmp 55) rfl rfl nb nA rfl rfl 22 rs hrs (by rw [HNZ.out]; kernel_rfl) (by rw [HNZ.out, HRZ.out]) HNO.out ?_
                   generalize hw11 : World.setRow _ _ _ = w11
                   obtain ⟨r1, r2, r3, r4, hbel, hnl2⟩ := HROW.out _ hw11
                   clear hw11))
              have HG := Lib.hid r1
              have HNQ := Lib.hid (show Blk w11 nb (u8A (blockL ks (ctrL q))) 22 by rw [HNE.out]; exact r2)
              have HSB := Lib.hid r3
              have HKB := Lib.hid r4
              clear r1 r2 r3 r4 Q1 Q3 Q4 hbel10 HROW hrs HNE HNZ HNO HCZ HRZ
              have m0 : (0 : Int) ≤ ((N : Int) + (i : Int)) % 16 := by omega
              have m1 : ((N : Int) + (i : Int)) % 16 < 16 := by omega
              obtain ⟨m, hm⟩ : ∃ m, (N + i) % 16 = m := ⟨_, rfl⟩
              have m2 : (((N : Int) + (i : Int)) % 16).toNat = m := by omega
              have cn := HNQ.out.byteAt (i := m) (by unfold blockL; rw [stU_len]; omega)
              have co := HG.out.byteAt hlt
              rw [part_later ((streamL_len ks N l).trans HL.out) (by omega) (Nat.le_refl i)] at co
              have hf := HG.out.frozen i
              have HV := Lib.hid (show bits .xor .u8 ((l.getD i 0).toNat : Int) (((blockL ks (ctrL q)).getD m 0).toNat : Int) = (((streamL ks N l).getD i 0).toNat : Int) by rw [xor_byte8, streamL_at ks N l (by rw [HL.out]; exact hlt), HKEY.out, hm])
              have HPS := Lib.hid (part_set ((streamL_len ks N l).trans HL.out) HL.out hlt)
              have HQ2 := Lib.hid (show (N + (i + 1) - 1) / 16 = q by rw [show N + (i + 1) - 1 = N + i by omega]; exact HQ.out)
              generalize l.getD i 0 = a0 at *
              generalize (blockL ks (ctrL q)).getD m 0 = b0 at *
              clear hm
              go_wp2_with fail
              refine wp_region_noPanic ?_
              go_region
              refine NoPanic.normal ?_
              go_wp2_with fail
              go_roundw
              case rel =>
                refine ⟨i + 1, by omega, by go_num, by rw [HLN.out], (hbel.setCell (by simp; omega) _).drew, ?_, Lib.hid (.inr ⟨g, rfl, hg1, hg2, ?_⟩), Lib.hid ⟨_, HNQ.out.other (by simp; omega) _, by rw [u8A_size]; exact stU_len _ _ _, fun _ => by rw [HQ2.out]⟩, Lib.hid (HSB.out.other (by simp; omega) _), Lib.hid (HKB.out.other (by simp; omega) _)⟩
                · simpa using hnl2
                · rw [← HPS.out]
                  exact HG.out.put _ HV.out
              case measure => simp [intOf]; omega
      · obtain rfl : i = n := by omega
        have hge : ¬ (i : Int) < (i : Int) := by omega
        have hfin : Rd wr wr.heap.size A6 (streamL ks N l) := by
          rcases HO.out with h | ⟨g, rfl, _, _, e4⟩
          · exact .inl (List.length_eq_zero_iff.1 (by rw [streamL_len, HL.out, h]))
          · have := e4.rd
            rwa [part_full ((streamL_len ks N l).trans HL.out) HL.out] at this
        have HFIN := Lib.hid hfin
        clear hfin HO HNW HSB HKB
        go_wp2_with fail
        go_ret
        exact ⟨A6, ⟨c6, rfl⟩, HFIN.out, by rw [HRR.out]; exact hbel⟩
  · by_cases h2 : at_ ≤ 1073741824
    · obtain rfl : at_ = (N : Int) := by
        rw [← hN]; unfold clampN
        by_cases e : at_ ≤ 0
        · rw [if_pos e]; omega
        · rw [if_neg e, if_pos h2]; omega
      have hNb : N ≤ 1073741824 := by omega
      have hN0 : (0 : Int) ≤ (N : Int) := by omega
      clear hN h0
      go_enter Try.func19, Try.ntmps19
      go_wp2_with fail
      have hst : Blk (w.alloc (.cells kA 23)) w.heap.size kA 23 ∧ Below w.heap.size w (w.alloc (.cells kA 23)) := ⟨Blk.new w _ _, (Below.refl _ _).alloc (Nat.le_refl _) _⟩
      generalize w.alloc (.cells kA 23) = w1 at hst ⊢
      obtain ⟨g1, hb1⟩ := hst
      refine (HBX.out _).mono ?_
      rintro e w2 ⟨rfl, hb2⟩
      have hl1 := g1.lt
      have K1 := Lib.hid (g1.below hb2 hl1)
      have hb02 := hb1.trans (hb2.mono (by omega))
      have hs2 := hb2.size
      clear g1 hb1 hb2 HBX
      have HPAIR := Lib.hid (show ∀ w3, (w2.alloc (.cells Z 42)).setRow w2.heap.size bA = w3 → Blk w3 w2.heap.size bA 42 ∧ Blk w3 w.heap.size kA 23 ∧ Below w.heap.size w w3 by
        rintro w3 rfl
        exact ⟨(Blk.new w2 _ _).row _, (K1.out.alloc _).rowOther (by omega) _, below_row (hb02.alloc (by omega) _) (by simp; omega) (by omega) _⟩)
      go_wp2_with (first
        | (with_reducible refine wpList_store_blkTo rfl 42 (.tmp 7) (.tmp 20) rfl rfl w2.heap.size bA rfl rfl 42 Z (Blk.new w2 _ _) (by rw [HBZ.out]; kernel_rfl) (by rw [HBZ.out, HZ.out]) HBO.out ?_
           generalize hw3 : World.setRow _ _ _ = w3
           obtain ⟨g1, g2, hb3⟩ := HPAIR.out _ hw3
           clear hw3)
        | (with_reducible refine wpList_load_blk rfl 23 (.tmp 3) rfl w.heap.size rfl 23 kA _ g2 Try.underlying23 rfl (by rw [HKZ.out]; kernel_rfl) ?_))
      obtain ⟨sb, hsb⟩ : ∃ y, w2.heap.size = y := ⟨_, rfl⟩
      rw [hsb] at g1 ⊢
      have L1 := Lib.hid g1
      have m1 := g1.lt
      clear g1 g2 K1 HPAIR hb02
      refine (HEX.out _ _ L1.out).mono ?_
      rintro e w4 ⟨rfl, hb4⟩
      have M1 := Lib.hid (L1.out.below hb4 m1)
      have hb04 := hb3.trans (hb4.mono (by omega))
      have hs4 := hb4.size
      clear L1 hb4 hb3 HEX
      have HPAIR := Lib.hid (show ∀ w5, (w4.alloc (.cells Y 30)).setRow w4.heap.size eA = w5 → Blk w5 w4.heap.size eA 30 ∧ Blk w5 sb bA 42 ∧ Below w.heap.size w w5 ∧ w5.heap.size = w4.heap.size + 1 by
        rintro w5 rfl
        exact ⟨(Blk.new w4 _ _).row _, (M1.out.alloc _).rowOther (by omega) _, below_row (hb04.alloc (by omega) _) (by simp; omega) (by omega) _, by simp⟩)
      go_wp2_with (first
        | (with_reducible refine wpList_store_blkTo rfl 30 (.tmp 8) (.tmp 22) rfl rfl w4.heap.size eA rfl rfl 30 Y (Blk.new w4 _ _) (by rw [HEZ.out]; kernel_rfl) (by rw [HEZ.out, HY.out]) HEO.out ?_
           generalize hw5 : World.setRow _ _ _ = w5
           obtain ⟨g1, g2, hb5, hs5⟩ := HPAIR.out _ hw5
           have h5l := hb5.size
           clear hw5)
        | (at_builtin; refine wpList_append_rd rfl _ _ 24 rfl w5.heap.size 5 i0 Try.underlying24 hi hi0 hi1 hi2 _ 0 [] rfl (World.ownsRow_nil _ _ _ _) w.heap.size A n c l rfl HL.out (HRD.out.below hb5 (Nat.le_refl _)) (by omega) (Nat.le_refl _) ?_))
      intro v6 w6 hown6 hg6
      have hown : w6.ownsRow (w4.heap.size + 1) 5 1 v6 n (Lib.byteCells l) := by simpa using hown6
      have hform : ∃ A6 c6, v6 = .slice A6 n c6 ∧ (n = 0 ∨ ∃ g, A6 = some ⟨g, 0, none⟩ ∧ w4.heap.size + 1 ≤ g ∧ g < w6.heap.size ∧ PreB w6 g 5 n l) := by
        rcases hown.2 with ⟨e1, e2⟩ | ⟨g, cap, cur, e1, e2, e3, e4, _, e5, e6⟩
        · exact ⟨none, 0, by rw [e1, e2], .inl e2⟩
        · exact ⟨_, cap, e1, .inr ⟨g, rfl, e2, (Array.getElem?_eq_some_iff.1 e3).1, cur, e3, by omega, HL.out, by simpa using e6⟩⟩
      obtain ⟨A6, c6, rfl, hout⟩ := hform
      have hbel6 : Below w.heap.size w w6 := hb5.grown hg6 hb5.size (fun k hk => by simp [Value.ownBlock] at hk)
      have L1 := Lib.hid (g1.grown hg6 (by simp [Value.ownBlock]))
      have L2 := Lib.hid (g2.grown hg6 (by simp [Value.ownBlock]))
      have HOUT := Lib.hid hout
      have h65 := hg6.size
      obtain ⟨kb, hkb⟩ : ∃ y, w4.heap.size = y := ⟨_, rfl⟩
      rw [hkb] at L1 hs5 HOUT ⊢
      have mk6 : kb + 1 ≤ w6.heap.size := by omega
      have mskb : sb < kb := by have := M1.out.lt; omega
      clear hown6 hown hg6 hout g1 g2 hb5 M1 HPAIR hb04
      go_wp2_with fail
      have hst7 : Blk (w6.alloc (.cells X 22)) w6.heap.size X 22 ∧ Below w6.heap.size w6 (w6.alloc (.cells X 22)) := ⟨Blk.new w6 _ _, (Below.refl _ _).alloc (Nat.le_refl _) _⟩
      generalize w6.alloc (.cells X 22) = w7 at hst7 ⊢
      obtain ⟨x1, x2⟩ := hst7
      obtain ⟨nb, hnb⟩ : ∃ y, w6.heap.size = y := ⟨_, rfl⟩
      have hbel7 : Below w.heap.size w w7 := hbel6.trans (x2.mono hbel6.size)
      have N1 := Lib.hid (L1.out.below x2 (by omega))
      have N2 := Lib.hid (L2.out.below x2 (by omega))
      have hw0 := hbel6.size
      rw [hnb] at x1 x2 mk6 hw0 ⊢
      have N3 := Lib.hid (show NowB ks w7 nb N 0 from ⟨X, x1, HX.out, fun h => absurd h (by omega)⟩)
      have N4 := Lib.hid (show n = 0 ∨ ∃ g, A6 = some ⟨g, 0, none⟩ ∧ kb + 1 ≤ g ∧ g < nb ∧ PreB w7 g 5 n (part (streamL ks N l) l 0) by
        rcases HOUT.out with h | ⟨g, e1, e2, e3, e4⟩
        · exact .inl h
        · rw [hnb] at e3
          exact .inr ⟨g, e1, e2, e3, by rw [part_zero]; exact e4.below x2 e3⟩)
      have hnl := x1.lt
      obtain ⟨r, hr⟩ : ∃ y, w.heap.size = y := ⟨_, rfl⟩
      rw [hr] at hbel7 hw0
      have HRR := Lib.hid hr
      have hrk : r ≤ sb := by have := HRR.out; omega
      clear x1 x2 hbel6 L1 L2 HOUT hnb h65 HRD hr
      go_loopw [10, 27] (fun la t wr => ∃ i : Nat, i ≤ n ∧ t = .int .i64 i ∧ la = .int .i64 (lastI N i) ∧ Below r w wr ∧ nb < wr.heap.size ∧ Hid (n = 0 ∨ ∃ g, A6 = some ⟨g, 0, none⟩ ∧ kb + 1 ≤ g ∧ g < nb ∧ PreB wr g 5 n (part (streamL ks N l) l i)) ∧ Hid (NowB ks wr nb N i) ∧ Hid (Blk wr sb bA 42) ∧ Hid (Blk wr kb eA 30)) (fun _ t _ => n - (intOf t).toNat)
      case atStart => exact ⟨0, Nat.zero_le _, rfl, rfl, hbel7, hnl, N4, N3, N2, N1⟩
      case round =>
        clear hbel7 N1 N2 N3 N4 hnl
        obtain ⟨i, hi', rfl, rfl, hbel, hnl, HO, HNW, HSB, HKB⟩ := hrel
        by_cases hlt : i < n
        · obtain ⟨g, rfl, hg1, hg2, HG0⟩ : ∃ g, A6 = some ⟨g, 0, none⟩ ∧ kb + 1 ≤ g ∧ g < nb ∧ PreB wr g 5 n (part (streamL ks N l) l i) := by
            rcases HO.out with h | h
            · omega
            · exact h
          have HG := Lib.hid HG0
          clear HG0 HO
          have hin : (i : Int) < (n : Int) := by omega
          obtain ⟨q, hq⟩ : ∃ q, (N + i) / 16 = q := ⟨_, rfl⟩
          have q1 : ((N : Int) + (i : Int)) / 16 = (q : Int) := by omega
          have qb : (q : Int) ≤ 100000000 := by omega
          have HKEY := Lib.hid (show keyB ks (N + i) = (blockL ks (ctrL q)).getD ((N + i) % 16) 0 by unfold keyB; rw [hq])
          have HLN := Lib.hid (show lastI N (i + 1) = (q : Int) by unfold lastI; rw [if_neg (by omega), show N + (i + 1) - 1 = N + i by omega, hq])
          by_cases hsame : 0 < i ∧ (N + i - 1) / 16 = q
          · have hla : lastI N i = (q : Int) := by unfold lastI; rw [if_neg (by omega), hsame.2]
            have hcmp : (((N : Int) + (i : Int)) / 16 != lastI N i) = false := by rw [hla, q1]; simp
            have HNQ := Lib.hid (show Blk wr nb (u8A (blockL ks (ctrL q))) 22 by
              obtain ⟨rs, h, _, hx⟩ := HNW.out
              rw [← hsame.2, ← hx hsame.1]; exact h)
            have HQ := Lib.hid hq
            have HLA := Lib.hid hla
            clear HNW hla hsame hq
            go_wp2_with fail
            have m0 : (0 : Int) ≤ ((N : Int) + (i : Int)) % 16 := by omega
            have m1 : ((N : Int) + (i : Int)) % 16 < 16 := by omega
            obtain ⟨m, hm⟩ : ∃ m, (N + i) % 16 = m := ⟨_, rfl⟩
            have m2 : (((N : Int) + (i : Int)) % 16).toNat = m := by omega
            have cn := HNQ.out.byteAt (i := m) (by unfold blockL; rw [stU_len]; omega)
            have co := HG.out.byteAt hlt
            rw [part_later ((streamL_len ks N l).trans HL.out) (by omega) (Nat.le_refl i)] at co
            have hf := HG.out.frozen i
            have HV := Lib.hid (show bits .xor .u8 ((l.getD i 0).toNat : Int) (((blockL ks (ctrL q)).getD m 0).toNat : Int) = (((streamL ks N l).getD i 0).toNat : Int) by rw [xor_byte8, streamL_at ks N l (by rw [HL.out]; exact hlt), HKEY.out, hm])
            have HPS := Lib.hid (part_set ((streamL_len ks N l).trans HL.out) HL.out hlt)
            have HQ2 := Lib.hid (show (N + (i + 1) - 1) / 16 = q by rw [show N + (i + 1) - 1 = N + i by omega]; exact HQ.out)
            generalize l.getD i 0 = a0 at *
            generalize (blockL ks (ctrL q)).getD m 0 = b0 at *
            clear hm
            go_wp2_with fail
            refine wp_region_noPanic ?_
            go_region
            refine NoPanic.normal ?_
            go_wp2_with fail
            go_roundw
            case rel =>
              refine ⟨i + 1, by omega, by go_num, by rw [HLN.out, HLA.out], (hbel.setCell (by simp; omega) _).drew, ?_, Lib.hid (.inr ⟨g, rfl, hg1, hg2, ?_⟩), Lib.hid ⟨_, HNQ.out.other (by simp; omega) _, by rw [u8A_size]; exact stU_len _ _ _, fun _ => by rw [HQ2.out]⟩, Lib.hid (HSB.out.other (by simp; omega) _), Lib.hid (HKB.out.other (by simp; omega) _)⟩
              · simpa using hnl
              · rw [← HPS.out]
                exact HG.out.put _ HV.out
            case measure => simp [intOf]; omega
          · have hcmp : (((N : Int) + (i : Int)) / 16 != lastI N i) = true := by
              rw [q1]
              unfold lastI
              by_cases hi0 : i = 0
              · rw [if_pos hi0]; simp only [bne_iff_ne, ne_eq]; omega
              · rw [if_neg hi0]
                have : (N + i - 1) / 16 ≠ q := fun h => hsame ⟨by omega, h⟩
                simp only [bne_iff_ne, ne_eq]
                omega
            have HQ := Lib.hid hq
            clear hsame hq
            go_wp2_with fail
            have HP8 := Lib.hid (show ∀ W : World, Calls Try.prog 30 #[.int .i64 (q : Int), .int .i64 8] W fun e w' => ∃ A c, e = .returned (.slice A 8 c) ∧ w'.ownsRow W.heap.size 5 1 (.slice A 8 c) 8 (Lib.byteCells (putL q 8)) ∧ Below W.heap.size W w' from fun W => by
              have h := rput_any (q : Int) 8 W (by omega)
              rw [show putW 8 = 8 from rfl, show putN (q : Int) = q from by unfold putN; rw [if_neg (by omega)]; omega] at h
              exact h)
            have hst8 : Blk (wr.alloc (.cells X 22)) wr.heap.size X 22 ∧ Below wr.heap.size wr (wr.alloc (.cells X 22)) ∧ (wr.alloc (.cells X 22)).heap.size = wr.heap.size + 1 := ⟨Blk.new wr _ _, (Below.refl _ _).alloc (Nat.le_refl _) _, by simp⟩
            generalize wr.alloc (.cells X 22) = w8 at hst8 ⊢
            obtain ⟨x1, x2, x3⟩ := hst8
            refine (HP8.out _).mono ?_
            rintro e w9 ⟨A9, c9, rfl, hown9, hb9⟩
            obtain ⟨g9, rfl, hg9, HP9⟩ : ∃ g9, A9 = some ⟨g9, 0, none⟩ ∧ w8.heap.size ≤ g9 ∧ PreB w9 g9 5 8 (putL q 8) := by
              rcases hown9.2 with ⟨_, h⟩ | ⟨g9, cap, cur, e1, e2, e3, e4, _, e5, e6⟩
              · cases h
              · injection e1 with e1
                exact ⟨g9, e1, e2, cur, e3, by omega, putL_length _ _, by simpa using e6⟩
            obtain ⟨ib, hib⟩ : ∃ y, wr.heap.size = y := ⟨_, rfl⟩
            rw [hib] at x1 x2 x3
            rw [x3] at hb9 hg9
            have hb29 : Below ib wr w9 := x2.trans (hb9.mono (by omega))
            have hsb : sb < ib := by omega
            have hgib : g < ib := by omega
            have P1 := Lib.hid (HG.out.below hb29 hgib)
            have P2 := Lib.hid (show ∃ rs, Blk w9 nb rs 22 ∧ rs.size = 16 by obtain ⟨rs, h, hz, _⟩ := HNW.out; exact ⟨rs, h.below hb29 (by omega), hz⟩)
            have P3 := Lib.hid (HSB.out.below hb29 hsb)
            have P4 := Lib.hid (HKB.out.below hb29 (by omega))
            have P5 := Lib.hid (show Blk w9 ib (u8A (part (ctrL q) (List.replicate 16 0) (8 + 0))) 22 by rw [Nat.add_zero, ctrL_low, HXE.out]; exact x1.below hb9 (by omega))
            have P6 := Lib.hid HP9
            have hbel9 : Below r w w9 := hbel.trans (hb29.mono (by omega))
            have hib9 : ib < w9.heap.size := P5.out.lt
            rw [hib]
            clear x1 x2 x3 HG HNW HSB HKB hbel HP9 hown9 hb9 hb29 HP8
            go_wp2_with fail
            go_loopw [43] (fun t wq => ∃ j : Nat, j ≤ 8 ∧ t = .int .i64 j ∧ Below r w wq ∧ ib < wq.heap.size ∧ Hid (PreB wq g 5 n (part (streamL ks N l) l i)) ∧ Hid (∃ rs, Blk wq nb rs 22 ∧ rs.size = 16) ∧ Hid (Blk wq sb bA 42) ∧ Hid (Blk wq kb eA 30) ∧ Hid (Blk wq ib (u8A (part (ctrL q) (List.replicate 16 0) (8 + j))) 22) ∧ Hid (PreB wq g9 5 8 (putL q 8))) (fun t _ => 8 - (intOf t).toNat)
            case atStart => exact ⟨0, by omega, rfl, hbel9, hib9, P1, P2, P3, P4, P5, P6⟩
            case round =>
              clear hbel9 P1 P2 P3 P4 P5 P6 hib9
              obtain ⟨j, hj, rfl, hbel, hibs, HG, HNW, HSB, HKB, HIB, HPU⟩ := hrel
              by_cases hj8 : j < 8
              · have hji : (j : Int) < 8 := by omega
                have j0 : (0 : Int) ≤ 8 + (j : Int) := by omega
                have j1 : 8 + (j : Int) < 16 := by omega
                have j2 : (8 + (j : Int)).toNat = 8 + j := by omega
                have cp := HPU.out.byteAt hj8
                have z16 : (List.replicate 16 (0 : UInt8)).length = 16 := List.length_replicate ..
                have hf := HIB.out.frozen (8 + j)
                obtain ⟨o, ho⟩ : ∃ old, wr.cell? ⟨ib, 8 + j, none⟩ = some old := ⟨_, HIB.out.byteAt (i := 8 + j) (by rw [part_len (ctrL_len q) z16 (by omega)]; omega)⟩
                have HPS := Lib.hid (part_set (ctrL_len q) z16 (show 8 + j < 16 by omega))
                have HCA := Lib.hid (ctrL_at q j hj8)
                generalize (putL q 8).getD j 0 = v at *
                clear z16
                go_wp2_with fail
                go_roundw
                case rel =>
                  refine ⟨j + 1, by omega, by go_num, hbel.setCell (by simp; omega) _, by simpa using hibs, Lib.hid (HG.out.other (by simp; omega) _), Lib.hid ?_, Lib.hid (HSB.out.other (by simp; omega) _), Lib.hid (HKB.out.other (by simp; omega) _), Lib.hid ?_, Lib.hid (HPU.out.other (by simp; omega) _)⟩
                  · obtain ⟨rs, h, hz⟩ := HNW.out
                    exact ⟨rs, h.other (by simp; omega) _, hz⟩
                  · rw [show 8 + (j + 1) = 8 + j + 1 by omega, ← HPS.out]
                    exact HIB.out.put _ (by rw [HCA.out])
                case measure => simp [intOf]; omega
              · obtain rfl : j = 8 := by omega
                have hge8 : ¬ ((8 : Nat) : Int) < 8 := by omega
                have hctr : Blk wr ib (u8A (ctrL q)) 22 := by
                  have := HIB.out
                  rwa [part_full (ctrL_len q) (show (List.replicate 16 (0 : UInt8)).length = 16 from List.length_replicate ..)] at this
                have HBQ := Lib.hid (fun (W : World) h1 h2 => HBK.out sb kb (ctrL q) W (ctrL_len q) h1 h2)
                have hcz : (u8A (ctrL q)).size = 16 := by rw [u8A_size, ctrL_len]
                obtain ⟨cA, hce⟩ : ∃ z, u8A (ctrL q) = z := ⟨_, rfl⟩
                rw [hce] at hctr HBQ hcz
                have HCZ := Lib.hid hcz
                have hbz : (u8A (blockL ks (ctrL q))).size = 16 := by rw [u8A_size]; exact stU_len _ _ _
                have hbo := u8A_one (blockL ks (ctrL q))
                obtain ⟨nA, hne⟩ : ∃ z, u8A (blockL ks (ctrL q)) = z := ⟨_, rfl⟩
                rw [hne] at HBQ hbz hbo
                have HNE := Lib.hid hne
                have HNZ := Lib.hid hbz
                have HNO := Lib.hid hbo
                clear hce hcz hne hbz hbo HIB HPU hj hj8
                go_wp2_with (with_reducible refine wpList_load_blk rfl 22 (.tmp 14) rfl ib rfl 22 cA _ hctr Try.underlying22 rfl (by rw [HCZ.out]; kernel_rfl) ?_)
                refine (HBQ.out _ HSB.out HKB.out).mono ?_
                rintro e w10 ⟨rfl, hb10⟩
                obtain ⟨rs, hrs0, hrz⟩ := HNW.out
                have Q1 := Lib.hid (HG.out.below hb10 (by omega))
                have hrs := hrs0.below hb10 (by omega)
                have Q3 := Lib.hid (HSB.out.below hb10 (by omega))
                have Q4 := Lib.hid (HKB.out.below hb10 (by omega))
                have hbel10 : Below r w w10 := hbel.trans (hb10.mono (by omega))
                have hs10 := hb10.size
                have HRZ := Lib.hid hrz
                have HROW := Lib.hid (show ∀ w11, w10.setRow nb nA = w11 → PreB w11 g 5 n (part (streamL ks N l) l i) ∧ Blk w11 nb nA 22 ∧ Blk w11 sb bA 42 ∧ Blk w11 kb eA 30 ∧ Below r w w11 ∧ nb < w11.heap.size by
                  rintro w11 rfl
                  refine ⟨?_, hrs.row _, Q3.out.rowOther (by omega) _, Q4.out.rowOther (by omega) _, below_row hbel10 (by omega) (by omega) _, by simp; omega⟩
                  obtain ⟨cur, hb, rest⟩ := Q1.out
                  exact ⟨cur, hb.rowOther (by omega) _, rest⟩)
                clear hrs0 hrz HG HNW HSB HKB hbel hb10 HBQ hctr
                go_wp2_with (first
                  | (with_reducible refine wpList_store_blkTo rfl 22 (.tmp 11) (.tmp 55) rfl rfl nb nA rfl rfl 22 rs hrs (by rw [HNZ.out]; kernel_rfl) (by rw [HNZ.out, HRZ.out]) HNO.out ?_
                     generalize hw11 : World.setRow _ _ _ = w11
                     obtain ⟨r1, r2, r3, r4, hbel, hnl2⟩ := HROW.out _ hw11
                     clear hw11))
                have HG := Lib.hid r1
                have HNQ := Lib.hid (show Blk w11 nb (u8A (blockL ks (ctrL q))) 22 by rw [HNE.out]; exact r2)
                have HSB := Lib.hid r3
                have HKB := Lib.hid r4
                clear r1 r2 r3 r4 Q1 Q3 Q4 hbel10 HROW hrs HNE HNZ HNO HCZ HRZ
                have m0 : (0 : Int) ≤ ((N : Int) + (i : Int)) % 16 := by omega
                have m1 : ((N : Int) + (i : Int)) % 16 < 16 := by omega
                obtain ⟨m, hm⟩ : ∃ m, (N + i) % 16 = m := ⟨_, rfl⟩
                have m2 : (((N : Int) + (i : Int)) % 16).toNat = m := by omega
                have cn := HNQ.out.byteAt (i := m) (by unfold blockL; rw [stU_len]; omega)
                have co := HG.out.byteAt hlt
                rw [part_later ((streamL_len ks N l).trans HL.out) (by omega) (Nat.le_refl i)] at co
                have hf := HG.out.frozen i
                have HV := Lib.hid (show bits .xor .u8 ((l.getD i 0).toNat : Int) (((blockL ks (ctrL q)).getD m 0).toNat : Int) = (((streamL ks N l).getD i 0).toNat : Int) by rw [xor_byte8, streamL_at ks N l (by rw [HL.out]; exact hlt), HKEY.out, hm])
                have HPS := Lib.hid (part_set ((streamL_len ks N l).trans HL.out) HL.out hlt)
                have HQ2 := Lib.hid (show (N + (i + 1) - 1) / 16 = q by rw [show N + (i + 1) - 1 = N + i by omega]; exact HQ.out)
                generalize l.getD i 0 = a0 at *
                generalize (blockL ks (ctrL q)).getD m 0 = b0 at *
                clear hm
                go_wp2_with fail
                refine wp_region_noPanic ?_
                go_region
                refine NoPanic.normal ?_
                go_wp2_with fail
                go_roundw
                case rel =>
                  refine ⟨i + 1, by omega, by go_num, by rw [HLN.out], (hbel.setCell (by simp; omega) _).drew, ?_, Lib.hid (.inr ⟨g, rfl, hg1, hg2, ?_⟩), Lib.hid ⟨_, HNQ.out.other (by simp; omega) _, by rw [u8A_size]; exact stU_len _ _ _, fun _ => by rw [HQ2.out]⟩, Lib.hid (HSB.out.other (by simp; omega) _), Lib.hid (HKB.out.other (by simp; omega) _)⟩
                  · simpa using hnl2
                  · rw [← HPS.out]
                    exact HG.out.put _ HV.out
                case measure => simp [intOf]; omega
        · obtain rfl : i = n := by omega
          have hge : ¬ (i : Int) < (i : Int) := by omega
          have hfin : Rd wr wr.heap.size A6 (streamL ks N l) := by
            rcases HO.out with h | ⟨g, rfl, _, _, e4⟩
            · exact .inl (List.length_eq_zero_iff.1 (by rw [streamL_len, HL.out, h]))
            · have := e4.rd
              rwa [part_full ((streamL_len ks N l).trans HL.out) HL.out] at this
          have HFIN := Lib.hid hfin
          clear hfin HO HNW HSB HKB
          go_wp2_with fail
          go_ret
          exact ⟨A6, ⟨c6, rfl⟩, HFIN.out, by rw [HRR.out]; exact hbel⟩
    · have hNz : N = 1073741824 := by rw [← hN]; unfold clampN; rw [if_neg (by omega), if_neg h2]
      have hNb : N ≤ 1073741824 := by omega
      have hN0 : (0 : Int) ≤ (N : Int) := by omega
      have HNV := Lib.hid (show Value.int IntKind.i64 1073741824 = Value.int IntKind.i64 (N : Int) by rw [hNz]; rfl)
      have h2' : (1073741824 : Int) < at_ := by omega
      clear hN hNz
      go_enter Try.func19, Try.ntmps19
      go_wp2_with fail
      rw [HNV.out]
      clear HNV
      have hst : Blk (w.alloc (.cells kA 23)) w.heap.size kA 23 ∧ Below w.heap.size w (w.alloc (.cells kA 23)) := ⟨Blk.new w _ _, (Below.refl _ _).alloc (Nat.le_refl _) _⟩
      generalize w.alloc (.cells kA 23) = w1 at hst ⊢
      obtain ⟨g1, hb1⟩ := hst
      refine (HBX.out _).mono ?_
      rintro e w2 ⟨rfl, hb2⟩
      have hl1 := g1.lt
      have K1 := Lib.hid (g1.below hb2 hl1)
      have hb02 := hb1.trans (hb2.mono (by omega))
      have hs2 := hb2.size
      clear g1 hb1 hb2 HBX
      have HPAIR := Lib.hid (show ∀ w3, (w2.alloc (.cells Z 42)).setRow w2.heap.size bA = w3 → Blk w3 w2.heap.size bA 42 ∧ Blk w3 w.heap.size kA 23 ∧ Below w.heap.size w w3 by
        rintro w3 rfl
        exact ⟨(Blk.new w2 _ _).row _, (K1.out.alloc _).rowOther (by omega) _, below_row (hb02.alloc (by omega) _) (by simp; omega) (by omega) _⟩)
      go_wp2_with (first
        | (with_reducible refine wpList_store_blkTo rfl 42 (.tmp 7) (.tmp 20) rfl rfl w2.heap.size bA rfl rfl 42 Z (Blk.new w2 _ _) (by rw [HBZ.out]; kernel_rfl) (by rw [HBZ.out, HZ.out]) HBO.out ?_
           generalize hw3 : World.setRow _ _ _ = w3
           obtain ⟨g1, g2, hb3⟩ := HPAIR.out _ hw3
           clear hw3)
        | (with_reducible refine wpList_load_blk rfl 23 (.tmp 3) rfl w.heap.size rfl 23 kA _ g2 Try.underlying23 rfl (by rw [HKZ.out]; kernel_rfl) ?_))
      obtain ⟨sb, hsb⟩ : ∃ y, w2.heap.size = y := ⟨_, rfl⟩
      rw [hsb] at g1 ⊢
      have L1 := Lib.hid g1
      have m1 := g1.lt
      clear g1 g2 K1 HPAIR hb02
      refine (HEX.out _ _ L1.out).mono ?_
      rintro e w4 ⟨rfl, hb4⟩
      have M1 := Lib.hid (L1.out.below hb4 m1)
      have hb04 := hb3.trans (hb4.mono (by omega))
      have hs4 := hb4.size
      clear L1 hb4 hb3 HEX
      have HPAIR := Lib.hid (show ∀ w5, (w4.alloc (.cells Y 30)).setRow w4.heap.size eA = w5 → Blk w5 w4.heap.size eA 30 ∧ Blk w5 sb bA 42 ∧ Below w.heap.size w w5 ∧ w5.heap.size = w4.heap.size + 1 by
        rintro w5 rfl
        exact ⟨(Blk.new w4 _ _).row _, (M1.out.alloc _).rowOther (by omega) _, below_row (hb04.alloc (by omega) _) (by simp; omega) (by omega) _, by simp⟩)
      go_wp2_with (first
        | (with_reducible refine wpList_store_blkTo rfl 30 (.tmp 8) (.tmp 22) rfl rfl w4.heap.size eA rfl rfl 30 Y (Blk.new w4 _ _) (by rw [HEZ.out]; kernel_rfl) (by rw [HEZ.out, HY.out]) HEO.out ?_
           generalize hw5 : World.setRow _ _ _ = w5
           obtain ⟨g1, g2, hb5, hs5⟩ := HPAIR.out _ hw5
           have h5l := hb5.size
           clear hw5)
        | (at_builtin; refine wpList_append_rd rfl _ _ 24 rfl w5.heap.size 5 i0 Try.underlying24 hi hi0 hi1 hi2 _ 0 [] rfl (World.ownsRow_nil _ _ _ _) w.heap.size A n c l rfl HL.out (HRD.out.below hb5 (Nat.le_refl _)) (by omega) (Nat.le_refl _) ?_))
      intro v6 w6 hown6 hg6
      have hown : w6.ownsRow (w4.heap.size + 1) 5 1 v6 n (Lib.byteCells l) := by simpa using hown6
      have hform : ∃ A6 c6, v6 = .slice A6 n c6 ∧ (n = 0 ∨ ∃ g, A6 = some ⟨g, 0, none⟩ ∧ w4.heap.size + 1 ≤ g ∧ g < w6.heap.size ∧ PreB w6 g 5 n l) := by
        rcases hown.2 with ⟨e1, e2⟩ | ⟨g, cap, cur, e1, e2, e3, e4, _, e5, e6⟩
        · exact ⟨none, 0, by rw [e1, e2], .inl e2⟩
        · exact ⟨_, cap, e1, .inr ⟨g, rfl, e2, (Array.getElem?_eq_some_iff.1 e3).1, cur, e3, by omega, HL.out, by simpa using e6⟩⟩
      obtain ⟨A6, c6, rfl, hout⟩ := hform
      have hbel6 : Below w.heap.size w w6 := hb5.grown hg6 hb5.size (fun k hk => by simp [Value.ownBlock] at hk)
      have L1 := Lib.hid (g1.grown hg6 (by simp [Value.ownBlock]))
      have L2 := Lib.hid (g2.grown hg6 (by simp [Value.ownBlock]))
      have HOUT := Lib.hid hout
      have h65 := hg6.size
      obtain ⟨kb, hkb⟩ : ∃ y, w4.heap.size = y := ⟨_, rfl⟩
      rw [hkb] at L1 hs5 HOUT ⊢
      have mk6 : kb + 1 ≤ w6.heap.size := by omega
      have mskb : sb < kb := by have := M1.out.lt; omega
      clear hown6 hown hg6 hout g1 g2 hb5 M1 HPAIR hb04
      go_wp2_with fail
      have hst7 : Blk (w6.alloc (.cells X 22)) w6.heap.size X 22 ∧ Below w6.heap.size w6 (w6.alloc (.cells X 22)) := ⟨Blk.new w6 _ _, (Below.refl _ _).alloc (Nat.le_refl _) _⟩
      generalize w6.alloc (.cells X 22) = w7 at hst7 ⊢
      obtain ⟨x1, x2⟩ := hst7
      obtain ⟨nb, hnb⟩ : ∃ y, w6.heap.size = y := ⟨_, rfl⟩
      have hbel7 : Below w.heap.size w w7 := hbel6.trans (x2.mono hbel6.size)
      have N1 := Lib.hid (L1.out.below x2 (by omega))
      have N2 := Lib.hid (L2.out.below x2 (by omega))
      have hw0 := hbel6.size
      rw [hnb] at x1 x2 mk6 hw0 ⊢
      have N3 := Lib.hid (show NowB ks w7 nb N 0 from ⟨X, x1, HX.out, fun h => absurd h (by omega)⟩)
      have N4 := Lib.hid (show n = 0 ∨ ∃ g, A6 = some ⟨g, 0, none⟩ ∧ kb + 1 ≤ g ∧ g < nb ∧ PreB w7 g 5 n (part (streamL ks N l) l 0) by
        rcases HOUT.out with h | ⟨g, e1, e2, e3, e4⟩
        · exact .inl h
        · rw [hnb] at e3
          exact .inr ⟨g, e1, e2, e3, by rw [part_zero]; exact e4.below x2 e3⟩)
      have hnl := x1.lt
      obtain ⟨r, hr⟩ : ∃ y, w.heap.size = y := ⟨_, rfl⟩
      rw [hr] at hbel7 hw0
      have HRR := Lib.hid hr
      have hrk : r ≤ sb := by have := HRR.out; omega
      clear x1 x2 hbel6 L1 L2 HOUT hnb h65 HRD hr
      go_loopw [10, 27] (fun la t wr => ∃ i : Nat, i ≤ n ∧ t = .int .i64 i ∧ la = .int .i64 (lastI N i) ∧ Below r w wr ∧ nb < wr.heap.size ∧ Hid (n = 0 ∨ ∃ g, A6 = some ⟨g, 0, none⟩ ∧ kb + 1 ≤ g ∧ g < nb ∧ PreB wr g 5 n (part (streamL ks N l) l i)) ∧ Hid (NowB ks wr nb N i) ∧ Hid (Blk wr sb bA 42) ∧ Hid (Blk wr kb eA 30)) (fun _ t _ => n - (intOf t).toNat)
      case atStart => exact ⟨0, Nat.zero_le _, rfl, rfl, hbel7, hnl, N4, N3, N2, N1⟩
      case round =>
        clear hbel7 N1 N2 N3 N4 hnl
        obtain ⟨i, hi', rfl, rfl, hbel, hnl, HO, HNW, HSB, HKB⟩ := hrel
        by_cases hlt : i < n
        · obtain ⟨g, rfl, hg1, hg2, HG0⟩ : ∃ g, A6 = some ⟨g, 0, none⟩ ∧ kb + 1 ≤ g ∧ g < nb ∧ PreB wr g 5 n (part (streamL ks N l) l i) := by
            rcases HO.out with h | h
            · omega
            · exact h
          have HG := Lib.hid HG0
          clear HG0 HO
          have hin : (i : Int) < (n : Int) := by omega
          obtain ⟨q, hq⟩ : ∃ q, (N + i) / 16 = q := ⟨_, rfl⟩
          have q1 : ((N : Int) + (i : Int)) / 16 = (q : Int) := by omega
          have qb : (q : Int) ≤ 100000000 := by omega
          have HKEY := Lib.hid (show keyB ks (N + i) = (blockL ks (ctrL q)).getD ((N + i) % 16) 0 by unfold keyB; rw [hq])
          have HLN := Lib.hid (show lastI N (i + 1) = (q : Int) by unfold lastI; rw [if_neg (by omega), show N + (i + 1) - 1 = N + i by omega, hq])
          by_cases hsame : 0 < i ∧ (N + i - 1) / 16 = q
          · have hla : lastI N i = (q : Int) := by unfold lastI; rw [if_neg (by omega), hsame.2]
            have hcmp : (((N : Int) + (i : Int)) / 16 != lastI N i) = false := by rw [hla, q1]; simp
            have HNQ := Lib.hid (show Blk wr nb (u8A (blockL ks (ctrL q))) 22 by
              obtain ⟨rs, h, _, hx⟩ := HNW.out
              rw [← hsame.2, ← hx hsame.1]; exact h)
            have HQ := Lib.hid hq
            have HLA := Lib.hid hla
            clear HNW hla hsame hq
            go_wp2_with fail
            have m0 : (0 : Int) ≤ ((N : Int) + (i : Int)) % 16 := by omega
            have m1 : ((N : Int) + (i : Int)) % 16 < 16 := by omega
            obtain ⟨m, hm⟩ : ∃ m, (N + i) % 16 = m := ⟨_, rfl⟩
            have m2 : (((N : Int) + (i : Int)) % 16).toNat = m := by omega
            have cn := HNQ.out.byteAt (i := m) (by unfold blockL; rw [stU_len]; omega)
            have co := HG.out.byteAt hlt
            rw [part_later ((streamL_len ks N l).trans HL.out) (by omega) (Nat.le_refl i)] at co
            have hf := HG.out.frozen i
            have HV := Lib.hid (show bits .xor .u8 ((l.getD i 0).toNat : Int) (((blockL ks (ctrL q)).getD m 0).toNat : Int) = (((streamL ks N l).getD i 0).toNat : Int) by rw [xor_byte8, streamL_at ks N l (by rw [HL.out]; exact hlt), HKEY.out, hm])
            have HPS := Lib.hid (part_set ((streamL_len ks N l).trans HL.out) HL.out hlt)
            have HQ2 := Lib.hid (show (N + (i + 1) - 1) / 16 = q by rw [show N + (i + 1) - 1 = N + i by omega]; exact HQ.out)
            generalize l.getD i 0 = a0 at *
            generalize (blockL ks (ctrL q)).getD m 0 = b0 at *
            clear hm
            go_wp2_with fail
            refine wp_region_noPanic ?_
            go_region
            refine NoPanic.normal ?_
            go_wp2_with fail
            go_roundw
            case rel =>
              refine ⟨i + 1, by omega, by go_num, by rw [HLN.out, HLA.out], (hbel.setCell (by simp; omega) _).drew, ?_, Lib.hid (.inr ⟨g, rfl, hg1, hg2, ?_⟩), Lib.hid ⟨_, HNQ.out.other (by simp; omega) _, by rw [u8A_size]; exact stU_len _ _ _, fun _ => by rw [HQ2.out]⟩, Lib.hid (HSB.out.other (by simp; omega) _), Lib.hid (HKB.out.other (by simp; omega) _)⟩
              · simpa using hnl
              · rw [← HPS.out]
                exact HG.out.put _ HV.out
            case measure => simp [intOf]; omega
          · have hcmp : (((N : Int) + (i : Int)) / 16 != lastI N i) = true := by
              rw [q1]
              unfold lastI
              by_cases hi0 : i = 0
              · rw [if_pos hi0]; simp only [bne_iff_ne, ne_eq]; omega
              · rw [if_neg hi0]
                have : (N + i - 1) / 16 ≠ q := fun h => hsame ⟨by omega, h⟩
                simp only [bne_iff_ne, ne_eq]
                omega
            have HQ := Lib.hid hq
            clear hsame hq
            go_wp2_with fail
            have HP8 := Lib.hid (show ∀ W : World, Calls Try.prog 30 #[.int .i64 (q : Int), .int .i64 8] W fun e w' => ∃ A c, e = .returned (.slice A 8 c) ∧ w'.ownsRow W.heap.size 5 1 (.slice A 8 c) 8 (Lib.byteCells (putL q 8)) ∧ Below W.heap.size W w' from fun W => by
              have h := rput_any (q : Int) 8 W (by omega)
              rw [show putW 8 = 8 from rfl, show putN (q : Int) = q from by unfold putN; rw [if_neg (by omega)]; omega] at h
              exact h)
            have hst8 : Blk (wr.alloc (.cells X 22)) wr.heap.size X 22 ∧ Below wr.heap.size wr (wr.alloc (.cells X 22)) ∧ (wr.alloc (.cells X 22)).heap.size = wr.heap.size + 1 := ⟨Blk.new wr _ _, (Below.refl _ _).alloc (Nat.le_refl _) _, by simp⟩
            generalize wr.alloc (.cells X 22) = w8 at hst8 ⊢
            obtain ⟨x1, x2, x3⟩ := hst8
            refine (HP8.out _).mono ?_
            rintro e w9 ⟨A9, c9, rfl, hown9, hb9⟩
            obtain ⟨g9, rfl, hg9, HP9⟩ : ∃ g9, A9 = some ⟨g9, 0, none⟩ ∧ w8.heap.size ≤ g9 ∧ PreB w9 g9 5 8 (putL q 8) := by
              rcases hown9.2 with ⟨_, h⟩ | ⟨g9, cap, cur, e1, e2, e3, e4, _, e5, e6⟩
              · cases h
              · injection e1 with e1
                exact ⟨g9, e1, e2, cur, e3, by omega, putL_length _ _, by simpa using e6⟩
            obtain ⟨ib, hib⟩ : ∃ y, wr.heap.size = y := ⟨_, rfl⟩
            rw [hib] at x1 x2 x3
            rw [x3] at hb9 hg9
            have hb29 : Below ib wr w9 := x2.trans (hb9.mono (by omega))
            have hsb : sb < ib := by omega
            have hgib : g < ib := by omega
            have P1 := Lib.hid (HG.out.below hb29 hgib)
            have P2 := Lib.hid (show ∃ rs, Blk w9 nb rs 22 ∧ rs.size = 16 by obtain ⟨rs, h, hz, _⟩ := HNW.out; exact ⟨rs, h.below hb29 (by omega), hz⟩)
            have P3 := Lib.hid (HSB.out.below hb29 hsb)
            have P4 := Lib.hid (HKB.out.below hb29 (by omega))
            have P5 := Lib.hid (show Blk w9 ib (u8A (part (ctrL q) (List.replicate 16 0) (8 + 0))) 22 by rw [Nat.add_zero, ctrL_low, HXE.out]; exact x1.below hb9 (by omega))
            have P6 := Lib.hid HP9
            have hbel9 : Below r w w9 := hbel.trans (hb29.mono (by omega))
            have hib9 : ib < w9.heap.size := P5.out.lt
            rw [hib]
            clear x1 x2 x3 HG HNW HSB HKB hbel HP9 hown9 hb9 hb29 HP8
            go_wp2_with fail
            go_loopw [43] (fun t wq => ∃ j : Nat, j ≤ 8 ∧ t = .int .i64 j ∧ Below r w wq ∧ ib < wq.heap.size ∧ Hid (PreB wq g 5 n (part (streamL ks N l) l i)) ∧ Hid (∃ rs, Blk wq nb rs 22 ∧ rs.size = 16) ∧ Hid (Blk wq sb bA 42) ∧ Hid (Blk wq kb eA 30) ∧ Hid (Blk wq ib (u8A (part (ctrL q) (List.replicate 16 0) (8 + j))) 22) ∧ Hid (PreB wq g9 5 8 (putL q 8))) (fun t _ => 8 - (intOf t).toNat)
            case atStart => exact ⟨0, by omega, rfl, hbel9, hib9, P1, P2, P3, P4, P5, P6⟩
            case round =>
              clear hbel9 P1 P2 P3 P4 P5 P6 hib9
              obtain ⟨j, hj, rfl, hbel, hibs, HG, HNW, HSB, HKB, HIB, HPU⟩ := hrel
              by_cases hj8 : j < 8
              · have hji : (j : Int) < 8 := by omega
                have j0 : (0 : Int) ≤ 8 + (j : Int) := by omega
                have j1 : 8 + (j : Int) < 16 := by omega
                have j2 : (8 + (j : Int)).toNat = 8 + j := by omega
                have cp := HPU.out.byteAt hj8
                have z16 : (List.replicate 16 (0 : UInt8)).length = 16 := List.length_replicate ..
                have hf := HIB.out.frozen (8 + j)
                obtain ⟨o, ho⟩ : ∃ old, wr.cell? ⟨ib, 8 + j, none⟩ = some old := ⟨_, HIB.out.byteAt (i := 8 + j) (by rw [part_len (ctrL_len q) z16 (by omega)]; omega)⟩
                have HPS := Lib.hid (part_set (ctrL_len q) z16 (show 8 + j < 16 by omega))
                have HCA := Lib.hid (ctrL_at q j hj8)
                generalize (putL q 8).getD j 0 = v at *
                clear z16
                go_wp2_with fail
                go_roundw
                case rel =>
                  refine ⟨j + 1, by omega, by go_num, hbel.setCell (by simp; omega) _, by simpa using hibs, Lib.hid (HG.out.other (by simp; omega) _), Lib.hid ?_, Lib.hid (HSB.out.other (by simp; omega) _), Lib.hid (HKB.out.other (by simp; omega) _), Lib.hid ?_, Lib.hid (HPU.out.other (by simp; omega) _)⟩
                  · obtain ⟨rs, h, hz⟩ := HNW.out
                    exact ⟨rs, h.other (by simp; omega) _, hz⟩
                  · rw [show 8 + (j + 1) = 8 + j + 1 by omega, ← HPS.out]
                    exact HIB.out.put _ (by rw [HCA.out])
                case measure => simp [intOf]; omega
              · obtain rfl : j = 8 := by omega
                have hge8 : ¬ ((8 : Nat) : Int) < 8 := by omega
                have hctr : Blk wr ib (u8A (ctrL q)) 22 := by
                  have := HIB.out
                  rwa [part_full (ctrL_len q) (show (List.replicate 16 (0 : UInt8)).length = 16 from List.length_replicate ..)] at this
                have HBQ := Lib.hid (fun (W : World) h1 h2 => HBK.out sb kb (ctrL q) W (ctrL_len q) h1 h2)
                have hcz : (u8A (ctrL q)).size = 16 := by rw [u8A_size, ctrL_len]
                obtain ⟨cA, hce⟩ : ∃ z, u8A (ctrL q) = z := ⟨_, rfl⟩
                rw [hce] at hctr HBQ hcz
                have HCZ := Lib.hid hcz
                have hbz : (u8A (blockL ks (ctrL q))).size = 16 := by rw [u8A_size]; exact stU_len _ _ _
                have hbo := u8A_one (blockL ks (ctrL q))
                obtain ⟨nA, hne⟩ : ∃ z, u8A (blockL ks (ctrL q)) = z := ⟨_, rfl⟩
                rw [hne] at HBQ hbz hbo
                have HNE := Lib.hid hne
                have HNZ := Lib.hid hbz
                have HNO := Lib.hid hbo
                clear hce hcz hne hbz hbo HIB HPU hj hj8
                go_wp2_with (with_reducible refine wpList_load_blk rfl 22 (.tmp 14) rfl ib rfl 22 cA _ hctr Try.underlying22 rfl (by rw [HCZ.out]; kernel_rfl) ?_)
                refine (HBQ.out _ HSB.out HKB.out).mono ?_
                rintro e w10 ⟨rfl, hb10⟩
                obtain ⟨rs, hrs0, hrz⟩ := HNW.out
                have Q1 := Lib.hid (HG.out.below hb10 (by omega))
                have hrs := hrs0.below hb10 (by omega)
                have Q3 := Lib.hid (HSB.out.below hb10 (by omega))
                have Q4 := Lib.hid (HKB.out.below hb10 (by omega))
                have hbel10 : Below r w w10 := hbel.trans (hb10.mono (by omega))
                have hs10 := hb10.size
                have HRZ := Lib.hid hrz
                have HROW := Lib.hid (show ∀ w11, w10.setRow nb nA = w11 → PreB w11 g 5 n (part (streamL ks N l) l i) ∧ Blk w11 nb nA 22 ∧ Blk w11 sb bA 42 ∧ Blk w11 kb eA 30 ∧ Below r w w11 ∧ nb < w11.heap.size by
                  rintro w11 rfl
                  refine ⟨?_, hrs.row _, Q3.out.rowOther (by omega) _, Q4.out.rowOther (by omega) _, below_row hbel10 (by omega) (by omega) _, by simp; omega⟩
                  obtain ⟨cur, hb, rest⟩ := Q1.out
                  exact ⟨cur, hb.rowOther (by omega) _, rest⟩)
                clear hrs0 hrz HG HNW HSB HKB hbel hb10 HBQ hctr
                go_wp2_with (first
                  | (with_reducible refine wpList_store_blkTo rfl 22 (.tmp 11) (.tmp 55) rfl rfl nb nA rfl rfl 22 rs hrs (by rw [HNZ.out]; kernel_rfl) (by rw [HNZ.out, HRZ.out]) HNO.out ?_
                     generalize hw11 : World.setRow _ _ _ = w11
                     obtain ⟨r1, r2, r3, r4, hbel, hnl2⟩ := HROW.out _ hw11
                     clear hw11))
                have HG := Lib.hid r1
                have HNQ := Lib.hid (show Blk w11 nb (u8A (blockL ks (ctrL q))) 22 by rw [HNE.out]; exact r2)
                have HSB := Lib.hid r3
                have HKB := Lib.hid r4
                clear r1 r2 r3 r4 Q1 Q3 Q4 hbel10 HROW hrs HNE HNZ HNO HCZ HRZ
                have m0 : (0 : Int) ≤ ((N : Int) + (i : Int)) % 16 := by omega
                have m1 : ((N : Int) + (i : Int)) % 16 < 16 := by omega
                obtain ⟨m, hm⟩ : ∃ m, (N + i) % 16 = m := ⟨_, rfl⟩
                have m2 : (((N : Int) + (i : Int)) % 16).toNat = m := by omega
                have cn := HNQ.out.byteAt (i := m) (by unfold blockL; rw [stU_len]; omega)
                have co := HG.out.byteAt hlt
                rw [part_later ((streamL_len ks N l).trans HL.out) (by omega) (Nat.le_refl i)] at co
                have hf := HG.out.frozen i
                have HV := Lib.hid (show bits .xor .u8 ((l.getD i 0).toNat : Int) (((blockL ks (ctrL q)).getD m 0).toNat : Int) = (((streamL ks N l).getD i 0).toNat : Int) by rw [xor_byte8, streamL_at ks N l (by rw [HL.out]; exact hlt), HKEY.out, hm])
                have HPS := Lib.hid (part_set ((streamL_len ks N l).trans HL.out) HL.out hlt)
                have HQ2 := Lib.hid (show (N + (i + 1) - 1) / 16 = q by rw [show N + (i + 1) - 1 = N + i by omega]; exact HQ.out)
                generalize l.getD i 0 = a0 at *
                generalize (blockL ks (ctrL q)).getD m 0 = b0 at *
                clear hm
                go_wp2_with fail
                refine wp_region_noPanic ?_
                go_region
                refine NoPanic.normal ?_
                go_wp2_with fail
                go_roundw
                case rel =>
                  refine ⟨i + 1, by omega, by go_num, by rw [HLN.out], (hbel.setCell (by simp; omega) _).drew, ?_, Lib.hid (.inr ⟨g, rfl, hg1, hg2, ?_⟩), Lib.hid ⟨_, HNQ.out.other (by simp; omega) _, by rw [u8A_size]; exact stU_len _ _ _, fun _ => by rw [HQ2.out]⟩, Lib.hid (HSB.out.other (by simp; omega) _), Lib.hid (HKB.out.other (by simp; omega) _)⟩
                  · simpa using hnl2
                  · rw [← HPS.out]
                    exact HG.out.put _ HV.out
                case measure => simp [intOf]; omega
        · obtain rfl : i = n := by omega
          have hge : ¬ (i : Int) < (i : Int) := by omega
          have hfin : Rd wr wr.heap.size A6 (streamL ks N l) := by
            rcases HO.out with h | ⟨g, rfl, _, _, e4⟩
            · exact .inl (List.length_eq_zero_iff.1 (by rw [streamL_len, HL.out, h]))
            · have := e4.rd
              rwa [part_full ((streamL_len ks N l).trans HL.out) HL.out] at this
          have HFIN := Lib.hid hfin
          clear hfin HO HNW HSB HKB
          go_wp2_with fail
          go_ret
          exact ⟨A6, ⟨c6, rfl⟩, HFIN.out, by rw [HRR.out]; exact hbel⟩
end Go.Proofs.Ytcajlmlblkdjoaa
