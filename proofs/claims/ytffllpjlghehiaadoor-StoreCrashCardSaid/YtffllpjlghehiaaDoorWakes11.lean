/- The example of the document's chapter 11, as the program does it. -/
import Derived.Test.YtffllpjlghehiaaDoorLaw11
import Derived.Test.YtffllpjlghehiaaDoorMakeA
namespace Go.Proofs.YtffllpjlghehiaaDoor
open Go.RowKit
set_option maxRecDepth 100000

set_option maxHeartbeats 4000000 in
theorem wakes11_any (w : World) (htab : Pow10 w.heap.size w) : Calls Tryd.prog 23 #[] w fun e w' => e = .returned (.bool true) ∧ Below w.heap.size w w' := by
  have HT := Lib.hid htab
  clear htab
  go_enter Tryd.func23, Tryd.ntmps23
  go_wp2_with fail
  with_reducible refine (pnew_at 12 12 rfl w (by omega) (by omega)).mono ?_
  rintro e w1 ⟨p, rfl, hp, g, hg, D1, hb1⟩
  have HD1 := Lib.hid (show DP w1 p g (4 * (2 + 1)) 12 (newD (4 * (2 + 1))) from D1)
  clear D1
  go_wp2_with fail
  with_reducible refine (open_re HD1.out (by omega) (by omega) (new_re 2 4) rfl (i := 4) (j := 2) rfl rfl).mono ?_
  rintro e w2 ⟨q, b, rfl, hq, hb, S2, L2, C2⟩
  rw [new_same] at S2 L2
  have hbl2 := hb1.trans (C2.below hb1.size (two_ge hp hg))
  have HS2 := Lib.hid S2
  have HL2 := Lib.hid L2
  have hq' : w.heap.size ≤ q := Nat.le_trans hb1.size hq
  have hb' : w.heap.size ≤ b := Nat.le_trans hb1.size hb
  clear S2 L2 C2 HD1 hb1 hq hb
  go_wp2_with fail
  have hlb : Below w2.heap.size w2 (w2.alloc (.cells #[.int .u8 1] 5)) := (Below.refl _ _).alloc (Nat.le_refl _) _
  have hlr : Rd (w2.alloc (.cells #[.int .u8 1] 5)) (w2.alloc (.cells #[.int .u8 1] 5)).heap.size (some ⟨w2.heap.size, 0, none⟩) [1] := Rd.of_blk (bs := [1]) (Blk.new w2 _ 5)
  have hbl3 := hbl2.trans (hlb.mono hbl2.size)
  with_reducible refine (lput (HS2.out.below hlb) HL2.out (by omega) [97] [1] rfl _ 1 1 rfl (by omega) (by unfold maxLen; omega) hlr (tab_on HT.out hbl3 hbl3.size) (by simp) (by omega) (by simp) (by simp)).mono ?_
  rintro e w4 ⟨s4, j4, hj4, rfl, S4, L4, C4⟩
  have HS4 := Lib.hid S4
  have HL4 := Lib.hid L4
  have HJ4 := Lib.hid hj4
  have hbl4 := hbl3.trans (C4.below hbl3.size (fourS_ge hq' hp hg hb'))
  clear S4 L4 hj4 C4 hlb hlr hbl3 HS2 hbl2
  go_wp2_with fail
  with_reducible refine (pstop_any HS4.out.sp.disk 0 0 (by omega)).mono ?_
  rintro e w5 ⟨rfl, D5, C5⟩
  have HS5 := Lib.hid (HS4.out.disk_chg D5 C5 rfl (show (s4.stop 0 0).keep ≤ 32 from keepOf_le 0) HS4.out.live)
  have hbl5 := hbl4.trans (C5.below hbl4.size (two_ge hp hg))
  clear D5 C5 HS4 hbl4
  go_wp2_with fail
  have hlb : Below w5.heap.size w5 (w5.alloc (.cells #[.int .u8 2] 5)) := (Below.refl _ _).alloc (Nat.le_refl _) _
  have hlr : Rd (w5.alloc (.cells #[.int .u8 2] 5)) (w5.alloc (.cells #[.int .u8 2] 5)).heap.size (some ⟨w5.heap.size, 0, none⟩) [2] := Rd.of_blk (bs := [2]) (Blk.new w5 _ 5)
  have hbl6 := hbl5.trans (hlb.mono hbl5.size)
  with_reducible refine (lputstop (HS5.out.below hlb) HL4.out (by omega) [97] [2] rfl _ 1 1 rfl (by omega) (by unfold maxLen; omega) hlr (tab_on HT.out hbl6 hbl6.size) (by simp) (by omega) (by simp) (by simp [putE])).mono ?_
  rintro e w7 ⟨s7, rfl, S7, L7, C7⟩
  have HS7 := Lib.hid S7
  have HL7 := Lib.hid L7
  have hbl7 := hbl6.trans (C7.below hbl6.size (fourS_ge hq' hp hg hb'))
  clear S7 L7 C7 hlb hlr hbl6 HS5 hbl5
  go_wp2_with fail
  with_reducible refine (pstart_any HS7.out.sp.disk).mono ?_
  rintro e w8 ⟨rfl, D8, C8⟩
  have HD8 := Lib.hid D8
  have hbl8 := hbl7.trans (C8.below hbl7.size (two_ge hp hg))
  clear D8 C8 HS7 hbl7
  go_wp2_with fail
  with_reducible refine (open_re HD8.out (by omega) (by omega) HL7.out.re HL7.out.lives (i := 4) (j := 2) rfl rfl).mono ?_
  rintro e w9 ⟨q9, b9, rfl, hq9, hb9, S9, L9, C9⟩
  have HS9 := Lib.hid S9
  have hbl9 := hbl8.trans (C9.below hbl8.size (two_ge hp hg))
  clear S9 L9 C9 HD8 hq9 hb9 hbl8
  go_wp2_with fail
  with_reducible refine (lget HS9.out [97] rfl).mono ?_
  have hgn := get_new HL2.out [97] [1] j4
  rw [hgn]
  rintro e w10 ⟨hb10, A10, c10, rfl, hc10, hr10⟩
  have hbl10 := hbl9.trans (hb10.mono hbl9.size)
  have HR10 := Lib.hid hr10
  clear hb10 hr10 HS9 hbl9 hgn
  go_wp2_with fail
  have hlb : Below w10.heap.size w10 (w10.alloc (.cells #[.int .u8 1] 5)) := (Below.refl _ _).alloc (Nat.le_refl _) _
  have hlr : Rd (w10.alloc (.cells #[.int .u8 1] 5)) (w10.alloc (.cells #[.int .u8 1] 5)).heap.size (some ⟨w10.heap.size, 0, none⟩) [1] := Rd.of_blk (bs := [1]) (Blk.new w10 _ 5)
  have hbl11 := hbl10.trans (hlb.mono hbl10.size)
  with_reducible refine (same_any A10 (some ⟨w10.heap.size, 0, none⟩) 1 1 c10 1 _ _ [1] [1] _ rfl rfl (by unfold maxLen; omega) (HR10.out.on hlb) hlr).mono ?_
  rintro e w12 ⟨rfl, m12, rfl⟩
  have hbl12 := below_drewN hbl11 m12
  clear hlb hlr hbl10 hbl11 HR10
  go_wp2_with fail
  go_ret
  exact ⟨rfl, hbl12⟩
end Go.Proofs.YtffllpjlghehiaaDoor
