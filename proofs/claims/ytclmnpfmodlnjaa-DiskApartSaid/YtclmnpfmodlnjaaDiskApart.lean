/- DiskApart: a write changes one sector alone; what is written is read, with noughts behind. For all numbers and bytes. -/
import Derived.Test.YtclmnpfmodlnjaaLaw
import Derived.Test.YtclmnpfmodlnjaaSix
import Derived.Test.YtclmnpfmodlnjaaKeep
import Derived.Test.YtclmnpfmodlnjaaWakes10
namespace Go.Proofs.Ytclmnpfmodlnjaa.diskApart
open Go.ChangeShapes Go.WideShapes Go.ChangeAt Go.RowKit

theorem sec_lay {B l : List UInt8} {n i j : Nat} (hB : B.length = n * 32) (hl : l.length = 32) (hi : i < n) (hj : j < n) : ((layL B (i * 32) l).drop (j * 32)).take 32 = if j = i then l else (B.drop (j * 32)).take 32 := by
  unfold layL
  apply List.ext_getElem?
  intro t
  rw [List.getElem?_take]
  by_cases ht : t < 32
  · rw [if_pos ht, List.getElem?_drop]
    by_cases h : j = i
    · subst h
      rw [if_pos rfl, List.append_assoc, List.getElem?_append_right (by rw [List.length_take]; omega), List.length_take, Nat.min_eq_left (by omega), Nat.add_sub_cancel_left, List.getElem?_append_left (by omega)]
    · rw [if_neg h, List.getElem?_take, if_pos ht, List.getElem?_drop]
      rcases Nat.lt_or_gt_of_ne h with h | h
      · rw [List.append_assoc, List.getElem?_append_left (by rw [List.length_take]; omega), List.getElem?_take, if_pos (by omega)]
      · rw [List.getElem?_append_right (by simp; omega), List.getElem?_drop]
        congr 1
        simp
        omega
  · rw [if_neg ht]
    by_cases h : j = i
    · rw [if_pos h, List.getElem?_eq_none (by omega)]
    · rw [if_neg h, List.getElem?_eq_none (by simp; omega)]
theorem well_sec {s : Dsk} {n i j : Nat} {b : List UInt8} (hB : s.B.length = n * 32) (hb : b.length ≤ 32) (hi : i < n) (hj : j < n) : (s.well i b).sec j = if j = i then padB 32 b else s.sec j := sec_lay hB (padB_len hb) hi hj
theorem new_sec {n j : Nat} (hj : j < n) : (newD n).sec j = zeroS := by
  unfold Dsk.sec newD zeroS
  simp only [List.drop_replicate, List.take_replicate]
  congr 1
  omega
theorem not_bad {n i m : Nat} (hi : i < n) (hm : m ≤ 32) : ¬ badW n i m := by
  unfold badW
  omega
theorem code_zero {s : Dsk} {n i m : Nat} (hi : i < n) (hm : m ≤ 32) (hd : s.dead = false) (ha : s.ahead = false) : s.code n i m = 0 := by
  unfold Dsk.code
  rw [if_neg (not_bad hi hm), hd, ha]
  simp
theorem next_well {s : Dsk} {n i : Nat} {b : List UInt8} (hi : i < n) (hm : b.length ≤ 32) (hd : s.dead = false) (ha : s.ahead = false) : s.next n i b = s.well i b := by
  unfold Dsk.next
  rw [if_neg (not_bad hi hm), hd, ha]
  simp
theorem pwrite_long_at {w : World} {p g n c : Nat} {s : Dsk} (h : DP w p g n c s) (i : Nat) (k : Int) (hk : k = i) (A : Option Addr) (m d : Nat) (hi : i < n) (hm : 32 < m) : Calls Try.prog 9 #[.pointer (some ⟨p, 0, none⟩), .int .i64 k, .slice A m d] w fun e w' => e = .returned (.int .i64 1) ∧ w = w' := by
  subst hk
  exact pwrite_long h i A m d hi hm
def nine : List UInt8 := [9, 9, 9]
def two_ (N i k : Nat) (b : List UInt8) : Dsk := ((newD N).well i nine).well k b
theorem two_sec {N i k j : Nat} {b : List UInt8} (hi : i < N) (hk : k < N) (hj : j < N) (hb : b.length ≤ 32) : (two_ N i k b).sec j = if j = k then padB 32 b else if j = i then padB 32 nine else zeroS := by
  have h1 : (newD N).B.length = N * 32 := by simp [newD]
  have h2 : ((newD N).well i nine).B.length = N * 32 := by
    show (layL _ _ _).length = _
    rw [layL_len (by rw [padB_len (by decide), h1]; omega), h1]
  unfold two_
  rw [well_sec h2 hb hk hj, well_sec h1 (by decide) hi hj, new_sec hj]
theorem two_writes (N i k : Nat) (b : List UInt8) : (two_ N i k b).writes = 2 := by
  show IntKind.i64.wrap (IntKind.i64.wrap (0 + 1) + 1) = 2
  decide
theorem two_dead (N i k : Nat) (b : List UInt8) : (two_ N i k b).dead = false := rfl

set_option maxRecDepth 100000 in
set_option maxHeartbeats 4000000 in
theorem walk (n i k : Int) (A : Option Addr) (m c : Nat) (l : List UInt8) (w0 : World) (hn0 : -9223372036854775808 ≤ n) (hn1 : n ≤ 9223372036854775807) (hi0 : -9223372036854775808 ≤ i) (hi1 : i ≤ 9223372036854775807) (hk0 : -9223372036854775808 ≤ k) (hk1 : k ≤ 9223372036854775807) (hl : l.length = m) (hc : m ≤ c) (hr : Rd w0 w0.heap.size A l) :
    Calls Try.prog 3 #[.int .i64 n, .int .i64 i, .int .i64 k, .slice A m c] w0 fun e w' => e = .returned (.bool true) ∧ Below w0.heap.size w0 w' := by
  obtain ⟨q, hq, hq1⟩ : ∃ q : Nat, withinI n 10 = (q : Int) ∧ q < 10 := by
    have := withinI_range n 10 (by omega)
    exact ⟨(withinI n 10).toNat, by omega, by omega⟩
  obtain ⟨N, hN⟩ : ∃ N, 2 + q = N := ⟨_, rfl⟩
  obtain ⟨I, hI, hI1⟩ : ∃ q : Nat, withinI i (N : Int) = (q : Int) ∧ q < N := by
    have := withinI_range i N (by omega)
    exact ⟨(withinI i N).toNat, by omega, by omega⟩
  obtain ⟨K, hK, hK1⟩ : ∃ q : Nat, withinI k (N : Int) = (q : Int) ∧ q < N := by
    have := withinI_range k N (by omega)
    exact ⟨(withinI k N).toNat, by omega, by omega⟩
  have HWN := Lib.hid (fun W => (show Calls Try.prog 6 #[.int .i64 n, .int .i64 10] W fun e w' => e = .returned (.int .i64 (q : Int)) ∧ W = w' by rw [← hq]; exact within_any n 10 W hn0 hn1 (by omega)))
  have HWI := Lib.hid (fun W => (show Calls Try.prog 6 #[.int .i64 i, .int .i64 (N : Int)] W fun e w' => e = .returned (.int .i64 (I : Int)) ∧ W = w' by rw [← hI]; exact within_any i N W hi0 hi1 (by omega)))
  have HWK := Lib.hid (fun W => (show Calls Try.prog 6 #[.int .i64 k, .int .i64 (N : Int)] W fun e w' => e = .returned (.int .i64 (K : Int)) ∧ W = w' by rw [← hK]; exact within_any k N W hk0 hk1 (by omega)))
  obtain ⟨M, hM⟩ : ∃ M, min m 32 = M := ⟨_, rfl⟩
  have hM32 : M ≤ 32 := by omega
  have HCU := Lib.hid (fun W => (show Calls Try.prog 7 #[.slice A m c, .int .i64 32] W fun e w' => e = .returned (.slice A M c) ∧ W = w' by rw [← hM]; exact cut_any A m c 32 W hc))
  obtain ⟨b, hb⟩ : ∃ b, l.take 32 = b := ⟨_, rfl⟩
  have HBL := Lib.hid (show b.length = M by rw [← hb, List.length_take, hl, ← hM]; exact Nat.min_comm _ _)
  have HRB := Lib.hid (show Rd w0 w0.heap.size A b by rw [← hb]; exact hr.take 32)
  have hN12 : N ≤ 11 := by omega
  have hN2 : 2 ≤ N := by omega
  have hNq : 2 + (q : Int) = (N : Int) := by omega
  clear hq hI hK hM hb hl hr hN
  go_enter Try.func3, Try.ntmps3
  go_wp2_with fail
  with_reducible refine (HWN.out _).mono ?_
  rintro e w' ⟨rfl, rfl⟩
  go_wp2_with fail
  with_reducible refine (HWI.out _).mono ?_
  rintro e w' ⟨rfl, rfl⟩
  go_wp2_with fail
  with_reducible refine (HWK.out _).mono ?_
  rintro e w' ⟨rfl, rfl⟩
  go_wp2_with fail
  with_reducible refine (HCU.out _).mono ?_
  rintro e w' ⟨rfl, rfl⟩
  clear HWN HWI HWK HCU hNq
  go_wp2_with fail
  with_reducible refine (pnew_any N _ (by omega) (by omega)).mono ?_
  rintro e w1 ⟨p, rfl, hp, g, hg, D1, hb1⟩
  have HD1 := Lib.hid D1
  have HR1 := Lib.hid (HRB.out.below hb1 (Nat.le_refl _))
  clear D1
  go_wp2_with fail
  have hl : Rd (w1.alloc (.cells #[.int .u8 9, .int .u8 9, .int .u8 9] 5)) (w1.alloc (.cells #[.int .u8 9, .int .u8 9, .int .u8 9] 5)).heap.size (some ⟨w1.heap.size, 0, none⟩) nine := Rd.of_blk (bs := nine) (Blk.new w1 _ 5)
  have hb2 : Below w1.heap.size w1 (w1.alloc (.cells #[.int .u8 9, .int .u8 9, .int .u8 9] 5)) := (Below.refl _ _).alloc (Nat.le_refl _) _
  generalize w1.alloc (.cells #[.int .u8 9, .int .u8 9, .int .u8 9] 5) = w2 at hl hb2 ⊢
  with_reducible refine (pwrite_well0 (HD1.out.below hb2) I _ 3 3 nine hI1 (by omega) rfl hl rfl rfl).mono ?_
  rintro e w3 ⟨rfl, D3, C3⟩
  have hb3 := (hb1.trans (hb2.mono hb1.size)).trans (C3.below (Nat.le_trans hb1.size hb2.size) (two_ge hp hg))
  have HD3 := Lib.hid D3
  have HR3 := Lib.hid ((HRB.out.below hb3 (Nat.le_refl _)).more hb3.size)
  clear D3 C3 hl hb2 hb1 HD1 HR1
  go_wp2_with fail
  with_reducible refine (pwrite_well0 HD3.out K A M c b hK1 hM32 HBL.out HR3.out rfl rfl).mono ?_
  rintro e w4 ⟨rfl, D4, C4⟩
  have hb4 := hb3.trans (C4.below hb3.size (two_ge hp hg))
  have HD4 := Lib.hid (show DP w4 p g N N (two_ N I K b) from D4)
  have HR4 := Lib.hid ((HRB.out.below hb4 (Nat.le_refl _)).more hb4.size)
  clear D4 C4 hb3 HD3 HR3
  go_wp2_with fail
  have HSEC := Lib.hid (fun (j : Nat) (hj : j < N) => two_sec (N := N) (i := I) (k := K) (b := b) hI1 hK1 hj (by rw [HBL.out]; exact hM32))
  obtain ⟨i0, hi, hz0, hz1, hz2⟩ := info_parts info5
  have hmk := fun W => run_make (P := Try.prog) W 22 5 i0 (.int .u8 0) Try.underlying22 hi hz0 .i64 .i64 32 32 (by omega) (by omega) (by rw [hz2]; omega) (by omega)
  have HMK := Lib.hid hmk
  have HZ := Lib.hid (fun (W : World) => (show BytesAt (W.alloc (.cells (madeCells #[.int .u8 0] 32) 5)) W.heap.size 5 zeroS from ⟨_, Blk.new W _ _, by rw [madeZ, zeroS_len, List.take_of_length_le (by rw [Lib.byteCells_length, List.length_replicate]; exact Nat.le_refl _)]; rfl⟩))
  have HNI := Lib.hid (fun (W : World) => (show Rd (W.alloc (.cells #[.int .u8 9, .int .u8 9, .int .u8 9] 5)) (W.alloc (.cells #[.int .u8 9, .int .u8 9, .int .u8 9] 5)).heap.size (some ⟨W.heap.size, 0, none⟩) nine from Rd.of_blk (bs := nine) (Blk.new W _ 5)))
  clear hmk
  go_loopw [11] (fun t wr => ∃ j : Nat, j ≤ N ∧ t = .int .i64 j ∧ Below w4.heap.size w4 wr) (fun t _ => N - (intOf t).toNat)
  case atStart => exact ⟨0, Nat.zero_le _, rfl, Below.refl _ _⟩
  case round =>
    obtain ⟨j, hj, rfl, hbr⟩ := hrel
    by_cases hlt : j < N
    · have hlt' : (j : Int) < (N : Int) := by omega
      have HDr := Lib.hid (HD4.out.below hbr)
      have hrs := HR4.out.on hbr
      have HRr := Lib.hid hrs
      clear hrs
      have hmk := HMK.out
      by_cases hji : j = I
      · have hd1 : ((j : Int) == (I : Int)) = true := by rw [hji]; simp
        have HJ := Lib.hid hji
        clear hji
        have HZ1 := Lib.hid ((HZ.out wr).below ((Below.refl _ _).alloc (Nat.le_refl _) (.cells #[.int .u8 9, .int .u8 9, .int .u8 9] 5)) (HZ.out wr).lt)
        have HNX := HNI.out (wr.alloc (.cells (madeCells #[.int .u8 0] 32) 5))
        rw [World.size_alloc wr] at HNX
        have HNY := Lib.hid HNX
        clear HNX
        have HF3 := Lib.hid (show 0 + 3 ≤ zeroS.length by rw [zeroS_len]; omega)
        have HN3 := Lib.hid (show nine.length = 3 from rfl)
        have HK3 := Lib.hid (show 3 = min 3 32 from rfl)
        go_wp2_with (with_reducible refine wpList_copy_at rfl (.tmp 62) (.tmp 63) rfl wr.heap.size 0 32 32 5 zeroS HZ1.out _ _ 3 3 nine rfl rfl HN3.out HNY.out 3 HK3.out HF3.out ?_)
        intro w5 hw5 hg5
        rw [show nine.take 3 = nine from rfl, layL_pad] at hw5
        have hb5 : Below wr.heap.size wr w5 := (((Below.refl _ _).alloc (Nat.le_refl _) _).alloc (by simp) _).grown hg5 (by simp; omega) (fun k hk => by injection hk with hk; omega)
        clear hg5
        by_cases hjk : j = K
        · have hd2 : ((j : Int) == (K : Int)) = true := by rw [hjk]; simp
          have HJK := Lib.hid hjk
          clear hjk
          have HFM := Lib.hid (show 0 + M ≤ zeroS.length by rw [zeroS_len]; omega)
          have HKM := Lib.hid (show M = min M 32 by omega)
          have HRX := Lib.hid (HRr.out.below (hb5.alloc hb5.size (.cells (madeCells #[.int .u8 0] 32) 5)) (Nat.le_refl _))
          go_wp2_with (with_reducible refine wpList_copy_at rfl (.tmp 69) (.tmp 70) rfl _ 0 32 32 5 zeroS (HZ.out _) _ A M c b rfl rfl HBL.out HRX.out M HKM.out HFM.out ?_)
          intro w8 hw8 hg8
          rw [List.take_of_length_le (by rw [HBL.out]; exact Nat.le_refl _), layL_pad] at hw8
          have hb8 : Below wr.heap.size wr w8 := (hb5.alloc hb5.size _).grown hg8 (by simp; have := hb5.size; omega) (fun k hk => by injection hk with hk; have := hb5.size; omega)
          obtain ⟨X, hX⟩ : ∃ X, w5.heap.size = X := ⟨_, rfl⟩
          rw [hX] at hw8 ⊢
          clear hw5 hb5 hg8 hX
          have hw5 := hw8
          have hb5 := hb8
          clear hw8 hb8
          have HW5 := Lib.hid hw5
          have HB5 := Lib.hid hb5
          have HDx := Lib.hid (HDr.out.below hb5)
          have HSE := Lib.hid (show (two_ N I K b).sec j = padB 32 b from by rw [HSEC.out j hlt, if_pos HJK.out])
          clear hw5 hb5 hmk
          go_wp2_with fail
          with_reducible refine (pread_any HDx.out j hlt rfl).mono ?_
          rintro e w6 ⟨A6, c6, rfl, hc6, hc6', O6, hb6⟩
          rw [HSE.out] at O6
          have hws := (HW5.out.below hb6 HW5.out.lt).rd 0 32
          rw [List.drop_zero, List.take_of_length_le (by first | exact Nat.le_refl _ | (rw [padB_len]; exact Nat.le_refl _; rw [HBL.out]; exact hM32) | (rw [padB_len (by decide)]; exact Nat.le_refl _))] at hws
          have HSA := Lib.hid (same_any A6 (some ⟨X, 0, none⟩) 32 32 c6 32 _ _ _ _ w6 O6.1 (by first | rfl | (rw [padB_len]; rw [HBL.out]; exact hM32) | exact padB_len (by decide)) (by unfold maxLen; omega) O6.rd hws)
          have hb7 := (hbr.trans (HB5.out.mono hbr.size)).trans (hb6.mono (Nat.le_trans hbr.size HB5.out.size))
          clear O6 hws hb6
          go_wp2_with fail
          with_reducible refine HSA.out.mono ?_
          rintro e w7 ⟨rfl, q7, rfl⟩
          go_wp2_with fail
          go_roundw
          case rel => exact ⟨j + 1, by omega, by go_num, below_drewN hb7 _⟩
          case measure => simp [intOf]; omega
        · have hd2 : ((j : Int) == (K : Int)) = false := by simp; omega
          obtain ⟨X, hX⟩ : ∃ X, wr.heap.size = X := ⟨_, rfl⟩
          have HX := Lib.hid hX
          have HJK := Lib.hid hjk
          rw [hX] at hw5 ⊢
          clear hX hjk
          have HW5 := Lib.hid hw5
          have HB5 := Lib.hid hb5
          have HDx := Lib.hid (HDr.out.below hb5)
          have HSE := Lib.hid (show (two_ N I K b).sec j = padB 32 nine from by rw [HSEC.out j hlt, if_neg HJK.out, if_pos HJ.out])
          clear hw5 hb5 hmk
          go_wp2_with fail
          with_reducible refine (pread_any HDx.out j hlt rfl).mono ?_
          rintro e w6 ⟨A6, c6, rfl, hc6, hc6', O6, hb6⟩
          rw [HSE.out] at O6
          have hws := (HW5.out.below hb6 HW5.out.lt).rd 0 32
          rw [List.drop_zero, List.take_of_length_le (by first | exact Nat.le_refl _ | (rw [padB_len]; exact Nat.le_refl _; rw [HBL.out]; exact hM32) | (rw [padB_len (by decide)]; exact Nat.le_refl _))] at hws
          have HSA := Lib.hid (same_any A6 (some ⟨X, 0, none⟩) 32 32 c6 32 _ _ _ _ w6 O6.1 (by first | rfl | (rw [padB_len]; rw [HBL.out]; exact hM32) | exact padB_len (by decide)) (by unfold maxLen; omega) O6.rd hws)
          have hb7 := (hbr.trans (HB5.out.mono hbr.size)).trans (hb6.mono (Nat.le_trans hbr.size HB5.out.size))
          clear O6 hws hb6
          go_wp2_with fail
          with_reducible refine HSA.out.mono ?_
          rintro e w7 ⟨rfl, q7, rfl⟩
          go_wp2_with fail
          go_roundw
          case rel => exact ⟨j + 1, by omega, by go_num, below_drewN hb7 _⟩
          case measure => simp [intOf]; omega
      · have hd1 : ((j : Int) == (I : Int)) = false := by simp; omega
        have HJ := Lib.hid hji
        clear hji
        by_cases hjk : j = K
        · have hd2 : ((j : Int) == (K : Int)) = true := by rw [hjk]; simp
          have HJK := Lib.hid hjk
          clear hjk
          have HZX := HZ.out (wr.alloc (.cells (madeCells #[.int .u8 0] 32) 5))
          rw [World.size_alloc wr] at HZX
          have HZ2 := Lib.hid HZX
          clear HZX
          have HFM := Lib.hid (show 0 + M ≤ zeroS.length by rw [zeroS_len]; omega)
          have HKM := Lib.hid (show M = min M 32 by omega)
          have HRX := Lib.hid (HRr.out.below (((Below.refl wr.heap.size wr).alloc (Nat.le_refl _) (.cells (madeCells #[.int .u8 0] 32) 5)).alloc (by simp) (.cells (madeCells #[.int .u8 0] 32) 5)) (Nat.le_refl _))
          go_wp2_with (with_reducible refine wpList_copy_at rfl (.tmp 69) (.tmp 70) rfl (wr.heap.size + 1) 0 32 32 5 zeroS HZ2.out _ A M c b rfl rfl HBL.out HRX.out M HKM.out HFM.out ?_)
          intro w8 hw8 hg8
          rw [List.take_of_length_le (by rw [HBL.out]; exact Nat.le_refl _), layL_pad] at hw8
          have hb5 : Below wr.heap.size wr w8 := (((Below.refl _ _).alloc (Nat.le_refl _) _).alloc (by simp) _).grown hg8 (by simp; omega) (fun k hk => by injection hk with hk; omega)
          obtain ⟨X, hX⟩ : ∃ X, wr.heap.size + 1 = X := ⟨_, rfl⟩
          rw [hX] at hw8 ⊢
          clear hg8 hX
          have hw5 := hw8
          clear hw8
          have HW5 := Lib.hid hw5
          have HB5 := Lib.hid hb5
          have HDx := Lib.hid (HDr.out.below hb5)
          have HSE := Lib.hid (show (two_ N I K b).sec j = padB 32 b from by rw [HSEC.out j hlt, if_pos HJK.out])
          clear hw5 hb5 hmk
          go_wp2_with fail
          with_reducible refine (pread_any HDx.out j hlt rfl).mono ?_
          rintro e w6 ⟨A6, c6, rfl, hc6, hc6', O6, hb6⟩
          rw [HSE.out] at O6
          have hws := (HW5.out.below hb6 HW5.out.lt).rd 0 32
          rw [List.drop_zero, List.take_of_length_le (by first | exact Nat.le_refl _ | (rw [padB_len]; exact Nat.le_refl _; rw [HBL.out]; exact hM32) | (rw [padB_len (by decide)]; exact Nat.le_refl _))] at hws
          have HSA := Lib.hid (same_any A6 (some ⟨X, 0, none⟩) 32 32 c6 32 _ _ _ _ w6 O6.1 (by first | rfl | (rw [padB_len]; rw [HBL.out]; exact hM32) | exact padB_len (by decide)) (by unfold maxLen; omega) O6.rd hws)
          have hb7 := (hbr.trans (HB5.out.mono hbr.size)).trans (hb6.mono (Nat.le_trans hbr.size HB5.out.size))
          clear O6 hws hb6
          go_wp2_with fail
          with_reducible refine HSA.out.mono ?_
          rintro e w7 ⟨rfl, q7, rfl⟩
          go_wp2_with fail
          go_roundw
          case rel => exact ⟨j + 1, by omega, by go_num, below_drewN hb7 _⟩
          case measure => simp [intOf]; omega
        · have hd2 : ((j : Int) == (K : Int)) = false := by simp; omega
          have HJK := Lib.hid hjk
          clear hjk
          have hw5 := HZ.out wr
          have hb5 : Below wr.heap.size wr (wr.alloc (.cells (madeCells #[.int .u8 0] 32) 5)) := (Below.refl _ _).alloc (Nat.le_refl _) _
          go_wp2_with fail
          generalize wr.alloc (.cells (madeCells #[.int .u8 0] 32) 5) = w5 at hw5 hb5 ⊢
          obtain ⟨X, hX⟩ : ∃ X, wr.heap.size = X := ⟨_, rfl⟩
          have HX := Lib.hid hX
          rw [hX] at hw5 ⊢
          clear hX
          have HW5 := Lib.hid hw5
          have HB5 := Lib.hid hb5
          have HDx := Lib.hid (HDr.out.below hb5)
          have HSE := Lib.hid (show (two_ N I K b).sec j = zeroS from by rw [HSEC.out j hlt, if_neg HJK.out, if_neg HJ.out])
          clear hw5 hb5 hmk
          with_reducible refine (pread_any HDx.out j hlt rfl).mono ?_
          rintro e w6 ⟨A6, c6, rfl, hc6, hc6', O6, hb6⟩
          rw [HSE.out] at O6
          have hws := (HW5.out.below hb6 HW5.out.lt).rd 0 32
          rw [List.drop_zero, List.take_of_length_le (by first | exact Nat.le_refl _ | (rw [padB_len]; exact Nat.le_refl _; rw [HBL.out]; exact hM32) | (rw [padB_len (by decide)]; exact Nat.le_refl _))] at hws
          have HSA := Lib.hid (same_any A6 (some ⟨X, 0, none⟩) 32 32 c6 32 _ _ _ _ w6 O6.1 (by first | rfl | (rw [padB_len]; rw [HBL.out]; exact hM32) | exact padB_len (by decide)) (by unfold maxLen; omega) O6.rd hws)
          have hb7 := (hbr.trans (HB5.out.mono hbr.size)).trans (hb6.mono (Nat.le_trans hbr.size HB5.out.size))
          clear O6 hws hb6
          go_wp2_with fail
          with_reducible refine HSA.out.mono ?_
          rintro e w7 ⟨rfl, q7, rfl⟩
          go_wp2_with fail
          go_roundw
          case rel => exact ⟨j + 1, by omega, by go_num, below_drewN hb7 _⟩
          case measure => simp [intOf]; omega
    · obtain rfl : N = j := by omega
      have hlt' : ¬ (N : Int) < (N : Int) := by omega
      have HDr := Lib.hid (HD4.out.below hbr)
      go_wp2_with fail
      with_reducible refine (pread_bad HDr.out N (by omega)).mono ?_
      rintro e w5 ⟨rfl, rfl⟩
      go_wp2_with fail
      with_reducible refine (pwrite_place HDr.out (-1) none 0 0 (by omega)).mono ?_
      rintro e w5 ⟨rfl, rfl⟩
      have hmk := fun W => run_make (P := Try.prog) W 22 5 i0 (.int .u8 0) Try.underlying22 hi hz0 .i64 .i64 33 33 (by omega) (by omega) (by rw [hz2]; omega) (by omega)
      go_wp2_with fail
      have hb6 : Below wr.heap.size wr (wr.alloc (.cells (madeCells #[.int .u8 0] 33) 5)) := (Below.refl _ _).alloc (Nat.le_refl _) _
      generalize wr.alloc (.cells (madeCells #[.int .u8 0] 33) 5) = w6 at hb6 ⊢
      have HD6 := Lib.hid (HDr.out.below hb6)
      have HWR := Lib.hid (two_writes N I K b)
      with_reducible refine (pwrite_long_at HD6.out 0 0 rfl _ 33 33 (by omega) (by omega)).mono ?_
      rintro e w5 ⟨rfl, rfl⟩
      clear hmk
      go_wp2_with fail
      with_reducible refine (pwrites_any HD6.out).mono ?_
      rintro e w5 ⟨rfl, rfl⟩
      rw [HWR.out]
      go_wp2_with fail
      with_reducible refine (plen_any HD6.out).mono ?_
      rintro e w5 ⟨rfl, rfl⟩
      go_wp2_with fail
      with_reducible refine (wakes10_any _).mono ?_
      rintro e w7 ⟨rfl, hb7⟩
      have hb8 := ((hb4.trans (hbr.mono hb4.size)).trans (hb6.mono (Nat.le_trans hb4.size hbr.size))).trans (hb7.mono (Nat.le_trans (Nat.le_trans hb4.size hbr.size) hb6.size))
      go_wp2_with fail
      go_ret
      exact ⟨rfl, hb8⟩

set_option maxRecDepth 100000 in
theorem contract (H : Type) (enc : TypeId × Value → H) (W : World) (base : Nat) (args : Array Value) (ds gs : List (DataW H)) (before : List MemPlace)
    (hval : ∀ (j : Nat) t v, Try.f3.params[j]? = some t → args[j]? = some v → Value.okWide Try.prog W .any base t v)
    (hW : DataW.Whole enc Try.prog Try.f3.params.toList Rows.diskApartSpec.vars false W args.toList ds gs before) :
    Calls Try.prog 3 args W fun e W' => ∃ v, e = .returned v ∧ Rows.diskApartSpec.post enc Try.prog Try.f3 false true false false W args v W' := by
  have hW' := hW
  obtain ⟨p, q, hA0, hV, rfl, hfz, hnd⟩ := hW
  have hA : DataW.TrodAll enc Try.prog W 0 (fun _ => true) true Try.f3.params.toList args.toList ds p := hA0
  rw [Try.params3] at hA hval
  obtain ⟨v0, v1, v2, v3, d0, d1, d2, d3, p0, p1, p2, p3, rfl, rfl, rfl, h0, h1, h2, h3⟩ := trodAll_four hA
  obtain ⟨rfl, rfl⟩ := trodVars_none hV
  obtain ⟨n0, rfl, rfl, rfl, wf0⟩ := open_int Try.underlying3 (hval 0 3 v0 rfl rfl) h0
  have b0 := bounds_i64 wf0
  obtain ⟨n1, rfl, rfl, rfl, wf1⟩ := open_int Try.underlying3 (hval 1 3 v1 rfl rfl) h1
  have b1 := bounds_i64 wf1
  obtain ⟨n2, rfl, rfl, rfl, wf2⟩ := open_int Try.underlying3 (hval 2 3 v2 rfl rfl) h2
  have b2 := bounds_i64 wf2
  obtain ⟨A3, m3, c3, l3, rfl, hl3, hc3, hm3, hr3⟩ := open_bytes (hval 3 22 v3 rfl rfl) h3
  clear hA0
  refine (walk n0 n1 n2 A3 m3 c3 l3 W b0.1 b0.2 b1.1 b1.2 b2.1 b2.2 hl3 hc3 hr3).mono fun e W' ⟨he, hb⟩ => ?_
  exact ⟨_, he, law_post hW' rfl (by kernel_rfl) rfl (by kernel_rfl) hb⟩

set_option maxRecDepth 100000 in
theorem lifted (os : Os) (started : os.Started) (H : Type) (enc : TypeId × Value → H) :
    ReturnsInHanded {} Try.checked os 3 .any (Rows.diskApartSpec.pre6 enc Try.prog Try.f3 Rows.diskApartRow.domain false) (Rows.diskApartSpec.post enc Try.prog Try.f3 false true false false) := by
  refine returnsInHanded_of_change (C := Try.checked) own started (by kernel_rfl) Try.func3
    (ChangeSpec.witness6 (enc := enc) (C := Try.checked) false ⟨#[], #[.int .i64 0, .int .i64 0, .int .i64 0, .slice none 0 0], []⟩ 8 (by kernel_rfl) (by kernel_rfl) (by kernel_rfl) (by kernel_rfl)) ?_
  intro W base args ds gs before hval0 hW _ _
  have hval : ∀ (j : Nat) t v, Try.f3.params[j]? = some t → args[j]? = some v → Value.okWide Try.prog W .any base t v := hval0
  exact contract H enc W base args ds gs before hval hW

/-- The statement. -/
theorem card : Rows.DiskApartSaid :=
  OpenClaim.holds_of_wide 3 Try.f3 rfl rfl rfl rfl rfl rfl rfl ⟨rfl, rfl, rfl, rfl, rfl⟩ rfl rfl rfl rfl rfl (by kernel_rfl) Try.func3 (by kernel_rfl)
    (of_decide_eq_true (by kernel_rfl)) (by unfold Func.isWrapper; first | (rw [if_pos (by decide +kernel)]; kernel_rfl) | (rw [if_neg (by decide +kernel)]; exact ⟨rfl, rfl⟩))
    (fun os started H enc _ => lifted os started H enc)
end Go.Proofs.Ytclmnpfmodlnjaa.diskApart
