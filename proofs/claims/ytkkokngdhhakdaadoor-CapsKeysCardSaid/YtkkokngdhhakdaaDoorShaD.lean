/- The hash of what was written, as the program tells it. Sum of the program is the law on plain numbers; the document's example of chapter 2 holds. The text of a tag and rows, as the program writes it. The short hash of a tag and rows is the tagged one's first 16 bytes. -/
import Derived.Test.YtkkokngdhhakdaaDoorShaC
import Derived.Test.YtkkokngdhhakdaaDoorU8
import Derived.Test.YtkkokngdhhakdaaDoorNet
import Derived.Test.YtkkokngdhhakdaaDoorMakeA
namespace Go.Proofs.YtkkokngdhhakdaaDoor
open Go.RowKit

/-- The first i words' bytes. -/
def outTo (H : H8) (i : Nat) : List UInt8 := (((list8 H).take i).map wordBytes).flatten
theorem outTo_len (H : H8) (i : Nat) (h : i ≤ 8) : (outTo H i).length = 4 * i := by
  match i, h with
  | 0, _ | 1, _ | 2, _ | 3, _ | 4, _ | 5, _ | 6, _ | 7, _ | 8, _ => rfl
theorem outTo_succ (H : H8) (i : Nat) (h : i < 8) : outTo H (i + 1) = outTo H i ++ wordBytes ((list8 H).getD i 0) := by
  match i, h with
  | 0, _ | 1, _ | 2, _ | 3, _ | 4, _ | 5, _ | 6, _ | 7, _ => simp [outTo, list8]
/-- The j-th byte of a word. -/
def byteOf (x j : Nat) : UInt8 := UInt8.ofNat (x / 2 ^ (8 * (3 - j)))
theorem bytes_take (x j : Nat) (h : j < 4) : (wordBytes x).take (j + 1) = (wordBytes x).take j ++ [byteOf x j] := by
  match j, h with
  | 0, _ | 1, _ | 2, _ | 3, _ => simp [wordBytes, byteOf]
theorem bytes_len (x : Nat) : (wordBytes x).length = 4 := rfl

theorem RdN.of_own {w : World} {base g : Nat} {e : TypeId} {A : Option Addr} {n c : Nat} {l : List UInt8} (h : w.ownsRow base e 1 (.slice A n c) n (Lib.byteCells l)) (hg : g < base) : RdN w w.heap.size g A l := by
  have hr := Rd.of_own h
  rcases hr with hr | ⟨b, off, hA, hb, hc⟩
  · exact .inl hr
  · subst hA
    have := (h.lt b rfl).1
    exact .inr ⟨b, off, rfl, hb, by omega, hc⟩

theorem own_cap {w : World} {base : Nat} {e : TypeId} {A : Option Addr} {n c : Nat} {xs : List Value} (h : w.ownsRow base e 1 (.slice A n c) n xs) : n ≤ c := by
  obtain ⟨A', c', he, hc⟩ := own_slice h
  injection he with _ _ h3
  omega
theorem run_index_word (w : World) (cs : Array Value) (i : Nat) (v : Value) (hi : i < 8) (hv : cs[i]? = some v) : (Instr.index 96 (.agg cs) (.int .i64 (i : Int))).run Tryd.prog w = .ok v w := by
  have h1 : (Tryd.prog.info? 94).map (·.size) = some 1 := by kernel_rfl
  have h3 : Tryd.prog.underlying 94 = some (.int .u32) := Tryd.underlying94
  cases hq : Tryd.prog.info? 94 with
  | none => simp [hq] at h1
  | some j =>
    have hj : j.size = 1 := by simpa [hq] using h1
    simp [Instr.index, run_underlying Tryd.underlying96, asIntOf, hi, part, sizeOf, typeInfo, hq, hj, isAgg, run_underlying h3, hv]
theorem byte_val (X j : Nat) : (X : Int) / 2 ^ (8 * (3 - j)) % 256 = ((byteOf X j).toNat : Int) := by
  unfold byteOf
  rw [show (X : Int) / 2 ^ (8 * (3 - j)) = ((X / 2 ^ (8 * (3 - j)) : Nat) : Int) from by simp, UInt8.toNat_ofNat']
  omega
def zsha : Array Value := shaA ⟨0, 0, 0, 0, 0, 0, 0, 0⟩ (List.replicate 64 0) 0
theorem zsha_size : zsha.size = 73 := rfl
theorem zero_sha (W : World) : (zeroValue 100).run Tryd.prog W = .ok (.agg zsha) W := by
  have h : (Tryd.prog.info? 100).map (·.zero) = some (some (.agg zsha)) := by kernel_rfl
  cases hi : Tryd.prog.info? 100 with
  | none => simp [hi] at h
  | some i =>
    simp [hi] at h
    simp [zeroValue, typeInfo, hi, h]

theorem sum_start {w w3 : World} {c1 zs cs : Array Value} {T1 T : TypeId} (hw : ((w.alloc (.cells c1 T1)).alloc (.cells zs T)).setRow (w.heap.size + 1) cs = w3) : Blk w3 (w.heap.size + 1) cs T ∧ Blk w3 w.heap.size c1 T1 ∧ Below w.heap.size w w3 ∧ w3.heap.size = w.heap.size + 2 := by
  subst hw
  have h := (Blk.new (w.alloc (.cells c1 T1)) zs T).row cs
  rw [World.size_alloc] at h
  exact ⟨h, ((Blk.new w c1 T1).alloc _).rowOther (by omega) _, below_row (((Below.refl _ _).alloc (Nat.le_refl _) _).alloc (by simp) _) (by simp; omega) (by omega) _, by simp⟩

set_option maxRecDepth 100000 in
set_option maxHeartbeats 1000000 in
theorem shaSum_any (g : Nat) (m : List UInt8) (w : World) (hs : ShaAt w g m) (hm : m.length ≤ 900000) :
    Calls Tryd.prog 78 #[.pointer (some ⟨g, 0, none⟩)] w fun e w' => e = .returned (.agg (u8A (shaL m))) ∧ Below w.heap.size w w' := by
  obtain ⟨op, ho, hop, hblk⟩ := hs
  have HSZ := Lib.hid (shaA_size (blocksTo m (m.length / 64)) op m.length ho)
  have HONE := Lib.hid (show (shaA (blocksTo m (m.length / 64)) op m.length).all (·.oneCell') = true by simp [shaA, Lib.byteCells, Value.oneCell'])
  have hgl := hblk.lt
  obtain ⟨n, hn⟩ : ∃ n, m.length = n := ⟨_, rfl⟩
  obtain ⟨cs, hcs⟩ : ∃ cs, shaA (blocksTo m (m.length / 64)) op m.length = cs := ⟨_, rfl⟩
  have HS2 := Lib.hid (fun (W : World) (b : Nat) (h : Blk W b cs 100) => (show ShaAt W b m from ⟨op, ho, hop, by rw [hcs]; exact h⟩))
  have c72 := (hblk.cell 72).trans (shaA_count _ _ _ ho)
  have HN := Lib.hid hn
  rw [hcs] at HSZ HONE hblk
  rw [hn] at hm c72
  have hz0 := zero_sha
  obtain ⟨zs, hzs⟩ : ∃ x, zsha = x := ⟨_, rfl⟩
  have HZS := Lib.hid (show zs.size = 73 by rw [← hzs]; exact zsha_size)
  rw [hzs] at hz0
  clear hcs hn ho hop hzs
  go_enter Tryd.func78, Tryd.ntmps78
  go_wp2_with (first
    | (with_reducible refine wpList_load_blk rfl 100 (.tmp 9) rfl g rfl 100 cs _ (hblk.alloc _) Tryd.underlying100 rfl (by rw [HSZ.out]; kernel_rfl) ?_)
    | (with_reducible refine wpList_store_blkTo rfl 100 (.tmp 3) (.tmp 10) rfl rfl (w.heap.size + 1) cs rfl rfl 100 _ (by rw [← World.size_alloc w]; exact Blk.new _ _ _) (by rw [HSZ.out]; kernel_rfl) (by rw [HSZ.out, HZS.out]) HONE.out ?_
       generalize hw3 : World.setRow _ _ _ = w3
       obtain ⟨hB3, hR3, hb3, hs3⟩ := sum_start hw3
       have e72 := (hb3.cell (p := ⟨g, 72, none⟩) hgl).trans c72
       clear hw3))
  have HB3 := Lib.hid hB3
  have HR3 := Lib.hid (show ∃ rs, Blk w3 w.heap.size rs 25 ∧ rs.size = 32 from ⟨_, hR3, rfl⟩)
  have HS3 := Lib.hid hs3
  clear hB3 hR3 hs3 hz0 hblk c72
  refine (ending_any n _ (by omega)).mono ?_
  rintro e w4 ⟨v, c, rfl, hown, hb4⟩
  have hc := own_cap hown
  have hel := own_len hown
  have hcall := write_any (w.heap.size + 1) (zeros n + 9) c v (endL n) m w4 hel.symm hc (by rw [HN.out]; have := zeros_small n; omega) (RdN.of_own hown (by have := HS3.out; omega)) (HS2.out _ _ (HB3.out.below hb4 HB3.out.lt))
  rw [HN.out] at hcall
  have HCALL := Lib.hid hcall
  have hb34 := hb3.trans (hb4.mono (by have := HS3.out; omega))
  have HR4 := Lib.hid (show ∃ rs, Blk w4 w.heap.size rs 25 ∧ rs.size = 32 by obtain ⟨rs, h, hz⟩ := HR3.out; exact ⟨rs, h.below hb4 h.lt, hz⟩)
  have hs4 : w.heap.size + 2 ≤ w4.heap.size := by have := hb4.size; have := HS3.out; omega
  clear hcall hel hc hown hb4 hb3 e72
  go_wp2_with fail
  refine HCALL.out.mono ?_
  rintro e w5 ⟨rfl, hS5, hg5⟩
  have hb5 := hb34.trans (grown_in hg5 (B := w.heap.size) (by omega) (by omega))
  have HR5 := Lib.hid (show ∃ rs, Blk w5 w.heap.size rs 25 ∧ rs.size = 32 by obtain ⟨rs, h, hz⟩ := HR4.out; exact ⟨rs, h.grown hg5 (by simp), hz⟩)
  have hs5 := Nat.le_trans hs4 hg5.size
  have hpad : m ++ endL n = padL m := by rw [← HN.out]; exact endL_pad m
  rw [hpad] at hS5
  obtain ⟨op5, ho5, _, hblk5⟩ := hS5
  obtain ⟨H, hH⟩ : ∃ y, blocksTo (padL m) ((padL m).length / 64) = y := ⟨_, rfl⟩
  have HOK := Lib.hid (show H.ok by rw [← hH]; exact blocksTo_ok _ _)
  have HSHA := Lib.hid (show shaL m = outTo H 8 by rw [← hH]; rfl)
  rw [hH] at hblk5
  obtain ⟨k, hk⟩ : ∃ k, w.heap.size + 1 = k := ⟨_, rfl⟩
  rw [hk] at hblk5 ⊢
  have HRG := Lib.hid (fun (o : Obj) => (show (w5.alloc o).rangeAt k 0 (h8 H).toList from fun j v hv => by
    rw [Nat.zero_add, (hblk5.alloc o).cell j]
    have hj : j < 8 := by
      rcases Nat.lt_or_ge j 8 with h | h
      · exact h
      · rw [List.getElem?_eq_none (by show 8 ≤ j; exact h)] at hv; cases hv
    rw [shaA_word _ _ _ _ hj, ← hv]
    rw [Array.getElem?_toList]
    exact (u32A_get (ns := list8 H) (i := j) hj).symm))
  clear hpad HCALL hg5 hb34 hs4 HR4 hH hblk5
  go_wp2_with (with_reducible refine wpList_load_mid rfl 96 (.tmp 17) rfl k 0 rfl (h8 H).toList _ (HRG.out _) Tryd.underlying96 rfl (by kernel_rfl) ?_)
  generalize hw6 : w5.alloc _ = w6
  obtain ⟨kh, hkh⟩ : ∃ y, w5.heap.size = y := ⟨_, rfl⟩
  have HB6 := Lib.hid (show Blk w6 kh (u8A (padB 32 (outTo H 0))) 25 by
    subst hw6 hkh
    exact Blk.new w5 (u8A (padB 32 (outTo H 0))) 25)
  have hb6 : Below w.heap.size w w6 := by rw [← hw6]; exact hb5.alloc (by omega) _
  have HR6 := Lib.hid (show ∃ rs, Blk w6 w.heap.size rs 25 ∧ rs.size = 32 by obtain ⟨rs, h, hz⟩ := HR5.out; exact ⟨rs, by rw [← hw6]; exact h.alloc _, hz⟩)
  have hkw : w.heap.size < kh := by omega
  rw [hkh]
  clear hw6 hkh hb5 HR5 hs5 HRG hk ho5
  go_loopw [19] (fun t wr => ∃ i : Nat, i ≤ 8 ∧ t = .int .i64 i ∧ Below w.heap.size w wr ∧ Hid (Blk wr kh (u8A (padB 32 (outTo H i))) 25) ∧ Hid (∃ rs, Blk wr w.heap.size rs 25 ∧ rs.size = 32)) (fun t _ => 8 - (intOf t).toNat)
  case atStart => exact ⟨0, by omega, rfl, hb6, HB6, HR6⟩
  case round =>
    clear hb6 HB6 HR6
    obtain ⟨i, hi, rfl, hbel, HB, HR⟩ := hrel
    by_cases hlt : i < 8
    · have hidx : (h8 H)[i]? = some (.int .u32 ((list8 H).getD i 0 : Nat)) := u32A_get (ns := list8 H) hlt
      have hX := getD_lt (list8_lt HOK.out) i
      have HOS := Lib.hid (outTo_succ H i hlt)
      have HOL := Lib.hid (outTo_len H i (by omega))
      generalize (list8 H).getD i 0 = X at *
      have i8 : (i : Int) < 8 := by omega
      have hix := fun W => run_index_word W (h8 H) i _ hlt hidx
      clear hidx
      go_wp2_with fail
      clear hix
      obtain ⟨w7, rfl⟩ : ∃ y : World, y = wr := ⟨_, rfl⟩
      have HB0 := Lib.hid (show Blk w7 kh (u8A (padB 32 (outTo H i ++ (wordBytes X).take 0))) 25 by rw [List.take_zero, List.append_nil]; exact HB.out)
      go_loopw [23] (fun t wr => ∃ j : Nat, j ≤ 4 ∧ t = .int .i64 j ∧ Below w.heap.size w wr ∧ Hid (Blk wr kh (u8A (padB 32 (outTo H i ++ (wordBytes X).take j))) 25) ∧ Hid (∃ rs, Blk wr w.heap.size rs 25 ∧ rs.size = 32)) (fun t _ => 4 - (intOf t).toNat)
      case atStart => exact ⟨0, by omega, rfl, hbel, HB0, HR⟩
      case round =>
        clear hbel HB0 HR HB
        obtain ⟨j, hj, rfl, hbel, HB, HR⟩ := hrel
        by_cases hj4 : j < 4
        · have HBT := Lib.hid (bytes_take X j hj4)
          have HLN := Lib.hid (show (outTo H i ++ (wordBytes X).take j).length = 4 * i + j by rw [List.length_append, HOL.out, List.length_take, bytes_len]; omega)
          have hf := HB.out.frozen (4 * i + j)
          obtain ⟨old, hold⟩ := u8A_get (bs := padB 32 (outTo H i ++ (wordBytes X).take j)) (i := 4 * i + j) (by rw [padB_len (by rw [HLN.out]; omega)]; omega)
          have hc := (HB.out.cell (4 * i + j)).trans hold
          clear hold
          have g1 : (0 : Int) ≤ 4 * (i : Int) + (j : Int) := by omega
          have g2 : 4 * (i : Int) + (j : Int) < 32 := by omega
          have g3 : (4 * (i : Int) + (j : Int)).toNat = 4 * i + j := by omega
          have g4 : (0 : Int) ≤ 8 * (3 - (j : Int)) := by omega
          have g5 : (8 * (3 - (j : Int))).toNat = 8 * (3 - j) := by omega
          have j3 : (j : Int) ≤ 3 := by omega
          go_wp2_with fail
          go_roundw
          case rel =>
            refine ⟨j + 1, by omega, by go_num, hbel.setCell (by simp; omega) _, Lib.hid ?_, Lib.hid ?_⟩
            · rw [HBT.out, ← List.append_assoc]
              exact Blk.byte HB.out HLN.out (by omega) (byte_val X j)
            · obtain ⟨rs, h, hz⟩ := HR.out
              exact ⟨rs, h.other (by simp; omega) _, hz⟩
          case measure => simp [intOf]; omega
        · have HB8 := Lib.hid (show Blk wr kh (u8A (padB 32 (outTo H (i + 1)))) 25 by
            rw [HOS.out]
            have := HB.out
            rwa [List.take_of_length_le (by rw [bytes_len]; omega)] at this)
          clear HB
          go_wp2_with fail
          go_roundw
          case rel => exact ⟨i + 1, by omega, by go_num, hbel, HB8, HR⟩
          case measure => simp [intOf]; omega
    · have hB : Blk wr kh (u8A (shaL m)) 25 := by
        obtain rfl : i = 8 := (by omega)
        have := HB.out
        rwa [padB_full (outTo_len H 8 (by omega)), ← HSHA.out] at this
      have hsz : (u8A (shaL m)).size = 32 := by rw [u8A_size, HSHA.out, outTo_len H 8 (by omega)]
      have hone := u8A_one (shaL m)
      obtain ⟨fin, hfe⟩ : ∃ x, u8A (shaL m) = x := ⟨_, rfl⟩
      rw [hfe] at hB hsz hone
      have HFE := Lib.hid hfe
      have HZ := Lib.hid hsz
      have HONE2 := Lib.hid hone
      obtain ⟨rs, hrs, hrz⟩ := HR.out
      have HRZ := Lib.hid hrz
      have hin := hrs.lt
      clear hfe hsz hone hrz HB hi
      go_wp2_with (first
        | (with_reducible refine wpList_load_blk rfl 25 (.tmp 4) rfl kh rfl 25 fin _ hB Tryd.underlying25 rfl (by rw [HZ.out]; kernel_rfl) ?_)
        | (with_reducible refine wpList_store_blk rfl 25 (.tmp 2) (.tmp 39) rfl w.heap.size fin rfl rfl 25 rs hrs (by rw [HZ.out]; kernel_rfl) (by rw [HZ.out, HRZ.out]) HONE2.out ?_))
      refine bodyPost_ret (v := .agg fin) (results_cell_row (p := 2) (ty := 25) (by kernel_rfl) _ _ w.heap.size 25 _ (0, 0) _ rfl (hrs.row fin) Tryd.underlying25 rfl (by rw [HZ.out]; kernel_rfl)) rfl ⟨by rw [HFE.out], below_row hbel (by omega) (Nat.le_refl _) _⟩
end Go.Proofs.YtkkokngdhhakdaaDoor
namespace Go.Proofs.YtkkokngdhhakdaaDoor
open Go.RowKit

set_option maxRecDepth 100000 in
set_option maxHeartbeats 1000000 in
theorem sum_any (A : Option Addr) (n c : Nat) (l : List UInt8) (w : World) (hl : l.length = n) (hc : n ≤ c) (h1 : n ≤ 800000) (hr : Rd w w.heap.size A l) :
    Calls Tryd.prog 63 #[.slice A n c] w fun e w' => e = .returned (.agg (u8A (shaL l))) ∧ Below w.heap.size w w' := by
  have HL := Lib.hid hl
  clear hl
  go_enter Tryd.func63, Tryd.ntmps63
  go_wp2_with fail
  generalize hw1 : w.alloc _ = w1
  have hb1 : Below w.heap.size w w1 := by rw [← hw1]; exact (Below.refl _ _).alloc (Nat.le_refl _) _
  have HR1 := Lib.hid (show ∃ rs, Blk w1 w.heap.size rs 25 ∧ rs.size = 32 by rw [← hw1]; exact ⟨_, Blk.new w _ _, rfl⟩)
  have hs1 : w.heap.size < w1.heap.size := by rw [← hw1]; simp
  clear hw1
  refine (new_any _).mono ?_
  rintro e w2 ⟨g, rfl, hg, hs, hb2⟩
  have hb02 := hb1.trans (hb2.mono (Nat.le_of_lt hs1))
  have HR2 := Lib.hid (show ∃ rs, Blk w2 w.heap.size rs 25 ∧ rs.size = 32 by obtain ⟨rs, h, hz⟩ := HR1.out; exact ⟨rs, h.below hb2 hs1, hz⟩)
  have hgl := hs.lt
  have hcall := write_any g n c A l [] w2 HL.out hc (by simp; omega) ((hr.below hb02 (Nat.le_refl _)).notAt (g := g) (by omega) |>.more hb02.size) hs
  rw [List.nil_append] at hcall
  have HCALL := Lib.hid hcall
  clear hcall hs hb2 HR1 hr hb1
  go_wp2_with fail
  refine HCALL.out.mono ?_
  rintro e w3 ⟨rfl, hs3, hg3⟩
  have hb03 := hb02.trans (grown_in hg3 (B := w.heap.size) hb02.size (by omega))
  have HR3 := Lib.hid (show ∃ rs, Blk w3 w.heap.size rs 25 ∧ rs.size = 32 by obtain ⟨rs, h, hz⟩ := HR2.out; exact ⟨rs, h.grown hg3 (by simp; omega), hz⟩)
  have hg3l := hs3.lt
  have HC4 := Lib.hid (shaSum_any g l w3 hs3 (by rw [HL.out]; omega))
  clear HCALL hs3 hg3 HR2 hb02
  go_wp2_with fail
  refine HC4.out.mono ?_
  rintro e w4 ⟨rfl, hb4⟩
  have hb04 := hb03.trans (hb4.mono (by omega))
  obtain ⟨rs, hrs3, hrz⟩ := HR3.out
  have hrs := hrs3.below hb4 (by omega)
  have hsz : (u8A (shaL l)).size = 32 := by rw [u8A_size]; exact outTo_len _ 8 (by omega)
  have hone := u8A_one (shaL l)
  obtain ⟨fin, hfe⟩ : ∃ x, u8A (shaL l) = x := ⟨_, rfl⟩
  rw [hfe] at hsz hone
  rw [hfe]
  have HFE := Lib.hid hfe
  have HZ := Lib.hid hsz
  have HONE2 := Lib.hid hone
  have HRZ := Lib.hid hrz
  have hin := hrs.lt
  clear hfe hsz hone hrz HC4 hb4 hrs3 HR3 hb03
  go_wp2_with (with_reducible refine wpList_store_blk rfl 25 (.tmp 2) (.tmp 9) rfl w.heap.size fin rfl rfl 25 rs hrs (by rw [HZ.out]; kernel_rfl) (by rw [HZ.out, HRZ.out]) HONE2.out ?_)
  refine bodyPost_ret (v := .agg fin) (results_cell_row (p := 2) (ty := 25) (by kernel_rfl) _ _ w.heap.size 25 _ (0, 0) _ rfl (hrs.row fin) Tryd.underlying25 rfl (by rw [HZ.out]; kernel_rfl)) rfl ⟨by rw [HFE.out], below_row hb04 (by omega) (Nat.le_refl _) _⟩

theorem shaL_nil : shaL [] = [227, 176, 196, 66, 152, 252, 28, 20, 154, 251, 244, 200, 153, 111, 185, 36, 39, 174, 65, 228, 100, 155, 147, 76, 164, 149, 153, 27, 120, 82, 184, 85] := by decide +kernel
def shaNil : Array Value := u8A [227, 176, 196, 66, 152, 252, 28, 20, 154, 251, 244, 200, 153, 111, 185, 36, 39, 174, 65, 228, 100, 155, 147, 76, 164, 149, 153, 27, 120, 82, 184, 85]

end Go.Proofs.YtkkokngdhhakdaaDoor
namespace Go.Proofs.YtkkokngdhhakdaaDoor
open Go.RowKit

/-- The values of a slice of byte slices. -/
theorem RdR.vals {w : World} {B : Nat} {ad : Addr} {ls : List (List UInt8)} (h : RdR w B (some ad) ls) :
    ∃ vs : List Value, sliceVals w B vs ls ∧ (∀ j u, vs[j]? = some u → w.cell? (ad.add j) = some u) ∧ ∀ u ∈ vs, u.oneCell' = true := by
  have each : ∀ i, ∃ v : Value, i < ls.length → w.cell? (ad.add i) = some v ∧ ∃ A' c, v = .slice A' (ls.getD i []).length c ∧ (ls.getD i []).length ≤ c ∧ c ≤ maxLen ∧ Rd w B A' (ls.getD i []) := by
    intro i
    by_cases hi : i < ls.length
    · obtain ⟨b, off, A', c, e, _, h1, h2, h3, h4⟩ := h.at_ i hi
      injection e with e
      subst e
      have hg : ls.getD i [] = ls[i] := by rw [List.getD_eq_getElem?_getD, List.getElem?_eq_getElem hi]; rfl
      refine ⟨_, fun _ => ⟨by rw [Addr.add_mid]; exact h1, A', c, by rw [hg], by rw [hg]; exact h2, h3, by rw [hg]; exact h4⟩⟩
    · exact ⟨.bool true, fun h => absurd h hi⟩
  obtain ⟨f, hf⟩ := Classical.axiomOfChoice each
  refine ⟨(List.range ls.length).map f, ⟨by simp, fun i hi => ?_⟩, fun j u hu => ?_, fun u hu => ?_⟩
  · obtain ⟨_, A', c, h1, h2, h3, h4⟩ := hf i hi
    have hg : ls.getD i [] = ls[i] := by rw [List.getD_eq_getElem?_getD, List.getElem?_eq_getElem hi]; rfl
    rw [hg] at h1 h2 h4
    exact ⟨A', c, by rw [List.getElem?_map, List.getElem?_range hi]; simp [h1], h2, h3, h4⟩
  · rcases Nat.lt_or_ge j ls.length with hj | hj
    · rw [List.getElem?_map, List.getElem?_range hj] at hu
      simp only [Option.map_some, Option.some.injEq] at hu
      subst hu
      exact (hf j hj).1
    · rw [List.getElem?_eq_none (by simpa using hj)] at hu; cases hu
  · obtain ⟨j, hj, rfl⟩ := List.mem_map.1 hu
    obtain ⟨_, A', c, h1, _⟩ := hf j (List.mem_range.1 hj)
    rw [h1]; rfl

theorem sliceVals.append {w : World} {B : Nat} {vs us : List Value} {ls ks : List (List UInt8)} (h : sliceVals w B vs ls) (k : sliceVals w B us ks) : sliceVals w B (vs ++ us) (ls ++ ks) := by
  refine ⟨by rw [List.length_append, List.length_append, h.1, k.1], fun i hi => ?_⟩
  by_cases he : i < ls.length
  · obtain ⟨A', c, h1, h2⟩ := h.2 i he
    refine ⟨A', c, ?_, ?_⟩
    · rw [List.getElem?_append_left (by rw [h.1]; exact he)]
      simpa [List.getElem_append_left he] using h1
    · simpa [List.getElem_append_left he] using h2
  · have hi' : i - ls.length < ks.length := by simp at hi; omega
    obtain ⟨A', c, h1, h2⟩ := k.2 (i - ls.length) hi'
    refine ⟨A', c, ?_, ?_⟩
    · rw [List.getElem?_append_right (by rw [h.1]; omega), h.1]
      simpa [List.getElem_append_right (show ls.length ≤ i by omega)] using h1
    · simpa [List.getElem_append_right (show ls.length ≤ i by omega)] using h2

section
variable {P : Program} {w : World}
theorem run_append_rows (base : Nat) (t ty e : TypeId) (i : TypeInfo) (ht : P.underlying t = some (.slice e)) (hi : P.info? e = some i) (hz : i.zero = some (.slice none 0 0)) (hsize : i.size = 1) (hby : i.bytes = 24)
    (v : Value) (n : Nat) (xs : List Value) (hown : w.ownsRow base e 1 v n xs) (C : Nat) (A : Option Addr) (m c : Nat) (ls : List (List UInt8)) (hl : ls.length = m) (hr : RdR w C A ls)
    (hlim : n + m ≤ 1000000) (hbase : base ≤ w.heap.size) :
    ∃ v' w' us, (Builtin.append_ #[t, t] ty #[v, .slice A m c]).run P w = .ok v' w' ∧ w'.ownsRow base e 1 v' (n + m) (xs ++ us) ∧ sliceVals w C us ls ∧ w.grownBy w' v.ownBlock := by
  rcases A with _ | ad
  · have h0 : ls = [] := by
      rcases hr with rfl | ⟨b, off, e, _⟩
      · rfl
      · cases e
    subst h0
    obtain rfl : m = 0 := by simpa using hl.symm
    refine ⟨v, w, [], ?_, by simpa using hown, sliceVals.nil _ _, World.grownBy.refl w _⟩
    rcases hown.2 with ⟨rfl, rfl⟩ | ⟨g, cap, cur, rfl, _, _, hnc, _⟩
    · simp [Builtin.append_, run_underlying ht, sizeOf, typeInfo, hi, Builtin.lenOf, Builtin.firstCells]
    · simp [Builtin.append_, run_underlying ht, sizeOf, typeInfo, hi, Builtin.lenOf, Builtin.firstCells, hnc, storeCells]
  · obtain ⟨us, h1, h2, h3⟩ := hr.vals
    obtain ⟨v', w', hrun, k2, k3, _⟩ := run_append_own (P := P) w base t ty e i (.slice none 0 0) 1 24 ht hi hz hsize hby rfl (by omega) v n xs hown ad m c us (by rw [h1.1, hl, Nat.mul_one]) h2 h3 (by unfold maxLen; omega) (by omega) hbase
    exact ⟨v', w', us, hrun, k2, h1, k3⟩
theorem wpList_append_rows {ops : Array Oper} {rest : List Oper} {o : Oper} {a : Act} {Q : Exit → Act → World → Prop} (hgd : o.guard = none) (s x : Operand) (t : TypeId)
    (ho : o.op = .call { callee := .builtin .append, args := #[s, x], argTypes := #[t, t] })
    (base : Nat) (e : TypeId) (i : TypeInfo) (ht : P.underlying t = some (.slice e)) (hi : P.info? e = some i) (hz : i.zero = some (.slice none 0 0)) (hsize : i.size = 1) (hby : i.bytes = 24)
    (v : Value) (n : Nat) (xs : List Value) (hs : a.eval s = v) (hown : w.ownsRow base e 1 v n xs) (C : Nat) (A : Option Addr) (m c : Nat) (ls : List (List UInt8)) (hx : a.eval x = .slice A m c) (hl : ls.length = m) (hr : RdR w C A ls)
    (hlim : n + m ≤ 1000000) (hbase : base ≤ w.heap.size)
    (h : ∀ v' w' us, w'.ownsRow base e 1 v' (n + m) (xs ++ us) → sliceVals w C us ls → w.grownBy w' v.ownBlock → wpList P ops Q rest (a.put o.dst v') w') : wpList P ops Q (o :: rest) a w := by
  refine wpList_plain hgd fun K hK => ?_
  obtain ⟨v', w', us, hrun, h2, h3, h4⟩ := run_append_rows (P := P) base t o.type e i ht hi hz hsize hby v n xs hown C A m c ls hl hr hlim hbase
  unfold Oper.wp execOp
  simp only [ho, resolve, invoke, builtin, Sem.run_bind, Sem.run_pure, Result.andThen_ok, List.map_toArray, List.map_cons, List.map_nil, hs, hx, hrun]
  exact hK _ _ (h v' w' us h2 h3 h4)
end

theorem ownM_heap {w : World} {base : Nat} {e : TypeId} {g n c : Nat} {l : List UInt8} (h : OwnM w base e (.slice (some ⟨g, 0, none⟩) n c) n l) : ∃ cur fz, w.heap[g]? = some (.cells cur e fz) ∧ g < w.heap.size ∧ base ≤ g := by
  obtain ⟨_, g', cap, cur, fz, hv, hb, hg, _⟩ := h
  injection hv with hv _ _
  injection hv with hv
  injection hv with hv
  subst hv
  exact ⟨cur, fz, hg, (Array.getElem?_eq_some_iff.1 hg).1, hb⟩
theorem own_not {w : World} {base : Nat} {e e' : TypeId} {v : Value} {n b : Nat} {xs : List Value} {cur : Array Value} {fz : Nat × Nat} (h : w.ownsRow base e 1 v n xs) (hn : 0 < n) (hb : w.heap[b]? = some (.cells cur e' fz)) (hne : e ≠ e') : some b ≠ v.ownBlock := by
  intro he
  rcases h.2 with ⟨_, h0⟩ | ⟨g, cap, cur', rfl, _, hg, _⟩
  · omega
  · simp [Value.ownBlock] at he
    subst he
    rw [hg] at hb
    injection hb with hb
    injection hb with _ hb _
    exact hne hb
theorem Rd.viaN {w w' : World} {b : Nat} {row : Option Nat} {l : List UInt8} (h : Rd w w.heap.size (some ⟨b, 0, none⟩) l) (hg : w.grownBy w' row) (hne : some b ≠ row) : Rd w' w'.heap.size (some ⟨b, 0, none⟩) l := by
  rcases h with h | ⟨b', off, e, hb, hc⟩
  · exact .inl h
  · injection e with e; injection e with e1 e2; subst e1 e2
    exact .inr ⟨b, 0, rfl, Nat.lt_of_lt_of_le hb hg.size, fun i hi => (World.cell?_of_block (hg.block b hb hne)).trans (hc i hi)⟩
theorem Rd.via {w w' : World} {o : Obj} {b : Nat} {row : Option Nat} {l : List UInt8} (h : Rd w w.heap.size (some ⟨b, 0, none⟩) l) (hg : (w.alloc o).grownBy w' row) (hne : some b ≠ row) : Rd w' w'.heap.size (some ⟨b, 0, none⟩) l :=
  Rd.viaN (w := w.alloc o) ((h.alloc (Nat.le_refl _) o).more (by simp)) hg hne
theorem ownM_form {w : World} {base : Nat} {e : TypeId} {v : Value} {n : Nat} {l : List UInt8} (h : OwnM w base e v n l) : ∃ g c, v = .slice (some ⟨g, 0, none⟩) n c ∧ n ≤ c ∧ c ≤ maxLen := by
  obtain ⟨_, g, cap, _, _, hv, _, _, _, hc, hm, _⟩ := h
  exact ⟨g, cap, hv, hc, hm⟩
set_option maxRecDepth 100000 in
set_option maxHeartbeats 2000000 in
theorem text_any (tag : List UInt8) (A : Option Addr) (n c : Nat) (ls : List (List UInt8)) (w : World) (ht : tag.length ≤ 1000) (hn : ls.length = n) (h1 : n ≤ 100) (h2 : ∀ r ∈ ls, r.length ≤ 1000) (hr : RdR w w.heap.size A ls) (htab : Pow10 w.heap.size w) :
    Calls Tryd.prog 64 #[.string ⟨tag.toArray⟩, .slice A n c] w fun e w' => ∃ A' c', e = .returned (.slice A' (netsL (tag :: ls)).length c') ∧ (netsL (tag :: ls)).length ≤ c' ∧ Rd w' w'.heap.size A' (netsL (tag :: ls)) ∧ Below w.heap.size w w' := by
  obtain ⟨i1, hi, hz0, hz1, hz2⟩ := info_parts infoSlice
  have HN := Lib.hid hn
  have H2 := Lib.hid h2
  have HT := Lib.hid htab
  clear hn h2 htab
  go_enter Tryd.func64, Tryd.ntmps64
  go_wp2_with (first
    | (with_reducible refine wpList_make_own _ rfl _ _ 54 rfl w.heap.size 26 i1 (.slice none 0 0) 1 Tryd.underlying54 hi hz0 hz1 _ _ _ (n + 1) rfl rfl (by omega) (by rw [hz2]; omega) (by unfold maxLen; omega) (Nat.le_refl _) ?_
       intro w1 hown1 hg1
       obtain ⟨v2, w2, hcv, hown2, hb2⟩ := run_bytes_M (P := Tryd.prog) (w := w1) 9 26 5 tag (by omega) Tryd.underlying9 Tryd.underlying26 Tryd.underlying5
       obtain ⟨g2, c2, hv2, hc2, hcm2⟩ := ownM_form hown2
       subst hv2)
    | (at_builtin; refine wpList_append_one rfl _ _ 54 rfl w.heap.size 26 i1 Tryd.underlying54 hi hz0 hz1 hz2 _ 0 [] rfl w2 (some ⟨g2, 0, none⟩) tag.length c2 rfl (own_on hown1 hb2) rfl (by omega) (by have := hg1.size; have := hb2.size; omega) ?_))
  intro v3 w3 hown3 hg3
  have hb1 : Below w.heap.size w w1 := (Below.refl _ _).grown hg1 (Nat.le_refl _) (by simp)
  have hbel2 := hb1.trans (hb2.mono hb1.size)
  have hbel3 : Below w.heap.size w w3 := (hbel2.alloc hbel2.size _).grown hg3 (by have := hbel2.size; simp; omega) (fun k hk => by have := (own_on hown1 hb2).lt k hk; omega)
  have hr2 := hown2.rd
  obtain ⟨cur, fz, hgb, hg2l, hg2b⟩ := ownM_heap hown2
  have hne3 : some g2 ≠ (Value.slice (some ⟨w.heap.size, 0, none⟩) 0 (n + 1)).ownBlock := by
    intro e
    simp [Value.ownBlock] at e
    have := (hown1.lt w.heap.size rfl).2
    omega
  have hr3 := hr2.via hg3 hne3
  have hgb3 : w3.heap[g2]? = some (.cells cur 5 fz) := by
    rw [hg3.block g2 (by simp; omega) hne3, heap_alloc_old _ _ hg2l]; exact hgb
  have hne4 := own_not hown3 (by omega) hgb3 (by decide)
  have hsv3 := (sliceVals.nil w3 w3.heap.size).snoc rfl hc2 hcm2 hr3
  have HO3 := Lib.hid hown3
  have HSV3 := Lib.hid hsv3
  have HR3 := Lib.hid (hr.below hbel3 (Nat.le_refl _))
  have hs3 := hbel3.size
  clear hown3 hg3 hown1 hg1 hb2 hcv hown2 hb1 hbel2 hr2 hgb hg2l hg2b hne3 hsv3 hc2 hcm2
  go_wp2_with (at_builtin; refine wpList_append_rows rfl _ _ 54 rfl w.heap.size 26 i1 Tryd.underlying54 hi hz0 hz1 hz2 _ 1 _ rfl HO3.out w.heap.size A n c ls rfl HN.out HR3.out (by omega) hs3 ?_)
  intro v4 w4 us hown4 hus hg4
  have hbel4 := hbel3.grown hg4 hs3 (fun k hk => (HO3.out.lt k hk).1)
  have hr4 := hr3.viaN hg4 hne4
  have hsv4 := ((sliceVals.nil w4 w4.heap.size).snoc (l := tag) (c := c2) rfl (by have := HSV3.out.2 0 (by simp); obtain ⟨_, _, e, h, _⟩ := this; simp at e; obtain ⟨_, rfl⟩ := e; exact h) (by have := HSV3.out.2 0 (by simp); obtain ⟨_, _, e, _, h, _⟩ := this; simp at e; obtain ⟨_, rfl⟩ := e; exact h) hr4).append ((hus.keep (fun p hp => World.cell?_of_block (hg4.block p.block (by omega) (fun e => by have := (HO3.out.lt _ e.symm).1; omega)))).more hbel4.size)
  obtain ⟨A4, c4, rfl, _⟩ := own_slice hown4
  have hrr := RdR.of_own hown4 hsv4 (Nat.le_refl _)
  rw [show 1 + n = n + 1 by omega] at hown4 ⊢
  have HRR := Lib.hid hrr
  have HTW := Lib.hid (tab_on HT.out hbel4 hbel4.size)
  have HLL := Lib.hid (show (tag :: ls).length = n + 1 by simp [HN.out])
  have HRL := Lib.hid (show ∀ r ∈ tag :: ls, r.length ≤ 1000 by
    intro r hr
    rcases List.mem_cons.1 hr with rfl | hr
    · exact ht
    · exact H2.out r hr)
  obtain ⟨all, hall⟩ : ∃ y, tag :: ls = y := ⟨_, rfl⟩
  rw [show [] ++ [tag] ++ ls = tag :: ls by simp, hall] at HRR
  rw [hall] at HLL HRL
  have HALL := Lib.hid hall
  clear hown4 hus hg4 hsv4 hrr hr4 hr3 hne4 hgb3 HO3 HSV3 HR3 hbel3 hs3 hall
  go_wp2_with fail
  refine (nets_any A4 (n + 1) c4 all w4 HLL.out (by omega) HRL.out HRR.out HTW.out).mono ?_
  rintro e w5 ⟨A5, c5, rfl, hc5, hr5, hb5⟩
  have hbel5 := Below.then hbel4 hb5
  have HR5 := Lib.hid hr5
  have HC5 := Lib.hid hc5
  clear hr5 hc5 hb5
  go_wp2_with fail
  go_ret
  rw [HALL.out]
  exact ⟨A5, c5, rfl, HC5.out, HR5.out, hbel5⟩

theorem nets_short (ls : List (List UInt8)) (h : ls.length ≤ 101) (h2 : ∀ r ∈ ls, r.length ≤ 1000) : (netsL ls).length ≤ 103222 := by
  have := netsL_len ls h2 ls.length (Nat.le_refl _)
  rw [List.take_length] at this
  omega

set_option maxRecDepth 100000 in
set_option maxHeartbeats 2000000 in
theorem tagged_any (tag : List UInt8) (A : Option Addr) (n c : Nat) (ls : List (List UInt8)) (w : World) (ht : tag.length ≤ 1000) (hn : ls.length = n) (h1 : n ≤ 100) (h2 : ∀ r ∈ ls, r.length ≤ 1000) (hr : RdR w w.heap.size A ls) (htab : Pow10 w.heap.size w) :
    Calls Tryd.prog 41 #[.string ⟨tag.toArray⟩, .slice A n c] w fun e w' => e = .returned (.agg (u8A (shaL (netsL (tag :: ls))))) ∧ Below w.heap.size w w' := by
  have hnl := nets_short (tag :: ls) (by simp [hn]; omega) (by
    intro r hr
    rcases List.mem_cons.1 hr with rfl | hr
    · exact ht
    · exact h2 r hr)
  have HTX := Lib.hid (fun (W : World) (hb : Below w.heap.size w W) => text_any tag A n c ls W ht hn h1 h2 ((hr.below hb (Nat.le_refl _)).more hb.size) (tab_on htab hb hb.size))
  clear hr htab h2 hn
  go_enter Tryd.func41, Tryd.ntmps41
  go_wp2_with fail
  generalize hw1 : w.alloc _ = w1
  have hb1 : Below w.heap.size w w1 := by rw [← hw1]; exact (Below.refl _ _).alloc (Nat.le_refl _) _
  have HR1 := Lib.hid (show ∃ rs, Blk w1 w.heap.size rs 25 ∧ rs.size = 32 by rw [← hw1]; exact ⟨_, Blk.new w _ _, rfl⟩)
  have hs1 : w.heap.size < w1.heap.size := by rw [← hw1]; simp
  clear hw1
  refine (HTX.out _ hb1).mono ?_
  rintro e w2 ⟨A2, c2, rfl, hc2, hr2, hb2⟩
  obtain ⟨nl, hnle⟩ : ∃ y, netsL (tag :: ls) = y := ⟨_, rfl⟩
  rw [hnle] at hnl hc2 hr2 ⊢
  have HNL := Lib.hid hnle
  have HR2 := Lib.hid (show ∃ rs, Blk w2 w.heap.size rs 25 ∧ rs.size = 32 by obtain ⟨rs, h, hz⟩ := HR1.out; exact ⟨rs, h.below hb2 hs1, hz⟩)
  have hb02 := hb1.trans (hb2.mono (Nat.le_of_lt hs1))
  have HRD := Lib.hid hr2
  have HC2 := Lib.hid hc2
  obtain ⟨k, hk⟩ : ∃ k, nl.length = k := ⟨_, rfl⟩
  have HK := Lib.hid hk
  rw [hk] at hnl ⊢
  have hs2 := Nat.lt_of_lt_of_le hs1 hb2.size
  clear hb2 hr2 hc2 hnle HR1 hk hb1
  go_wp2_with fail
  refine (sum_any A2 k c2 nl _ HK.out (by rw [← HK.out]; exact HC2.out) (by omega) HRD.out).mono ?_
  rintro e w3 ⟨rfl, hb3⟩
  have hb03 := hb02.trans (hb3.mono (Nat.le_of_lt hs2))
  obtain ⟨rs, hrs2, hrz⟩ := HR2.out
  have hrs := hrs2.below hb3 hs2
  have hsz : (u8A (shaL nl)).size = 32 := by rw [u8A_size]; exact outTo_len _ 8 (by omega)
  have hone := u8A_one (shaL nl)
  obtain ⟨fin, hfe⟩ : ∃ x, u8A (shaL nl) = x := ⟨_, rfl⟩
  rw [hfe] at hsz hone
  rw [hfe]
  have HFE := Lib.hid hfe
  have HZ := Lib.hid hsz
  have HONE2 := Lib.hid hone
  have HRZ := Lib.hid hrz
  have hin := hrs.lt
  clear hfe hsz hone hrz hb3 hrs2 HR2 hb02
  go_wp2_with (with_reducible refine wpList_store_blk rfl 25 (.tmp 4) (.tmp 8) rfl w.heap.size fin rfl rfl 25 rs hrs (by rw [HZ.out]; kernel_rfl) (by rw [HZ.out, HRZ.out]) HONE2.out ?_)
  refine bodyPost_ret (v := .agg fin) (results_cell_row (p := 4) (ty := 25) (by kernel_rfl) _ _ w.heap.size 25 _ (0, 0) _ rfl (hrs.row fin) Tryd.underlying25 rfl (by rw [HZ.out]; kernel_rfl)) rfl ⟨by rw [HNL.out, HFE.out], below_row hb03 (by omega) (Nat.le_refl _) _⟩
end Go.Proofs.YtkkokngdhhakdaaDoor
namespace Go.Proofs.YtkkokngdhhakdaaDoor
open Go.RowKit

set_option maxRecDepth 100000 in
set_option maxHeartbeats 2000000 in
theorem short_any (tag : List UInt8) (A : Option Addr) (n c : Nat) (ls : List (List UInt8)) (w : World) (ht : tag.length ≤ 1000) (hn : ls.length = n) (h1 : n ≤ 100) (h2 : ∀ r ∈ ls, r.length ≤ 1000) (hr : RdR w w.heap.size A ls) (htab : Pow10 w.heap.size w) :
    Calls Tryd.prog 15 #[.string ⟨tag.toArray⟩, .slice A n c] w fun e w' => e = .returned (.agg (u8A ((shaL (netsL (tag :: ls))).take 16))) ∧ Below w.heap.size w w' := by
  have HTG := Lib.hid (fun (W : World) (hb : Below w.heap.size w W) => tagged_any tag A n c ls W ht hn h1 h2 ((hr.below hb (Nat.le_refl _)).more hb.size) (tab_on htab hb hb.size))
  clear hr htab h2 hn
  obtain ⟨hs, hse⟩ : ∃ y, shaL (netsL (tag :: ls)) = y := ⟨_, rfl⟩
  have hsl : hs.length = 32 := by rw [← hse]; exact outTo_len _ 8 (by omega)
  rw [hse] at HTG ⊢
  clear hse
  have HSL := Lib.hid hsl
  have hz := u8A_size hs
  rw [hsl] at hz
  have HZ := Lib.hid hz
  have HONE := Lib.hid (u8A_one hs)
  clear hsl hz
  go_enter Tryd.func15, Tryd.ntmps15
  go_wp2_with fail
  generalize hw1 : w.alloc _ = w1
  have hb1 : Below w.heap.size w w1 := by rw [← hw1]; exact (Below.refl _ _).alloc (Nat.le_refl _) _
  have HR1 := Lib.hid (show ∃ rs, Blk w1 w.heap.size rs 23 ∧ rs.size = 16 by rw [← hw1]; exact ⟨_, Blk.new w _ _, rfl⟩)
  have hs1 : w.heap.size < w1.heap.size := by rw [← hw1]; simp
  clear hw1
  refine (HTG.out _ hb1).mono ?_
  rintro e w2 ⟨rfl, hb2⟩
  have HR2 := Lib.hid (show ∃ rs, Blk w2 w.heap.size rs 23 ∧ rs.size = 16 by obtain ⟨rs, h, hz⟩ := HR1.out; exact ⟨rs, h.below hb2 hs1, hz⟩)
  have hb02 := hb1.trans (hb2.mono (Nat.le_of_lt hs1))
  have hs2 := Nat.lt_of_lt_of_le hs1 hb2.size
  clear hb2 HR1 hb1
  go_wp2_with (first
    | (with_reducible refine wpList_store_blkTo rfl 25 (.tmp 5) (.tmp 9) rfl rfl w2.heap.size (u8A hs) rfl rfl 25 _ (Blk.new w2 _ _) (by rw [HZ.out]; kernel_rfl) (by rw [HZ.out]; kernel_rfl) HONE.out ?_
       generalize hw3 : World.setRow _ _ _ = w3
       obtain ⟨hB3, hb3⟩ := store_new hw3 hb02))
  have hs3 : w3.heap.size = w2.heap.size + 1 := by rw [← hw3]; simp
  have HR3 := Lib.hid (show ∃ rs, Blk w3 w.heap.size rs 23 ∧ rs.size = 16 by obtain ⟨rs, h, hz⟩ := HR2.out; exact ⟨rs, by rw [← hw3]; exact (h.alloc _).rowOther (by omega) _, hz⟩)
  generalize hw4 : w3.alloc _ = w4
  obtain ⟨bk, hbk⟩ : ∃ y, w3.heap.size = y := ⟨_, rfl⟩
  obtain ⟨bh, hbh⟩ : ∃ y, w2.heap.size = y := ⟨_, rfl⟩
  have hK4 : Blk w4 bk (u8A (List.replicate 16 0)) 23 := by rw [← hw4, ← hbk]; exact Blk.new w3 (u8A (List.replicate 16 0)) 23
  have hH4 : Blk w4 bh (u8A hs) 25 := by rw [← hw4, ← hbh]; exact hB3.alloc _
  have hb4 : Below w.heap.size w w4 := by rw [← hw4]; exact hb3.alloc hb3.size _
  have HR4 := Lib.hid (show ∃ rs, Blk w4 w.heap.size rs 23 ∧ rs.size = 16 by obtain ⟨rs, h, hz⟩ := HR3.out; exact ⟨rs, by rw [← hw4]; exact h.alloc _, hz⟩)
  have hlt : w.heap.size < bh ∧ bh < bk := by omega
  rw [hbk, hbh]
  have HK4 := Lib.hid hK4
  have HH4 := Lib.hid hH4
  clear hw3 hB3 hb3 hs3 HR3 hw4 hbk hbh hK4 hH4 hb02 HR2
  go_still_tail 2, (by kernel_rfl)
  change wpList _ _ _ _ _ w4.drew
  have hcp : ∀ ty, (Builtin.copy_ #[26, 26] ty #[.slice (some ⟨bk, 0, none⟩) 16 16, .slice (some ⟨bh, 0, none⟩) 32 32]).run Tryd.prog w4.drew = .ok (.int .i64 16) (w4.drew.setRow bk (u8A (hs.take 16))) := fun ty => by
    have h := run_copy_row (P := Tryd.prog) w4.drew 26 26 ty 5 bk 0 16 16 ⟨bh, 0, none⟩ 32 32 (u8A (List.replicate 16 0)) 23 (Lib.byteCells (hs.take 16)) Tryd.underlying26 sizeByte' HK4.out (by rw [Lib.byteCells_length, List.length_take, HSL.out]; rfl)
      (Rd.cells (B := w4.heap.size) (.inr ⟨bh, 0, rfl, by have := HH4.out.lt; exact this, fun i hi => by
        rw [List.getElem_take]
        have hi2 : i < hs.length := by rw [List.length_take] at hi; omega
        have := HH4.out.cell (0 + i)
        rw [Nat.zero_add] at this ⊢
        refine Eq.trans this ?_
        simp [u8A, Lib.byteCells, hi2]⟩)) (by rw [Lib.byteCells_length, List.length_take, HSL.out, u8A_size]; simp) (Lib.byteCells_one _)
    rw [Lib.byteCells_length, List.length_take, HSL.out] at h
    refine h.trans ?_
    simp [goInt, u8A, Lib.byteCells]
  have hcp1 := hcp 3
  clear hcp
  obtain ⟨w5, hw5⟩ : ∃ y, w4.drew.setRow bk (u8A (hs.take 16)) = y := ⟨_, rfl⟩
  rw [hw5] at hcp1
  have hK5 : Blk w5 bk (u8A (hs.take 16)) 23 := by rw [← hw5]; exact Blk.row (w := w4.drew) HK4.out _
  have hb5 : Below w.heap.size w w5 := by rw [← hw5]; exact below_row (w := w4.drew) hb4.drew hb4.size (by omega) _
  obtain ⟨rs, hrs4, hrz⟩ := HR4.out
  have hrs5 : Blk w5 w.heap.size rs 23 := by rw [← hw5]; exact Blk.rowOther (w := w4.drew) hrs4 (by omega) _
  have hkz : (u8A (hs.take 16)).size = 16 := by rw [u8A_size, List.length_take, HSL.out]; rfl
  have hkone := u8A_one (hs.take 16)
  obtain ⟨fin, hfe⟩ : ∃ y, u8A (hs.take 16) = y := ⟨_, rfl⟩
  rw [hfe] at hkz hkone hK5
  have HFE := Lib.hid hfe
  have HKZ := Lib.hid hkz
  have HKONE := Lib.hid hkone
  have HRZ := Lib.hid hrz
  clear hw5 hrs4 hrz hkz hkone hfe HR4 hb4
  go_wp2_with (first
    | (with_reducible refine wpList_load_blk rfl 23 (.tmp 6) rfl bk rfl 23 fin _ hK5 Tryd.underlying23 rfl (by rw [HKZ.out]; kernel_rfl) ?_)
    | (with_reducible refine wpList_store_blk rfl 23 (.tmp 4) (.tmp 13) rfl w.heap.size fin rfl rfl 23 rs hrs5 (by rw [HKZ.out]; kernel_rfl) (by rw [HKZ.out, HRZ.out]) HKONE.out ?_))
  refine bodyPost_ret (v := .agg fin) (results_cell_row (p := 4) (ty := 23) (by kernel_rfl) _ _ w.heap.size 23 _ (0, 0) _ rfl (hrs5.row fin) Tryd.underlying23 rfl (by rw [HKZ.out]; kernel_rfl)) rfl ⟨by rw [HFE.out], below_row hb5 (by have := hb5.size; omega) (Nat.le_refl _) _⟩
end Go.Proofs.YtkkokngdhhakdaaDoor
