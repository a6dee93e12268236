/- The hash of what was written, as the program tells it. -/
import Derived.Test.YtdjnaeifmeffoaaDoorWrite
namespace Go.Proofs.YtdjnaeifmeffoaaDoor
open Go.RowKit

def u8A (bs : List UInt8) : Array Value := (Lib.byteCells bs).toArray
theorem u8A_size (bs : List UInt8) : (u8A bs).size = bs.length := by simp [u8A, Lib.byteCells]
theorem u8A_one (bs : List UInt8) : (u8A bs).all (·.oneCell') = true := by simp [u8A, Lib.byteCells, Value.oneCell']
theorem u8A_get {bs : List UInt8} {i : Nat} (h : i < bs.length) : ∃ v, (u8A bs)[i]? = some v := ⟨.int .u8 (bs[i].toNat : Int), by simp only [u8A, Lib.byteCells, List.getElem?_toArray, List.getElem?_map, List.getElem?_eq_getElem h, Option.map_some]⟩
theorem u8A_set (bs : List UInt8) (i : Nat) (x : UInt8) : (u8A bs).setIfInBounds i (.int .u8 (x.toNat : Int)) = u8A (bs.set i x) := by
  simp [u8A, Lib.byteCells, List.map_set]
def padB (k : Nat) (bs : List UInt8) : List UInt8 := bs ++ List.replicate (k - bs.length) 0
theorem padB_len {k : Nat} {bs : List UInt8} (h : bs.length ≤ k) : (padB k bs).length = k := by simp [padB]; omega
theorem padB_full {k : Nat} {bs : List UInt8} (h : bs.length = k) : padB k bs = bs := by simp [padB, h]
theorem padB_set {k : Nat} {bs : List UInt8} (h : bs.length < k) (x : UInt8) : (padB k bs).set bs.length x = padB k (bs ++ [x]) := by
  unfold padB
  rw [List.set_append_right _ _ (Nat.le_refl _), Nat.sub_self, List.length_append, List.length_singleton]
  obtain ⟨q, hq⟩ : ∃ q, k - bs.length = q + 1 := ⟨k - bs.length - 1, by omega⟩
  rw [hq, List.replicate_succ, List.set_cons_zero, show k - (bs.length + 1) = q by omega, List.append_assoc]
  rfl
theorem Blk.byte {w : World} {g n k : Nat} {bs : List UInt8} {T : TypeId} (h : Blk w g (u8A (padB k bs)) T) (hn : bs.length = n) (hk : n < k) {x : Int} {y : UInt8} (hx : x = (y.toNat : Int)) : Blk (w.setCell ⟨g, n, none⟩ (.int .u8 x)) g (u8A (padB k (bs ++ [y]))) T := by
  subst hn hx
  have := h.set bs.length (.int .u8 (y.toNat : Int))
  rwa [u8A_set, padB_set hk] at this

/-- The first i words' bytes. -/
def outTo (H : H8) (i : Nat) : List UInt8 := (((list8 H).take i).map wordBytes).flatten
theorem outTo_len (H : H8) (i : Nat) (h : i ≤ 8) : (outTo H i).length = 4 * i := by
  match i, h with
  | 0, _ | 1, _ | 2, _ | 3, _ | 4, _ | 5, _ | 6, _ | 7, _ | 8, _ => rfl
theorem outTo_succ (H : H8) (i : Nat) (h : i < 8) : outTo H (i + 1) = outTo H i ++ wordBytes ((list8 H).getD i 0) := by
  match i, h with
  | 0, _ | 1, _ | 2, _ | 3, _ | 4, _ | 5, _ | 6, _ | 7, _ => simp [outTo, list8]
/-- The j-th byte of a word. -/
def byteOf (x j : Nat) : UInt8 := UInt8.ofNat (x / 2 ^ (8 * (3 - j)))
theorem bytes_take (x j : Nat) (h : j < 4) : (wordBytes x).take (j + 1) = (wordBytes x).take j ++ [byteOf x j] := by
  match j, h with
  | 0, _ | 1, _ | 2, _ | 3, _ => simp [wordBytes, byteOf]
theorem bytes_len (x : Nat) : (wordBytes x).length = 4 := rfl

theorem RdN.of_own {w : World} {base g : Nat} {e : TypeId} {A : Option Addr} {n c : Nat} {l : List UInt8} (h : w.ownsRow base e 1 (.slice A n c) n (Lib.byteCells l)) (hg : g < base) : RdN w w.heap.size g A l := by
  have hr := Rd.of_own h
  rcases hr with hr | ⟨b, off, hA, hb, hc⟩
  · exact .inl hr
  · subst hA
    have := (h.lt b rfl).1
    exact .inr ⟨b, off, rfl, hb, by omega, hc⟩

theorem own_cap {w : World} {base : Nat} {e : TypeId} {A : Option Addr} {n c : Nat} {xs : List Value} (h : w.ownsRow base e 1 (.slice A n c) n xs) : n ≤ c := by
  obtain ⟨A', c', he, hc⟩ := own_slice h
  injection he with _ _ h3
  omega
theorem run_index_word (w : World) (cs : Array Value) (i : Nat) (v : Value) (hi : i < 8) (hv : cs[i]? = some v) : (Instr.index 53 (.agg cs) (.int .i64 (i : Int))).run Tryd.prog w = .ok v w := by
  have h1 : (Tryd.prog.info? 51).map (·.size) = some 1 := by kernel_rfl
  have h3 : Tryd.prog.underlying 51 = some (.int .u32) := Tryd.underlying51
  cases hq : Tryd.prog.info? 51 with
  | none => simp [hq] at h1
  | some j =>
    have hj : j.size = 1 := by simpa [hq] using h1
    simp [Instr.index, run_underlying Tryd.underlying53, asIntOf, hi, part, sizeOf, typeInfo, hq, hj, isAgg, run_underlying h3, hv]
theorem byte_val (X j : Nat) : (X : Int) / 2 ^ (8 * (3 - j)) % 256 = ((byteOf X j).toNat : Int) := by
  unfold byteOf
  rw [show (X : Int) / 2 ^ (8 * (3 - j)) = ((X / 2 ^ (8 * (3 - j)) : Nat) : Int) from by simp, UInt8.toNat_ofNat']
  omega
def zsha : Array Value := shaA ⟨0, 0, 0, 0, 0, 0, 0, 0⟩ (List.replicate 64 0) 0
theorem zsha_size : zsha.size = 73 := rfl
theorem zero_sha (W : World) : (zeroValue 57).run Tryd.prog W = .ok (.agg zsha) W := by
  have h : (Tryd.prog.info? 57).map (·.zero) = some (some (.agg zsha)) := by kernel_rfl
  cases hi : Tryd.prog.info? 57 with
  | none => simp [hi] at h
  | some i =>
    simp [hi] at h
    simp [zeroValue, typeInfo, hi, h]

theorem sum_start {w w3 : World} {c1 zs cs : Array Value} {T1 T : TypeId} (hw : ((w.alloc (.cells c1 T1)).alloc (.cells zs T)).setRow (w.heap.size + 1) cs = w3) : Blk w3 (w.heap.size + 1) cs T ∧ Blk w3 w.heap.size c1 T1 ∧ Below w.heap.size w w3 ∧ w3.heap.size = w.heap.size + 2 := by
  subst hw
  have h := (Blk.new (w.alloc (.cells c1 T1)) zs T).row cs
  rw [World.size_alloc] at h
  exact ⟨h, ((Blk.new w c1 T1).alloc _).rowOther (by omega) _, below_row (((Below.refl _ _).alloc (Nat.le_refl _) _).alloc (by simp) _) (by simp; omega) (by omega) _, by simp⟩

set_option maxRecDepth 100000 in
set_option maxHeartbeats 1000000 in
theorem shaSum_any (g : Nat) (m : List UInt8) (w : World) (hs : ShaAt w g m) (hm : m.length ≤ 900000) :
    Calls Tryd.prog 23 #[.pointer (some ⟨g, 0, none⟩)] w fun e w' => e = .returned (.agg (u8A (shaL m))) ∧ Below w.heap.size w w' := by
  obtain ⟨op, ho, hop, hblk⟩ := hs
  have HSZ := Lib.hid (shaA_size (blocksTo m (m.length / 64)) op m.length ho)
  have HONE := Lib.hid (show (shaA (blocksTo m (m.length / 64)) op m.length).all (·.oneCell') = true by simp [shaA, Lib.byteCells, Value.oneCell'])
  have hgl := hblk.lt
  obtain ⟨n, hn⟩ : ∃ n, m.length = n := ⟨_, rfl⟩
  obtain ⟨cs, hcs⟩ : ∃ cs, shaA (blocksTo m (m.length / 64)) op m.length = cs := ⟨_, rfl⟩
  have HS2 := Lib.hid (fun (W : World) (b : Nat) (h : Blk W b cs 57) => (show ShaAt W b m from ⟨op, ho, hop, by rw [hcs]; exact h⟩))
  have c72 := (hblk.cell 72).trans (shaA_count _ _ _ ho)
  have HN := Lib.hid hn
  rw [hcs] at HSZ HONE hblk
  rw [hn] at hm c72
  have hz0 := zero_sha
  obtain ⟨zs, hzs⟩ : ∃ x, zsha = x := ⟨_, rfl⟩
  have HZS := Lib.hid (show zs.size = 73 by rw [← hzs]; exact zsha_size)
  rw [hzs] at hz0
  clear hcs hn ho hop hzs
  go_enter Tryd.func23, Tryd.ntmps23
  go_wp2_with (first
    | (with_reducible refine wpList_load_blk rfl 57 (.tmp 9) rfl g rfl 57 cs _ (hblk.alloc _) Tryd.underlying57 rfl (by rw [HSZ.out]; kernel_rfl) ?_)
    | (with_reducible refine wpList_store_blkTo rfl 57 (.tmp 3) (.tmp 10) rfl rfl (w.heap.size + 1) cs rfl rfl 57 _ (by rw [← World.size_alloc w]; exact Blk.new _ _ _) (by rw [HSZ.out]; kernel_rfl) (by rw [HSZ.out, HZS.out]) HONE.out ?_
       generalize hw3 : World.setRow _ _ _ = w3
       obtain ⟨hB3, hR3, hb3, hs3⟩ := sum_start hw3
       have e72 := (hb3.cell (p := ⟨g, 72, none⟩) hgl).trans c72
       clear hw3))
  have HB3 := Lib.hid hB3
  have HR3 := Lib.hid (show ∃ rs, Blk w3 w.heap.size rs 29 ∧ rs.size = 32 from ⟨_, hR3, rfl⟩)
  have HS3 := Lib.hid hs3
  clear hB3 hR3 hs3 hz0 hblk c72
  refine (ending_any n _ (by omega)).mono ?_
  rintro e w4 ⟨v, c, rfl, hown, hb4⟩
  have hc := own_cap hown
  have hel := own_len hown
  have hcall := write_any (w.heap.size + 1) (zeros n + 9) c v (endL n) m w4 hel.symm hc (by rw [HN.out]; have := zeros_small n; omega) (RdN.of_own hown (by have := HS3.out; omega)) (HS2.out _ _ (HB3.out.below hb4 HB3.out.lt))
  rw [HN.out] at hcall
  have HCALL := Lib.hid hcall
  have hb34 := hb3.trans (hb4.mono (by have := HS3.out; omega))
  have HR4 := Lib.hid (show ∃ rs, Blk w4 w.heap.size rs 29 ∧ rs.size = 32 by obtain ⟨rs, h, hz⟩ := HR3.out; exact ⟨rs, h.below hb4 h.lt, hz⟩)
  have hs4 : w.heap.size + 2 ≤ w4.heap.size := by have := hb4.size; have := HS3.out; omega
  clear hcall hel hc hown hb4 hb3 e72
  go_wp2_with fail
  refine HCALL.out.mono ?_
  rintro e w5 ⟨rfl, hS5, hg5⟩
  have hb5 := hb34.trans (grown_in hg5 (B := w.heap.size) (by omega) (by omega))
  have HR5 := Lib.hid (show ∃ rs, Blk w5 w.heap.size rs 29 ∧ rs.size = 32 by obtain ⟨rs, h, hz⟩ := HR4.out; exact ⟨rs, h.grown hg5 (by simp), hz⟩)
  have hs5 := Nat.le_trans hs4 hg5.size
  have hpad : m ++ endL n = padL m := by rw [← HN.out]; exact endL_pad m
  rw [hpad] at hS5
  obtain ⟨op5, ho5, _, hblk5⟩ := hS5
  obtain ⟨H, hH⟩ : ∃ y, blocksTo (padL m) ((padL m).length / 64) = y := ⟨_, rfl⟩
  have HOK := Lib.hid (show H.ok by rw [← hH]; exact blocksTo_ok _ _)
  have HSHA := Lib.hid (show shaL m = outTo H 8 by rw [← hH]; rfl)
  rw [hH] at hblk5
  obtain ⟨k, hk⟩ : ∃ k, w.heap.size + 1 = k := ⟨_, rfl⟩
  rw [hk] at hblk5 ⊢
  have HRG := Lib.hid (fun (o : Obj) => (show (w5.alloc o).rangeAt k 0 (h8 H).toList from fun j v hv => by
    rw [Nat.zero_add, (hblk5.alloc o).cell j]
    have hj : j < 8 := by
      rcases Nat.lt_or_ge j 8 with h | h
      · exact h
      · rw [List.getElem?_eq_none (by show 8 ≤ j; exact h)] at hv; cases hv
    rw [shaA_word _ _ _ _ hj, ← hv]
    rw [Array.getElem?_toList]
    exact (u32A_get (ns := list8 H) (i := j) hj).symm))
  clear hpad HCALL hg5 hb34 hs4 HR4 hH hblk5
  go_wp2_with (with_reducible refine wpList_load_mid rfl 53 (.tmp 17) rfl k 0 rfl (h8 H).toList _ (HRG.out _) Tryd.underlying53 rfl (by kernel_rfl) ?_)
  generalize hw6 : w5.alloc _ = w6
  obtain ⟨kh, hkh⟩ : ∃ y, w5.heap.size = y := ⟨_, rfl⟩
  have HB6 := Lib.hid (show Blk w6 kh (u8A (padB 32 (outTo H 0))) 29 by
    subst hw6 hkh
    exact Blk.new w5 (u8A (padB 32 (outTo H 0))) 29)
  have hb6 : Below w.heap.size w w6 := by rw [← hw6]; exact hb5.alloc (by omega) _
  have HR6 := Lib.hid (show ∃ rs, Blk w6 w.heap.size rs 29 ∧ rs.size = 32 by obtain ⟨rs, h, hz⟩ := HR5.out; exact ⟨rs, by rw [← hw6]; exact h.alloc _, hz⟩)
  have hkw : w.heap.size < kh := by omega
  rw [hkh]
  clear hw6 hkh hb5 HR5 hs5 HRG hk ho5
  go_loopw [19] (fun t wr => ∃ i : Nat, i ≤ 8 ∧ t = .int .i64 i ∧ Below w.heap.size w wr ∧ Hid (Blk wr kh (u8A (padB 32 (outTo H i))) 29) ∧ Hid (∃ rs, Blk wr w.heap.size rs 29 ∧ rs.size = 32)) (fun t _ => 8 - (intOf t).toNat)
  case atStart => exact ⟨0, by omega, rfl, hb6, HB6, HR6⟩
  case round =>
    clear hb6 HB6 HR6
    obtain ⟨i, hi, rfl, hbel, HB, HR⟩ := hrel
    by_cases hlt : i < 8
    · have hidx : (h8 H)[i]? = some (.int .u32 ((list8 H).getD i 0 : Nat)) := u32A_get (ns := list8 H) hlt
      have hX := getD_lt (list8_lt HOK.out) i
      have HOS := Lib.hid (outTo_succ H i hlt)
      have HOL := Lib.hid (outTo_len H i (by omega))
      generalize (list8 H).getD i 0 = X at *
      have i8 : (i : Int) < 8 := by omega
      have hix := fun W => run_index_word W (h8 H) i _ hlt hidx
      clear hidx
      go_wp2_with fail
      clear hix
      obtain ⟨w7, rfl⟩ : ∃ y : World, y = wr := ⟨_, rfl⟩
      have HB0 := Lib.hid (show Blk w7 kh (u8A (padB 32 (outTo H i ++ (wordBytes X).take 0))) 29 by rw [List.take_zero, List.append_nil]; exact HB.out)
      go_loopw [23] (fun t wr => ∃ j : Nat, j ≤ 4 ∧ t = .int .i64 j ∧ Below w.heap.size w wr ∧ Hid (Blk wr kh (u8A (padB 32 (outTo H i ++ (wordBytes X).take j))) 29) ∧ Hid (∃ rs, Blk wr w.heap.size rs 29 ∧ rs.size = 32)) (fun t _ => 4 - (intOf t).toNat)
      case atStart => exact ⟨0, by omega, rfl, hbel, HB0, HR⟩
      case round =>
        clear hbel HB0 HR HB
        obtain ⟨j, hj, rfl, hbel, HB, HR⟩ := hrel
        by_cases hj4 : j < 4
        · have HBT := Lib.hid (bytes_take X j hj4)
          have HLN := Lib.hid (show (outTo H i ++ (wordBytes X).take j).length = 4 * i + j by rw [List.length_append, HOL.out, List.length_take, bytes_len]; omega)
          have hf := HB.out.frozen (4 * i + j)
          obtain ⟨old, hold⟩ := u8A_get (bs := padB 32 (outTo H i ++ (wordBytes X).take j)) (i := 4 * i + j) (by rw [padB_len (by rw [HLN.out]; omega)]; omega)
          have hc := (HB.out.cell (4 * i + j)).trans hold
          clear hold
          have g1 : (0 : Int) ≤ 4 * (i : Int) + (j : Int) := by omega
          have g2 : 4 * (i : Int) + (j : Int) < 32 := by omega
          have g3 : (4 * (i : Int) + (j : Int)).toNat = 4 * i + j := by omega
          have g4 : (0 : Int) ≤ 8 * (3 - (j : Int)) := by omega
          have g5 : (8 * (3 - (j : Int))).toNat = 8 * (3 - j) := by omega
          have j3 : (j : Int) ≤ 3 := by omega
          go_wp2_with fail
          go_roundw
          case rel =>
            refine ⟨j + 1, by omega, by go_num, hbel.setCell (by simp; omega) _, Lib.hid ?_, Lib.hid ?_⟩
            · rw [HBT.out, ← List.append_assoc]
              exact Blk.byte HB.out HLN.out (by omega) (byte_val X j)
            · obtain ⟨rs, h, hz⟩ := HR.out
              exact ⟨rs, h.other (by simp; omega) _, hz⟩
          case measure => simp [intOf]; omega
        · have HB8 := Lib.hid (show Blk wr kh (u8A (padB 32 (outTo H (i + 1)))) 29 by
            rw [HOS.out]
            have := HB.out
            rwa [List.take_of_length_le (by rw [bytes_len]; omega)] at this)
          clear HB
          go_wp2_with fail
          go_roundw
          case rel => exact ⟨i + 1, by omega, by go_num, hbel, HB8, HR⟩
          case measure => simp [intOf]; omega
    · have hB : Blk wr kh (u8A (shaL m)) 29 := by
        obtain rfl : i = 8 := (by omega)
        have := HB.out
        rwa [padB_full (outTo_len H 8 (by omega)), ← HSHA.out] at this
      have hsz : (u8A (shaL m)).size = 32 := by rw [u8A_size, HSHA.out, outTo_len H 8 (by omega)]
      have hone := u8A_one (shaL m)
      obtain ⟨fin, hfe⟩ : ∃ x, u8A (shaL m) = x := ⟨_, rfl⟩
      rw [hfe] at hB hsz hone
      have HFE := Lib.hid hfe
      have HZ := Lib.hid hsz
      have HONE2 := Lib.hid hone
      obtain ⟨rs, hrs, hrz⟩ := HR.out
      have HRZ := Lib.hid hrz
      have hin := hrs.lt
      clear hfe hsz hone hrz HB hi
      go_wp2_with (first
        | (with_reducible refine wpList_load_blk rfl 29 (.tmp 4) rfl kh rfl 29 fin _ hB Tryd.underlying29 rfl (by rw [HZ.out]; kernel_rfl) ?_)
        | (with_reducible refine wpList_store_blk rfl 29 (.tmp 2) (.tmp 39) rfl w.heap.size fin rfl rfl 29 rs hrs (by rw [HZ.out]; kernel_rfl) (by rw [HZ.out, HRZ.out]) HONE2.out ?_))
      refine bodyPost_ret (v := .agg fin) (results_cell_row (p := 2) (ty := 29) (by kernel_rfl) _ _ w.heap.size 29 _ (0, 0) _ rfl (hrs.row fin) Tryd.underlying29 rfl (by rw [HZ.out]; kernel_rfl)) rfl ⟨by rw [HFE.out], below_row hbel (by omega) (Nat.le_refl _) _⟩
end Go.Proofs.YtdjnaeifmeffoaaDoor
