/- The program's code of shares: made; a share's length; noughts behind; its matrix told. The program's code of shares: a list, times a byte, added to another. The program's code of shares: sums of lists, each times a byte; pieces cut; all shares. The program's code of shares: what Decode asks of shares, and its lists of their numbers and bytes. The program's code of shares: shares decoded. -/
import Derived.Test.YtdaofffkbnkljaaRsV
import Derived.Test.YtdaofffkbnkljaaPerm6
import Derived.Test.YtdaofffkbnkljaaPMx
import Derived.Test.YtdaofffkbnkljaaMxP
import Derived.Laws.CopyOwn
import Derived.Deep.DeepFit
import Derived.Test.YtdaofffkbnkljaaFreeL
import Derived.StillTailTactics
import Derived.Test.YtdaofffkbnkljaaBlobs
import Derived.BigQuiet
namespace Go.Proofs.Ytdaofffkbnkljaa
open Go.RowKit

theorem sizeByte5 : (Try.prog.info? 5).map (·.size) = some 1 := by kernel_rfl
/-- At g there is a code of k of n. -/
def CodeAt (w : World) (g k n : Nat) : Prop :=
  1 ≤ k ∧ k ≤ n ∧ n ≤ 16 ∧ ∃ A c fd, Blk w g #[.int .i64 (k : Int), .slice A n c, .pointer (some ⟨fd, 0, none⟩)] 61 ∧ n ≤ c ∧ FdAt w fd ∧ ∀ G, Gen k G → RdR w w.heap.size A (rowsL G 0 k n)
theorem CodeAt.on {w w' : World} {g k n : Nat} (h : CodeAt w g k n) (hb : Below w.heap.size w w') : CodeAt w' g k n := by
  obtain ⟨h1, h2, h3, A, c, fd, h4, h5, h6, h7⟩ := h
  exact ⟨h1, h2, h3, A, c, fd, h4.below hb h4.lt, h5, h6.below hb h6.lt, fun G hG => ((h7 G hG).below hb (Nat.le_refl _)).more hb.size⟩

theorem over_any (size : Int) (k : Nat) (w : World) (h0 : -9223372036854775808 ≤ size) (h1 : size ≤ 9223372036854775807) (hk : 1 ≤ k) (hk2 : k ≤ 1000) :
    Calls Try.prog 42 #[.int .i64 size, .int .i64 (k : Int)] w fun e w' => e = .returned (.int .i64 (lenI size k)) ∧ w = w' := by
  by_cases h : size < 1
  · have HL := Lib.hid (show lenI size k = 0 from if_pos h)
    have hs : size ≤ 0 := by omega
    clear h
    go_enter Try.func42, Try.ntmps42
    go_wp2_with fail
    go_ret
    exact ⟨by rw [HL.out]; rfl, rfl⟩
  · have HL := Lib.hid (show lenI size k = (size - 1) / (k : Int) + 1 from if_neg h)
    have hk1 : (0 : Int) < (k : Int) := by omega
    have hkz : ¬ (k : Int) = 0 := by omega
    have hs : (0 : Int) ≤ size - 1 := by omega
    have hs2 : ¬ size ≤ 0 := by omega
    have hq0 : 0 ≤ (size - 1) / (k : Int) := Int.ediv_nonneg hs (by omega)
    have hq1 : (size - 1) / (k : Int) ≤ size - 1 := Int.ediv_le_self _ hs
    go_enter Try.func42, Try.ntmps42
    go_wp2_with fail
    go_ret
    exact ⟨by rw [HL.out]; rfl, rfl⟩

theorem clen_any {w : World} {g k n : Nat} (size : Int) (h : CodeAt w g k n) (h0 : -9223372036854775808 ≤ size) (h1 : size ≤ 9223372036854775807) :
    Calls Try.prog 25 #[.pointer (some ⟨g, 0, none⟩), .int .i64 size] w fun e w' => e = .returned (.int .i64 (lenI size k)) ∧ Below w.heap.size w w' := by
  obtain ⟨hk, hkn, hn, A, c, fd, hB, _, _, _⟩ := h
  have hk0 := hB.cell 0
  have HO := Lib.hid (fun W => over_any size k W h0 h1 hk (by omega))
  simp at hk0
  go_enter Try.func25, Try.ntmps25
  go_wp2_with fail
  with_reducible refine (HO.out _).mono ?_
  rintro e w1 ⟨rfl, rfl⟩
  go_wp2_with fail
  go_ret
  exact ⟨rfl, Below.refl _ _⟩

theorem cnew_no (k n : Int) (w : World) (h : k < 1 ∨ n < k ∨ 16 < n) :
    Calls Try.prog 13 #[.int .i64 k, .int .i64 n] w fun e w' => e = .returned (.tuple #[.pointer none, .int .i64 1]) ∧ Below w.heap.size w w' := by
  by_cases h1 : k < 1
  · clear h
    go_enter Try.func13, Try.ntmps13
    go_wp2_with fail
    go_ret2
    exact ⟨rfl, Below.refl _ _⟩
  · by_cases h2 : n < k
    · clear h
      go_enter Try.func13, Try.ntmps13
      go_wp2_with fail
      go_ret2
      exact ⟨rfl, Below.refl _ _⟩
    · have h3 : 16 < n := by omega
      clear h
      go_enter Try.func13, Try.ntmps13
      go_wp2_with fail
      go_ret2
      exact ⟨rfl, Below.refl _ _⟩

theorem vanL_nat {n k : Nat} (h1 : 1 ≤ n) (h2 : n ≤ 16) (h3 : 1 ≤ k) (h4 : k ≤ 16) : vanL (n : Int) (k : Int) = rowsL vdM 0 k n := by
  unfold vanL
  rw [if_pos (by omega), Int.toNat_natCast, Int.toNat_natCast]
set_option maxRecDepth 100000 in
set_option maxHeartbeats 1000000 in
theorem cnew_yes (k n : Nat) (w : World) (h1 : 1 ≤ k) (h2 : k ≤ n) (h3 : n ≤ 16) :
    Calls Try.prog 13 #[.int .i64 (k : Int), .int .i64 (n : Int)] w fun e w' => ∃ g, e = .returned (.tuple #[.pointer (some ⟨g, 0, none⟩), .int .i64 0]) ∧ CodeAt w' g k n ∧ Below w.heap.size w w' := by
  have HV := Lib.hid (pvan_any (n : Int) (k : Int) w)
  rw [vanL_nat (by omega) h3 h1 (by omega)] at HV
  have d1 : ¬ (k : Int) < 1 := by omega
  have d2 : ¬ (n : Int) < (k : Int) := by omega
  have d3 : ¬ (16 : Int) < (n : Int) := by omega
  have hk0 : (0 : Int) ≤ (k : Int) := by omega
  go_enter Try.func13, Try.ntmps13
  go_wp2_with fail
  with_reducible refine (HV.out).mono ?_
  rintro e w1 ⟨v, rfl, ⟨X, c, rfl, hc, hr⟩, hb1⟩
  rw [rowsL_len] at hc ⊢
  have hkc : (k : Int) ≤ (c : Int) := by omega
  have hr2 := hr.take k
  rw [rowsL_take vdM 0 k h2] at hr2
  have HI := Lib.hid (pinv_any (MV.mk (rowsL_len vdM 0 k k) (show k ≤ c by omega) hr2))
  have HR := Lib.hid (show MV w1 (.slice X n c) (rowsL vdM 0 k n) from MV.mk (rowsL_len _ _ _ _) hc hr)
  have HB1 := Lib.hid hb1
  clear hr hr2 hb1 HV
  go_wp2_with fail
  with_reducible refine (HI.out).mono ?_
  rintro e w2 ⟨v2, er, rs, rfl, hinv, hv2, hb2⟩
  rcases inv_cases (sqL_rows vdM 0 k) h1 (by omega) hinv with ⟨rfl, hs, hi⟩ | ⟨_, _, hnf⟩
  · have hok : mulOK (rowsL vdM 0 k n) rs := ⟨isMx_rows vdM (by omega) h3 h1 (by omega), hs.isMx h1 (by omega), by rw [row_at vdM k (show 0 < n by omega), rowL_len, hs.1]⟩
    have HM := Lib.hid (pmul_any (HR.out.on hb2) hv2)
    rw [show mulE (rowsL vdM 0 k n) rs = 0 from if_pos hok, show mulL (rowsL vdM 0 k n) rs = rowsL (mmN k (entM (rowsL vdM 0 k n)) (entM rs)) 0 k n by unfold mulL; rw [if_pos hok, hs.1, hs.first h1, rowsL_len]] at HM
    have HG := Lib.hid (fun G (hG : Gen k G) => gen_prod (n := n) hG hi)
    have HB2 := Lib.hid (HB1.out.trans (hb2.mono HB1.out.size))
    clear hinv hv2 hb2 hs hi hok HI HR HB1
    go_wp2_with fail
    with_reducible refine (HM.out).mono ?_
    rintro e w3 ⟨v3, rfl, ⟨Z, cz, rfl, hcz, hrz⟩, hb3⟩
    rw [rowsL_len] at hcz ⊢
    have HZ := Lib.hid hrz
    have HB3 := Lib.hid (HB2.out.trans (hb3.mono HB2.out.size))
    clear hrz hb3 HM HB2
    go_wp2_with fail
    with_reducible refine (fnew_any w3).mono ?_
    rintro e w4 ⟨fd, rfl, _, hf, hb4⟩
    have HZ4 := Lib.hid ((HZ.out.below hb4 (Nat.le_refl _)).more hb4.size)
    have HF := Lib.hid hf
    have HB4 := Lib.hid (HB3.out.trans (hb4.mono HB3.out.size))
    clear hf hb4 HZ HB3
    go_wp2_with fail
    go_ret2
    refine ⟨_, rfl, ⟨h1, h2, h3, Z, cz, fd, heap_alloc_new _ _, hcz, FdAt.below HF.out ((Below.refl _ _).alloc (Nat.le_refl _) _) HF.out.lt, fun G hG => ?_⟩, HB4.out.alloc HB4.out.size _⟩
    rw [← HG.out G hG]
    exact (HZ4.out.below ((Below.refl _ _).alloc (Nat.le_refl _) _) (Nat.le_refl _)).more (by simp)
  · exact absurd (vd_faithful (by omega)) hnf

set_option maxRecDepth 100000 in
set_option maxHeartbeats 1000000 in
theorem cmat_any {w : World} {g k n : Nat} {G : Mx} (hG : Gen k G) (h : CodeAt w g k n) :
    Calls Try.prog 21 #[.pointer (some ⟨g, 0, none⟩)] w fun e w' => ∃ x, e = .returned x ∧ MV w' x (rowsL G 0 k n) ∧ Below w.heap.size w w' := by
  obtain ⟨hk, hkn, hn, A, c, fd, hB, hc, _, hR⟩ := h
  have hl1 : w.cell? ⟨g, 1, none⟩ = some (.slice A n c) := hB.cell 1
  have hr := hR G hG
  have hgl := hB.lt
  obtain ⟨i1, hi', hz0', hz1', hz2'⟩ := info_parts infoSlice
  have hmk2 := fun W => run_make (P := Try.prog) W 29 22 i1 (.slice none 0 0) Try.underlying29 hi' hz0' .i64 .i64 (n : Int) (n : Int) (by omega) (by omega) (by rw [hz2']; omega) (by omega)
  simp only [hz1', Nat.mul_one] at hmk2
  have hl2 : (w.alloc (.cells (madeCells #[Value.slice none 0 0] n) 22)).cell? ⟨g, 1, none⟩ = some (.slice A n c) := (World.cell?_alloc_lt w _ _ hgl).trans hl1
  clear hR hB hi' hz0' hz1' hz2' hgl
  go_enter Try.func21, Try.ntmps21
  go_wp2_with fail
  have HH0 := Lib.hid (MxH.new w n)
  have hb0 : Below w.heap.size w (w.alloc (.cells (madeCells #[Value.slice none 0 0] n) 22)) := (Below.refl _ _).alloc (Nat.le_refl _) _
  have HM0 := Lib.hid (MxW.noRows (β := fun _ => 0) (γ := fun _ => 0) _ (Nat.le_refl w.heap.size) HH0.out k G)
  obtain ⟨q, hq⟩ : ∃ q, w.heap.size = q := ⟨_, rfl⟩
  generalize w.alloc (.cells (madeCells #[Value.slice none 0 0] n) 22) = w1 at *
  have HQ := Lib.hid hq
  rw [hq] at HM0 HH0 hb0 hr ⊢
  clear hq hmk2 hl1 hl2
  go_loopw [17] (fun t wr => ∃ (i : Nat) (β γ : Nat → Nat), i ≤ n ∧ t = .int .i64 i ∧ Below q w wr ∧ q ≤ wr.heap.size ∧ Hid (MxW wr q q β γ i k G) ∧ Hid (MxH wr q n)) (fun t _ => n - (intOf t).toNat)
  case atStart => exact ⟨0, _, _, by omega, rfl, hb0, by have := HH0.out.lt; omega, HM0, HH0⟩
  case round =>
    clear hb0 HM0 HH0
    obtain ⟨i, β, γ, hin, rfl, hbel, hgs, HM, HH⟩ := hrel
    by_cases hlt : i < n
    · have hii : (i : Int) < (n : Int) := by omega
      have hil : i < (rowsL G 0 k n).length := by rw [rowsL_len]; exact hlt
      obtain ⟨b, off, A1, c1, rfl, hbs, hcx, hlc, hcm, hrd⟩ := hr.at_ i hil
      rw [show (rowsL G 0 k n)[i] = rowL G 0 k i by simp [rowsL]] at hrd hcx hlc
      rw [rowL_len] at hcx hlc
      have hcc := (hbel.cell (p := ⟨b, off + i, none⟩) hbs).trans hcx
      have HCL := Lib.hid (clone_any A1 k c1 _ (rowL G 0 k i) wr (rowL_len _ _ _ _) hk (by omega) (hrd.below hbel (Nat.le_refl _)))
      clear hcx hrd hlc hil
      go_wp2_with fail
      with_reducible refine (HCL.out).mono ?_
      rintro e w4 ⟨A4, c4, rfl, hc41, hc42, hown4, hb4⟩
      rcases hown4.2 with ⟨_, e0⟩ | ⟨g4, cap4, cur4, e4, hg4, hblk4, hnc4, _, hsz4, ht4⟩
      · omega
      · injection e4 with e41 e42 e43
        subst e41 e43
        have HM4 := HM.out.below hb4
        have HH4 := HH.out.below hb4
        obtain ⟨o, ho⟩ := HH4.at_ hlt
        have hfz := HH4.free i
        have hle4 := hb4.size
        have HM5 := Lib.hid (HM4.row_in HH4 hlt hblk4 (Nat.le_trans hgs hg4) hc41 hc42 (fun j hj => by
          obtain ⟨_, _, _, rc, a4, _⟩ := HM.out.rows j hj
          have := a4.lt
          omega) (f' := G) (fun _ _ _ _ => rfl) (fun j hj => by
          have e := congrArg (fun l : List Value => l[j]?) ht4
          simp only [Nat.mul_one] at e
          rw [List.getElem?_take, if_pos hj, Array.getElem?_toList] at e
          rw [e]
          simp [Lib.byteCells, rowL, hj]))
        have HH5 := Lib.hid (HH4.put i (.slice (some ⟨g4, 0, none⟩) k c4))
        have hbel5 : Below q w (w4.setCell ⟨q, i, none⟩ (.slice (some ⟨g4, 0, none⟩) k c4)) := (hbel.trans (hb4.mono hgs)).setCell (Nat.le_refl _) _
        have hgs5 : q ≤ (w4.setCell ⟨q, i, none⟩ (.slice (some ⟨g4, 0, none⟩) k c4)).heap.size := by simp; omega
        clear HM HH HM4 HH4 hbel hgs hcc HCL hb4 hle4 hown4 hblk4 ht4 hg4
        go_wp2_with fail
        go_roundw
        case rel => exact ⟨i + 1, _, _, by omega, by go_num, hbel5, hgs5, HM5, HH5⟩
        case measure => simp [intOf]; omega
    · obtain rfl : i = n := by omega
      have HMV := Lib.hid (HM.out.mv (Nat.le_refl i))
      have hni : ¬ (i : Int) < (i : Int) := by omega
      clear HM HH
      go_wp2_with fail
      go_ret
      exact ⟨_, rfl, HMV.out, by rw [HQ.out]; exact hbel⟩

set_option maxRecDepth 100000 in
set_option maxHeartbeats 1000000 in
theorem cpad_blk {w : World} {y : Value} {b : List UInt8} (k : Int) (hy : BV w y b) (hb : b.length ≤ 1000) (hk : k ≤ 1000) :
    Calls Try.prog 19 #[y, .int .i64 k] w fun e w' => ∃ g, e = .returned (.slice (some ⟨g, 0, none⟩) (shL b (max k 1).toNat).length (shL b (max k 1).toNat).length) ∧ Blk w' g (u8A (shL b (max k 1).toNat)) 5 ∧ Below w.heap.size w w' := by
  obtain ⟨X, c, rfl, hc, hr⟩ := hy
  obtain ⟨K, hK⟩ : ∃ K : Nat, (max k 1).toNat = K := ⟨_, rfl⟩
  have hK1 : 1 ≤ K := by omega
  have hK2 : K ≤ 1000 := by omega
  rw [hK]
  obtain ⟨z, hz⟩ : ∃ z, b.length = z := ⟨_, rfl⟩
  have HO := Lib.hid (fun W => over_any (z : Int) K W (by omega) (by omega) hK1 hK2)
  rw [← hz, lenI_seg b hK1, hz] at HO
  obtain ⟨i0, hi, hz0, hz1, hz2⟩ := info_parts info5
  obtain ⟨s, hs⟩ : ∃ s, segN b K = s := ⟨_, rfl⟩
  have HS := Lib.hid (seg_mul b hK1)
  rw [hs] at HS HO
  obtain ⟨p, hp⟩ : ∃ p, s * K = p := ⟨_, rfl⟩
  have hsp : (s : Int) * (K : Int) = (p : Int) := by rw [← hp]; simp
  have hpl : (shL b K).length = p := by rw [HS.out, Nat.mul_comm]; exact hp
  have hp2 : p ≤ 2000 := by have := shL_len b K; have := shN_lt b.length hK1; omega
  have hmk := fun W => run_make (P := Try.prog) W 22 5 i0 (.int .u8 0) Try.underlying22 hi hz0 .i64 .i64 (p : Int) (p : Int) (by omega) (by omega) (by rw [hz2]; omega) (by omega)
  simp only [hz1, Nat.mul_one] at hmk
  have hp3 : ¬ (2147483647 : Int) < (p : Int) := by omega
  rw [hz]
  have hmx : max k 1 = (K : Int) := by omega
  have hzp : z ≤ p := by have := shL_len b K; omega
  have HP := Lib.hid hpl
  have HB := Lib.hid hz
  clear hz hs hp hpl hK hk hb hi hz0 hz1 hz2
  go_enter Try.func19, Try.ntmps19
  go_wp2_with fail
  with_reducible refine (HO.out _).mono ?_
  rintro e w1 ⟨rfl, rfl⟩
  have hsz0 : (madeCells #[Value.int IntKind.u8 0] p).size = p := size_madeCells _ _
  go_wp2_with (with_reducible refine wpList_copy_splice rfl (.tmp 19) (.tmp 20) 22 22 rfl 5 Try.underlying22 sizeByte5 _ _ _ _ _ _ rfl rfl w.heap.size 0 (madeCells #[Value.int IntKind.u8 0] p).toList 5 ?hg (Lib.byteCells b) ?hn ?hpos ?hfit ?h1 w.heap.size w ?hb (Nat.le_refl _) ?_)
  case hg => rw [Array.toArray_toList]; exact heap_alloc_new w _
  case hn => rw [Lib.byteCells_length, HB.out]; exact (Nat.min_eq_left hzp).symm
  case hpos =>
    intro hp
    have hr2 := hr.alloc (Nat.le_refl _) (.cells (madeCells #[Value.int IntKind.u8 0] p) 5)
    rcases hr with rfl | ⟨b, off, rfl, hb, hc⟩
    · simp [Lib.byteCells] at hp
    · exact ⟨_, rfl, Rd.cells hr2⟩
  case hfit => rw [Lib.byteCells_length, HB.out]; simp [hsz0]; omega
  case h1 => exact Lib.byteCells_one b
  case hb => exact (Below.refl _ _).alloc (Nat.le_refl _) _
  intro w1 hH hb1
  have HBL := Lib.hid (show Blk w1 w.heap.size (u8A (shL b K)) 5 by
    have h := hH.out
    unfold splice at h
    simp only [List.take_zero, List.nil_append, Nat.zero_add, Lib.byteCells_length, HB.out] at h
    rw [toList_madeCells_one, List.drop_replicate] at h
    have e : u8A (shL b K) = (Lib.byteCells b ++ List.replicate (p - z) (Value.int .u8 0)).toArray := by
      have h2 := shL_len b K
      rw [HP.out, HB.out] at h2
      have h3 : shL b K = b ++ List.replicate (p - z) 0 := by unfold shL; rw [HB.out]; congr 2; omega
      rw [h3]
      simp [u8A, Lib.byteCells]
    rw [e]
    exact h)
  clear hH
  go_wp2_with fail
  go_ret
  exact ⟨_, by rw [HP.out]; rfl, HBL.out, hb1⟩
theorem cpad_any {w : World} {y : Value} {b : List UInt8} (k : Int) (hy : BV w y b) (hb : b.length ≤ 1000) (hk : k ≤ 1000) :
    Calls Try.prog 19 #[y, .int .i64 k] w fun e w' => ∃ x, e = .returned x ∧ BV w' x (shL b (max k 1).toNat) ∧ Below w.heap.size w w' :=
  (cpad_blk k hy hb hk).mono fun _ _ ⟨_, he, hB, hb⟩ => ⟨_, he, BV.of_blk hB rfl, hb⟩
end Go.Proofs.Ytdaofffkbnkljaa
namespace Go.Proofs.Ytdaofffkbnkljaa
open Go.RowKit

/-- cur, to whose first j bytes x times those of o have been added. -/
def addL (cur : List UInt8) (x : UInt8) (o : List UInt8) (j : Nat) : List UInt8 := (List.range cur.length).map fun q => if q < j then cur.getD q 0 ^^^ mulU x (o.getD q 0) else cur.getD q 0
theorem addL_len (cur : List UInt8) (x : UInt8) (o : List UInt8) (j : Nat) : (addL cur x o j).length = cur.length := by simp [addL]
theorem addL_zero (cur : List UInt8) (x : UInt8) (o : List UInt8) : addL cur x o 0 = cur := by
  apply List.ext_getElem (addL_len _ _ _ _)
  intro q h1 h2
  simp [addL, List.getD_eq_getElem?_getD, h2]
theorem addL_at (cur : List UInt8) (x : UInt8) (o : List UInt8) {j : Nat} (h : j < cur.length) : (addL cur x o j).getD j 0 = cur.getD j 0 := by
  unfold addL
  rw [map_getD _ _ j h, if_neg (by omega)]
theorem addL_step (cur : List UInt8) (x : UInt8) (o : List UInt8) (j : Nat) : (addL cur x o j).set j (cur.getD j 0 ^^^ mulU x (o.getD j 0)) = addL cur x o (j + 1) := by
  apply List.ext_getElem (by rw [List.length_set, addL_len, addL_len])
  intro q h1 h2
  rw [List.getElem_set]
  simp only [addL, List.getElem_map, List.getElem_range]
  by_cases h : j = q
  · subst h
    rw [if_pos rfl, if_pos (by omega)]
  · rw [if_neg h]
    by_cases h3 : q < j
    · rw [if_pos h3, if_pos (by omega)]
    · rw [if_neg h3, if_neg (by omega)]

set_option maxRecDepth 100000 in
set_option maxHeartbeats 4000000 in
theorem caddT_any {w : World} {g fd b l co : Nat} {Ao : Option Addr} (x : UInt8) (cur o : List UInt8) (hp : w.cell? ⟨g, 2, none⟩ = some (.pointer (some ⟨fd, 0, none⟩))) (hg : g < b) (hf : FdAt w fd) (hfb : fd < b) (hB : Blk w b (u8A cur) 5) (hcl : cur.length = l) (hol : o.length = l) (hr : Rd w b Ao o) (hl : l ≤ 100000) :
    Calls Try.prog 61 #[.pointer (some ⟨g, 0, none⟩), .slice (some ⟨b, 0, none⟩) l l, .int .u8 (x.toNat : Int), .slice Ao l co] w fun e w' => e = .returned (.tuple #[]) ∧ Blk w' b (u8A (addL cur x o l)) 5 ∧ Below b w w' := by
  have HB0 := Lib.hid (show Blk w b (u8A (addL cur x o 0)) 5 by rw [addL_zero]; exact hB)
  have HCL := Lib.hid hcl
  have HOL := Lib.hid hol
  have HF := Lib.hid hf
  have HP := Lib.hid hp
  have hbl : b < w.heap.size := hB.lt
  clear hB hcl hol hf hp
  go_enter Try.func61, Try.ntmps61
  go_wp2_with fail
  go_loopw [12] (fun t wr => ∃ j : Nat, j ≤ l ∧ t = .int .i64 j ∧ Below b w wr ∧ Hid (Blk wr b (u8A (addL cur x o j)) 5)) (fun t _ => l - (intOf t).toNat)
  case atStart => exact ⟨0, by omega, rfl, Below.refl _ _, HB0⟩
  case round =>
    clear HB0
    obtain ⟨j, hj, rfl, hbel, HB⟩ := hrel
    by_cases hjl : j < l
    · have hji : (j : Int) < (l : Int) := by omega
      have hjo : j < o.length := by rw [HOL.out]; exact hjl
      obtain ⟨b3, o3, rfl, hb3, hc3⟩ := hr.at_ j hjo
      have hc4 := (hbel.cell (p := ⟨b3, o3 + j, none⟩) hb3).trans hc3
      obtain ⟨z2, hz2⟩ : ∃ z, o[j] = z := ⟨_, rfl⟩
      rw [hz2] at hc4
      have HZZ := Lib.hid (show o.getD j 0 = z2 by rw [← hz2]; simp [List.getD_eq_getElem?_getD, hjo])
      have hjc : j < cur.length := by rw [HCL.out]; exact hjl
      have HZ1 := Lib.hid (fun w' (hb : Below wr.heap.size wr w') => (show w'.cell? ⟨b, j, none⟩ = some (.int .u8 ((cur.getD j 0).toNat : Int)) by
        have := (HB.out.below hb HB.out.lt).byteAt (i := j) (by rw [addL_len]; exact hjc)
        rwa [addL_at cur x o hjc] at this))
      have HFP := Lib.hid (fun w' (hb : Below wr.heap.size wr w') => (show w'.cell? ⟨g, 2, none⟩ = some (.pointer (some ⟨fd, 0, none⟩)) from
        (hb.cell (p := ⟨g, 2, none⟩) (Nat.lt_trans hg HB.out.lt)).trans ((hbel.cell (p := ⟨g, 2, none⟩) hg).trans HP.out)))
      have HMU := Lib.hid (fun w' (hb : Below wr.heap.size wr w') => fmul_any fd x z2 w' ((HF.out.below hbel hfb).below hb (Nat.lt_trans hfb HB.out.lt)))
      have HAD := Lib.hid (fun w' => add_any (cur.getD j 0) (mulU x z2) w')
      have HST := Lib.hid (addL_step cur x o j)
      rw [HZZ.out] at HST
      generalize cur.getD j 0 ^^^ mulU x z2 = zs at *
      generalize mulU x z2 = zy at *
      generalize cur.getD j 0 = z1 at *
      clear hz2 hc3 HZZ hjc hjo
      go_wp2_with fail
      refine wp_region_loose 15 1 (fun i => false) (promises [.is (.slice (some ⟨b, 0, none⟩) l l), .is (.int .i64 (j : Int)), .is (.slice (some ⟨b, 0, none⟩) l l), .is (.int .i64 (j : Int)), .is (.pointer (some ⟨b, j, none⟩)), .is (.int .u8 (z1.toNat : Int)), .is (.pointer (some ⟨g, 0, none⟩)), .is (.pointer (some ⟨g, 0, none⟩)), .is (.pointer (some ⟨g, 2, none⟩)), .is (.pointer (some ⟨fd, 0, none⟩)), .is (.int .u8 (x.toNat : Int)), .is (.int .u8 (z2.toNat : Int)), .is (.int .u8 (zy.toNat : Int)), .is (.int .u8 (zs.toNat : Int)), .is (.pointer (some ⟨b, j, none⟩))]) (by kernel_rfl) rfl (by kernel_rfl) (fun i v w w' h hb => Spec.keep h hb) ⟨?_, ?_, ?_, ?_, ?_, ?_, ?_, ?_, ?_, ?_, ?_, ?_, ?_, ?_, ?_, trivial⟩ ?_
      · refine StepOKl.of ?_
        intro ac w hb hu hk
        refine ⟨wanted_none rfl, ?_⟩
        have e1 : ac.eval (.tmp 1) = .slice (some ⟨b, 0, none⟩) l l := hu.is (t := 1) (by kernel_rfl)
        exact step_value (BigFrame.run_move (.tmp 1) rfl w) (Below.refl _ _) e1
      · refine StepOKl.of ?_
        intro ac w hb hu hk
        refine ⟨wanted_none rfl, ?_⟩
        have e8 : ac.eval (.tmp 8) = .int .i64 (j : Int) := hu.is (t := 8) (by kernel_rfl)
        exact step_value (BigFrame.run_move (.tmp 8) rfl w) (Below.refl _ _) e8
      · refine StepOKl.of ?_
        intro ac w hb hu hk
        refine ⟨wanted_none rfl, ?_⟩
        have e1 : ac.eval (.tmp 1) = .slice (some ⟨b, 0, none⟩) l l := hu.is (t := 1) (by kernel_rfl)
        exact step_value (BigFrame.run_move (.tmp 1) rfl w) (Below.refl _ _) e1
      · refine StepOKl.of ?_
        intro ac w hb hu hk
        refine ⟨wanted_none rfl, ?_⟩
        have e8 : ac.eval (.tmp 8) = .int .i64 (j : Int) := hu.is (t := 8) (by kernel_rfl)
        exact step_value (BigFrame.run_move (.tmp 8) rfl w) (Below.refl _ _) e8
      · refine StepOKl.of ?_
        intro ac w hb hu hk
        refine ⟨wanted_none rfl, ?_⟩
        have e19 : ac.eval (.tmp 19) = (.slice (some ⟨b, 0, none⟩) l l) := (hk ⟨2, .data⟩ (by simp) rfl).is rfl rfl
        have e20 : ac.eval (.tmp 20) = (.int .i64 (j : Int)) := (hk ⟨3, .data⟩ (by simp) rfl).is rfl rfl
        refine step_value (w' := w) (v := (.pointer (some ⟨b, j, none⟩))) ?_ (Below.refl _ _) rfl
        generalize ac.eval = ρ at e19 e20 ⊢
        go_simp
      · refine StepOKl.of ?_
        intro ac w hb hu hk
        refine ⟨wanted_none rfl, ?_⟩
        have e21 : ac.eval (.tmp 21) = (.pointer (some ⟨b, j, none⟩)) := (hk ⟨4, .data⟩ (by simp) rfl).is rfl rfl
        have hcx := HZ1.out w hb
        refine step_value (w' := w) (v := .int .u8 (z1.toNat : Int)) ?_ (Below.refl _ _) rfl
        generalize ac.eval = ρ at e21 ⊢
        go_simp
      · refine StepOKl.of ?_
        intro ac w hb hu hk
        refine ⟨wanted_none rfl, ?_⟩
        have e0 : ac.eval (.tmp 0) = .pointer (some ⟨g, 0, none⟩) := hu.is (t := 0) (by kernel_rfl)
        exact step_value (BigFrame.run_move (.tmp 0) rfl w) (Below.refl _ _) e0
      · refine StepOKl.of ?_
        intro ac w hb hu hk
        refine ⟨wanted_none rfl, ?_⟩
        have e23 : ac.eval (.tmp 23) = (.pointer (some ⟨g, 0, none⟩)) := (hk ⟨6, .data⟩ (by simp) rfl).is rfl rfl
        refine step_value (w' := w) (v := (.pointer (some ⟨g, 0, none⟩))) ?_ (Below.refl _ _) rfl
        generalize ac.eval = ρ at e23 ⊢
        go_simp
      · refine StepOKl.of ?_
        intro ac w hb hu hk
        refine ⟨wanted_none rfl, ?_⟩
        have e24 : ac.eval (.tmp 24) = (.pointer (some ⟨g, 0, none⟩)) := (hk ⟨7, .data⟩ (by simp) rfl).is rfl rfl
        refine step_value (w' := w) (v := (.pointer (some ⟨g, 2, none⟩))) ?_ (Below.refl _ _) rfl
        generalize ac.eval = ρ at e24 ⊢
        go_simp
      · refine StepOKl.of ?_
        intro ac w hb hu hk
        refine ⟨wanted_none rfl, ?_⟩
        have e25 : ac.eval (.tmp 25) = (.pointer (some ⟨g, 2, none⟩)) := (hk ⟨8, .data⟩ (by simp) rfl).is rfl rfl
        have hcx := HFP.out w hb
        refine step_value (w' := w) (v := .pointer (some ⟨fd, 0, none⟩)) ?_ (Below.refl _ _) rfl
        generalize ac.eval = ρ at e25 ⊢
        go_simp
      · refine StepOKl.of ?_
        intro ac w hb hu hk
        refine ⟨wanted_none rfl, ?_⟩
        have e2 : ac.eval (.tmp 2) = .int .u8 (x.toNat : Int) := hu.is (t := 2) (by kernel_rfl)
        exact step_value (BigFrame.run_move (.tmp 2) rfl w) (Below.refl _ _) e2
      · refine StepOKl.of ?_
        intro ac w hb hu hk
        refine ⟨wanted_none rfl, ?_⟩
        have e9 : ac.eval (.tmp 9) = .int .u8 (z2.toNat : Int) := hu.is (t := 9) (by kernel_rfl)
        exact step_value (BigFrame.run_move (.tmp 9) rfl w) (Below.refl _ _) e9
      · refine StepOKl.of ?_
        intro ac w hb hu hk
        refine ⟨wanted_none rfl, ?_⟩
        have e26 : ac.eval (.tmp 26) = (.pointer (some ⟨fd, 0, none⟩)) := (hk ⟨9, .data⟩ (by simp) rfl).is rfl rfl
        have e27 : ac.eval (.tmp 27) = (.int .u8 (x.toNat : Int)) := (hk ⟨10, .data⟩ (by simp) rfl).is rfl rfl
        have e28 : ac.eval (.tmp 28) = (.int .u8 (z2.toNat : Int)) := (hk ⟨11, .data⟩ (by simp) rfl).is rfl rfl
        have ef : ac.eval (.func 70) = .func (.func 70) #[] #[] := rfl
        refine step_enter (f := 70) (args := #[.pointer (some ⟨fd, 0, none⟩), .int .u8 (x.toNat : Int), .int .u8 (z2.toNat : Int)]) ?_ ?_
        · generalize ac.eval = ρ at e26 e27 e28 ef ⊢
          go_simp
        · exact (HMU.out w hb).mono fun e w' ⟨he, q, hq⟩ => ⟨_, he, rfl, by rw [hq]; exact below_drewN (Below.refl _ _) q⟩
      · refine StepOKl.of ?_
        intro ac w hb hu hk
        refine ⟨wanted_none rfl, ?_⟩
        have e22 : ac.eval (.tmp 22) = (.int .u8 (z1.toNat : Int)) := (hk ⟨5, .data⟩ (by simp) rfl).is rfl rfl
        have e29 : ac.eval (.tmp 29) = (.int .u8 (zy.toNat : Int)) := (hk ⟨12, .data⟩ (by simp) rfl).is rfl rfl
        have ef : ac.eval (.func 79) = .func (.func 79) #[] #[] := rfl
        refine step_enter (f := 79) (args := #[.int .u8 (z1.toNat : Int), .int .u8 (zy.toNat : Int)]) ?_ ?_
        · generalize ac.eval = ρ at e22 e29 ef ⊢
          go_simp
        · exact (HAD.out w).mono fun e w' ⟨he, hq⟩ => ⟨_, he, rfl, by rw [← hq]; exact Below.refl _ _⟩
      · refine StepOKl.of ?_
        intro ac w hb hu hk
        refine ⟨wanted_none rfl, ?_⟩
        have e17 : ac.eval (.tmp 17) = (.slice (some ⟨b, 0, none⟩) l l) := (hk ⟨0, .data⟩ (by simp) rfl).is rfl rfl
        have e18 : ac.eval (.tmp 18) = (.int .i64 (j : Int)) := (hk ⟨1, .data⟩ (by simp) rfl).is rfl rfl
        refine step_value (w' := w) (v := (.pointer (some ⟨b, j, none⟩))) ?_ (Below.refl _ _) rfl
        generalize ac.eval = ρ at e17 e18 ⊢
        go_simp
      · intro ac w' hb hu hk hap
        obtain ⟨_, h17, rfl⟩ := (hk 0 (by decide)).put rfl rfl
        obtain ⟨_, h18, rfl⟩ := (hk 1 (by decide)).put rfl rfl
        obtain ⟨_, h19, rfl⟩ := (hk 2 (by decide)).put rfl rfl
        obtain ⟨_, h20, rfl⟩ := (hk 3 (by decide)).put rfl rfl
        obtain ⟨_, h21, rfl⟩ := (hk 4 (by decide)).put rfl rfl
        obtain ⟨_, h22, rfl⟩ := (hk 5 (by decide)).put rfl rfl
        obtain ⟨_, h23, rfl⟩ := (hk 6 (by decide)).put rfl rfl
        obtain ⟨_, h24, rfl⟩ := (hk 7 (by decide)).put rfl rfl
        obtain ⟨_, h25, rfl⟩ := (hk 8 (by decide)).put rfl rfl
        obtain ⟨_, h26, rfl⟩ := (hk 9 (by decide)).put rfl rfl
        obtain ⟨_, h27, rfl⟩ := (hk 10 (by decide)).put rfl rfl
        obtain ⟨_, h28, rfl⟩ := (hk 11 (by decide)).put rfl rfl
        obtain ⟨_, h29, rfl⟩ := (hk 12 (by decide)).put rfl rfl
        obtain ⟨_, h30, rfl⟩ := (hk 13 (by decide)).put rfl rfl
        obtain ⟨_, h31, rfl⟩ := (hk 14 (by decide)).put rfl rfl
        clear hap
        have hF : AllPuts ac.tmps ((17, _) :: (18, _) :: (19, _) :: (20, _) :: (21, _) :: (22, _) :: (23, _) :: (24, _) :: (25, _) :: (26, _) :: (27, _) :: (28, _) :: (29, _) :: (30, _) :: (31, _) :: []) := ⟨h17, h18, h19, h20, h21, h22, h23, h24, h25, h26, h27, h28, h29, h30, h31, trivial⟩
        obtain rfl := frame_puts hu (by kernel_rfl) hF
        simp only [puts, Act.put, List.setIfInBounds_toArray, List.set_cons_zero, List.set_cons_succ, List.drop_succ_cons, List.drop_zero]
        clear hk hu hF h17 h18 h19 h20 h21 h22 h23 h24 h25 h26 h27 h28 h29 h30 h31
        have hM := HB.out.below hb HB.out.lt
        have hfr := hM.frozen j
        have hbo := HZ1.out _ hb
        have hbel2 : Below b w (w'.setCell ⟨b, j, none⟩ (.int .u8 (zs.toNat : Int))) := (hbel.trans (hb.mono (Nat.le_of_lt HB.out.lt))).setCell (Nat.le_refl _) _
        have HB2 := Lib.hid (Blk.put hM j (y := zs) rfl)
        rw [HST.out] at HB2
        clear hM HB hb hbel HZ1 HFP HMU HAD HST
        go_wp2_with fail
        go_roundw
        case rel => exact ⟨j + 1, by omega, by go_num, hbel2, HB2⟩
        case measure => simp [intOf]; omega
    · obtain rfl : j = l := by omega
      have hni : ¬ (j : Int) < (j : Int) := by omega
      go_wp2_with fail
      go_end0
      exact ⟨rfl, HB.out, hbel⟩
end Go.Proofs.Ytdaofffkbnkljaa
namespace Go.Proofs.Ytdaofffkbnkljaa
open Go.RowKit

/-- Row i of F times the first j of the lists, of l bytes each. -/
def parD (F : Mx) (D : List (List UInt8)) (l i j : Nat) : List UInt8 := (List.range l).map fun q => sumN j fun m => mulU (F i m) ((D.getD m []).getD q 0)
def mixL (F : Mx) (D : List (List UInt8)) (k l m : Nat) : List (List UInt8) := (List.range m).map fun i => parD F D l i k
theorem parD_len (F : Mx) (D : List (List UInt8)) (l i j : Nat) : (parD F D l i j).length = l := by simp [parD]
theorem parD_none (F : Mx) (D : List (List UInt8)) (l i : Nat) : parD F D l i 0 = List.replicate l 0 := by
  apply List.ext_getElem (by simp [parD])
  intro q h1 h2
  simp [parD, sumN]
theorem parD_next (F : Mx) (D : List (List UInt8)) (l i j : Nat) : addL (parD F D l i j) (F i j) (D.getD j []) l = parD F D l i (j + 1) := by
  unfold addL
  rw [parD_len]
  refine List.map_congr_left fun q hq => ?_
  have hq := List.mem_range.1 hq
  rw [if_pos hq]
  unfold parD
  rw [map_getD _ l q hq, sumN]

/-- At g there are n slices, the first i of them all of the blocks at β, of l bytes. -/
def MixHd (w : World) (g n l i : Nat) (β : Nat → Nat) : Prop := ∃ cur, Blk w g cur 22 ∧ cur.size = n ∧ ∀ a, a < i → cur[a]? = some (.slice (some ⟨β a, 0, none⟩) l l)
/-- At the first i blocks of β, from block B on and below C, lie the lists R. -/
def MixRw (w : World) (B C i : Nat) (β : Nat → Nat) (R : Nat → List UInt8) : Prop := ∀ a, a < i → B ≤ β a ∧ β a < C ∧ Blk w (β a) (u8A (R a)) 5
theorem MixHd.below {w w' : World} {g n l i C : Nat} {β : Nat → Nat} (h : MixHd w g n l i β) (hb : Below C w w') (hg : g < C) : MixHd w' g n l i β := by
  obtain ⟨cur, h1, h2⟩ := h
  exact ⟨cur, h1.below hb hg, h2⟩
theorem MixHd.lt {w : World} {g n l i : Nat} {β : Nat → Nat} (h : MixHd w g n l i β) : g < w.heap.size := by
  obtain ⟨cur, h1, _⟩ := h
  exact h1.lt
theorem MixHd.free {w : World} {g n l i : Nat} {β : Nat → Nat} (h : MixHd w g n l i β) (j : Nat) : w.frozen? ⟨g, j, none⟩ = false := by
  obtain ⟨cur, h1, _⟩ := h
  exact h1.frozen j
theorem MixHd.has {w : World} {g n l i j : Nat} {β : Nat → Nat} (h : MixHd w g n l i β) (hj : j < n) : ∃ o, w.cell? ⟨g, j, none⟩ = some o := by
  obtain ⟨cur, h1, h2, _⟩ := h
  exact ⟨_, (h1.cell j).trans (Array.getElem?_eq_getElem (by omega))⟩
theorem MixHd.at_ {w : World} {g n l i a : Nat} {β : Nat → Nat} (h : MixHd w g n l i β) (ha : a < i) : w.cell? ⟨g, a, none⟩ = some (.slice (some ⟨β a, 0, none⟩) l l) := by
  obtain ⟨cur, h1, _, h3⟩ := h
  rw [h1.cell, h3 a ha]
theorem MixHd.put {w : World} {g n l i b : Nat} {β : Nat → Nat} (h : MixHd w g n l i β) (hi : i < n) : MixHd (w.setCell ⟨g, i, none⟩ (.slice (some ⟨b, 0, none⟩) l l)) g n l (i + 1) (fun a => if a = i then b else β a) := by
  obtain ⟨cur, h1, h2, h3⟩ := h
  refine ⟨_, h1.set i _, by rw [Array.size_setIfInBounds, h2], fun a ha => ?_⟩
  by_cases e : a = i
  · subst e
    simp only [if_pos]
    rw [Array.getElem?_setIfInBounds_self_of_lt (by omega)]
  · simp only [if_neg e]
    rw [Array.getElem?_setIfInBounds_ne (fun e2 => e e2.symm), h3 a (by omega)]
theorem MixHd.new (w : World) (n l : Nat) (β : Nat → Nat) : MixHd (w.alloc (.cells (madeCells #[Value.slice none 0 0] n) 22)) w.heap.size n l 0 β :=
  ⟨_, Blk.new _ _ _, by simp [madeCells], fun a ha => by omega⟩
theorem MixRw.below {w w' : World} {B C i : Nat} {β : Nat → Nat} {R : Nat → List UInt8} (h : MixRw w B C i β R) (hb : Below C w w') : MixRw w' B C i β R := fun a ha => by
  obtain ⟨h1, h2, h3⟩ := h a ha
  exact ⟨h1, h2, h3.below hb h2⟩
theorem MixRw.more {w : World} {B C C' i : Nat} {β : Nat → Nat} {R : Nat → List UInt8} (h : MixRw w B C i β R) (hC : C ≤ C') : MixRw w B C' i β R := fun a ha => by
  obtain ⟨h1, h2, h3⟩ := h a ha
  exact ⟨h1, by omega, h3⟩
/-- A cell of a block of slices has been written. -/
theorem MixRw.head {w : World} {B C g i j n l m : Nat} {β β' : Nat → Nat} {R : Nat → List UInt8} (h : MixRw w B C i β R) (hH : MixHd w g n l m β') (v : Value) : MixRw (w.setCell ⟨g, j, none⟩ v) B C i β R := fun a ha => by
  obtain ⟨h1, h2, h3⟩ := h a ha
  obtain ⟨cur, h4, _⟩ := hH
  exact ⟨h1, h2, h3.other (fun e => blk_apart h4 h3 tys_ne e.symm) _⟩
theorem MixRw.snoc {w : World} {B C i b : Nat} {β : Nat → Nat} {R : Nat → List UInt8} (h : MixRw w B C i β R) (hB : B ≤ b) (hC : b < C) (hb : Blk w b (u8A (R i)) 5) : MixRw w B C (i + 1) (fun a => if a = i then b else β a) R := fun a ha => by
  by_cases e : a = i
  · subst e
    simp only [if_pos]
    exact ⟨hB, hC, hb⟩
  · simp only [if_neg e]
    exact h a (by omega)
theorem MO.of_mix {w : World} {B C q l m : Nat} {β : Nat → Nat} {R : Nat → List UInt8} (h : MixHd w q m l m β) (hr : MixRw w B C m β R) (hB : B ≤ q) (hm : m ≤ maxLen) (hl : l ≤ maxLen) (hR : ∀ a, a < m → (R a).length = l) : MO w B (.slice (some ⟨q, 0, none⟩) m m) ((List.range m).map R) := by
  obtain ⟨cur, h1, h2, h3⟩ := h
  have hlen : ((List.range m).map R).length = m := by simp
  rw [show MO w B (.slice (some ⟨q, 0, none⟩) m m) ((List.range m).map R) = ∃ vs, w.ownsRow B 22 1 (.slice (some ⟨q, 0, none⟩) m m) ((List.range m).map R).length vs ∧ vs.length = ((List.range m).map R).length ∧ ∀ i (h : i < ((List.range m).map R).length), ∃ A c, vs[i]? = some (.slice A ((List.range m).map R)[i].length c) ∧ c ≤ maxLen ∧ ((List.range m).map R)[i].length ≤ c ∧ OwnB w B 5 (.slice A ((List.range m).map R)[i].length c) ((List.range m).map R)[i].length ((List.range m).map R)[i] from rfl]
  have hvs : cur.toList = (List.range m).map fun a => Value.slice (some ⟨β a, 0, none⟩) l l := by
    apply List.ext_getElem?
    intro a
    by_cases ha : a < m
    · rw [Array.getElem?_toList, h3 a ha]; simp [ha]
    · rw [Array.getElem?_toList, Array.getElem?_eq_none (by omega), List.getElem?_eq_none (by simp; omega)]
  refine ⟨cur.toList, ?_, by rw [hlen, Array.length_toList, h2], fun i hi => ?_⟩
  · rw [hlen]
    exact ⟨by rw [Array.length_toList, h2, Nat.mul_one], .inr ⟨q, m, cur, rfl, hB, h1, Nat.le_refl _, hm, by rw [h2, Nat.mul_one], by rw [Nat.mul_one, List.take_of_length_le (by rw [Array.length_toList, h2]; exact Nat.le_refl _)]⟩⟩
  · have him : i < m := by rw [hlen] at hi; exact hi
    obtain ⟨a1, _, a3⟩ := hr i him
    have e : ((List.range m).map R)[i] = R i := by simp
    rw [e, hR i him]
    refine ⟨some ⟨β i, 0, none⟩, l, by rw [Array.getElem?_toList]; exact h3 i him, hl, Nat.le_refl _, hR i him, .inr ⟨β i, l, R i, rfl, a1, a3, Nat.le_refl _, hl, hR i him, List.take_of_length_le (by rw [hR i him]; exact Nat.le_refl _)⟩⟩

set_option maxRecDepth 100000 in
set_option maxHeartbeats 4000000 in
theorem mixes_any {w : World} {g fd k l m cx cy : Nat} {X Y : Option Addr} (F : Mx) (D : List (List UInt8)) (hp : w.cell? ⟨g, 2, none⟩ = some (.pointer (some ⟨fd, 0, none⟩))) (hg : g < w.heap.size) (hf : FdAt w fd) (hX : RdR w w.heap.size X (rowsL F 0 k m)) (hY : RdR w w.heap.size Y D) (hD : D.length = k) (hDl : ∀ r ∈ D, r.length = l) (hk : 1 ≤ k) (hk2 : k ≤ 1000) (hm : m ≤ 1000) (hl : l ≤ 100000) :
    Calls Try.prog 35 #[.pointer (some ⟨g, 0, none⟩), .slice X m cx, .slice Y k cy] w fun e w' => ∃ v, e = .returned v ∧ MO w' w.heap.size v (mixL F D k l m) ∧ Below w.heap.size w w' := by
  obtain ⟨i0, hi, hz0, hz1, hz2⟩ := info_parts info5
  obtain ⟨i1, hi', hz0', hz1', hz2'⟩ := info_parts infoSlice
  have hmk := fun W => run_make (P := Try.prog) W 22 5 i0 (.int .u8 0) Try.underlying22 hi hz0 .i64 .i64 (l : Int) (l : Int) (by omega) (by omega) (by rw [hz2]; omega) (by omega)
  have hmk2 := fun W => run_make (P := Try.prog) W 29 22 i1 (.slice none 0 0) Try.underlying29 hi' hz0' .i64 .i64 (m : Int) (m : Int) (by omega) (by omega) (by rw [hz2']; omega) (by omega)
  simp only [hz1, hz1', Nat.mul_one] at hmk hmk2
  have HD := Lib.hid hD
  have HDL := Lib.hid hDl
  have HP := Lib.hid hp
  have HF := Lib.hid hf
  have hk0 : 0 < D.length := by omega
  obtain ⟨b0, o0, A0, c0, rfl, hb0s, hc0, _, _, _⟩ := hY.at_ 0 hk0
  rw [HDL.out _ (List.getElem_mem _), Nat.add_zero] at hc0
  have hki : (0 : Int) < (k : Int) := by omega
  clear hi hz0 hz1 hz2 hi' hz0' hz1' hz2' hD hDl hp hf
  go_enter Try.func35, Try.ntmps35
  go_wp2_with fail
  have HH0 := Lib.hid (MixHd.new w m l fun _ => 0)
  have hb0 : Below w.heap.size w (w.alloc (.cells (madeCells #[Value.slice none 0 0] m) 22)) := (Below.refl _ _).alloc (Nat.le_refl _) _
  obtain ⟨q, hq⟩ : ∃ q, w.heap.size = q := ⟨_, rfl⟩
  generalize w.alloc (.cells (madeCells #[Value.slice none 0 0] m) 22) = w1 at *
  have HQ := Lib.hid hq
  have HFL := Lib.hid HF.out.lt
  rw [hq] at HH0 hb0 hX hY hg hb0s HFL ⊢
  clear hq hmk2
  go_loopw [17] (fun t wr => ∃ (i : Nat) (β : Nat → Nat), i ≤ m ∧ t = .int .i64 i ∧ Below q w wr ∧ Hid (MixHd wr q m l i β) ∧ Hid (MixRw wr q wr.heap.size i β fun a => parD F D l a k)) (fun t _ => m - (intOf t).toNat)
  case atStart => exact ⟨0, _, by omega, rfl, hb0, HH0, Lib.hid (fun a ha => by omega)⟩
  case round =>
    clear hb0 HH0
    obtain ⟨i, β, hin, rfl, hbel, HH, HR⟩ := hrel
    by_cases hlt : i < m
    · have hii : (i : Int) < (m : Int) := by omega
      have hil : i < (rowsL F 0 k m).length := by rw [rowsL_len]; exact hlt
      obtain ⟨bx, ox, Ai, ci, rfl, hbxs, hcx, hlx, _, hrx⟩ := hX.at_ i hil
      rw [show (rowsL F 0 k m)[i] = rowL F 0 k i by simp [rowsL]] at hcx hlx hrx
      rw [rowL_len] at hcx hlx
      have hcx2 := (hbel.cell (p := ⟨bx, ox + i, none⟩) hbxs).trans hcx
      have hc02 := (hbel.cell (p := ⟨b0, o0, none⟩) hb0s).trans hc0
      obtain ⟨wo, rfl⟩ : ∃ y : World, y = wr := ⟨_, rfl⟩
      have hqs : q < wo.heap.size := HH.out.lt
      have hc03 : (wo.alloc (.cells (madeCells #[Value.int .u8 0] l) 5)).cell? ⟨b0, o0, none⟩ = some (.slice A0 l c0) := (World.cell?_alloc_lt wo _ _ (Nat.lt_trans hb0s hqs)).trans hc02
      have hal : Below wo.heap.size wo (wo.alloc (.cells (madeCells #[Value.int .u8 0] l) 5)) := (Below.refl _ _).alloc (Nat.le_refl _) _
      have HH1 := Lib.hid (HH.out.below hal hqs)
      obtain ⟨o, ho⟩ := HH.out.has hlt
      obtain ⟨o2, ho2⟩ := HH1.out.has hlt
      have hf1 := HH.out.free i
      have hf2 := HH1.out.free i
      have hsz : (wo.setCell ⟨q, i, none⟩ (.slice (some ⟨wo.heap.size, 0, none⟩) l l)).heap.size = wo.heap.size := by simp
      have hal2 : Below wo.heap.size (wo.setCell ⟨q, i, none⟩ (.slice (some ⟨wo.heap.size, 0, none⟩) l l)) ((wo.setCell ⟨q, i, none⟩ (.slice (some ⟨wo.heap.size, 0, none⟩) l l)).alloc (.cells (madeCells #[Value.int .u8 0] l) 5)) := (Below.refl _ _).alloc (by rw [hsz]; exact Nat.le_refl _) _
      have HH2 := Lib.hid ((HH.out.put (b := wo.heap.size) hlt).below hal2 hqs)
      have HR2 := Lib.hid ((HR.out.head (j := i) HH.out (.slice (some ⟨wo.heap.size, 0, none⟩) l l)).below hal2)
      have HG2 := Lib.hid (show Blk ((wo.setCell ⟨q, i, none⟩ (.slice (some ⟨wo.heap.size, 0, none⟩) l l)).alloc (.cells (madeCells #[Value.int .u8 0] l) 5)) wo.heap.size (u8A (parD F D l i 0)) 5 by
        have h := Blk.new (wo.setCell ⟨q, i, none⟩ (.slice (some ⟨wo.heap.size, 0, none⟩) l l)) (madeCells #[Value.int .u8 0] l) 5
        rw [hsz] at h
        rw [parD_none, ← made_zeros]
        exact h)
      have hb2 : Below q w ((wo.setCell ⟨q, i, none⟩ (.slice (some ⟨wo.heap.size, 0, none⟩) l l)).alloc (.cells (madeCells #[Value.int .u8 0] l) 5)) := (hbel.setCell (p := ⟨q, i, none⟩) (Nat.le_refl q) _).alloc (by rw [hsz]; exact Nat.le_of_lt hqs) _
      clear hcx hil HH HR HH1
      go_wp2_with fail
      clear ho ho2 hf1 hf2 hcx2 hc02 hc03 hal hal2 hsz hbel
      obtain ⟨gr, hgr⟩ : ∃ y, wo.heap.size = y := ⟨_, rfl⟩
      rw [hgr] at HH2 HR2 HG2 hb2 hqs ⊢
      clear hgr
      generalize World.alloc _ _ = w2 at *
      go_loopw [32] (fun t wq => ∃ j : Nat, j ≤ k ∧ t = .int .i64 j ∧ Below gr w2 wq ∧ Hid (Blk wq gr (u8A (parD F D l i j)) 5)) (fun t _ => k - (intOf t).toNat)
      case atStart => exact ⟨0, by omega, rfl, Below.refl _ _, HG2⟩
      case round =>
        clear HG2
        obtain ⟨j, hj, rfl, hq2, HG⟩ := hrel
        by_cases hjk : j < k
        · have hji : (j : Int) < (k : Int) := by omega
          have hjD : j < D.length := by rw [HD.out]; exact hjk
          obtain ⟨b0', o0', Aj, cj, hA, _, hcj, hlj, _, hrj⟩ := hY.at_ j hjD
          obtain ⟨rfl, rfl⟩ : b0 = b0' ∧ o0 = o0' := by
            injection hA with hA
            injection hA with e1 e2
            exact ⟨e1, e2⟩
          have hDj : D.getD j [] = D[j] := by simp [List.getD_eq_getElem?_getD, hjD]
          have hljD : D[j].length = l := HDL.out _ (List.getElem_mem _)
          rw [hljD] at hcj
          obtain ⟨b5, o5, rfl, hb5, hc5⟩ := hrx.at_ j (by rw [rowL_len]; exact hjk)
          rw [show (rowL F 0 k i)[j]'(by rw [rowL_len]; exact hjk) = F i j by simp [rowL]] at hc5
          have hqw : Below q w wr := hb2.trans (hq2.mono (Nat.le_of_lt hqs))
          have hcj2 := (hqw.cell (p := ⟨b0, o0 + j, none⟩) hb0s).trans hcj
          have hc52 := (hqw.cell (p := ⟨b5, o5 + j, none⟩) hb5).trans hc5
          have hca := (HH2.out.below hq2 hqs).at_ (Nat.lt_succ_self i)
          simp only [if_pos] at hca
          have HAD := Lib.hid (caddT_any (w := wr.drew) (g := g) (fd := fd) (b := gr) (l := l) (co := cj) (F i j) (parD F D l i j) D[j] ((hqw.cell (p := ⟨g, 2, none⟩) hg).trans HP.out) (Nat.lt_trans hg hqs) ((HF.out.below hqw HFL.out).drewN 1) (Nat.lt_trans HFL.out hqs) (HG.out.drewN 1) (parD_len _ _ _ _ _) hljD ((hrj.below hqw (Nat.le_refl _)).more (Nat.le_of_lt hqs)) hl)
          have HNX := Lib.hid (parD_next F D l i j)
          rw [hDj] at HNX
          generalize addL (parD F D l i j) (F i j) D[j] l = nx at *
          generalize F i j = fx at *
          obtain ⟨wm, rfl⟩ : ∃ y : World, y = wr := ⟨_, rfl⟩
          clear hA hcj hlj hDj hljD hc5 HG hrj hjD
          go_wp2_with fail
          go_still_tail 10, (by kernel_rfl)
          change wpList _ _ _ _ _ wm.drew
          clear hca hcj2 hc52
          go_wp2_with fail
          with_reducible refine (HAD.out).mono ?_
          rintro e w4 ⟨rfl, hB4, hb4⟩
          rw [HNX.out] at hB4
          have HG4 := Lib.hid hB4
          have hq4 : Below gr w2 w4 := hq2.drew.trans hb4
          clear hB4 hb4 HAD HNX hq2 hqw
          go_wp2_with fail
          go_roundw
          case rel => exact ⟨j + 1, by omega, by go_num, hq4, HG4⟩
          case measure => simp [intOf]; omega
        · obtain rfl : j = k := by omega
          have HH3 := Lib.hid (HH2.out.below hq2 hqs)
          have HR3 := Lib.hid (((HR2.out.below hq2).more (Nat.le_of_lt HG.out.lt)).snoc (Nat.le_of_lt hqs) HG.out.lt HG.out)
          have hqw : Below q w wr := hb2.trans (hq2.mono (Nat.le_of_lt hqs))
          have hni : ¬ (j : Int) < (j : Int) := by omega
          clear HG
          go_wp2_with fail
          go_roundw
          case rel => exact ⟨i + 1, _, by omega, by go_num, hqw, HH3, HR3⟩
          case measure => simp [intOf]; omega
    · obtain rfl : i = m := by omega
      have HMO := Lib.hid (show MO wr q (.slice (some ⟨q, 0, none⟩) i i) (mixL F D k l i) from MO.of_mix HH.out HR.out (Nat.le_refl q) (by unfold maxLen; omega) (by unfold maxLen; omega) fun a _ => parD_len F D l a k)
      have hni : ¬ (i : Int) < (i : Int) := by omega
      clear HH HR
      go_wp2_with fail
      go_ret
      exact ⟨_, rfl, by rw [HQ.out]; exact HMO.out, by rw [HQ.out]; exact hbel⟩

/-- p's pieces, k of them, of s bytes each. -/
def cutL (p : List UInt8) (s k : Nat) : List (List UInt8) := (List.range k).map fun j => (p.take ((j + 1) * s)).drop (j * s)
theorem cutL_len (p : List UInt8) (s k : Nat) : (cutL p s k).length = k := by simp [cutL]
theorem cut_le {j k : Nat} (s : Nat) (h : j < k) : (j + 1) * s ≤ k * s := Nat.mul_le_mul_right s h
theorem cutL_rows {p : List UInt8} {s k : Nat} (hp : p.length = k * s) : ∀ r ∈ cutL p s k, r.length = s := fun r hr => by
  obtain ⟨j, hj, rfl⟩ := List.mem_map.1 hr
  have h := cut_le s (List.mem_range.1 hj)
  rw [List.length_drop, List.length_take, hp, Nat.min_eq_left h, Nat.add_mul, Nat.one_mul]
  omega
theorem cutL_at {p : List UInt8} {s k j q : Nat} (hj : j < k) (hq : q < s) : ((cutL p s k).getD j []).getD q 0 = p.getD (j * s + q) 0 := by
  have h : (cutL p s k).getD j [] = (p.take ((j + 1) * s)).drop (j * s) := by simp [cutL, List.getD_eq_getElem?_getD, hj]
  rw [h]
  simp only [List.getD_eq_getElem?_getD, List.getElem?_drop, List.getElem?_take]
  rw [if_pos (by rw [Nat.add_mul, Nat.one_mul]; omega)]
set_option maxRecDepth 100000 in
set_option maxHeartbeats 4000000 in
theorem ccut_any {w : World} {gp k s n : Nat} (p : List UInt8) (hp : Blk w gp (u8A p) 5) (hn : p.length = n) (hps : n = k * s) (hk : 1 ≤ k) (hk2 : k ≤ 16) (hn2 : n ≤ 100000) :
    Calls Try.prog 36 #[.slice (some ⟨gp, 0, none⟩) n n, .int .i64 (k : Int)] w fun e w' => ∃ g, e = .returned (.slice (some ⟨g, 0, none⟩) k k) ∧ RdR w' w'.heap.size (some ⟨g, 0, none⟩) (cutL p s k) ∧ Below w.heap.size w w' := by
  obtain ⟨i1, hi', hz0', hz1', hz2'⟩ := info_parts infoSlice
  have hmk2 := fun W => run_make (P := Try.prog) W 29 22 i1 (.slice none 0 0) Try.underlying29 hi' hz0' .i64 .i64 (k : Int) (k : Int) (by omega) (by omega) (by rw [hz2']; omega) (by omega)
  simp only [hz1', Nat.mul_one] at hmk2
  have hquo : (n : Int) / (k : Int) = (s : Int) := quo_nat hps hk
  have hkz : ¬ (k : Int) = 0 := by omega
  have hkp : (0 : Int) < (k : Int) := by omega
  have hrd : Rd w w.heap.size (some ⟨gp, 0, none⟩) p := .inr ⟨gp, 0, rfl, hp.lt, fun i hi => by
    have := hp.byteAt hi
    rw [Nat.zero_add, this]
    simp [List.getD_eq_getElem?_getD, hi]⟩
  have hsn : s ≤ n := by rw [hps]; exact Nat.le_mul_of_pos_left s hk
  have HPS := Lib.hid hps
  have HN := Lib.hid hn
  clear hi' hz0' hz1' hz2' hp hps hn
  go_enter Try.func36, Try.ntmps36
  go_wp2_with fail
  have hb0 : Below w.heap.size w (w.alloc (.cells (madeCells #[Value.slice none 0 0] k) 22)) := (Below.refl _ _).alloc (Nat.le_refl _) _
  have HB0 := Lib.hid (show ∃ cur, Blk (w.alloc (.cells (madeCells #[Value.slice none 0 0] k) 22)) w.heap.size cur 22 ∧ cur.size = k ∧ ∀ a, a < 0 → cur[a]? = some (.slice (partA (some ⟨gp, 0, none⟩) (a * s) n) s (n - a * s)) from ⟨_, Blk.new _ _ _, by simp [madeCells], fun a h => by omega⟩)
  obtain ⟨q, hq⟩ : ∃ q, w.heap.size = q := ⟨_, rfl⟩
  generalize w.alloc (.cells (madeCells #[Value.slice none 0 0] k) 22) = w1 at *
  have HQ := Lib.hid hq
  rw [hq] at hb0 HB0 hrd ⊢
  clear hq hmk2 hquo
  go_loopw [16] (fun t wr => ∃ i : Nat, i ≤ k ∧ t = .int .i64 i ∧ Below q w wr ∧ Hid (∃ cur, Blk wr q cur 22 ∧ cur.size = k ∧ ∀ a, a < i → cur[a]? = some (.slice (partA (some ⟨gp, 0, none⟩) (a * s) n) s (n - a * s)))) (fun t _ => k - (intOf t).toNat)
  case atStart => exact ⟨0, by omega, rfl, hb0, HB0⟩
  case round =>
    clear hb0 HB0
    obtain ⟨i, hin, rfl, hbel, HB⟩ := hrel
    by_cases hlt : i < k
    · have hii : (i : Int) < (k : Int) := by omega
      obtain ⟨cur, hc1, hc2, hc3⟩ := HB.out
      obtain ⟨lo, hlo⟩ : ∃ x, i * s = x := ⟨_, rfl⟩
      obtain ⟨hx, hhx⟩ : ∃ x, (i + 1) * s = x := ⟨_, rfl⟩
      have hlh : hx = lo + s := by rw [← hhx, ← hlo, Nat.add_mul, Nat.one_mul]
      have hxn : hx ≤ n := by rw [← hhx, HPS.out]; exact cut_le s hlt
      have e1 : (i : Int) * (s : Int) = (lo : Int) := by rw [← hlo]; simp
      have e2 : ((i : Int) + 1) * (s : Int) = (hx : Int) := by rw [← hhx]; simp
      have hs2 : hx - lo = s := by omega
      have PAE : partA (some ⟨gp, 0, none⟩) lo n = if n = lo then some ⟨gp, 0, none⟩ else some ⟨gp, lo, none⟩ := by
        unfold partA
        by_cases e : n = lo
        · rw [if_pos e, if_pos e]
        · rw [if_neg e, if_neg e]; simp [Addr.add_mid]
      have hfz := hc1.frozen i
      obtain ⟨o, ho⟩ : ∃ o, wr.cell? ⟨q, i, none⟩ = some o := ⟨_, (hc1.cell i).trans (Array.getElem?_eq_getElem (by omega))⟩
      have hb2 := hbel.setCell (p := ⟨q, i, none⟩) (Nat.le_refl q) (.slice (if n = lo then some ⟨gp, 0, none⟩ else some ⟨gp, lo, none⟩) s (n - lo))
      have HB2 := Lib.hid (show ∃ cur, Blk (wr.setCell ⟨q, i, none⟩ (.slice (if n = lo then some ⟨gp, 0, none⟩ else some ⟨gp, lo, none⟩) s (n - lo))) q cur 22 ∧ cur.size = k ∧ ∀ a, a < i + 1 → cur[a]? = some (.slice (partA (some ⟨gp, 0, none⟩) (a * s) n) s (n - a * s)) from ⟨_, hc1.set i _, by rw [Array.size_setIfInBounds, hc2], fun a ha => by
        by_cases e : a = i
        · subst e
          rw [Array.getElem?_setIfInBounds_self_of_lt (by omega), hlo, PAE]
        · rw [Array.getElem?_setIfInBounds_ne (fun e2 => e e2.symm), hc3 a (by omega)]⟩)
      clear HB hc1 hc2 hc3 hlo hhx hbel PAE
      go_wp2_with fail
      clear ho hfz
      generalize World.setCell _ _ _ = w2 at *
      go_roundw
      case rel => exact ⟨i + 1, by omega, by go_num, hb2, HB2⟩
      case measure => simp [intOf]; omega
    · obtain rfl : i = k := by omega
      have HR := Lib.hid (show RdR wr wr.heap.size (some ⟨q, 0, none⟩) (cutL p s i) by
        obtain ⟨cur, hc1, hc2, hc3⟩ := HB.out
        have hqs := hc1.lt
        refine .inr ⟨q, 0, rfl, hqs, fun j hj => ?_⟩
        rw [cutL_len] at hj
        have hle := cut_le s hj
        rw [← HPS.out] at hle
        have e : (cutL p s i)[j]'(by rw [cutL_len]; exact hj) = (p.take ((j + 1) * s)).drop (j * s) := by simp [cutL]
        have hl : ((p.take ((j + 1) * s)).drop (j * s)).length = s := by rw [← e]; exact cutL_rows (by rw [HN.out, HPS.out]) _ (List.getElem_mem _)
        rw [e, hl, Nat.zero_add, hc1.cell, hc3 j hj]
        rw [Nat.add_mul, Nat.one_mul] at hle
        exact ⟨_, _, rfl, by omega, by unfold maxLen; omega, (((hrd.below hbel (Nat.le_refl _)).more (Nat.le_of_lt hqs)).part (j * s) ((j + 1) * s) n (by rw [Nat.add_mul, Nat.one_mul]; omega) (by rw [Nat.add_mul, Nat.one_mul]; omega))⟩)
      have hni : ¬ (i : Int) < (i : Int) := by omega
      clear HB
      go_wp2_with fail
      go_ret
      exact ⟨q, rfl, HR.out, by rw [HQ.out]; exact hbel⟩

/-- What shares are: the sums of the pieces. -/
theorem mix_enc {G : Mx} (b : List UInt8) {k n : Nat} : mixL G (cutL (shL b k) (segN b k) k) k (segN b k) n = encL G b k n := by
  unfold mixL encL
  refine List.map_congr_left fun i _ => List.map_congr_left fun x hx => sumN_congr fun j hj => ?_
  rw [cutL_at hj (List.mem_range.1 hx)]
theorem MO.less {w : World} {B B' : Nat} {v : Value} {ls : List (List UInt8)} (h : MO w B v ls) (hB : B' ≤ B) : MO w B' v ls := by
  obtain ⟨vs, h1, h2, h3⟩ := h
  refine ⟨vs, own_base h1 hB, h2, fun i hi => ?_⟩
  obtain ⟨A, c, q1, q2, q3, q4⟩ := h3 i hi
  exact ⟨A, c, q1, q2, q3, q4.less hB⟩
set_option maxRecDepth 100000 in
set_option maxHeartbeats 4000000 in
theorem cenc_any {w : World} {g k n : Nat} {G : Mx} {y : Value} {b : List UInt8} (hG : Gen k G) (h : CodeAt w g k n) (hy : BV w y b) (hb : b.length ≤ 1000) :
    Calls Try.prog 14 #[.pointer (some ⟨g, 0, none⟩), y] w fun e w' => ∃ x, e = .returned x ∧ MO w' w.heap.size x (encL G b k n) ∧ Below w.heap.size w w' := by
  obtain ⟨hk, hkn, hn, A, c, fd, hB, hc, hF, hR⟩ := h
  have hr := hR G hG
  have hl0 : w.cell? ⟨g, 0, none⟩ = some (.int .i64 (k : Int)) := hB.cell 0
  have hl1 : w.cell? ⟨g, 1, none⟩ = some (.slice A n c) := hB.cell 1
  have HL2 := Lib.hid (show w.cell? ⟨g, 2, none⟩ = some (.pointer (some ⟨fd, 0, none⟩)) from hB.cell 2)
  have HGL := Lib.hid hB.lt
  have HFD := Lib.hid hF
  have HPAD := Lib.hid (fun W (h : Below w.heap.size w W) => cpad_blk (k : Int) (hy.on h) hb (by omega))
  have hmx : (max (k : Int) 1).toNat = k := by omega
  rw [hmx] at HPAD
  have HE := Lib.hid (mix_enc (G := G) (k := k) (n := n) b)
  have hpn : (shL b k).length = k * segN b k := seg_mul b hk
  have hs2 := shL_len b k
  have hs3 := shN_lt b.length hk
  obtain ⟨s, hs⟩ : ∃ s, segN b k = s := ⟨_, rfl⟩
  rw [hs] at HE hpn
  have hsl : s ≤ 2000 := by
    have : s ≤ k * s := Nat.le_mul_of_pos_left s hk
    omega
  have hp3 : (shL b k).length ≤ 2000 := by omega
  rw [← HE.out]
  generalize shL b k = p at *
  obtain ⟨pn, hpl⟩ : ∃ x, p.length = x := ⟨_, rfl⟩
  rw [hpl] at HPAD hp3 hpn
  have HPADX := Lib.hid (fun W (h : Below w.heap.size w W) => (show Calls Try.prog 19 #[y, .int .i64 (k : Int)] W fun e W' => ∃ gp, e = .returned (.slice (some ⟨gp, 0, none⟩) pn pn) ∧ Blk W' gp (u8A p) 5 ∧ Below w.heap.size w W' from
    (HPAD.out W h).mono fun _ _ ⟨gp, h1, h2, h3⟩ => ⟨gp, h1, h2, h.trans (h3.mono h.size)⟩))
  have HCUTX := Lib.hid (fun gp W (hB : Blk W gp (u8A p) 5) (h : Below w.heap.size w W) => (show Calls Try.prog 36 #[.slice (some ⟨gp, 0, none⟩) pn pn, .int .i64 (k : Int)] W fun e W' => ∃ gc, e = .returned (.slice (some ⟨gc, 0, none⟩) k k) ∧ RdR W' W'.heap.size (some ⟨gc, 0, none⟩) (cutL p s k) ∧ Below w.heap.size w W' from
    (ccut_any p hB hpl hpn hk (by omega) (by omega)).mono fun _ _ ⟨gc, h1, h2, h3⟩ => ⟨gc, h1, h2, h.trans (h3.mono h.size)⟩))
  have HMIXX := Lib.hid (fun gc W (hR2 : RdR W W.heap.size (some ⟨gc, 0, none⟩) (cutL p s k)) (h : Below w.heap.size w W) => (show Calls Try.prog 35 #[.pointer (some ⟨g, 0, none⟩), .slice A n c, .slice (some ⟨gc, 0, none⟩) k k] W fun e W' => ∃ v, e = .returned v ∧ MO W' w.heap.size v (mixL G (cutL p s k) k s n) ∧ Below w.heap.size w W' from
    (mixes_any G (cutL p s k) ((h.cell (p := ⟨g, 2, none⟩) HGL.out).trans HL2.out) (Nat.lt_of_lt_of_le HGL.out h.size) (HFD.out.below h HFD.out.lt) ((hr.below h (Nat.le_refl _)).more h.size) hR2 (cutL_len _ _ _) (cutL_rows (by rw [hpl, hpn])) hk (by omega) (by omega) (by omega)).mono fun _ _ ⟨v, h1, h2, h3⟩ => ⟨v, h1, h2.less h.size, h.trans (h3.mono h.size)⟩))
  have HKEEP := Lib.hid (fun W (h : Below w.heap.size w W) => (⟨(h.cell (p := ⟨g, 0, none⟩) HGL.out).trans hl0, (h.cell (p := ⟨g, 1, none⟩) HGL.out).trans hl1, h⟩ : W.cell? ⟨g, 0, none⟩ = some (.int .i64 (k : Int)) ∧ W.cell? ⟨g, 1, none⟩ = some (.slice A n c) ∧ Below w.heap.size w W))
  have hb0 : Below w.heap.size w w := Below.refl _ _
  clear hR hB hF hy hb hmx hpn hs2 hs3 hs HE hpl HPAD hr
  go_enter Try.func14, Try.ntmps14
  go_wp2_with fail
  go_region_held3 (fun W => W.cell? ⟨g, 0, none⟩ = some (.int .i64 (k : Int)) ∧ W.cell? ⟨g, 1, none⟩ = some (.slice A n c) ∧ Below w.heap.size w W)
    ((first | exact HKEEP.out _ ‹_› | exact HKEEP.out _ (Below.drew ‹_›) | exact HKEEP.out _ (below_drewN ‹_› _)))
    ((first
      | (go_at_call 19; refine (HPADX.out _ (by first | assumption | exact Below.drew (by assumption) | exact below_drewN (by assumption) _)).mono ?_; rintro e W ⟨gp, rfl, hgp, hbW⟩)
      | (go_at_call 36; refine (HCUTX.out _ _ hgp (by first | assumption | exact Below.drew (by assumption) | exact below_drewN (by assumption) _)).mono ?_; rintro e W ⟨gc, rfl, hgc, hbW⟩)
      | (go_at_call 35; refine (HMIXX.out _ _ hgc (by first | assumption | exact Below.drew (by assumption) | exact below_drewN (by assumption) _)).mono ?_; rintro e W ⟨v, rfl, hv, hbW⟩)))
  all_goals (go_wp2_with fail; go_ret; exact ⟨_, rfl, hv, by assumption⟩)
end Go.Proofs.Ytdaofffkbnkljaa
namespace Go.Proofs.Ytdaofffkbnkljaa
open Go.RowKit

/-- No two have one number. -/
def unlikeP (bs : List (Int × List UInt8)) : Prop := ∀ i j, i < bs.length → j < i → nuI bs j ≠ nuI bs i
/-- All are of one length. -/
def evenP (bs : List (Int × List UInt8)) : Prop := ∀ i, i < bs.length → (daB bs i).length = (daB bs 0).length
def SaidEnd (W : World) (p : Prop) (e : Ending) (w' : World) : Prop := ∃ u : Bool, e = .returned (.bool u) ∧ (u = true ↔ p) ∧ Below W.heap.size W w'

set_option maxRecDepth 100000 in
set_option maxHeartbeats 4000000 in
theorem even_any {w : World} {y : Value} {bs : List (Int × List UInt8)} (hy : BlV w y bs) (hn : bs.length ≤ 1000) :
    Calls Try.prog 38 #[y] w (SaidEnd w (evenP bs)) := by
  obtain ⟨X, c, rfl, _, hr⟩ := hy
  obtain ⟨z, hz⟩ : ∃ z, bs.length = z := ⟨_, rfl⟩
  have HZ := Lib.hid hz
  rw [hz] at hn ⊢
  clear hz
  go_enter Try.func38, Try.ntmps38
  go_wp2_with fail
  go_loopw [7] (fun t wr => ∃ i : Nat, i ≤ z ∧ t = .int .i64 i ∧ Below w.heap.size w wr ∧ Hid (∀ a, a < i → (daB bs a).length = (daB bs 0).length)) (fun t _ => z - (intOf t).toNat)
  case atStart => exact ⟨0, by omega, rfl, Below.refl _ _, Lib.hid (fun a h => by omega)⟩
  case round =>
    obtain ⟨i, hin, rfl, hbel, HC⟩ := hrel
    by_cases hlt : i < z
    · have hii : (i : Int) < (z : Int) := by omega
      have hz0 : (0 : Int) < (z : Int) := by omega
      have hil : i < bs.length := by rw [HZ.out]; exact hlt
      obtain ⟨b, off, rfl⟩ := hr.some (by omega)
      obtain ⟨hbw, hcn, Ai, ci, hcd, _, _, _⟩ := hr.at_ hil
      obtain ⟨_, _, A0, c0, hc0, _, _, _⟩ := hr.at_ (i := 0) (by omega)
      rw [Nat.zero_mul, Nat.add_zero] at hc0
      have hcn2 := (hbel.cell (p := ⟨b, off + i * 2, none⟩) hbw).trans hcn
      have hcd2 := (hbel.cell (p := ⟨b, off + i * 2 + 1, none⟩) hbw).trans hcd
      have hc02 := (hbel.cell (p := ⟨b, off + 1, none⟩) hbw).trans hc0
      obtain ⟨nu, hnu⟩ : ∃ x, nuI bs i = x := ⟨_, rfl⟩
      obtain ⟨Li, hLi⟩ : ∃ x, (daB bs i).length = x := ⟨_, rfl⟩
      obtain ⟨L, hL⟩ : ∃ x, (daB bs 0).length = x := ⟨_, rfl⟩
      rw [hnu] at hcn2
      rw [hLi] at hcd2
      rw [hL] at hc02
      have HLI := Lib.hid hLi
      have HLL := Lib.hid hL
      clear hcn hcd hc0 hnu hLi hL hil
      obtain ⟨wo, rfl⟩ : ∃ y : World, y = wr := ⟨_, rfl⟩
      go_wp2_with fail
      have hA1 : (wo.alloc (.cells #[.int .i64 nu, .slice Ai Li ci] 33)).cell? ⟨wo.heap.size, 1, none⟩ = some (.slice Ai Li ci) := (Blk.new wo _ _).cell 1
      have hc03 : (wo.alloc (.cells #[.int .i64 nu, .slice Ai Li ci] 33)).cell? ⟨b, off + 1, none⟩ = some (.slice A0 L c0) := (World.cell?_alloc_lt wo _ _ (Nat.lt_of_lt_of_le hbw hbel.size)).trans hc02
      have hb2 : Below w.heap.size w (wo.alloc (.cells #[.int .i64 nu, .slice Ai Li ci] 33)) := hbel.alloc hbel.size _
      obtain ⟨gs, hgs⟩ : ∃ x, wo.heap.size = x := ⟨_, rfl⟩
      rw [hgs] at hA1 ⊢
      clear hgs hcn2 hcd2 hc02 hbel
      generalize World.alloc _ _ = w2 at *
      by_cases hLe : Li = L
      · have hne : ((Li : Int) != (L : Int)) = false := by rw [hLe]; simp
        have HC2 := Lib.hid (show ∀ a, a < i + 1 → (daB bs a).length = (daB bs 0).length from fun a ha => by
          by_cases e : a = i
          · rw [e, HLI.out, HLL.out, hLe]
          · exact HC.out a (by omega))
        clear hLe HC HLI HLL
        go_quiet (fail)
        go_wp2_with fail
        have hb3 := below_drewN hb2 nq
        clear hA1 hc03 hb2
        go_roundw
        case rel => exact ⟨i + 1, by omega, by go_num, hb3, HC2⟩
        case measure => simp [intOf]; omega
      · have hne : ((Li : Int) != (L : Int)) = true := by simp only [bne_iff_ne, ne_eq]; omega
        have HNO := Lib.hid (show ¬ evenP bs from fun h => hLe (by rw [← HLI.out, ← HLL.out]; exact h i (by rw [HZ.out]; exact hlt)))
        clear hLe HC HLI HLL
        go_quiet (fail)
        go_wp2_with fail
        go_ret
        exact ⟨false, rfl, ⟨(fun h => by cases h), fun h => absurd h HNO.out⟩, below_drewN hb2 _⟩
    · obtain rfl : i = z := by omega
      have hni : ¬ (i : Int) < (i : Int) := by omega
      have HY := Lib.hid (show evenP bs from fun a ha => HC.out a (by rw [← HZ.out]; exact ha))
      clear HC
      go_wp2_with fail
      go_ret
      exact ⟨true, rfl, ⟨fun _ => HY.out, fun _ => rfl⟩, hbel⟩

set_option maxRecDepth 100000 in
set_option maxHeartbeats 4000000 in
theorem unlike_any {w : World} {y : Value} {bs : List (Int × List UInt8)} (hy : BlV w y bs) (hn : bs.length ≤ 1000) :
    Calls Try.prog 37 #[y] w (SaidEnd w (unlikeP bs)) := by
  obtain ⟨X, c, rfl, hzc, hr⟩ := hy
  obtain ⟨z, hz⟩ : ∃ z, bs.length = z := ⟨_, rfl⟩
  have HZ := Lib.hid hz
  rw [hz] at hn hzc ⊢
  clear hz
  go_enter Try.func37, Try.ntmps37
  go_wp2_with fail
  go_loopw [9] (fun t wr => ∃ i : Nat, i ≤ z ∧ t = .int .i64 i ∧ Below w.heap.size w wr ∧ Hid (∀ a d, a < i → d < a → nuI bs d ≠ nuI bs a)) (fun t _ => z - (intOf t).toNat)
  case atStart => exact ⟨0, by omega, rfl, Below.refl _ _, Lib.hid (fun a d h => by omega)⟩
  case round =>
    obtain ⟨i, hin, rfl, hbel, HC⟩ := hrel
    by_cases hlt : i < z
    · have hii : (i : Int) < (z : Int) := by omega
      have hil : i < bs.length := by rw [HZ.out]; exact hlt
      have hic : (i : Int) ≤ (c : Int) := by omega
      have hi0 : (0 : Int) ≤ (i : Int) := by omega
      obtain ⟨b, off, rfl⟩ := hr.some (by omega)
      obtain ⟨hbw, hcn, Ai, ci, hcd, _, _, _⟩ := hr.at_ hil
      have hcn2 := (hbel.cell (p := ⟨b, off + i * 2, none⟩) hbw).trans hcn
      have hcd2 := (hbel.cell (p := ⟨b, off + i * 2 + 1, none⟩) hbw).trans hcd
      obtain ⟨nu, hnu⟩ : ∃ x, nuI bs i = x := ⟨_, rfl⟩
      obtain ⟨Li, hLi⟩ : ∃ x, (daB bs i).length = x := ⟨_, rfl⟩
      rw [hnu] at hcn2
      rw [hLi] at hcd2
      have HNU := Lib.hid hnu
      clear hcn hcd hnu hLi hil
      obtain ⟨wo, rfl⟩ : ∃ y : World, y = wr := ⟨_, rfl⟩
      go_wp2_with fail
      have hA1 : (wo.alloc (.cells #[.int .i64 nu, .slice Ai Li ci] 33)).cell? ⟨wo.heap.size, 0, none⟩ = some (.int .i64 nu) := (Blk.new wo _ _).cell 0
      have hb2 : Below w.heap.size w (wo.alloc (.cells #[.int .i64 nu, .slice Ai Li ci] 33)) := hbel.alloc hbel.size _
      have hgl : wo.heap.size < (wo.alloc (.cells #[.int .i64 nu, .slice Ai Li ci] 33)).heap.size := by simp
      obtain ⟨gs, hgs⟩ : ∃ x, wo.heap.size = x := ⟨_, rfl⟩
      rw [hgs] at hA1 hgl ⊢
      clear hgs hcn2 hcd2 hbel
      generalize World.alloc _ _ = w2 at *
      go_loopw [18] (fun t wq => ∃ j : Nat, j ≤ i ∧ t = .int .i64 j ∧ Below w2.heap.size w2 wq ∧ Hid (∀ d, d < j → nuI bs d ≠ nu)) (fun t _ => i - (intOf t).toNat)
      case atStart => exact ⟨0, by omega, rfl, Below.refl _ _, Lib.hid (fun d h => by omega)⟩
      case round =>
        obtain ⟨j, hji, rfl, hbj, HJ⟩ := hrel
        by_cases hjlt : j < i
        · have hjii : (j : Int) < (i : Int) := by omega
          have hjl : j < bs.length := by rw [HZ.out]; omega
          obtain ⟨_, hcn, Aj, cj, hcd, _, _, _⟩ := hr.at_ hjl
          have hbw2 := hb2.trans (hbj.mono hb2.size)
          have hcn2 := (hbw2.cell (p := ⟨b, off + j * 2, none⟩) hbw).trans hcn
          have hcd2 := (hbw2.cell (p := ⟨b, off + j * 2 + 1, none⟩) hbw).trans hcd
          have hA2 := (hbj.cell (p := ⟨gs, 0, none⟩) hgl).trans hA1
          obtain ⟨nv, hnv⟩ : ∃ x, nuI bs j = x := ⟨_, rfl⟩
          rw [hnv] at hcn2
          have HNV := Lib.hid hnv
          generalize (daB bs j).length = Lj at *
          clear hcn hcd hnv hjl
          obtain ⟨wm, rfl⟩ : ∃ y : World, y = wr := ⟨_, rfl⟩
          have hA3 : (wm.alloc (.cells #[.int .i64 nv, .slice Aj Lj cj] 33)).cell? ⟨wm.heap.size, 0, none⟩ = some (.int .i64 nv) := (Blk.new wm _ _).cell 0
          have hA4 : (wm.alloc (.cells #[.int .i64 nv, .slice Aj Lj cj] 33)).cell? ⟨gs, 0, none⟩ = some (.int .i64 nu) := (World.cell?_alloc_lt wm _ _ (Nat.lt_of_lt_of_le hgl hbj.size)).trans hA2
          have hb3 : Below w2.heap.size w2 (wm.alloc (.cells #[.int .i64 nv, .slice Aj Lj cj] 33)) := hbj.alloc hbj.size _
          have hb4 : Below w.heap.size w (wm.alloc (.cells #[.int .i64 nv, .slice Aj Lj cj] 33)) := hbw2.alloc hbw2.size _
          clear hbj hbw2
          by_cases he : nv = nu
          · have hbe : (nv == nu) = true := by rw [he]; exact beq_self_eq_true _
            have HNO := Lib.hid (show ¬ unlikeP bs from fun h => h i j (by rw [HZ.out]; exact hlt) hjlt (by rw [HNV.out, HNU.out, he]))
            clear he HC HJ HNV HNU hA1
            go_wp2_with fail
            go_ret
            exact ⟨false, rfl, ⟨(fun h => by cases h), fun h => absurd h HNO.out⟩, hb4⟩
          · have hbe : (nv == nu) = false := beq_eq_false_iff_ne.2 he
            have HJ2 := Lib.hid (show ∀ d, d < j + 1 → nuI bs d ≠ nu from fun d hd => by
              by_cases e : d = j
              · rw [e, HNV.out]; exact he
              · exact HJ.out d (by omega))
            clear he HJ HNV hA1
            go_wp2_with fail
            clear hA3 hA4 hb4 hcn2 hcd2 hA2
            generalize World.alloc _ _ = w3 at *
            go_roundw
            case rel => exact ⟨j + 1, by omega, by go_num, hb3, HJ2⟩
            case measure => simp [intOf]; omega
        · obtain rfl : j = i := by omega
          have hnj : ¬ (j : Int) < (j : Int) := by omega
          have HC2 := Lib.hid (show ∀ a d, a < j + 1 → d < a → nuI bs d ≠ nuI bs a from fun a d ha hd => by
            by_cases e : a = j
            · rw [e, HNU.out]; exact HJ.out d (by omega)
            · exact HC.out a d (by omega) hd)
          have hbw2 := hb2.trans (hbj.mono hb2.size)
          clear HC HJ HNU hA1
          go_wp2_with fail
          go_roundw
          case rel => exact ⟨j + 1, by omega, by go_num, hbw2, HC2⟩
          case measure => simp [intOf]; omega
    · obtain rfl : i = z := by omega
      have hni : ¬ (i : Int) < (i : Int) := by omega
      have HY := Lib.hid (show unlikeP bs from fun a d ha hd => HC.out a d (by rw [← HZ.out]; exact ha) hd)
      clear HC
      go_wp2_with fail
      go_ret
      exact ⟨true, rfl, ⟨fun _ => HY.out, fun _ => rfl⟩, hbel⟩

theorem nums_snoc (bs : List (Int × List UInt8)) (i : Nat) : (List.range (i + 1)).map (nuI bs) = (List.range i).map (nuI bs) ++ [nuI bs i] := by rw [List.range_succ, List.map_append]; rfl
theorem dats_snoc (bs : List (Int × List UInt8)) (i : Nat) : (List.range (i + 1)).map (daB bs) = (List.range i).map (daB bs) ++ [daB bs i] := by rw [List.range_succ, List.map_append]; rfl
theorem ty_apart : (3 : TypeId) ≠ 33 ∧ (22 : TypeId) ≠ 3 ∧ (3 : TypeId) ≠ 22 := by decide
set_option maxRecDepth 100000 in
set_option maxHeartbeats 4000000 in
theorem parted_any {w : World} {y : Value} {bs : List (Int × List UInt8)} (hy : BlV w y bs) (hn : bs.length ≤ 1000) :
    Calls Try.prog 39 #[y] w fun e w' => ∃ x v, e = .returned (.tuple #[x, v]) ∧ IV w' x ((List.range bs.length).map (nuI bs)) ∧ MV w' v ((List.range bs.length).map (daB bs)) ∧ Below w.heap.size w w' := by
  obtain ⟨X, c, rfl, hzc, hr⟩ := hy
  obtain ⟨i1, hi', hz0', hz1', hz2'⟩ := info_parts infoSlice
  obtain ⟨i2, hi, hz0, hz1, hz2⟩ := info_parts infoNum
  obtain ⟨z, hz⟩ : ∃ z, bs.length = z := ⟨_, rfl⟩
  have HZ := Lib.hid hz
  rw [hz] at hn hzc ⊢
  clear hz
  go_enter Try.func39, Try.ntmps39
  go_wp2_with fail
  go_loopw [2, 3, 8] (fun nv sv t wr => ∃ (i : Nat) (vs : List Value), i ≤ z ∧ t = .int .i64 i ∧ Below w.heap.size w wr ∧ Hid (wr.ownsRow w.heap.size 3 1 nv i (intCells ((List.range i).map (nuI bs)))) ∧ Hid (wr.ownsRow w.heap.size 22 1 sv i vs) ∧ Hid (sliceVals w w.heap.size vs ((List.range i).map (daB bs)))) (fun _ _ t _ => z - (intOf t).toNat)
  case atStart => exact ⟨0, [], by omega, rfl, Below.refl _ _, Lib.hid (World.ownsRow_nil _ _ _ _), Lib.hid (World.ownsRow_nil _ _ _ _), Lib.hid (sliceVals.nil _ _)⟩
  case round =>
    obtain ⟨i, vs, hin, rfl, hbel, HN, HO, HS⟩ := hrel
    by_cases hlt : i < z
    · have hii : (i : Int) < (z : Int) := by omega
      have hil : i < bs.length := by rw [HZ.out]; exact hlt
      obtain ⟨b, off, rfl⟩ := hr.some (by omega)
      obtain ⟨hbw, hcn, Ai, ci, hcd, hlc, hcm, hrd⟩ := hr.at_ hil
      have hcn2 := (hbel.cell (p := ⟨b, off + i * 2, none⟩) hbw).trans hcn
      have hcd2 := (hbel.cell (p := ⟨b, off + i * 2 + 1, none⟩) hbw).trans hcd
      have HNS := Lib.hid (nums_snoc bs i)
      have HS2 := Lib.hid (HS.out.snoc (rfl : (daB bs i).length = (daB bs i).length) hlc hcm hrd)
      rw [← dats_snoc bs i] at HS2
      obtain ⟨nu, hnu⟩ : ∃ x, nuI bs i = x := ⟨_, rfl⟩
      obtain ⟨Li, hLi⟩ : ∃ x, (daB bs i).length = x := ⟨_, rfl⟩
      rw [hnu] at hcn2 HNS
      rw [hLi] at hcd2 HS2
      clear hcn hcd hnu hLi hil hlc hrd HS
      obtain ⟨wo, rfl⟩ : ∃ y : World, y = wr := ⟨_, rfl⟩
      have HA1 := Lib.hid (show Blk (wo.alloc (.cells #[.int .i64 nu, .slice Ai Li ci] 33)) wo.heap.size #[.int .i64 nu, .slice Ai Li ci] 33 from Blk.new wo _ _)
      have hb2 : Below w.heap.size w (wo.alloc (.cells #[.int .i64 nu, .slice Ai Li ci] 33)) := hbel.alloc hbel.size _
      have HN2 := Lib.hid (HN.out.alloc (.cells #[.int .i64 nu, .slice Ai Li ci] 33))
      have HO2 := Lib.hid (HO.out.alloc (.cells #[.int .i64 nu, .slice Ai Li ci] 33))
      have hle := hbel.size
      clear HN HO
      have hsz : (wo.alloc (.cells #[.int .i64 nu, .slice Ai Li ci] 33)).heap.size = wo.heap.size + 1 := by simp
      have hle2 := hb2.size
      go_wp2_with (at_builtin; refine wpList_append_num rfl _ _ 51 rfl w.heap.size 3 i2 Try.underlying51 hi hz0 hz1 hz2 _ i ((List.range i).map (nuI bs)) rfl (wo.alloc (.cells #[.int .i64 nu, .slice Ai Li ci] 33)) nu rfl HN2.out (by rw [hsz]; rfl) (by omega) hle2 ?_)
      intro v3 w3 hown3 hg3
      rw [← HNS.out] at hown3
      have HN3 := Lib.hid hown3
      have HO3 := Lib.hid (own_apart (HO2.out.alloc (.cells #[.int .i64 nu] 3)) (HN2.out.alloc (.cells #[.int .i64 nu] 3)) ty_apart.2.1 hg3)
      have hA3 := (grown_apart (HN2.out.alloc (.cells #[.int .i64 nu] 3)) hg3 (HA1.out.alloc (.cells #[.int .i64 nu] 3)) ty_apart.1).cell 1
      have hb3 : Below w.heap.size w w3 := (hb2.alloc hle2 (.cells #[.int .i64 nu] 3)).grown hg3 (by simp; omega) (fun k hk => (HN2.out.lt k hk).1)
      simp at hA3
      have hle3 := hb3.size
      clear hown3 hg3 HN2 HO2 HA1 hb2 hle2 hcn2 hcd2
      go_wp2_with (at_builtin; refine wpList_append_one rfl _ _ 29 rfl w.heap.size 22 i1 Try.underlying29 hi' hz0' hz1' hz2' _ i vs rfl w3 Ai Li ci rfl HO3.out rfl (by omega) hle3 ?_)
      intro v4 w4 hown4 hg4
      have HO4 := Lib.hid hown4
      have HN4 := Lib.hid (own_apart (HN3.out.alloc (.cells #[.slice Ai Li ci] 22)) (HO3.out.alloc (.cells #[.slice Ai Li ci] 22)) ty_apart.2.2 hg4)
      have hb4 : Below w.heap.size w w4 := (hb3.alloc hle3 (.cells #[.slice Ai Li ci] 22)).grown hg4 (by simp; omega) (fun k hk => (HO3.out.lt k hk).1)
      clear hown4 hg4 HN3 HO3 hb3 hle3 hA3 hbel hle hsz
      go_wp2_with fail
      go_roundw
      case rel => exact ⟨i + 1, _, by omega, by go_num, hb4, HN4, HO4, HS2⟩
      case measure => simp [intOf]; omega
    · obtain rfl : i = z := by omega
      obtain ⟨A', c', rfl, hkc, _⟩ := own_caps HO.out
      obtain ⟨A2, c2, rfl, hkc2, _⟩ := own_caps HN.out
      have HV := Lib.hid (show MV wr (.slice A' i c') ((List.range i).map (daB bs)) from MV.mk (by simp) hkc (RdR.of_own HO.out (HS.out.below hbel (Nat.le_refl _)) hbel.size))
      have HI := Lib.hid (show IV wr (.slice A2 i c2) ((List.range i).map (nuI bs)) from ⟨A2, c2, by simp, by simpa using hkc2, RdI.of_own HN.out (by simp)⟩)
      have hni : ¬ (i : Int) < (i : Int) := by omega
      clear HN HO HS
      go_wp2_with fail
      go_ret2
      exact ⟨_, _, rfl, HI.out, HV.out, hbel⟩
end Go.Proofs.Ytdaofffkbnkljaa
namespace Go.Proofs.Ytdaofffkbnkljaa
open Go.RowKit

theorem flat_grid (f : Nat → Nat → UInt8) (L : Nat) : ∀ k, ((List.range k).map fun i => (List.range L).map (f i)).flatten = (List.range (k * L)).map fun q => f (q / L) (q % L)
  | 0 => by simp
  | k + 1 => by
    rw [List.range_succ, List.map_append, List.flatten_append, flat_grid f L k, Nat.add_mul, Nat.one_mul, List.range_add, List.map_append]
    simp only [List.map_cons, List.map_nil, List.flatten_cons, List.flatten_nil, List.append_nil, List.map_map]
    congr 1
    refine List.map_congr_left fun x hx => ?_
    have hx := List.mem_range.1 hx
    have e1 : (k * L + x) / L = k := by rw [Nat.add_comm, Nat.mul_comm, Nat.add_mul_div_left _ _ (by omega), Nat.div_eq_of_lt hx, Nat.zero_add]
    have e2 : (k * L + x) % L = x := by rw [Nat.add_comm, Nat.mul_comm, Nat.add_mul_mod_self_left, Nat.mod_eq_of_lt hx]
    simp only [Function.comp, e1, e2]
theorem mix_dec (r : Mx) (bs : List (Int × List UInt8)) (k L : Nat) : (mixL r ((List.range k).map (daB bs)) k L k).flatten = decL r (daB bs) k L := by
  unfold mixL parD decL
  rw [flat_grid (fun i q => sumN k fun m => mulU (r i m) ((((List.range k).map (daB bs)).getD m []).getD q 0))]
  refine List.map_congr_left fun q _ => sumN_congr fun j hj => ?_
  have e : ((List.range k).map (daB bs)).getD j [] = daB bs j := by simp [List.getD_eq_getElem?_getD, hj]
  rw [e]
theorem SaidEnd.yes {W : World} {p : Prop} {e : Ending} {w' : World} (h : SaidEnd W p e w') (hp : p) : e = .returned (.bool true) ∧ Below W.heap.size W w' := by
  obtain ⟨u, h1, h2, h3⟩ := h
  rw [h1, h2.2 hp]
  exact ⟨rfl, h3⟩
theorem SaidEnd.no {W : World} {p : Prop} {e : Ending} {w' : World} (h : SaidEnd W p e w') (hp : ¬ p) : e = .returned (.bool false) ∧ Below W.heap.size W w' := by
  obtain ⟨u, h1, h2, h3⟩ := h
  cases u
  · exact ⟨h1, h3⟩
  · exact absurd (h2.1 rfl) hp
theorem dec_not {G : Mx} {k n : Nat} {bs : List (Int × List UInt8)} (h : ¬ decOK k n bs) : DecP G k n bs 1 [] := .inl ⟨h, rfl, rfl⟩

theorem rows_of {G : Mx} {bs : List (Int × List UInt8)} {z n : Nat} (h1 : 1 ≤ z) (h2 : z ≤ n) (h3 : n ≤ 16) (hz : bs.length = z) (h : ∀ i, i < z → 0 ≤ nuI bs i ∧ nuI bs i < n) :
    rowsE (rowsL G 0 z n) ((List.range bs.length).map (nuI bs)) = 0 ∧ rowsS (rowsL G 0 z n) ((List.range bs.length).map (nuI bs)) = rowsL (fun a j => G (nuB bs a) j) 0 z z := by
  have ok : rowsOK (rowsL G 0 z n) ((List.range bs.length).map (nuI bs)) := ⟨isMx_rows G (by omega) h3 h1 (by omega), by simp; omega, fun i hi => by
    have hi2 : i < z := by simpa [hz] using hi
    have := h i hi2
    rw [rowsL_len]
    simpa using this⟩
  refine ⟨if_pos ok, ?_⟩
  unfold rowsS
  rw [if_pos ok, List.map_map, hz]
  refine List.map_congr_left fun a ha => ?_
  have ha := List.mem_range.1 ha
  have := h a ha
  show (rowsL G 0 z n).getD (nuI bs a).toNat [] = _
  rw [row_at G z (by omega)]
  rfl
theorem rows_not {G : Mx} {bs : List (Int × List UInt8)} {z n : Nat} (hz : bs.length = z) (h : ¬ ∀ i, i < z → 0 ≤ nuI bs i ∧ nuI bs i < n) :
    rowsE (rowsL G 0 z n) ((List.range bs.length).map (nuI bs)) = 1 ∧ rowsS (rowsL G 0 z n) ((List.range bs.length).map (nuI bs)) = [] :=
  rowsOK_no fun ok => h fun i hi => by
    have := ok.2.2 i (by simp [hz]; exact hi)
    rw [rowsL_len] at this
    simpa using this
set_option maxRecDepth 100000 in
set_option maxHeartbeats 4000000 in
theorem cdec_any {w : World} {g k n : Nat} {G : Mx} {y : Value} {bs : List (Int × List UInt8)} (hG : Gen k G) (h : CodeAt w g k n) (hy : BlV w y bs) (hb : ∀ i, i < bs.length → (daB bs i).length ≤ 1000) :
    Calls Try.prog 15 #[.pointer (some ⟨g, 0, none⟩), y] w (PDecEnd w G k n bs) := by
  obtain ⟨hk, hkn, hn, A, c, fd, hB, hc, hF, hR⟩ := h
  have hr := hR G hG
  have HGL := Lib.hid hB.lt
  have hl0 : w.cell? ⟨g, 0, none⟩ = some (.int .i64 (k : Int)) := hB.cell 0
  have HL1 := Lib.hid (show w.cell? ⟨g, 1, none⟩ = some (.slice A n c) from hB.cell 1)
  have HL2 := Lib.hid (show w.cell? ⟨g, 2, none⟩ = some (.pointer (some ⟨fd, 0, none⟩)) from hB.cell 2)
  have HFD := Lib.hid hF
  have HRR := Lib.hid hr
  have HY := Lib.hid hy
  obtain ⟨X, cy, rfl, hzc, _⟩ := hy
  obtain ⟨z, hz⟩ : ∃ z, bs.length = z := ⟨_, rfl⟩
  have HZ := Lib.hid hz
  have HB := Lib.hid hb
  rw [hz] at hzc HY ⊢
  clear hR hB hF hb hr hz
  by_cases hzk : z = k
  · subst hzk
    have hne : ((z : Int) != (z : Int)) = false := by simp
    have HUN := Lib.hid (unlike_any HY.out (by rw [HZ.out]; omega))
    by_cases hu : unlikeP bs
    · have HEV := Lib.hid (fun W (h : Below w.heap.size w W) => even_any (HY.out.on h) (by rw [HZ.out]; omega))
      by_cases hv : evenP bs
      · have HPA := Lib.hid (fun W (h : Below w.heap.size w W) => parted_any (HY.out.on h) (by rw [HZ.out]; omega))
        have HU := Lib.hid hu
        have HV := Lib.hid hv
        have HYS := Lib.hid hk
        clear hu hv
        go_enter Try.func15, Try.ntmps15
        go_wp2_with fail
        with_reducible refine (HUN.out).mono ?_
        intro e w1 h1
        obtain ⟨rfl, hb1⟩ := h1.yes HU.out
        have HE2 := Lib.hid (HEV.out w1 hb1)
        clear HUN HEV h1
        go_wp2_with fail
        with_reducible refine (HE2.out).mono ?_
        intro e w2 h2
        obtain ⟨rfl, hb2'⟩ := h2.yes HV.out
        have hb2 := hb1.trans (hb2'.mono hb1.size)
        have HP2 := Lib.hid (HPA.out w2 hb2)
        clear HE2 HPA h2 hb1 hb2' hl0
        go_wp2_with fail
        with_reducible refine (HP2.out).mono ?_
        rintro e w3 ⟨x, v, rfl, hx, hv3, hb3'⟩
        have hb3 := hb2.trans (hb3'.mono hb2.size)
        have hl1 := (hb3.cell (p := ⟨g, 1, none⟩) HGL.out).trans HL1.out
        have HRO := Lib.hid (prows_any (MV.mk (rowsL_len G 0 z n) hc ((HRR.out.below hb3 (Nat.le_refl _)).more hb3.size)) hx (by simp; rw [HZ.out]; omega))
        have HV3 := Lib.hid hv3
        have HB3 := Lib.hid hb3
        clear HP2 hb2 hb3' hx hv3 hb3
        go_wp2_with fail
        by_cases hro : ∀ i, i < z → 0 ≤ nuI bs i ∧ nuI bs i < n
        · have HOK := Lib.hid (show decOK z n bs from ⟨HZ.out, fun i hi => ⟨(hro i hi).1, (hro i hi).2, HV.out i (by rw [HZ.out]; exact hi)⟩, fun i j hi hj => HU.out i j (by rw [HZ.out]; exact hi) hj⟩)
          have HRS := Lib.hid (rows_of (G := G) hk hkn hn HZ.out hro)
          rw [HRS.out.1, HRS.out.2] at HRO
          clear hro HRS
          with_reducible refine (HRO.out).mono ?_
          rintro e w4 ⟨so, rfl, hso, hb4⟩
          have HIN := Lib.hid (pinv_any hso)
          have HV4 := Lib.hid (HV3.out.on hb4)
          have HB4 := Lib.hid (HB3.out.trans (hb4.mono HB3.out.size))
          clear HRO hso hb4 HV3 HB3 hl1
          go_wp2_with fail
          with_reducible refine (HIN.out).mono ?_
          rintro e w5 ⟨vb, er, rs, rfl, hinv, hvb, hb5⟩
          rcases inv_cases (sqL_rows (fun a j => G (nuB bs a) j) 0 z) hk (by omega) hinv with ⟨rfl, hs, hi⟩ | ⟨_, _, hnf⟩
          · have HIV := Lib.hid (show IsInv z (fun a j => G (nuB bs a) j) (entM rs) from hi.of_alike (rows_alike _ z z) (fun _ _ _ _ => rfl))
            have HB5 := Lib.hid (HB4.out.trans (hb5.mono HB4.out.size))
            have HV5 := Lib.hid (HV4.out.on hb5)
            obtain ⟨Xb, cb, rfl, hcb, hrb⟩ := hvb
            obtain ⟨Xv, cv, hve, hcv, hrv⟩ := HV5.out
            subst hve
            have hvl : ((List.range bs.length).map (daB bs)).length = z := by simp [HZ.out]
            have hrl : rs.length = z := hs.1
            have hrs : rs = rowsL (entM rs) 0 z z := hs.ext (sqL_rows _ _ _) (rows_alike (entM rs) z z).symm
            obtain ⟨L, hL⟩ : ∃ L, (daB bs 0).length = L := ⟨_, rfl⟩
            have HLL := Lib.hid hL
            have hL1 : L ≤ 1000 := by rw [← hL]; exact HB.out 0 (by rw [HZ.out]; omega)
            have hzL : z * L ≤ 16 * 1000 := Nat.mul_le_mul (by omega) hL1
            have hdl : ∀ r ∈ (List.range bs.length).map (daB bs), r.length = L := fun r hr => by
              obtain ⟨a, ha, rfl⟩ := List.mem_map.1 hr
              rw [HV.out a (List.mem_range.1 ha), hL]
            rw [hrs] at hrb
            have HMX := Lib.hid (mixes_any (w := w5) (g := g) (fd := fd) (cx := cb) (cy := cv) (m := z) (entM rs) ((List.range bs.length).map (daB bs)) ((HB5.out.cell (p := ⟨g, 2, none⟩) HGL.out).trans HL2.out) (Nat.lt_of_lt_of_le HGL.out HB5.out.size) (HFD.out.below HB5.out HFD.out.lt) hrb hrv hvl hdl hk (by omega) (by omega) (by omega))
            have HFL := Lib.hid (show (mixL (entM rs) ((List.range bs.length).map (daB bs)) z L z).flatten = decL (entM rs) (daB bs) z L by rw [HZ.out]; exact mix_dec _ _ _ _)
            have HMLN := Lib.hid (show (mixL (entM rs) ((List.range bs.length).map (daB bs)) z L z).length = z by simp [mixL])
            have HDEC := Lib.hid (show DecP G z n bs 0 (decL (entM rs) (daB bs) z L) from .inr ⟨HOK.out, rfl, entM rs, HIV.out, by rw [HLL.out]⟩)
            have HDL := Lib.hid (decL_len (entM rs) (daB bs) z L)
            rw [hvl, hrl]
            generalize mixL (entM rs) ((List.range bs.length).map (daB bs)) z L z = ml at *
            generalize decL (entM rs) (daB bs) z L = out at *
            clear hinv hs hi hb5 hcb hrb hcv hrv hvl hrl hrs hL hdl HV4 HV5 HIV HIN
            go_wp2_with fail
            with_reducible refine (HMX.out).mono ?_
            rintro e w6 ⟨v6, rfl, hmo, hb6⟩
            obtain ⟨Xm, cm, hme, hcm, hrm⟩ := hmo.mv
            subst hme
            rw [HMLN.out]
            have HCC := Lib.hid (concat_all Xm z cm (z * L) w6.heap.size ml w6 HMLN.out (by rw [HFL.out, HDL.out]) (by omega) (by omega) (Nat.le_refl _) hrm)
            rw [HFL.out] at HCC
            have HB6 := Lib.hid (HB5.out.trans (hb6.mono HB5.out.size))
            clear hmo hb6 hcm hrm HMX HB5
            go_wp2_with fail
            with_reducible refine (HCC.out).mono ?_
            rintro e w7 ⟨v7, rfl, hown, hb7⟩
            obtain ⟨X7, c7, hv7, hc7, _⟩ := own_caps hown.own
            subst hv7
            have HBV := Lib.hid (show BV w7 (.slice X7 (z * L) c7) out from ⟨X7, c7, by rw [HDL.out], by rw [HDL.out]; exact hc7, hown.rd⟩)
            have HB7 := Lib.hid (HB6.out.trans (hb7.mono HB6.out.size))
            clear hown hb7 hc7 HCC HB6
            go_wp2_with fail
            go_ret2
            exact ⟨_, 0, _, rfl, HDEC.out, HBV.out, HB7.out⟩
          · exact absurd ((faithful_iff z _).2 (by
              obtain ⟨r, hr⟩ := hG.pick (nuB bs) (fun a d ha hd e => HOK.out.unlike ha hd e) (fun a ha => by
                have h8 := HOK.out.2.1 a ha
                unfold nuB
                omega)
              exact ⟨r, hr.of_alike (rows_alike _ z z).symm (fun _ _ _ _ => rfl)⟩)) hnf
        · have HD := Lib.hid (dec_not (G := G) (k := z) (n := n) (bs := bs) fun h => hro fun i hi => ⟨(h.2.1 i hi).1, (h.2.1 i hi).2.1⟩)
          have HRS := Lib.hid (rows_not (G := G) HZ.out hro)
          rw [HRS.out.1, HRS.out.2] at HRO
          clear hro HRS
          with_reducible refine (HRO.out).mono ?_
          rintro e w4 ⟨so, rfl, _, hb4⟩
          have HB4 := Lib.hid (HB3.out.trans (hb4.mono HB3.out.size))
          clear hb4 HRO HV3
          go_wp2_with fail
          go_ret2
          exact ⟨_, 1, [], rfl, HD.out, BV.nil _, HB4.out⟩
      · have HD := Lib.hid (dec_not (G := G) (k := z) (n := n) (bs := bs) fun h => hv fun i hi => (h.2.1 i (by rw [← HZ.out]; exact hi)).2.2)
        have HU := Lib.hid hu
        have HV := Lib.hid hv
        clear hu hv
        go_enter Try.func15, Try.ntmps15
        go_wp2_with fail
        with_reducible refine (HUN.out).mono ?_
        intro e w1 h1
        obtain ⟨rfl, hb1⟩ := h1.yes HU.out
        have HE2 := Lib.hid (HEV.out w1 hb1)
        clear HUN HEV h1
        go_wp2_with fail
        with_reducible refine (HE2.out).mono ?_
        intro e w2 h2
        obtain ⟨rfl, hb2⟩ := h2.no HV.out
        have hb3 := hb1.trans (hb2.mono hb1.size)
        clear HE2 h2
        go_wp2_with fail
        go_ret2
        exact ⟨_, 1, [], rfl, HD.out, BV.nil _, hb3⟩
    · have HD := Lib.hid (dec_not (G := G) (k := z) (n := n) (bs := bs) fun h => hu fun i j hi hj => h.2.2 i j (by rw [← HZ.out]; exact hi) hj)
      have HU := Lib.hid hu
      clear hu
      go_enter Try.func15, Try.ntmps15
      go_wp2_with fail
      with_reducible refine (HUN.out).mono ?_
      intro e w1 h1
      obtain ⟨rfl, hb1⟩ := h1.no HU.out
      clear HUN h1
      go_wp2_with fail
      go_ret2
      exact ⟨_, 1, [], rfl, HD.out, BV.nil _, hb1⟩
  · have hne : ((z : Int) != (k : Int)) = true := by simp only [bne_iff_ne, ne_eq]; omega
    have HD := Lib.hid (dec_not (G := G) (k := k) (n := n) (bs := bs) fun h => hzk (by rw [← HZ.out]; exact h.1))
    clear hzk
    go_enter Try.func15, Try.ntmps15
    go_wp2_with fail
    go_ret2
    exact ⟨_, 1, [], rfl, HD.out, BV.nil _, Below.refl _ _⟩
end Go.Proofs.Ytdaofffkbnkljaa
