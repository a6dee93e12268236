/- The program's matrices, cell by cell: filled, at each function that it is handed. The program's matrices, cell by cell: filled with powers, and with what stands in a column. The program's matrices from the first: Unit, Vandermonde, columnsOf. -/
import Derived.Test.YtdaofffkbnkljaaMxH
import Derived.Test.YtdaofffkbnkljaaGfW
import Derived.Deep.RegionHeld3
namespace Go.Proofs.Ytdaofffkbnkljaa
open Go.RowKit

theorem u8_small {n : Nat} (h : n < 256) : IntKind.u8.wrap (n : Int) = (n : Int) := by rw [IntKind.wrap_u8]; omega
theorem unit_byte (i j : Nat) : ((unitM i j).toNat : Int) = if i = j then 1 else 0 := by
  unfold unitM
  by_cases h : i = j
  · rw [if_pos h, if_pos h]; rfl
  · rw [if_neg h, if_neg h]; rfl
theorem alike_any (i j : Nat) (w : World) (hi : i < 256) :
    Calls Try.prog 80 #[.int .u8 (i : Int), .int .i64 (j : Int)] w fun e w' => e = .returned (.int .u8 ((unitM i j).toNat : Int)) ∧ ∃ q, w' = w.drewN q := by
  have HB := Lib.hid (unit_byte i j)
  have h0 : (i : Int) < 256 := by omega
  by_cases h : i = j
  · have he : ((i : Int) == (j : Int)) = true := by rw [h]; exact beq_self_eq_true _
    have HE := Lib.hid h
    clear h
    go_enter Try.func80, Try.ntmps80
    go_wp2_with fail
    go_ret
    exact ⟨by rw [HB.out, if_pos HE.out]; rfl, 0, rfl⟩
  · have he : ((i : Int) == (j : Int)) = false := beq_eq_false_iff_ne.2 (by omega)
    have HE := Lib.hid h
    clear h
    go_enter Try.func80, Try.ntmps80
    go_wp2_with fail
    go_ret
    exact ⟨by rw [HB.out, if_neg HE.out]; rfl, 0, rfl⟩

theorem fill_alike_no (n k : Int)  (w : World) (h : ¬ (1 ≤ n ∧ n ≤ 16 ∧ 1 ≤ k ∧ k ≤ 16)) :
    Calls Try.prog 48 #[.int .i64 n, .int .i64 k, .func (.func 80) #[] #[]] w fun e w' => e = .returned (.slice none 0 0) ∧ w = w' := by
  have HC := Lib.hid (pside_any n w)
  by_cases h1 : 1 ≤ n ∧ n ≤ 16
  · have HC2 := Lib.hid (pside_no (n := k) w (by omega))
    rw [sideB_yes h1.1 h1.2] at HC
    clear h h1
    go_enter Try.func48, Try.ntmps48
    go_wp2_with fail
    with_reducible refine (HC.out).mono ?_
    rintro e w1 ⟨rfl, rfl⟩
    go_wp2_with fail
    with_reducible refine (HC2.out).mono ?_
    rintro e w1 ⟨rfl, rfl⟩
    go_wp2_with fail
    go_ret
    exact ⟨rfl, rfl⟩
  · rw [sideB_no (by omega)] at HC
    clear h h1
    go_enter Try.func48, Try.ntmps48
    go_wp2_with fail
    with_reducible refine (HC.out).mono ?_
    rintro e w1 ⟨rfl, rfl⟩
    go_wp2_with fail
    go_ret
    exact ⟨rfl, rfl⟩
set_option maxRecDepth 100000 in
set_option maxHeartbeats 4000000 in
theorem fill_alike_mx (n k : Nat) (f : Mx)  (w : World) (h1 : 1 ≤ n) (h2 : n ≤ 16) (h3 : 1 ≤ k) (h4 : k ≤ 16)
    (hcell : ∀ W, Below w.heap.size w W → ∀ i j, i < n → j < k → Calls Try.prog 80 #[.int .u8 (i : Int), .int .i64 (j : Int)] W fun e w' => e = .returned (.int .u8 ((f i j).toNat : Int)) ∧ ∃ q, w' = W.drewN q) :
    Calls Try.prog 48 #[.int .i64 (n : Int), .int .i64 (k : Int), .func (.func 80) #[] #[]] w fun e w' => ∃ g, e = .returned (.slice (some ⟨g, 0, none⟩) n n) ∧ (∃ β γ, MxW w' w.heap.size g β γ n k f) ∧ Below w.heap.size w w' := by
  have HCELL := Lib.hid hcell
  clear hcell
  obtain ⟨i0, hi, hz0, hz1, hz2⟩ := info_parts info5
  obtain ⟨i1, hi', hz0', hz1', hz2'⟩ := info_parts infoSlice
  have hmk := fun W => run_make (P := Try.prog) W 22 5 i0 (.int .u8 0) Try.underlying22 hi hz0 .i64 .i64 (k : Int) (k : Int) (by omega) (by omega) (by rw [hz2]; omega) (by omega)
  have hmk2 := fun W => run_make (P := Try.prog) W 29 22 i1 (.slice none 0 0) Try.underlying29 hi' hz0' .i64 .i64 (n : Int) (n : Int) (by omega) (by omega) (by rw [hz2']; omega) (by omega)
  simp only [hz1, hz1', Nat.mul_one] at hmk hmk2
  have HC := Lib.hid (pside_yes w h1 h2)
  have HC2 := Lib.hid (pside_yes w h3 h4)
  have hn1 : (1 : Int) ≤ (n : Int) := by omega
  have hn16 : (n : Int) ≤ 16 := by omega
  have hk1 : (1 : Int) ≤ (k : Int) := by omega
  have hk16 : (k : Int) ≤ 16 := by omega
  clear hi hz0 hz1 hz2 hi' hz0' hz1' hz2'
  go_enter Try.func48, Try.ntmps48
  go_wp2_with fail
  with_reducible refine (HC.out).mono ?_
  rintro e w1 ⟨rfl, rfl⟩
  go_wp2_with fail
  with_reducible refine (HC2.out).mono ?_
  rintro e w1 ⟨rfl, rfl⟩
  go_wp2_with fail
  have HH0 := Lib.hid (MxH.new w n)
  have hb0 : Below w.heap.size w (w.alloc (.cells (madeCells #[Value.slice none 0 0] n) 22)) := (Below.refl _ _).alloc (Nat.le_refl _) _
  have HM0 := Lib.hid (MxW.noRows (β := fun _ => 0) (γ := fun _ => 0) _ (Nat.le_refl w.heap.size) HH0.out k f)
  obtain ⟨g, hg⟩ : ∃ g, w.heap.size = g := ⟨_, rfl⟩
  generalize w.alloc (.cells (madeCells #[Value.slice none 0 0] n) 22) = w1 at *
  have HG := Lib.hid hg
  rw [hg] at HM0 HH0 HCELL hb0 ⊢
  clear hg hmk2 HC HC2
  go_loopw [22] (fun t wr => ∃ (i : Nat) (β γ : Nat → Nat), i ≤ n ∧ t = .int .i64 i ∧ Below g w wr ∧ g ≤ wr.heap.size ∧ Hid (MxW wr g g β γ i k f) ∧ Hid (MxH wr g n)) (fun t _ => n - (intOf t).toNat)
  case atStart => exact ⟨0, _, _, by omega, rfl, hb0, by have := HH0.out.lt; omega, HM0, HH0⟩
  case round =>
    clear hb0 HM0 HH0
    obtain ⟨i, β, γ, hin, rfl, hbel, hgs, HM, HH⟩ := hrel
    by_cases hlt : i < n
    · have hii : (i : Int) < (n : Int) := by omega
      obtain ⟨o, ho⟩ := HH.out.at_ hlt
      have hfz := HH.out.free i
      have ho2 : (wr.alloc (.cells (madeCells #[Value.int .u8 0] k) 5)).cell? ⟨g, i, none⟩ = some o := (World.cell?_alloc_lt wr _ _ HH.out.lt).trans ho
      have hf2 := (HH.out.alloc (.cells (madeCells #[Value.int .u8 0] k) 5)).free i
      have HR := Lib.hid (HM.out.newRow HH.out hlt hgs (by unfold maxLen; omega))
      have HH2 := Lib.hid ((HH.out.alloc (.cells (madeCells #[Value.int .u8 0] k) 5)).put i (.slice (some ⟨wr.heap.size, 0, none⟩) k k))
      have hb2 : Below g w ((wr.alloc (.cells (madeCells #[Value.int .u8 0] k) 5)).setCell ⟨g, i, none⟩ (.slice (some ⟨wr.heap.size, 0, none⟩) k k)) := (hbel.alloc hgs _).setCell (Nat.le_refl _) _
      have hgs2 : g ≤ ((wr.alloc (.cells (madeCells #[Value.int .u8 0] k) 5)).setCell ⟨g, i, none⟩ (.slice (some ⟨wr.heap.size, 0, none⟩) k k)).heap.size := by simp; omega
      have hhd := HR.out.header (Nat.lt_succ_self i)
      simp only [if_pos] at hhd
      clear hbel HM HH
      go_wp2_with fail
      clear ho hfz ho2 hf2 hhd
      generalize World.setCell _ _ _ = w2 at *
      generalize (fun a => if a = i then wr.heap.size else β a) = β2 at HR
      generalize (fun a => if a = i then k else γ a) = γ2 at HR
      go_loopw [35] (fun t wq => ∃ j : Nat, j ≤ k ∧ t = .int .i64 j ∧ Below g w wq ∧ g ≤ wq.heap.size ∧ Hid (MxW wq g g β2 γ2 (i + 1) k (rowTo f i j)) ∧ Hid (MxH wq g n)) (fun t _ => k - (intOf t).toNat)
      case atStart => exact ⟨0, by omega, rfl, hb2, hgs2, HR, HH2⟩
      case round =>
        clear hb2 hgs2 HR HH2
        obtain ⟨j, hj, rfl, hbel, hgs3, HM, HH⟩ := hrel
        by_cases hjk : j < k
        · have hji : (j : Int) < (k : Int) := by omega
          have hhd := HM.out.header (Nat.lt_succ_self i)
          have hb := HM.out.byte (Nat.lt_succ_self i) hjk
          have hf := HM.out.byteFree (Nat.lt_succ_self i) j
          have HRB := Lib.hid (HM.out.rowBase (Nat.lt_succ_self i))
          have HST := Lib.hid (fun q => ((HM.out.drewN q).store (Nat.lt_succ_self i) hjk (f i j)).congr (f' := rowTo f i (j + 1)) fun a b ha _ => rowTo_step f i j a b ha)
          have HHS := Lib.hid (fun q v => ((HH.out.drewN q).other (HM.out.ne (Nat.lt_succ_self i)) j v))
          have hgb := HM.out.ne (Nat.lt_succ_self i)
          have HX := Lib.hid (fun W (h : Below g w W) => HCELL.out W h i j hlt hjk)
          have hu8 := u8_small (n := i) (by omega)
          generalize f i j = x at *
          generalize ((rowTo f i j i j).toNat : Int) = y at *
          clear HM HH
          generalize β2 i = bi at *
          generalize γ2 i = ci at *
          have HHD := Lib.hid hhd
          go_wp2_with fail
          go_region_held3 (fun W => W.cell? ⟨g, i, none⟩ = some (.slice (some ⟨bi, 0, none⟩) k ci)) (first | go_keep | exact (World.cell?_setCell_far _ _ _ _ (fun e => hgb e.symm)).trans HHD.out)
            ((first
              | (go_at_call 80
                 with_reducible refine (HX.out _ (by first | exact hbel | exact hbel.drew | exact below_drewN hbel _)).mono ?_
                 rintro e w4 ⟨rfl, q, rfl⟩)))
          have HM2 := Lib.hid (HST.out (1 + q))
          have HH2 := Lib.hid (HHS.out (1 + q) (.int .u8 (x.toNat : Int)))
          have hb4 : Below g w ((wr.drewN (1 + q)).setCell ⟨bi, j, none⟩ (.int .u8 (x.toNat : Int))) := (below_drewN hbel (1 + q)).setCell HRB.out _
          have hgs4 : g ≤ ((wr.drewN (1 + q)).setCell ⟨bi, j, none⟩ (.int .u8 (x.toNat : Int))).heap.size := by simp; omega
          clear hhd hb hf HRB HST HHS HX hbel hgs3 HHD
          generalize World.setCell _ _ _ = w5 at *
          go_wp2_with fail
          go_roundw
          case rel => exact ⟨j + 1, by omega, by go_num, hb4, hgs4, HM2, HH2⟩
          case measure => simp [intOf]; omega
        · obtain rfl : j = k := by omega
          have HM2 := Lib.hid (HM.out.congr (f' := f) fun a b _ hb => rowTo_all f i j a b hb)
          clear HM
          go_wp2_with fail
          go_roundw
          case rel => exact ⟨i + 1, _, _, by omega, by go_num, hbel, hgs3, HM2, HH⟩
          case measure => simp [intOf]; omega
    · obtain rfl : i = n := by omega
      have hni : ¬ (i : Int) < (i : Int) := by omega
      clear HH
      go_wp2_with fail
      go_ret
      exact ⟨g, rfl, ⟨β, γ, by rw [HG.out]; exact HM.out⟩, by rw [HG.out]; exact hbel⟩
theorem fill_alike_any (n k : Nat) (f : Mx)  (w : World) (h1 : 1 ≤ n) (h2 : n ≤ 16) (h3 : 1 ≤ k) (h4 : k ≤ 16)
    (hcell : ∀ W, Below w.heap.size w W → ∀ i j, i < n → j < k → Calls Try.prog 80 #[.int .u8 (i : Int), .int .i64 (j : Int)] W fun e w' => e = .returned (.int .u8 ((f i j).toNat : Int)) ∧ ∃ q, w' = W.drewN q) :
    Calls Try.prog 48 #[.int .i64 (n : Int), .int .i64 (k : Int), .func (.func 80) #[] #[]] w fun e w' => ∃ v, e = .returned v ∧ MV w' v (rowsL f 0 k n) ∧ Below w.heap.size w w' :=
  (fill_alike_mx n k f  w h1 h2 h3 h4 hcell).mono fun _ _ ⟨_, he, ⟨_, _, hm⟩, hb⟩ => ⟨_, he, hm.mv (Nat.le_refl n), hb⟩
end Go.Proofs.Ytdaofffkbnkljaa
namespace Go.Proofs.Ytdaofffkbnkljaa
open Go.RowKit


theorem fill_pow_no (n k : Int) (fd : Nat) (w : World) (h : ¬ (1 ≤ n ∧ n ≤ 16 ∧ 1 ≤ k ∧ k ≤ 16)) :
    Calls Try.prog 48 #[.int .i64 n, .int .i64 k, .func (.func 49) #[.pointer (some ⟨fd, 0, none⟩)] #[]] w fun e w' => e = .returned (.slice none 0 0) ∧ w = w' := by
  have HC := Lib.hid (pside_any n w)
  by_cases h1 : 1 ≤ n ∧ n ≤ 16
  · have HC2 := Lib.hid (pside_no (n := k) w (by omega))
    rw [sideB_yes h1.1 h1.2] at HC
    clear h h1
    go_enter Try.func48, Try.ntmps48
    go_wp2_with fail
    with_reducible refine (HC.out).mono ?_
    rintro e w1 ⟨rfl, rfl⟩
    go_wp2_with fail
    with_reducible refine (HC2.out).mono ?_
    rintro e w1 ⟨rfl, rfl⟩
    go_wp2_with fail
    go_ret
    exact ⟨rfl, rfl⟩
  · rw [sideB_no (by omega)] at HC
    clear h h1
    go_enter Try.func48, Try.ntmps48
    go_wp2_with fail
    with_reducible refine (HC.out).mono ?_
    rintro e w1 ⟨rfl, rfl⟩
    go_wp2_with fail
    go_ret
    exact ⟨rfl, rfl⟩
set_option maxRecDepth 100000 in
set_option maxHeartbeats 4000000 in
theorem fill_pow_mx (n k : Nat) (f : Mx) (fd : Nat) (w : World) (h1 : 1 ≤ n) (h2 : n ≤ 16) (h3 : 1 ≤ k) (h4 : k ≤ 16)
    (hcell : ∀ W, Below w.heap.size w W → ∀ i j, i < n → j < k → Calls Try.prog 49 #[.pointer (some ⟨fd, 0, none⟩), .int .u8 (i : Int), .int .i64 (j : Int)] W fun e w' => e = .returned (.int .u8 ((f i j).toNat : Int)) ∧ ∃ q, w' = W.drewN q) :
    Calls Try.prog 48 #[.int .i64 (n : Int), .int .i64 (k : Int), .func (.func 49) #[.pointer (some ⟨fd, 0, none⟩)] #[]] w fun e w' => ∃ g, e = .returned (.slice (some ⟨g, 0, none⟩) n n) ∧ (∃ β γ, MxW w' w.heap.size g β γ n k f) ∧ Below w.heap.size w w' := by
  have HCELL := Lib.hid hcell
  clear hcell
  obtain ⟨i0, hi, hz0, hz1, hz2⟩ := info_parts info5
  obtain ⟨i1, hi', hz0', hz1', hz2'⟩ := info_parts infoSlice
  have hmk := fun W => run_make (P := Try.prog) W 22 5 i0 (.int .u8 0) Try.underlying22 hi hz0 .i64 .i64 (k : Int) (k : Int) (by omega) (by omega) (by rw [hz2]; omega) (by omega)
  have hmk2 := fun W => run_make (P := Try.prog) W 29 22 i1 (.slice none 0 0) Try.underlying29 hi' hz0' .i64 .i64 (n : Int) (n : Int) (by omega) (by omega) (by rw [hz2']; omega) (by omega)
  simp only [hz1, hz1', Nat.mul_one] at hmk hmk2
  have HC := Lib.hid (pside_yes w h1 h2)
  have HC2 := Lib.hid (pside_yes w h3 h4)
  have hn1 : (1 : Int) ≤ (n : Int) := by omega
  have hn16 : (n : Int) ≤ 16 := by omega
  have hk1 : (1 : Int) ≤ (k : Int) := by omega
  have hk16 : (k : Int) ≤ 16 := by omega
  clear hi hz0 hz1 hz2 hi' hz0' hz1' hz2'
  go_enter Try.func48, Try.ntmps48
  go_wp2_with fail
  with_reducible refine (HC.out).mono ?_
  rintro e w1 ⟨rfl, rfl⟩
  go_wp2_with fail
  with_reducible refine (HC2.out).mono ?_
  rintro e w1 ⟨rfl, rfl⟩
  go_wp2_with fail
  have HH0 := Lib.hid (MxH.new w n)
  have hb0 : Below w.heap.size w (w.alloc (.cells (madeCells #[Value.slice none 0 0] n) 22)) := (Below.refl _ _).alloc (Nat.le_refl _) _
  have HM0 := Lib.hid (MxW.noRows (β := fun _ => 0) (γ := fun _ => 0) _ (Nat.le_refl w.heap.size) HH0.out k f)
  obtain ⟨g, hg⟩ : ∃ g, w.heap.size = g := ⟨_, rfl⟩
  generalize w.alloc (.cells (madeCells #[Value.slice none 0 0] n) 22) = w1 at *
  have HG := Lib.hid hg
  rw [hg] at HM0 HH0 HCELL hb0 ⊢
  clear hg hmk2 HC HC2
  go_loopw [22] (fun t wr => ∃ (i : Nat) (β γ : Nat → Nat), i ≤ n ∧ t = .int .i64 i ∧ Below g w wr ∧ g ≤ wr.heap.size ∧ Hid (MxW wr g g β γ i k f) ∧ Hid (MxH wr g n)) (fun t _ => n - (intOf t).toNat)
  case atStart => exact ⟨0, _, _, by omega, rfl, hb0, by have := HH0.out.lt; omega, HM0, HH0⟩
  case round =>
    clear hb0 HM0 HH0
    obtain ⟨i, β, γ, hin, rfl, hbel, hgs, HM, HH⟩ := hrel
    by_cases hlt : i < n
    · have hii : (i : Int) < (n : Int) := by omega
      obtain ⟨o, ho⟩ := HH.out.at_ hlt
      have hfz := HH.out.free i
      have ho2 : (wr.alloc (.cells (madeCells #[Value.int .u8 0] k) 5)).cell? ⟨g, i, none⟩ = some o := (World.cell?_alloc_lt wr _ _ HH.out.lt).trans ho
      have hf2 := (HH.out.alloc (.cells (madeCells #[Value.int .u8 0] k) 5)).free i
      have HR := Lib.hid (HM.out.newRow HH.out hlt hgs (by unfold maxLen; omega))
      have HH2 := Lib.hid ((HH.out.alloc (.cells (madeCells #[Value.int .u8 0] k) 5)).put i (.slice (some ⟨wr.heap.size, 0, none⟩) k k))
      have hb2 : Below g w ((wr.alloc (.cells (madeCells #[Value.int .u8 0] k) 5)).setCell ⟨g, i, none⟩ (.slice (some ⟨wr.heap.size, 0, none⟩) k k)) := (hbel.alloc hgs _).setCell (Nat.le_refl _) _
      have hgs2 : g ≤ ((wr.alloc (.cells (madeCells #[Value.int .u8 0] k) 5)).setCell ⟨g, i, none⟩ (.slice (some ⟨wr.heap.size, 0, none⟩) k k)).heap.size := by simp; omega
      have hhd := HR.out.header (Nat.lt_succ_self i)
      simp only [if_pos] at hhd
      clear hbel HM HH
      go_wp2_with fail
      clear ho hfz ho2 hf2 hhd
      generalize World.setCell _ _ _ = w2 at *
      generalize (fun a => if a = i then wr.heap.size else β a) = β2 at HR
      generalize (fun a => if a = i then k else γ a) = γ2 at HR
      go_loopw [35] (fun t wq => ∃ j : Nat, j ≤ k ∧ t = .int .i64 j ∧ Below g w wq ∧ g ≤ wq.heap.size ∧ Hid (MxW wq g g β2 γ2 (i + 1) k (rowTo f i j)) ∧ Hid (MxH wq g n)) (fun t _ => k - (intOf t).toNat)
      case atStart => exact ⟨0, by omega, rfl, hb2, hgs2, HR, HH2⟩
      case round =>
        clear hb2 hgs2 HR HH2
        obtain ⟨j, hj, rfl, hbel, hgs3, HM, HH⟩ := hrel
        by_cases hjk : j < k
        · have hji : (j : Int) < (k : Int) := by omega
          have hhd := HM.out.header (Nat.lt_succ_self i)
          have hb := HM.out.byte (Nat.lt_succ_self i) hjk
          have hf := HM.out.byteFree (Nat.lt_succ_self i) j
          have HRB := Lib.hid (HM.out.rowBase (Nat.lt_succ_self i))
          have HST := Lib.hid (fun q => ((HM.out.drewN q).store (Nat.lt_succ_self i) hjk (f i j)).congr (f' := rowTo f i (j + 1)) fun a b ha _ => rowTo_step f i j a b ha)
          have HHS := Lib.hid (fun q v => ((HH.out.drewN q).other (HM.out.ne (Nat.lt_succ_self i)) j v))
          have hgb := HM.out.ne (Nat.lt_succ_self i)
          have HX := Lib.hid (fun W (h : Below g w W) => HCELL.out W h i j hlt hjk)
          have hu8 := u8_small (n := i) (by omega)
          generalize f i j = x at *
          generalize ((rowTo f i j i j).toNat : Int) = y at *
          clear HM HH
          generalize β2 i = bi at *
          generalize γ2 i = ci at *
          have HHD := Lib.hid hhd
          go_wp2_with fail
          go_region_held3 (fun W => W.cell? ⟨g, i, none⟩ = some (.slice (some ⟨bi, 0, none⟩) k ci)) (first | go_keep | exact (World.cell?_setCell_far _ _ _ _ (fun e => hgb e.symm)).trans HHD.out)
            ((first
              | (go_at_call 49
                 with_reducible refine (HX.out _ (by first | exact hbel | exact hbel.drew | exact below_drewN hbel _)).mono ?_
                 rintro e w4 ⟨rfl, q, rfl⟩)))
          have HM2 := Lib.hid (HST.out (1 + q))
          have HH2 := Lib.hid (HHS.out (1 + q) (.int .u8 (x.toNat : Int)))
          have hb4 : Below g w ((wr.drewN (1 + q)).setCell ⟨bi, j, none⟩ (.int .u8 (x.toNat : Int))) := (below_drewN hbel (1 + q)).setCell HRB.out _
          have hgs4 : g ≤ ((wr.drewN (1 + q)).setCell ⟨bi, j, none⟩ (.int .u8 (x.toNat : Int))).heap.size := by simp; omega
          clear hhd hb hf HRB HST HHS HX hbel hgs3 HHD
          generalize World.setCell _ _ _ = w5 at *
          go_wp2_with fail
          go_roundw
          case rel => exact ⟨j + 1, by omega, by go_num, hb4, hgs4, HM2, HH2⟩
          case measure => simp [intOf]; omega
        · obtain rfl : j = k := by omega
          have HM2 := Lib.hid (HM.out.congr (f' := f) fun a b _ hb => rowTo_all f i j a b hb)
          clear HM
          go_wp2_with fail
          go_roundw
          case rel => exact ⟨i + 1, _, _, by omega, by go_num, hbel, hgs3, HM2, HH⟩
          case measure => simp [intOf]; omega
    · obtain rfl : i = n := by omega
      have hni : ¬ (i : Int) < (i : Int) := by omega
      clear HH
      go_wp2_with fail
      go_ret
      exact ⟨g, rfl, ⟨β, γ, by rw [HG.out]; exact HM.out⟩, by rw [HG.out]; exact hbel⟩
theorem fill_pow_any (n k : Nat) (f : Mx) (fd : Nat) (w : World) (h1 : 1 ≤ n) (h2 : n ≤ 16) (h3 : 1 ≤ k) (h4 : k ≤ 16)
    (hcell : ∀ W, Below w.heap.size w W → ∀ i j, i < n → j < k → Calls Try.prog 49 #[.pointer (some ⟨fd, 0, none⟩), .int .u8 (i : Int), .int .i64 (j : Int)] W fun e w' => e = .returned (.int .u8 ((f i j).toNat : Int)) ∧ ∃ q, w' = W.drewN q) :
    Calls Try.prog 48 #[.int .i64 (n : Int), .int .i64 (k : Int), .func (.func 49) #[.pointer (some ⟨fd, 0, none⟩)] #[]] w fun e w' => ∃ v, e = .returned v ∧ MV w' v (rowsL f 0 k n) ∧ Below w.heap.size w w' :=
  (fill_pow_mx n k f fd w h1 h2 h3 h4 hcell).mono fun _ _ ⟨_, he, ⟨_, _, hm⟩, hb⟩ => ⟨_, he, hm.mv (Nat.le_refl n), hb⟩

theorem fill_col_no (n k : Int) (cb : Nat) (w : World) (h : ¬ (1 ≤ n ∧ n ≤ 16 ∧ 1 ≤ k ∧ k ≤ 16)) :
    Calls Try.prog 48 #[.int .i64 n, .int .i64 k, .func (.func 77) #[] #[.pointer (some ⟨cb, 0, none⟩)]] w fun e w' => e = .returned (.slice none 0 0) ∧ w = w' := by
  have HC := Lib.hid (pside_any n w)
  by_cases h1 : 1 ≤ n ∧ n ≤ 16
  · have HC2 := Lib.hid (pside_no (n := k) w (by omega))
    rw [sideB_yes h1.1 h1.2] at HC
    clear h h1
    go_enter Try.func48, Try.ntmps48
    go_wp2_with fail
    with_reducible refine (HC.out).mono ?_
    rintro e w1 ⟨rfl, rfl⟩
    go_wp2_with fail
    with_reducible refine (HC2.out).mono ?_
    rintro e w1 ⟨rfl, rfl⟩
    go_wp2_with fail
    go_ret
    exact ⟨rfl, rfl⟩
  · rw [sideB_no (by omega)] at HC
    clear h h1
    go_enter Try.func48, Try.ntmps48
    go_wp2_with fail
    with_reducible refine (HC.out).mono ?_
    rintro e w1 ⟨rfl, rfl⟩
    go_wp2_with fail
    go_ret
    exact ⟨rfl, rfl⟩
set_option maxRecDepth 100000 in
set_option maxHeartbeats 4000000 in
theorem fill_col_mx (n k : Nat) (f : Mx) (cb : Nat) (w : World) (h1 : 1 ≤ n) (h2 : n ≤ 16) (h3 : 1 ≤ k) (h4 : k ≤ 16)
    (hcell : ∀ W, Below w.heap.size w W → ∀ i j, i < n → j < k → Calls Try.prog 77 #[.int .u8 (i : Int), .int .i64 (j : Int), .pointer (some ⟨cb, 0, none⟩)] W fun e w' => e = .returned (.int .u8 ((f i j).toNat : Int)) ∧ ∃ q, w' = W.drewN q) :
    Calls Try.prog 48 #[.int .i64 (n : Int), .int .i64 (k : Int), .func (.func 77) #[] #[.pointer (some ⟨cb, 0, none⟩)]] w fun e w' => ∃ g, e = .returned (.slice (some ⟨g, 0, none⟩) n n) ∧ (∃ β γ, MxW w' w.heap.size g β γ n k f) ∧ Below w.heap.size w w' := by
  have HCELL := Lib.hid hcell
  clear hcell
  obtain ⟨i0, hi, hz0, hz1, hz2⟩ := info_parts info5
  obtain ⟨i1, hi', hz0', hz1', hz2'⟩ := info_parts infoSlice
  have hmk := fun W => run_make (P := Try.prog) W 22 5 i0 (.int .u8 0) Try.underlying22 hi hz0 .i64 .i64 (k : Int) (k : Int) (by omega) (by omega) (by rw [hz2]; omega) (by omega)
  have hmk2 := fun W => run_make (P := Try.prog) W 29 22 i1 (.slice none 0 0) Try.underlying29 hi' hz0' .i64 .i64 (n : Int) (n : Int) (by omega) (by omega) (by rw [hz2']; omega) (by omega)
  simp only [hz1, hz1', Nat.mul_one] at hmk hmk2
  have HC := Lib.hid (pside_yes w h1 h2)
  have HC2 := Lib.hid (pside_yes w h3 h4)
  have hn1 : (1 : Int) ≤ (n : Int) := by omega
  have hn16 : (n : Int) ≤ 16 := by omega
  have hk1 : (1 : Int) ≤ (k : Int) := by omega
  have hk16 : (k : Int) ≤ 16 := by omega
  clear hi hz0 hz1 hz2 hi' hz0' hz1' hz2'
  go_enter Try.func48, Try.ntmps48
  go_wp2_with fail
  with_reducible refine (HC.out).mono ?_
  rintro e w1 ⟨rfl, rfl⟩
  go_wp2_with fail
  with_reducible refine (HC2.out).mono ?_
  rintro e w1 ⟨rfl, rfl⟩
  go_wp2_with fail
  have HH0 := Lib.hid (MxH.new w n)
  have hb0 : Below w.heap.size w (w.alloc (.cells (madeCells #[Value.slice none 0 0] n) 22)) := (Below.refl _ _).alloc (Nat.le_refl _) _
  have HM0 := Lib.hid (MxW.noRows (β := fun _ => 0) (γ := fun _ => 0) _ (Nat.le_refl w.heap.size) HH0.out k f)
  obtain ⟨g, hg⟩ : ∃ g, w.heap.size = g := ⟨_, rfl⟩
  generalize w.alloc (.cells (madeCells #[Value.slice none 0 0] n) 22) = w1 at *
  have HG := Lib.hid hg
  rw [hg] at HM0 HH0 HCELL hb0 ⊢
  clear hg hmk2 HC HC2
  go_loopw [22] (fun t wr => ∃ (i : Nat) (β γ : Nat → Nat), i ≤ n ∧ t = .int .i64 i ∧ Below g w wr ∧ g ≤ wr.heap.size ∧ Hid (MxW wr g g β γ i k f) ∧ Hid (MxH wr g n)) (fun t _ => n - (intOf t).toNat)
  case atStart => exact ⟨0, _, _, by omega, rfl, hb0, by have := HH0.out.lt; omega, HM0, HH0⟩
  case round =>
    clear hb0 HM0 HH0
    obtain ⟨i, β, γ, hin, rfl, hbel, hgs, HM, HH⟩ := hrel
    by_cases hlt : i < n
    · have hii : (i : Int) < (n : Int) := by omega
      obtain ⟨o, ho⟩ := HH.out.at_ hlt
      have hfz := HH.out.free i
      have ho2 : (wr.alloc (.cells (madeCells #[Value.int .u8 0] k) 5)).cell? ⟨g, i, none⟩ = some o := (World.cell?_alloc_lt wr _ _ HH.out.lt).trans ho
      have hf2 := (HH.out.alloc (.cells (madeCells #[Value.int .u8 0] k) 5)).free i
      have HR := Lib.hid (HM.out.newRow HH.out hlt hgs (by unfold maxLen; omega))
      have HH2 := Lib.hid ((HH.out.alloc (.cells (madeCells #[Value.int .u8 0] k) 5)).put i (.slice (some ⟨wr.heap.size, 0, none⟩) k k))
      have hb2 : Below g w ((wr.alloc (.cells (madeCells #[Value.int .u8 0] k) 5)).setCell ⟨g, i, none⟩ (.slice (some ⟨wr.heap.size, 0, none⟩) k k)) := (hbel.alloc hgs _).setCell (Nat.le_refl _) _
      have hgs2 : g ≤ ((wr.alloc (.cells (madeCells #[Value.int .u8 0] k) 5)).setCell ⟨g, i, none⟩ (.slice (some ⟨wr.heap.size, 0, none⟩) k k)).heap.size := by simp; omega
      have hhd := HR.out.header (Nat.lt_succ_self i)
      simp only [if_pos] at hhd
      clear hbel HM HH
      go_wp2_with fail
      clear ho hfz ho2 hf2 hhd
      generalize World.setCell _ _ _ = w2 at *
      generalize (fun a => if a = i then wr.heap.size else β a) = β2 at HR
      generalize (fun a => if a = i then k else γ a) = γ2 at HR
      go_loopw [35] (fun t wq => ∃ j : Nat, j ≤ k ∧ t = .int .i64 j ∧ Below g w wq ∧ g ≤ wq.heap.size ∧ Hid (MxW wq g g β2 γ2 (i + 1) k (rowTo f i j)) ∧ Hid (MxH wq g n)) (fun t _ => k - (intOf t).toNat)
      case atStart => exact ⟨0, by omega, rfl, hb2, hgs2, HR, HH2⟩
      case round =>
        clear hb2 hgs2 HR HH2
        obtain ⟨j, hj, rfl, hbel, hgs3, HM, HH⟩ := hrel
        by_cases hjk : j < k
        · have hji : (j : Int) < (k : Int) := by omega
          have hhd := HM.out.header (Nat.lt_succ_self i)
          have hb := HM.out.byte (Nat.lt_succ_self i) hjk
          have hf := HM.out.byteFree (Nat.lt_succ_self i) j
          have HRB := Lib.hid (HM.out.rowBase (Nat.lt_succ_self i))
          have HST := Lib.hid (fun q => ((HM.out.drewN q).store (Nat.lt_succ_self i) hjk (f i j)).congr (f' := rowTo f i (j + 1)) fun a b ha _ => rowTo_step f i j a b ha)
          have HHS := Lib.hid (fun q v => ((HH.out.drewN q).other (HM.out.ne (Nat.lt_succ_self i)) j v))
          have hgb := HM.out.ne (Nat.lt_succ_self i)
          have HX := Lib.hid (fun W (h : Below g w W) => HCELL.out W h i j hlt hjk)
          have hu8 := u8_small (n := i) (by omega)
          generalize f i j = x at *
          generalize ((rowTo f i j i j).toNat : Int) = y at *
          clear HM HH
          generalize β2 i = bi at *
          generalize γ2 i = ci at *
          have HHD := Lib.hid hhd
          go_wp2_with fail
          go_region_held3 (fun W => W.cell? ⟨g, i, none⟩ = some (.slice (some ⟨bi, 0, none⟩) k ci)) (first | go_keep | exact (World.cell?_setCell_far _ _ _ _ (fun e => hgb e.symm)).trans HHD.out)
            ((first
              | (go_at_call 77
                 with_reducible refine (HX.out _ (by first | exact hbel | exact hbel.drew | exact below_drewN hbel _)).mono ?_
                 rintro e w4 ⟨rfl, q, rfl⟩)))
          have HM2 := Lib.hid (HST.out (1 + q))
          have HH2 := Lib.hid (HHS.out (1 + q) (.int .u8 (x.toNat : Int)))
          have hb4 : Below g w ((wr.drewN (1 + q)).setCell ⟨bi, j, none⟩ (.int .u8 (x.toNat : Int))) := (below_drewN hbel (1 + q)).setCell HRB.out _
          have hgs4 : g ≤ ((wr.drewN (1 + q)).setCell ⟨bi, j, none⟩ (.int .u8 (x.toNat : Int))).heap.size := by simp; omega
          clear hhd hb hf HRB HST HHS HX hbel hgs3 HHD
          generalize World.setCell _ _ _ = w5 at *
          go_wp2_with fail
          go_roundw
          case rel => exact ⟨j + 1, by omega, by go_num, hb4, hgs4, HM2, HH2⟩
          case measure => simp [intOf]; omega
        · obtain rfl : j = k := by omega
          have HM2 := Lib.hid (HM.out.congr (f' := f) fun a b _ hb => rowTo_all f i j a b hb)
          clear HM
          go_wp2_with fail
          go_roundw
          case rel => exact ⟨i + 1, _, _, by omega, by go_num, hbel, hgs3, HM2, HH⟩
          case measure => simp [intOf]; omega
    · obtain rfl : i = n := by omega
      have hni : ¬ (i : Int) < (i : Int) := by omega
      clear HH
      go_wp2_with fail
      go_ret
      exact ⟨g, rfl, ⟨β, γ, by rw [HG.out]; exact HM.out⟩, by rw [HG.out]; exact hbel⟩
theorem fill_col_any (n k : Nat) (f : Mx) (cb : Nat) (w : World) (h1 : 1 ≤ n) (h2 : n ≤ 16) (h3 : 1 ≤ k) (h4 : k ≤ 16)
    (hcell : ∀ W, Below w.heap.size w W → ∀ i j, i < n → j < k → Calls Try.prog 77 #[.int .u8 (i : Int), .int .i64 (j : Int), .pointer (some ⟨cb, 0, none⟩)] W fun e w' => e = .returned (.int .u8 ((f i j).toNat : Int)) ∧ ∃ q, w' = W.drewN q) :
    Calls Try.prog 48 #[.int .i64 (n : Int), .int .i64 (k : Int), .func (.func 77) #[] #[.pointer (some ⟨cb, 0, none⟩)]] w fun e w' => ∃ v, e = .returned v ∧ MV w' v (rowsL f 0 k n) ∧ Below w.heap.size w w' :=
  (fill_col_mx n k f cb w h1 h2 h3 h4 hcell).mono fun _ _ ⟨_, he, ⟨_, _, hm⟩, hb⟩ => ⟨_, he, hm.mv (Nat.le_refl n), hb⟩
end Go.Proofs.Ytdaofffkbnkljaa
namespace Go.Proofs.Ytdaofffkbnkljaa
open Go.RowKit

theorem colAt_any (cb : Nat) (A : Option Addr) (n m c i j : Nat) (ls : List (List UInt8)) (w : World) (hn : ls.length = n) (hrow : ∀ r ∈ ls, r.length = m) (hr : RdR w w.heap.size A ls) (hb : Blk w cb #[.slice A n c] 29) (hi : i < m) (hj : j < n) :
    Calls Try.prog 77 #[.int .u8 (i : Int), .int .i64 (j : Int), .pointer (some ⟨cb, 0, none⟩)] w fun e w' => e = .returned (.int .u8 ((entM ls j i).toNat : Int)) ∧ w = w' := by
  have hjl : j < ls.length := by rw [hn]; exact hj
  obtain ⟨b, off, A1, c1, rfl, hbs, hc, hlc, hcm, hrd⟩ := hr.at_ j hjl
  have hlen : ls[j].length = m := hrow _ (List.getElem_mem _)
  have hil : i < ls[j].length := by rw [hlen]; exact hi
  obtain ⟨b2, off2, rfl, hb2, hc2⟩ := hrd.at_ i hil
  rw [hlen] at hc
  have HE := Lib.hid (show ls[j][i] = entM ls j i by simp [entM, List.getD_eq_getElem?_getD, hjl, hil])
  generalize ls[j][i] = x at *
  have h0 : w.cell? ⟨cb, 0, none⟩ = some (.slice (some ⟨b, off, none⟩) n c) := hb.cell 0
  have hji : (j : Int) < (n : Int) := by omega
  have hii : (i : Int) < (m : Int) := by omega
  clear hr hb hrd hlen hil hjl hlc hn hrow
  go_enter Try.func77, Try.ntmps77
  go_wp2_with fail
  go_ret
  exact ⟨by rw [← HE.out]; rfl, rfl⟩

theorem punit_any (n : Int) (w : World) : Calls Try.prog 72 #[.int .i64 n] w fun e w' => ∃ v, e = .returned v ∧ MV w' v (unitL n) ∧ Below w.heap.size w w' := by
  by_cases h : 1 ≤ n ∧ n ≤ 16
  · obtain ⟨k, rfl⟩ : ∃ k : Nat, n = (k : Int) := ⟨n.toNat, by omega⟩
    have HU := Lib.hid (show unitL (k : Int) = rowsL unitM 0 k k by unfold unitL; rw [if_pos h]; rfl)
    have HC := Lib.hid (fill_alike_any k k unitM w (by omega) (by omega) (by omega) (by omega) fun W _ i j hi _ => alike_any i j W (by omega))
    clear h
    go_enter Try.func72, Try.ntmps72
    go_wp2_with fail
    with_reducible refine (HC.out).mono ?_
    rintro e w1 ⟨v, rfl, hv, hb⟩
    have HV := Lib.hid hv
    clear hv HC
    go_wp2_with fail
    go_ret
    exact ⟨v, rfl, by rw [HU.out]; exact HV.out, hb⟩
  · have HU := Lib.hid (show unitL n = [] by unfold unitL; rw [if_neg h])
    have HC := Lib.hid (fill_alike_no n n w (by omega))
    clear h
    go_enter Try.func72, Try.ntmps72
    go_wp2_with fail
    with_reducible refine (HC.out).mono ?_
    rintro e w1 ⟨rfl, rfl⟩
    go_wp2_with fail
    go_ret
    exact ⟨_, rfl, by rw [HU.out]; exact ⟨none, 0, rfl, Nat.le_refl _, RdR.nil _ _ _⟩, Below.refl _ _⟩

theorem punit_mx (n : Nat) (w : World) (h1 : 1 ≤ n) (h2 : n ≤ 16) : Calls Try.prog 72 #[.int .i64 (n : Int)] w fun e w' => ∃ g, e = .returned (.slice (some ⟨g, 0, none⟩) n n) ∧ (∃ β γ, MxW w' w.heap.size g β γ n n unitM) ∧ Below w.heap.size w w' := by
  have HC := Lib.hid (fill_alike_mx n n unitM w h1 h2 h1 h2 fun W _ i j hi _ => alike_any i j W (by omega))
  go_enter Try.func72, Try.ntmps72
  go_wp2_with fail
  with_reducible refine (HC.out).mono ?_
  rintro e w1 ⟨g, rfl, hm, hb⟩
  have HM := Lib.hid hm
  clear hm HC
  go_wp2_with fail
  go_ret
  exact ⟨g, rfl, HM.out, hb⟩
theorem pvan_any (n k : Int) (w : World) : Calls Try.prog 31 #[.int .i64 n, .int .i64 k] w fun e w' => ∃ v, e = .returned v ∧ MV w' v (vanL n k) ∧ Below w.heap.size w w' := by
  have HF := Lib.hid (fnew_any w)
  by_cases h : 1 ≤ n ∧ n ≤ 16 ∧ 1 ≤ k ∧ k ≤ 16
  · obtain ⟨p, rfl⟩ : ∃ p : Nat, n = (p : Int) := ⟨n.toNat, by omega⟩
    obtain ⟨q, rfl⟩ : ∃ q : Nat, k = (q : Int) := ⟨k.toNat, by omega⟩
    have HU := Lib.hid (show vanL (p : Int) (q : Int) = rowsL vdM 0 q p by unfold vanL; rw [if_pos h]; rfl)
    have HC := Lib.hid (fun g w1 (hf : FdZ w1 g ivT) => fill_pow_any p q vdM g w1 (by omega) (by omega) (by omega) (by omega) fun W hb i j hi hj => by
      have := fpow_any g (UInt8.ofNat i) (j : Int) W ⟨by omega, by omega⟩ (FdAt.below hf hb hf.lt)
      rw [show ((UInt8.ofNat i).toNat : Int) = (i : Int) by rw [UInt8.toNat_ofNat', Nat.mod_eq_of_lt (by omega)], show fpU (UInt8.ofNat i) (j : Int) = vdM i j from rfl] at this
      exact this)
    clear h
    go_enter Try.func31, Try.ntmps31
    go_wp2_with fail
    with_reducible refine (HF.out).mono ?_
    rintro e w1 ⟨g, rfl, _, hf, hb1⟩
    have HC2 := Lib.hid (HC.out g w1 hf)
    clear hf HC HF
    go_wp2_with fail
    with_reducible refine (HC2.out).mono ?_
    rintro e w2 ⟨v, rfl, hv, hb⟩
    have HV := Lib.hid hv
    have HB := Lib.hid (hb1.trans (hb.mono hb1.size))
    clear hv HC2 hb hb1
    go_wp2_with fail
    go_ret
    exact ⟨v, rfl, by rw [HU.out]; exact HV.out, HB.out⟩
  · have HU := Lib.hid (show vanL n k = [] by unfold vanL; rw [if_neg h])
    have HC := Lib.hid (fun g w1 => fill_pow_no n k g w1 h)
    clear h
    go_enter Try.func31, Try.ntmps31
    go_wp2_with fail
    with_reducible refine (HF.out).mono ?_
    rintro e w1 ⟨g, rfl, _, hf, hb1⟩
    have HC2 := Lib.hid (HC.out g w1)
    clear hf HC HF
    go_wp2_with fail
    with_reducible refine (HC2.out).mono ?_
    rintro e w2 ⟨rfl, rfl⟩
    go_wp2_with fail
    go_ret
    exact ⟨_, rfl, by rw [HU.out]; exact ⟨none, 0, rfl, Nat.le_refl _, RdR.nil _ _ _⟩, hb1⟩

set_option maxRecDepth 100000 in
set_option maxHeartbeats 2000000 in
theorem columns_any (A : Option Addr) (n m c : Nat) (ls : List (List UInt8)) (w : World) (hn : ls.length = n) (hrow : ∀ r ∈ ls, r.length = m) (h1 : 1 ≤ n) (h2 : n ≤ 16) (h3 : 1 ≤ m) (h4 : m ≤ 16) (hr : RdR w w.heap.size A ls) :
    Calls Try.prog 55 #[.slice A n c] w fun e w' => ∃ v, e = .returned v ∧ MV w' v (rowsL (fun i j => entM ls j i) 0 n m) ∧ Below w.heap.size w w' := by
  have h0 : 0 < ls.length := by omega
  obtain ⟨b0, off0, A0, c0, rfl, hbs0, hc0, hlc0, hcm0, hrd0⟩ := hr.at_ 0 h0
  rw [show ls[0].length = m from hrow _ (List.getElem_mem _), Nat.add_zero] at hc0
  have HC := Lib.hid (fun W (hb : Below (w.alloc (.cells #[.slice (some ⟨b0, off0, none⟩) n c] 29)).heap.size (w.alloc (.cells #[.slice (some ⟨b0, off0, none⟩) n c] 29)) W) =>
    (fill_col_any m n (fun i j => entM ls j i) w.heap.size W h3 h4 h1 h2 fun W2 hb2 i j hi hj => by
      have hb3 := hb.trans (hb2.mono hb.size)
      have hb4 : Below w.heap.size w W2 := ((Below.refl _ _).alloc (Nat.le_refl _) _).trans (hb3.mono (by simp))
      exact (colAt_any w.heap.size (some ⟨b0, off0, none⟩) n m c i j ls W2 hn hrow ((hr.below hb4 (Nat.le_refl _)).more hb4.size) ((Blk.new w _ _).below hb3 (by simp)) hi hj).mono fun e w' h => ⟨h.1, 0, h.2.symm⟩))
  have hal : Below w.heap.size w (w.alloc (.cells #[.slice (some ⟨b0, off0, none⟩) n c] 29)) := (Below.refl _ _).alloc (Nat.le_refl _) _
  have hni : (0 : Int) < (n : Int) := by omega
  have hn0 : 0 < n := h1
  have hcx : (w.alloc (.cells #[.slice (some ⟨b0, off0, none⟩) n c] 29)).cell? ⟨b0, off0, none⟩ = some (.slice A0 m c0) := (World.cell?_alloc_lt w _ _ hbs0).trans hc0
  have hcb : (w.alloc (.cells #[.slice (some ⟨b0, off0, none⟩) n c] 29)).cell? ⟨w.heap.size, 0, none⟩ = some (.slice (some ⟨b0, off0, none⟩) n c) := (Blk.new w _ _).cell 0
  obtain ⟨gb, hgb⟩ : ∃ z, w.heap.size = z := ⟨_, rfl⟩
  have HS := Lib.hid hgb
  clear hn hrow hr hrd0 hc0 h0 hlc0
  go_enter Try.func55, Try.ntmps55
  go_wp2_with fail
  rw [hgb] at HC hcb hal
  have HAL := Lib.hid hal
  clear hgb hal
  have HGL := Lib.hid (show gb < (w.alloc (.cells #[.slice (some ⟨b0, off0, none⟩) n c] 29)).heap.size by have := HS.out; simp; omega)
  generalize w.alloc _ = w1 at *
  have HBL := Lib.hid (show b0 < w1.heap.size by have := HGL.out; have := HS.out; omega)
  have HKEEP := Lib.hid (fun W (h : Below w1.heap.size w1 W) => (⟨(h.cell (p := ⟨gb, 0, none⟩) HGL.out).trans hcb, (h.cell (p := ⟨b0, off0, none⟩) HBL.out).trans hcx⟩ : W.cell? ⟨gb, 0, none⟩ = some (.slice (some ⟨b0, off0, none⟩) n c) ∧ W.cell? ⟨b0, off0, none⟩ = some (.slice A0 m c0)))
  go_region_held3 (fun W => W.cell? ⟨gb, 0, none⟩ = some (.slice (some ⟨b0, off0, none⟩) n c) ∧ W.cell? ⟨b0, off0, none⟩ = some (.slice A0 m c0)) (first | go_keep | exact HKEEP.out _ (by first | exact hb4 | exact ((Below.refl _ _).drew).trans hb4 | exact (below_drewN (Below.refl _ _) _).trans hb4))
    ((first
      | (go_at_call 48
         with_reducible refine (HC.out _ (by first | exact Below.refl _ _ | exact (Below.refl _ _).drew | exact below_drewN (Below.refl _ _) _)).mono ?_
         rintro e w4 ⟨v, rfl, hv, hb4⟩)))
  have HV := Lib.hid hv
  have HB := Lib.hid (show Below w.heap.size w w4 by
    rw [HS.out]
    have h5 : Below w1.heap.size w1 w4 := by first | exact hb4 | exact ((Below.refl _ _).drew).trans hb4 | exact (below_drewN (Below.refl _ _) _).trans hb4
    exact HAL.out.trans (h5.mono (Nat.le_of_lt HGL.out)))
  clear hv hb4 HC HAL
  go_wp2_with fail
  go_ret
  exact ⟨v, rfl, HV.out, HB.out⟩
end Go.Proofs.Ytdaofffkbnkljaa
