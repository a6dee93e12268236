/- The program's field, as New makes it: its cells, its methods log, invert, each. -/
import Derived.Test.YtkgemngkkedcnaaGfT
namespace Go.Proofs.Ytkgemngkkedcnaa
open Go.RowKit

/-- The cells of a field: the powers, the logs, the inverses. -/
def fdL (z : List UInt8) : List UInt8 := xpT 510 ++ (lgT 255 ++ z)
def ivT : List UInt8 := (List.range 256).map fun n => ivU (UInt8.ofNat n)
theorem fdL_len (z : List UInt8) : (fdL z).length = 766 + z.length := by
  unfold fdL
  rw [List.length_append, List.length_append, xpT_len, lgT_len]; omega
theorem fdL_pow {z : List UInt8} {n : Nat} (h : n < 510) : (fdL z).getD n 0 = xpU n := by
  unfold fdL
  rw [List.getD_eq_getElem?_getD, List.getElem?_append_left (by rw [xpT_len]; exact h), ← List.getD_eq_getElem?_getD]
  exact xpT_at h
theorem fdL_log {z : List UInt8} (a : UInt8) : (fdL z).getD (510 + a.toNat) 0 = (lgT 255).getD a.toNat 0 := by
  unfold fdL
  rw [List.getD_eq_getElem?_getD, List.getElem?_append_right (by rw [xpT_len]; omega), xpT_len, show 510 + a.toNat - 510 = a.toNat by omega, List.getElem?_append_left (by rw [lgT_len]; exact a.toNat_lt), ← List.getD_eq_getElem?_getD]
theorem fdL_inv {z : List UInt8} (n : Nat) : (fdL z).getD (766 + n) 0 = z.getD n 0 := by
  unfold fdL
  rw [List.getD_eq_getElem?_getD, List.getElem?_append_right (by rw [xpT_len]; omega), xpT_len, List.getElem?_append_right (by rw [lgT_len]; omega), lgT_len, show 766 + n - 510 - 256 = n by omega, ← List.getD_eq_getElem?_getD]
theorem ivT_at (a : UInt8) : ivT.getD a.toNat 0 = ivU a := by
  rw [ivT, map_getD _ 256 a.toNat a.toNat_lt, UInt8.ofNat_toNat]
theorem ivT_len : ivT.length = 256 := by simp [ivT]

/-- At g there is a field; its inverses are z so far. -/
def FdZ (w : World) (g : Nat) (z : List UInt8) : Prop := z.length = 256 ∧ Blk w g (u8A (fdL z)) 74
theorem FdZ.pow {w : World} {g : Nat} {z : List UInt8} (h : FdZ w g z) {n : Nat} (hn : n < 510) : w.cell? ⟨g, n, none⟩ = some (.int .u8 ((xpU n).toNat : Int)) := by
  rw [h.2.byteAt (i := n) (by rw [fdL_len, h.1]; omega), fdL_pow hn]
theorem FdZ.log {w : World} {g : Nat} {z : List UInt8} (h : FdZ w g z) (a : UInt8) : w.cell? ⟨g, 510 + a.toNat, none⟩ = some (.int .u8 (lgN a : Int)) := by
  have := a.toNat_lt
  rw [h.2.byteAt (i := 510 + a.toNat) (by rw [fdL_len, h.1]; omega), fdL_log]; rfl
theorem FdZ.inv {w : World} {g : Nat} {z : List UInt8} (h : FdZ w g z) {n : Nat} (hn : n < 256) : w.cell? ⟨g, 766 + n, none⟩ = some (.int .u8 ((z.getD n 0).toNat : Int)) := by
  rw [h.2.byteAt (i := 766 + n) (by rw [fdL_len, h.1]; omega), fdL_inv]
theorem FdZ.drewN {w : World} {g : Nat} {z : List UInt8} (h : FdZ w g z) (q : Nat) : FdZ (w.drewN q) g z := ⟨h.1, h.2.drewN q⟩
theorem FdZ.lt {w : World} {g : Nat} {z : List UInt8} (h : FdZ w g z) : g < w.heap.size := h.2.lt
theorem FdZ.below {w w' : World} {B g : Nat} {z : List UInt8} (h : FdZ w g z) (hb : Below B w w') (hg : g < B) : FdZ w' g z := ⟨h.1, h.2.below hb hg⟩
theorem lgN_lt (a : UInt8) : lgN a < 256 := ((lgT 255).getD a.toNat 0).toNat_lt

theorem log_any (g : Nat) (z : List UInt8) (a : UInt8) (w : World) (h : FdZ w g z) :
    Calls Try.prog 60 #[.pointer (some ⟨g, 0, none⟩), .int .u8 (a.toNat : Int)] w fun e w' => e = .returned (.int .i64 (lgN a : Int)) ∧ w = w' := by
  have ha := a.toNat_lt
  have hai : (a.toNat : Int) < 256 := by omega
  have hc := h.log a
  have hl := lgN_lt a
  generalize lgN a = n at *
  go_enter Try.func60, Try.ntmps60
  go_wp2_with fail
  go_ret
  exact ⟨rfl, rfl⟩

set_option maxRecDepth 100000 in
theorem invert_any (g : Nat) (z : List UInt8) (a : UInt8) (w : World) (h : FdZ w g z) :
    Calls Try.prog 51 #[.pointer (some ⟨g, 0, none⟩), .int .u8 (a.toNat : Int)] w fun e w' => e = .returned (.int .u8 ((ivU a).toNat : Int)) ∧ ∃ q, w' = w.drewN q := by
  by_cases h0 : a = 0
  · subst h0
    have hz : ((0 : UInt8).toNat : Int) = 0 := rfl
    go_enter Try.func51, Try.ntmps51
    go_wp2_with fail
    go_ret
    exact ⟨rfl, 0, rfl⟩
  · have ha := pos8' h0
    have hc := h.pow (n := 255 - lgN a) (by omega)
    have hl := (xp_lg h0).2
    have HL := Lib.hid (fun q => log_any g z a (w.drewN q) (h.drewN q))
    have HV := Lib.hid (show xpU (255 - lgN a) = ivU a by unfold ivU; rw [if_neg h0])
    rw [HV.out] at hc
    clear h0
    generalize lgN a = n at *
    have e1 : (255 : Int) - (n : Int) = ((255 - n : Nat) : Int) := by omega
    have i1 : ((255 - n : Nat) : Int) < 510 := by omega
    generalize 255 - n = m at *
    go_enter Try.func51, Try.ntmps51
    go_wp2_with fail
    go_quiet ((go_at_call 60; exact (HL.out _).mono fun e w'' h => ⟨h.1, _, h.2.symm⟩))
    go_wp2_with fail
    go_ret
    exact ⟨rfl, _, rfl⟩

def ivTo (n : Nat) : List UInt8 := (List.range n).map fun n => ivU (UInt8.ofNat n)
theorem ivTo_len (n : Nat) : (ivTo n).length = n := by simp [ivTo]
theorem ivTo_succ (n : Nat) : ivTo (n + 1) = ivTo n ++ [ivU (UInt8.ofNat n)] := by simp [ivTo, List.range_succ]
set_option maxRecDepth 100000 in
set_option maxHeartbeats 4000000 in
theorem each_any (g : Nat) (z : List UInt8) (w : World) (h : FdZ w g z) :
    Calls Try.prog 50 #[.pointer (some ⟨g, 0, none⟩), .func (.func 51) #[] #[]] w fun e w' => e = .returned (.agg (u8A ivT)) ∧ Below w.heap.size w w' := by
  have hz := fun W => zero256t W
  have hg := h.lt
  have HF := Lib.hid h
  clear h
  obtain ⟨Z, hZ⟩ : ∃ Z, u8A (List.replicate 256 0) = Z := ⟨_, rfl⟩
  have hzz : Z.size = 256 := by rw [← hZ, u8A_size]; exact List.length_replicate ..
  rw [hZ] at hz
  have HZ := Lib.hid hZ
  have HZZ := Lib.hid hzz
  clear hZ hzz
  go_enter Try.func50, Try.ntmps50
  go_wp2_with fail
  obtain ⟨g1, g2, hbel⟩ := two_new w Z Z 72 72
  generalize World.alloc (World.alloc w _) _ = w1 at *
  obtain ⟨rb, hrb⟩ : ∃ z, w.heap.size = z := ⟨_, rfl⟩
  rw [hrb] at g1 g2 hbel hg ⊢
  obtain ⟨tb, htb⟩ : ∃ z, rb + 1 = z := ⟨_, rfl⟩
  rw [htb] at g2 ⊢
  have hrt : rb < tb := by omega
  have HW := Lib.hid hrb
  have G1 := Lib.hid (show ∃ rs, Blk w1 rb rs 72 ∧ rs.size = 256 from ⟨_, g1, HZZ.out⟩)
  have G2 := Lib.hid (show Blk w1 tb (u8A (padB 256 (ivTo 0))) 72 by rw [show padB 256 (ivTo 0) = List.replicate 256 0 from rfl, HZ.out]; exact g2)
  clear g1 g2 hrb htb hz
  go_loopw [7] (fun t wr => ∃ n : Nat, n ≤ 256 ∧ t = .int .i64 n ∧ Below rb w wr ∧ Hid (∃ rs, Blk wr rb rs 72 ∧ rs.size = 256) ∧ Hid (Blk wr tb (u8A (padB 256 (ivTo n))) 72)) (fun t _ => 256 - (intOf t).toNat)
  case atStart => exact ⟨0, by omega, rfl, hbel, G1, G2⟩
  case round =>
    clear hbel G1 G2
    obtain ⟨n, hn, rfl, hbel, G1, G2⟩ := hrel
    by_cases hlt : n < 256
    · have hni : (n : Int) < 256 := by omega
      have HP := Lib.hid (ivTo_succ n)
      have HPL := Lib.hid (ivTo_len n)
      have HI := Lib.hid (show Calls Try.prog 51 #[.pointer (some ⟨g, 0, none⟩), .int .u8 (n : Int)] wr fun e w' => e = .returned (.int .u8 ((ivU (UInt8.ofNat n)).toNat : Int)) ∧ ∃ q, w' = wr.drewN q by
        have := invert_any g z (UInt8.ofNat n) wr (HF.out.below hbel hg)
        rwa [show ((UInt8.ofNat n).toNat : Int) = (n : Int) by rw [UInt8.toNat_ofNat', Nat.mod_eq_of_lt hlt]] at this)
      generalize ivU (UInt8.ofNat n) = x at *
      have hx := x.toNat_lt
      have hf1 := G2.out.frozen n
      obtain ⟨o1, ho1⟩ : ∃ old, wr.cell? ⟨tb, n, none⟩ = some old := by
        obtain ⟨o, p⟩ := u8A_get (bs := padB 256 (ivTo n)) (i := n) (by rw [padB_len (by rw [ivTo_len]; omega)]; omega)
        exact ⟨o, (G2.out.cell n).trans p⟩
      go_wp2_with fail
      refine (HI.out).mono ?_
      rintro e w2 ⟨rfl, q, hq⟩
      have hst : Below rb w w2 ∧ w2.frozen? ⟨tb, n, none⟩ = false ∧ w2.cell? ⟨tb, n, none⟩ = some o1 ∧ Blk w2 tb (u8A (padB 256 (ivTo n))) 72 ∧ ∃ rs, Blk w2 rb rs 72 ∧ rs.size = 256 := by
        subst hq
        exact ⟨below_drewN hbel q, hf1, ho1, G2.out.drewN q, G1.out⟩
      clear hf1 ho1 hq hbel G1 G2 HI
      obtain ⟨hbel, hf1, ho1, g2, g1⟩ := hst
      have G1 := Lib.hid g1
      have G2 := Lib.hid g2
      clear g1 g2
      go_wp2_with fail
      have hst : Below rb w (w2.setCell ⟨tb, n, none⟩ (.int .u8 (x.toNat : Int))) ∧ Blk (w2.setCell ⟨tb, n, none⟩ (.int .u8 (x.toNat : Int))) tb (u8A (padB 256 (ivTo (n + 1)))) 72 ∧ ∃ rs, Blk (w2.setCell ⟨tb, n, none⟩ (.int .u8 (x.toNat : Int))) rb rs 72 ∧ rs.size = 256 := by
        refine ⟨hbel.setCell (by simp; omega) _, ?_, ?_⟩
        · rw [HP.out]
          exact G2.out.byte HPL.out (by omega) rfl
        · obtain ⟨rs, h, hz⟩ := G1.out
          exact ⟨rs, h.other (by simp; omega) _, hz⟩
      generalize w2.setCell ⟨tb, n, none⟩ (.int .u8 (x.toNat : Int)) = w3 at hst ⊢
      obtain ⟨h1, h2, h3⟩ := hst
      have K2 := Lib.hid h2
      have K3 := Lib.hid h3
      clear hf1 ho1 h2 h3 G1 G2 hbel
      try go_wp2_with fail
      go_roundw
      case rel => exact ⟨n + 1, by omega, by go_num, h1, K3, K2⟩
      case measure => simp [intOf]; omega
    · obtain rfl : n = 256 := by omega
      clear hn hlt
      obtain ⟨fin, hfe⟩ : ∃ x, u8A ivT = x := ⟨_, rfl⟩
      have hsz : fin.size = 256 := by rw [← hfe, u8A_size, ivT_len]
      have hone := u8A_one ivT
      rw [hfe] at hone
      have hfull : Blk wr tb fin 72 := by
        rw [← hfe]
        exact by have := G2.out; rwa [padB_full (ivTo_len 256)] at this
      obtain ⟨rs, hrs, hrz⟩ := G1.out
      have HFE := Lib.hid hfe
      have HS2 := Lib.hid hsz
      have HONE := Lib.hid hone
      have HRZ := Lib.hid hrz
      clear hfe hsz hone hrz G1 G2
      go_wp2_with (first
        | (with_reducible refine wpList_load_blk rfl 72 (.tmp 5) rfl tb rfl 72 fin _ hfull Try.underlying72 rfl (by rw [HS2.out]; kernel_rfl) ?_)
        | (with_reducible refine wpList_store_blk rfl 72 (.tmp 4) (.tmp 18) rfl rb fin rfl rfl 72 rs hrs (by rw [HS2.out]; kernel_rfl) (by rw [HS2.out, HRZ.out]) HONE.out ?_))
      refine bodyPost_ret (v := .agg fin) (results_cell_row (p := 4) (ty := 72) (by kernel_rfl) _ _ rb 72 _ (0, 0) _ rfl (hrs.row fin) Try.underlying72 rfl (by rw [HS2.out]; kernel_rfl)) rfl ⟨by rw [HFE.out], ?_⟩
      rw [HW.out]
      exact below_row hbel (by have := hbel.size; have := HW.out; omega) (Nat.le_refl _) _

theorem zeroField (w : World) : (zeroValue 74).run Try.prog w = .ok (.agg (u8A (List.replicate 1022 0))) w := by kernel_rfl
def fd1 : List UInt8 := xpT 510 ++ List.replicate 512 0
theorem fd1_len : fd1.length = 1022 := by unfold fd1; rw [List.length_append, xpT_len, List.length_replicate]
theorem fd1_at {n : Nat} (h : n < 510) : fd1.getD n 0 = xpU n := by
  unfold fd1
  rw [List.getD_eq_getElem?_getD, List.getElem?_append_left (by rw [xpT_len]; exact h), ← List.getD_eq_getElem?_getD]
  exact xpT_at h
theorem fd1_eq : (List.replicate 1022 (0 : UInt8)).take 0 ++ xpT 510 ++ (List.replicate 1022 0).drop (0 + (xpT 510).length) = fd1 := by
  have h : 1022 - (0 + 510) = 512 := by decide
  unfold fd1
  rw [List.take_zero, List.nil_append, xpT_len, List.drop_replicate, h]
theorem fd2_eq : fd1.take 510 ++ lgT 255 ++ fd1.drop (510 + (lgT 255).length) = fdL (List.replicate 256 0) := by
  unfold fd1 fdL
  rw [lgT_len, List.take_left' (xpT_len 510), List.drop_append, xpT_len, List.drop_of_length_le (by rw [xpT_len]; omega), List.nil_append, List.drop_replicate, List.append_assoc]
theorem fd3_eq (z y : List UInt8) (hz : z.length = 256) (hy : y.length = 256) : (fdL z).take 766 ++ y ++ (fdL z).drop (766 + y.length) = fdL y := by
  unfold fdL
  rw [← List.append_assoc, List.take_left' (by rw [List.length_append, xpT_len, lgT_len]), List.drop_of_length_le (by rw [List.length_append, List.length_append, xpT_len, lgT_len]; omega), List.append_nil, List.append_assoc]
theorem byteCells_toList (l : List UInt8) : (u8A l).toList = Lib.byteCells l := by simp [u8A]
set_option maxRecDepth 100000 in
set_option maxHeartbeats 4000000 in
theorem fnew_any (w : World) :
    Calls Try.prog 31 #[] w fun e w' => ∃ g, e = .returned (.pointer (some ⟨g, 0, none⟩)) ∧ w.heap.size ≤ g ∧ FdZ w' g ivT ∧ Below w.heap.size w w' := by
  have hz := fun W => zeroField W
  obtain ⟨Z, hZ⟩ : ∃ Z, u8A (List.replicate 1022 0) = Z := ⟨_, rfl⟩
  rw [hZ] at hz
  have HZ := Lib.hid hZ
  clear hZ
  obtain ⟨R1, hR1⟩ : ∃ R, u8A (xpT 510) = R := ⟨_, rfl⟩
  obtain ⟨R2, hR2⟩ : ∃ R, u8A (lgT 255) = R := ⟨_, rfl⟩
  obtain ⟨R3, hR3⟩ : ∃ R, u8A ivT = R := ⟨_, rfl⟩
  have s1 : R1.size = 510 := by rw [← hR1, u8A_size, xpT_len]
  have s2 : R2.size = 256 := by rw [← hR2, u8A_size, lgT_len]
  have s3 : R3.size = 256 := by rw [← hR3, u8A_size, ivT_len]
  have o1 : R1.all (·.oneCell') = true := by rw [← hR1]; exact u8A_one _
  have o2 : R2.all (·.oneCell') = true := by rw [← hR2]; exact u8A_one _
  have o3 : R3.all (·.oneCell') = true := by rw [← hR3]; exact u8A_one _
  have l1 : R1.toList = Lib.byteCells (xpT 510) := by rw [← hR1, byteCells_toList]
  have l2 : R2.toList = Lib.byteCells (lgT 255) := by rw [← hR2, byteCells_toList]
  have l3 : R3.toList = Lib.byteCells ivT := by rw [← hR3, byteCells_toList]
  have C1 := Lib.hid (fun W => prow_any W)
  have C2 := Lib.hid (fun g W => plog_any g W)
  have C3 := Lib.hid (fun g z W => each_any g z W)
  rw [hR1] at C1
  rw [hR2] at C2
  rw [hR3] at C3
  have S1 := Lib.hid s1
  have S2 := Lib.hid s2
  have S3 := Lib.hid s3
  have O1 := Lib.hid o1
  have O2 := Lib.hid o2
  have O3 := Lib.hid o3
  have L1 := Lib.hid l1
  have L2 := Lib.hid l2
  have L3 := Lib.hid l3
  clear hR1 hR2 hR3 s1 s2 s3 o1 o2 o3 l1 l2 l3
  go_enter Try.func31, Try.ntmps31
  go_wp2_with fail
  have G := Lib.hid (show Blk (w.alloc (.cells Z 74)) w.heap.size (u8A (List.replicate 1022 0)) 74 by rw [HZ.out]; exact Blk.new _ _ _)
  have hbel : Below w.heap.size w (w.alloc (.cells Z 74)) := (Below.refl _ _).alloc (Nat.le_refl _) _
  generalize w.alloc (.cells Z 74) = w1 at *
  obtain ⟨g, hg⟩ : ∃ z, w.heap.size = z := ⟨_, rfl⟩
  rw [hg] at G hbel ⊢
  have HG := Lib.hid hg
  clear hg hz
  refine (C1.out w1).mono ?_
  rintro e w2 ⟨rfl, hb2⟩
  have G2 := Lib.hid (G.out.below hb2 G.out.lt)
  have hbel2 := hbel.trans (hb2.mono (by have := G.out.lt; omega))
  clear hb2 hbel G C1
  have HT := Lib.hid (show w2.there g 0 R1.size by rw [S1.out]; exact G2.out.there 0 510 (by rw [List.length_replicate]; omega))
  go_wp2_with (with_reducible refine wpList_store_mid rfl 70 (.tmp 6) (.tmp 4) rfl g 0 R1 rfl rfl HT.out (by rw [S1.out]; kernel_rfl) O1.out ?_)
  have G3 := Lib.hid (show Blk (w2.setCells g 0 R1.toList) g (u8A fd1) 74 by
    rw [L1.out, ← fd1_eq]
    exact Blk.putAll (xpT 510) 0 G2.out (by rw [List.length_replicate, xpT_len]; omega))
  have hbel3 := below_cells (Nat.le_refl g) R1.toList 0 hbel2
  generalize w2.setCells g 0 R1.toList = w3 at *
  clear HT G2 hbel2
  refine (C2.out g w3 G3.out.lt (fun n hn => by rw [G3.out.byteAt (by rw [fd1_len]; omega), fd1_at hn])).mono ?_
  rintro e w4 ⟨rfl, hb4⟩
  have G4 := Lib.hid (G3.out.below hb4 G3.out.lt)
  have hbel4 := hbel3.trans (hb4.mono (by have := G3.out.lt; omega))
  clear hb4 hbel3 G3 C2
  have HT := Lib.hid (show w4.there g 510 R2.size by rw [S2.out]; exact G4.out.there 510 256 (by rw [fd1_len]; omega))
  go_wp2_with (with_reducible refine wpList_store_mid rfl 72 (.tmp 13) (.tmp 11) rfl g 510 R2 rfl rfl HT.out (by rw [S2.out]; kernel_rfl) O2.out ?_)
  have G5 := Lib.hid (show Blk (w4.setCells g 510 R2.toList) g (u8A (fdL (List.replicate 256 0))) 74 by
    rw [L2.out, ← fd2_eq]
    exact Blk.putAll (lgT 255) 510 G4.out (by rw [fd1_len, lgT_len]; omega))
  have hbel5 := below_cells (Nat.le_refl g) R2.toList 510 hbel4
  generalize w4.setCells g 510 R2.toList = w5 at *
  clear HT G4 hbel4
  have hz256 : (List.replicate 256 (0 : UInt8)).length = 256 := List.length_replicate ..
  have HZ6 := Lib.hid hz256
  clear hz256
  refine (C3.out g _ w5 ⟨HZ6.out, G5.out⟩).mono ?_
  rintro e w6 ⟨rfl, hb6⟩
  have G6 := Lib.hid (G5.out.below hb6 G5.out.lt)
  have hbel6 := hbel5.trans (hb6.mono (by have := G5.out.lt; omega))
  clear hb6 hbel5 G5 C3
  have HT := Lib.hid (show w6.there g 766 R3.size by rw [S3.out]; exact G6.out.there 766 256 (by rw [fdL_len, HZ6.out]; exact Nat.le_refl _))
  go_wp2_with (with_reducible refine wpList_store_mid rfl 72 (.tmp 18) (.tmp 16) rfl g 766 R3 rfl rfl HT.out (by rw [S3.out]; kernel_rfl) O3.out ?_)
  have G7 := Lib.hid (show Blk (w6.setCells g 766 R3.toList) g (u8A (fdL ivT)) 74 by
    rw [L3.out, ← fd3_eq _ ivT HZ6.out ivT_len]
    exact Blk.putAll ivT 766 G6.out (by rw [fdL_len, HZ6.out, ivT_len]; exact Nat.le_refl _))
  have hbel7 := below_cells (Nat.le_refl g) R3.toList 766 hbel6
  generalize w6.setCells g 766 R3.toList = w7 at *
  clear HT G6 hbel6
  go_wp2_with fail
  go_ret
  exact ⟨g, rfl, by rw [HG.out]; exact Nat.le_refl _, ⟨ivT_len, G7.out⟩, by rw [HG.out]; exact hbel7⟩
end Go.Proofs.Ytkgemngkkedcnaa
