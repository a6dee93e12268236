/- The program's tree of hashes, level by level; its root. The program's tree of hashes: the root. -/
import Derived.Test.YtpfhhbfjemmkaaaDoorPTPadA
import Derived.Test.YtpfhhbfjemmkaaaDoorRTSeekA
namespace Go.Proofs.YtpfhhbfjemmkaaaDoor
open Go.RowKit

/-- The levels from the row up. -/
def levL (k : Nat) (R : List (List UInt8)) : List (List (List UInt8)) := (List.range (k + 1)).map fun j => upNH j R
theorem levL_len (k : Nat) (R : List (List UInt8)) : (levL k R).length = k + 1 := by simp [levL]
theorem levL_zero (R : List (List UInt8)) : levL 0 R = [R] := rfl
theorem levL_snoc (k : Nat) (R : List (List UInt8)) : levL (k + 1) R = levL k R ++ [upNH (k + 1) R] := by
  unfold levL
  rw [List.range_succ (n := k + 1), List.map_append]
  rfl
theorem levL_at {k j : Nat} (R : List (List UInt8)) (h : j < (levL k R).length) : (levL k R)[j] = upNH j R := by
  simp [levL]
/-- A row of one row. -/
theorem rl_one {w : World} {B : Nat} {v : Value} {l : List (List UInt8)} (h : HxV w v l) (hB : B ≤ w.heap.size) : RL (w.alloc (.cells #[v] 23)) B (.slice (some ⟨w.heap.size, 0, none⟩) 1 1) [l] := by
  have hal : Below w.heap.size w (w.alloc (.cells #[v] 23)) := (Below.refl _ _).alloc (Nat.le_refl _) _
  have ho : (w.alloc (.cells #[v] 23)).ownsRow B 23 1 (.slice (some ⟨w.heap.size, 0, none⟩) 1 1) 1 [v] :=
    ⟨rfl, Or.inr ⟨w.heap.size, 1, #[v], rfl, hB, heap_alloc_new _ _, Nat.le_refl _, by unfold maxLen; omega, rfl, rfl⟩⟩
  refine ⟨[v], ho, rfl, fun i hi => ?_⟩
  obtain rfl : i = 0 := by simpa using hi
  exact ⟨v, rfl, h.on hal⟩
set_option maxRecDepth 100000 in
set_option maxHeartbeats 8000000 in
theorem plevels_any (A : Option Addr) (n c : Nat) (hs : List (List UInt8)) (w : World) (hn : hs.length = n) (h1 : n ≤ 1024) (hl : ∀ r ∈ hs, r.length = 32) (hr : RdH w w.heap.size A hs) (htab : Pow10 w.heap.size w) :
    Calls Tryd.prog 40 #[.func (.func 26) #[] #[], .slice A n c] w fun e w' => ∃ v, e = .returned v ∧ RL w' w.heap.size v (levL (tree.high n) (rowH hs)) ∧ Below w.heap.size w w' := by
  have HP := Lib.hid (ppadded_any A n c hs w hn h1 hl hr htab)
  have HRH := Lib.hid (rowH_hash hl)
  obtain ⟨K, hK⟩ : ∃ K, tree.high n = K := ⟨_, rfl⟩
  have HRL := Lib.hid (show (rowH hs).length = 2 ^ K by rw [rowH_len, hn, hK])
  have HK2 := Lib.hid (show 2 ^ K ≤ 1024 by rw [← hK]; exact high_small h1)
  have hk10 : K ≤ 10 := by rw [← hK]; exact tree.high_least 10 n (by simpa using h1)
  have HT := Lib.hid htab
  rw [hK]
  generalize rowH hs = R at *
  clear hn hl hr htab hK
  go_enter Tryd.func40, Tryd.ntmps40
  go_wp2_with fail
  with_reducible refine (HP.out).mono ?_
  rintro e w1 ⟨v1, rfl, hown1, hb1⟩
  obtain ⟨m1, hm1⟩ : ∃ m, R.length = m := ⟨_, rfl⟩
  obtain ⟨A1, c1, rfl, _, _⟩ := hown1.form hm1
  have HO1 := Lib.hid (rl_one (B := w.heap.size) (HxV.of hown1) hb1.size)
  have HV1 := Lib.hid (hown1.hv.on ((Below.refl _ _).alloc (Nat.le_refl _) (.cells #[.slice A1 m1 c1] 23)))
  have HB1 := Lib.hid (show Below w.heap.size w (w1.alloc (.cells #[.slice A1 m1 c1] 23)) from hb1.trans (((Below.refl _ _).alloc (Nat.le_refl _) _).mono hb1.size))
  have HM1 := Lib.hid (show m1 = 2 ^ (K - 0) by rw [← hm1, Nat.sub_zero]; exact HRL.out)
  clear hown1 hb1 hm1 HP
  go_wp2_with fail
  generalize hw2 : w1.alloc (.cells #[.slice A1 m1 c1] 23) = w2 at *
  clear hw2
  go_loopw [5, 6] (fun x v wq => ∃ j m X d, j ≤ K ∧ Hid (m = 2 ^ (K - j)) ∧ x = .slice X m d ∧ Hid (HV wq (.slice X m d) (upNH j R)) ∧ Hid (RL wq w.heap.size v (levL j R)) ∧ Below w.heap.size w wq) (fun x _ _ => lenW x)
  case atStart => exact ⟨0, m1, A1, c1, Nat.zero_le _, HM1, rfl, HV1, HO1, HB1.out⟩
  case round =>
    clear HM1 HV1 HO1 HB1
    obtain ⟨j, m, X, d, hjK, HM, rfl, HV, HO, hbel⟩ := hrel
    have hlen : (upNH j R).length = m := by
      rw [upNH_len, HRL.out, HM.out, Nat.pow_div hjK (by omega)]
    have HLEN := Lib.hid hlen
    by_cases hlt : j < K
    · have hm2 : 2 ≤ m := by
        rw [HM.out]
        calc 2 = 2 ^ 1 := rfl
          _ ≤ 2 ^ (K - j) := Nat.pow_le_pow_right (by omega) (by omega)
      have hmi : (1 : Int) < (m : Int) := by omega
      have hmm : m ≤ 1024 := by
        have : 2 ^ (K - j) ≤ 2 ^ K := Nat.pow_le_pow_right (by omega) (by omega)
        have := HK2.out
        rw [HM.out]; omega
      have HM2 := Lib.hid (show m / 2 = 2 ^ (K - (j + 1)) by
        rw [HM.out, show K - j = (K - (j + 1)) + 1 by omega, Nat.pow_succ, Nat.mul_div_cancel _ (by omega)])
      have HAB := Lib.hid (show Calls Tryd.prog 56 #[.func (.func 26) #[] #[], .slice X m d] wr fun e w' => ∃ v, e = .returned v ∧ OwnH w' wr.heap.size v (upNH (j + 1) R) ∧ Below wr.heap.size wr w' by
        obtain ⟨h0, X', d', e, _, hrd⟩ := HV.out
        injection e with e1 e2 e3
        subst e1 e3
        rw [upNH_succ]
        exact pabove_any X m d (upNH j R) wr hlen hmm h0 hrd (tab_on HT.out hbel hbel.size))
      have HUL := Lib.hid (show (upNH (j + 1) R).length = m / 2 by rw [upNH_succ, upH_len, hlen])
      have HLL := Lib.hid (show (levL j R).length + 1 ≤ 1000000 by rw [levL_len]; omega)
      have HLF := Lib.hid (show (levL j R).length = j + 1 from levL_len j R)
      obtain ⟨A6, c6, rfl, _, _⟩ := HO.out.form HLF.out
      clear hlen HV
      go_wp2_with fail
      with_reducible refine (HAB.out).mono ?_
      rintro e w3 ⟨v3, rfl, hown3, hb3⟩
      obtain ⟨A3, c3, rfl, _, _⟩ := hown3.form HUL.out
      have hb03 := hbel.trans (hb3.mono hbel.size)
      have hal3 : Below w3.heap.size w3 (w3.alloc (.cells #[.slice A3 (m / 2) c3] 23)) := (Below.refl _ _).alloc (Nat.le_refl _) _
      have hb4 := hb03.trans (hal3.mono hb03.size)
      have HX4 := Lib.hid ((HxV.of hown3).on hal3)
      have HV4 := Lib.hid (hown3.hv.on hal3)
      have HO4 := Lib.hid ((HO.out.on hb3).on hal3)
      have HB4 := Lib.hid hb4
      have HBL := Lib.hid (show (w3.alloc (.cells #[.slice A3 (m / 2) c3] 23)).heap[w3.heap.size]? = some (.cells #[.slice A3 (m / 2) c3] 23 (0, 0)) from heap_alloc_new _ _)
      clear hown3 hb3 HAB HO hbel hal3 hb03 hb4
      go_wp2_with (at_builtin; refine wpList_append_row rfl _ _ rfl w.heap.size _ (levL j R) rfl HO4.out w3.heap.size (.slice A3 (m / 2) c3) (upNH (j + 1) R) HX4.out HBL.out rfl HLL.out HB4.out.size ?_)
      intro v5 w5 hrl5 hg5 hn5
      rw [← levL_snoc] at hrl5
      obtain ⟨A5, c5, rfl, _, _⟩ := hrl5.form (levL_len (j + 1) R)
      have HO5 := Lib.hid hrl5
      have HV5 := Lib.hid (show HV w5 (.slice A3 (m / 2) c3) (upNH (j + 1) R) from (RL.hx HX4.out HO4.out hg5).hv)
      have hb5 : Below w.heap.size w w5 := HB4.out.grown hg5 HB4.out.size (fun k hk => (HO4.out.inside k hk).1)
      clear hrl5 hg5 hn5 HO4 HX4 HV4 HB4 HBL
      go_wp2_with fail
      go_roundw
      case rel => exact ⟨j + 1, m / 2, A3, c3, hlt, HM2, rfl, HV5, HO5, hb5⟩
      case measure => simp [lenW]; omega
    · obtain rfl : j = K := by omega
      obtain rfl : m = 1 := by rw [HM.out, Nat.sub_self]
      have hmi : ¬ (1 : Int) < ((1 : Nat) : Int) := by omega
      obtain ⟨A6, c6, rfl, _, _⟩ := HO.out.form (levL_len j R)
      clear HV HM
      go_wp2_with fail
      go_ret
      exact ⟨_, rfl, HO.out, hbel⟩
end Go.Proofs.YtpfhhbfjemmkaaaDoor
namespace Go.Proofs.YtpfhhbfjemmkaaaDoor
open Go.RowKit

set_option maxRecDepth 100000 in
set_option maxHeartbeats 4000000 in
theorem ptop_any {w : World} {B N n : Nat} {v : Value} {ls : List (List (List UInt8))} (h : RL w B v ls) (hN : ls.length = N) (hn : n + 1 = N) (x : List UInt8) (hx : (ls.getD n []).getD 0 [] = x) (hp : 0 < (ls.getD n []).length) (hN1 : N ≤ 1000000) :
    Calls Tryd.prog 39 #[v] w fun e w' => e = .returned (.agg (u8A x)) ∧ Below w.heap.size w w' := by
  obtain ⟨A, c, rfl, hc1, hc2⟩ := h.form hN
  obtain ⟨b, rfl⟩ := RL.some h (by omega)
  have hi : n < ls.length := by omega
  obtain ⟨hbw, A2, d, hcell, hv⟩ := h.at_ hi
  have hg : ls.getD n [] = ls[n] := by simp [List.getD_eq_getElem?_getD, hi]
  rw [hg] at hx hp
  rw [Nat.zero_add] at hcell
  obtain ⟨q, hq⟩ : ∃ q, ls[n].length = q := ⟨_, rfl⟩
  rw [hq] at hcell hv hp
  obtain ⟨b2, off, rfl, hb2, hra, hl0⟩ := hv.at_ (i := 0) (by omega)
  rw [Nat.zero_mul, Nat.add_zero, hx] at hra
  rw [hx] at hl0
  have hq1 : (0 : Int) < (q : Int) := by omega
  have hNi : (N : Int) - 1 = (n : Int) := by omega
  have hni : (n : Int) < (N : Int) := by omega
  obtain ⟨Z, hZ⟩ : ∃ Z, u8A x = Z := ⟨_, rfl⟩
  have HZ := Lib.hid hZ
  have HZS := Lib.hid (show Z.size = 32 by rw [← hZ, u8A_size, hl0])
  have HZO := Lib.hid (show Z.all (·.oneCell') = true by rw [← hZ]; exact u8A_one _)
  have HI4 := Lib.hid (show (Tryd.prog.info? 25).map (·.size) = some Z.size by rw [HZS.out]; kernel_rfl)
  have HL0 := Lib.hid hl0
  have HRA := Lib.hid hra
  have HCELL := Lib.hid hcell
  have HBW := Lib.hid hbw
  have HB2 := Lib.hid hb2
  clear hra hl0 hZ hx hq hg h hv hcell hN hbw hb2 hi
  go_enter Tryd.func39, Tryd.ntmps39
  go_upto_region 1 with fail
  generalize hw1 : World.alloc _ _ = w1
  obtain ⟨g, hg⟩ : ∃ g, w.heap.size = g := ⟨_, rfl⟩
  have hf : (∃ rs, Blk w1 g rs 25 ∧ rs.size = Z.size) ∧ Below w.heap.size w w1 := by
    obtain ⟨Y, hw, hY⟩ : ∃ Y, w1 = w.alloc (.cells Y 25) ∧ Y.size = 32 := ⟨_, hw1.symm, rfl⟩
    rw [hw, ← hg]
    exact ⟨⟨Y, Blk.new _ _ _, hY.trans HZS.out.symm⟩, (Below.refl _ _).alloc (Nat.le_refl _) _⟩
  obtain ⟨⟨rs, hrs, hrz⟩, hb1⟩ := hf
  have hcell : w1.cell? ⟨b, n, none⟩ = some (.slice (some ⟨b2, off, none⟩) q d) := (hb1.cell (p := ⟨b, n, none⟩) HBW.out).trans HCELL.out
  have HRA1 := Lib.hid (show w1.rangeAt b2 off (Lib.byteCells x) from rangeAt_keep HRA.out fun j => hb1.cell (p := ⟨b2, off + j, none⟩) HB2.out)
  have HRS := Lib.hid hrs
  have HRZ := Lib.hid hrz
  have HB1 := Lib.hid hb1
  have HG := Lib.hid hg
  rw [hg]
  clear hw1 hrs hrz hb1 HRA HCELL HBW HB2 hg
  go_wp2_with (first
    | (with_reducible refine wpList_load_hash rfl (.tmp 9) rfl b2 off rfl x HL0.out HRA1.out Z HZ.out ?_)
    | (with_reducible refine wpList_store_blk rfl 25 (.tmp 2) (.tmp 10) rfl g Z rfl rfl 25 rs HRS.out HI4.out HRZ.out HZO.out ?_))
  refine bodyPost_ret (v := .agg Z) (results_cell_row (p := 2) (ty := 25) (by kernel_rfl) _ _ g 25 _ (0, 0) _ rfl (HRS.out.row Z) Tryd.underlying25 rfl HI4.out) rfl ⟨by rw [HZ.out], below_row HB1.out HB1.out.size (by rw [HG.out]; exact Nat.le_refl _) _⟩
theorem levL_top {k : Nat} (R : List (List UInt8)) : ((levL k R).getD k []).getD 0 [] = rootH k R := by
  have h : k < (levL k R).length := by rw [levL_len]; omega
  rw [show (levL k R).getD k [] = (levL k R)[k] by simp [List.getD_eq_getElem?_getD, h], levL_at R h]
  rfl
theorem levL_top_len {k : Nat} {R : List (List UInt8)} (hR : R.length = 2 ^ k) : 0 < ((levL k R).getD k []).length := by
  have h : k < (levL k R).length := by rw [levL_len]; omega
  rw [show (levL k R).getD k [] = (levL k R)[k] by simp [List.getD_eq_getElem?_getD, h], levL_at R h, upNH_len, hR, Nat.div_self (Nat.two_pow_pos k)]
  omega
set_option maxRecDepth 100000 in
set_option maxHeartbeats 4000000 in
theorem proot_any (A : Option Addr) (n c : Nat) (hs : List (List UInt8)) (w : World) (hn : hs.length = n) (h1 : n ≤ 1024) (hl : ∀ r ∈ hs, r.length = 32) (hr : RdH w w.heap.size A hs) (htab : Pow10 w.heap.size w) :
    Calls Tryd.prog 14 #[.slice A n c] w fun e w' => e = .returned (.agg (u8A (rootV hs))) ∧ Below w.heap.size w w' := by
  obtain ⟨K, hK⟩ : ∃ K, tree.high n = K := ⟨_, rfl⟩
  have hk10 : K ≤ 10 := by rw [← hK]; exact tree.high_least 10 n (by simpa using h1)
  have HLV := Lib.hid (fun W (h : Below w.heap.size w W) => (show Calls Tryd.prog 40 #[.func (.func 26) #[] #[], .slice A n c] W fun e w' => ∃ v, e = .returned v ∧ RL w' W.heap.size v (levL K (rowH hs)) ∧ Below W.heap.size W w' by
    rw [← hK]
    exact plevels_any A n c hs W hn h1 hl ((hr.below h (Nat.le_refl _)).more h.size) (tab_on htab h h.size)))
  have HRV := Lib.hid (show rootH K (rowH hs) = rootV hs by unfold rootV; rw [hn, hK])
  have HTL := Lib.hid (show 0 < ((levL K (rowH hs)).getD K []).length from levL_top_len (by rw [rowH_len, hn, hK]))
  have hl0 : (rootV hs).length = 32 := rootV_len hl
  obtain ⟨Z, hZ⟩ : ∃ Z, u8A (rootV hs) = Z := ⟨_, rfl⟩
  have HZ := Lib.hid hZ
  have HZS := Lib.hid (show Z.size = 32 by rw [← hZ, u8A_size, hl0])
  have HZO := Lib.hid (show Z.all (·.oneCell') = true by rw [← hZ]; exact u8A_one _)
  have HI4 := Lib.hid (show (Tryd.prog.info? 25).map (·.size) = some Z.size by rw [HZS.out]; kernel_rfl)
  clear hn hl hr htab hK hl0 hZ
  go_enter Tryd.func14, Tryd.ntmps14
  go_upto_region 1 with fail
  generalize hw1 : World.alloc _ _ = w1
  obtain ⟨g, hg⟩ : ∃ g, w.heap.size = g := ⟨_, rfl⟩
  have hf : (∃ rs, Blk w1 g rs 25 ∧ rs.size = Z.size) ∧ Below w.heap.size w w1 := by
    obtain ⟨Y, hw, hY⟩ : ∃ Y, w1 = w.alloc (.cells Y 25) ∧ Y.size = 32 := ⟨_, hw1.symm, rfl⟩
    rw [hw, ← hg]
    exact ⟨⟨Y, Blk.new _ _ _, hY.trans HZS.out.symm⟩, (Below.refl _ _).alloc (Nat.le_refl _) _⟩
  have HRS := Lib.hid hf.1
  have HB1 := Lib.hid hf.2
  have HL1 := Lib.hid (HLV.out w1 hf.2)
  have HGL := Lib.hid (show g < w1.heap.size by obtain ⟨rs, h, _⟩ := hf.1; exact h.lt)
  have HG := Lib.hid hg
  rw [hg]
  clear hf hw1 HLV hg
  go_wp2_with fail
  with_reducible refine (HL1.out).mono ?_
  rintro e w2 ⟨v2, rfl, hrl2, hb2⟩
  have HT := Lib.hid (show Calls Tryd.prog 39 #[v2] w2 fun e w' => e = .returned (.agg Z) ∧ Below w2.heap.size w2 w' by
    rw [← HZ.out]
    exact ptop_any hrl2 (levL_len _ _) rfl _ ((levL_top _).trans HRV.out) HTL.out (by omega))
  have HB2 := Lib.hid (HB1.out.trans (hb2.mono HB1.out.size))
  have HRS2 := Lib.hid (show ∃ rs, Blk w2 g rs 25 ∧ rs.size = Z.size by obtain ⟨rs, h, hz⟩ := HRS.out; exact ⟨rs, h.below hb2 HGL.out, hz⟩)
  have HGL2 := Lib.hid (show g < w2.heap.size from Nat.lt_of_lt_of_le HGL.out hb2.size)
  obtain ⟨A2, c2, rfl, _, _⟩ := hrl2.form (levL_len _ _)
  clear hrl2 hb2 HL1 HB1 HRS HGL
  go_wp2_with fail
  with_reducible refine (HT.out).mono ?_
  rintro e w3 ⟨rfl, hb3⟩
  obtain ⟨rs, hrs0, hrz⟩ := HRS2.out
  have HRS3 := Lib.hid (hrs0.below hb3 HGL2.out)
  have HRZ := Lib.hid hrz
  have HB3 := Lib.hid (HB2.out.trans (hb3.mono HB2.out.size))
  clear hrs0 hrz hb3 HT HB2 HRS2
  go_wp2_with (with_reducible refine wpList_store_blk rfl 25 (.tmp 2) (.tmp 5) rfl g Z rfl rfl 25 rs HRS3.out HI4.out HRZ.out HZO.out ?_)
  refine bodyPost_ret (v := .agg Z) (results_cell_row (p := 2) (ty := 25) (by kernel_rfl) _ _ g 25 _ (0, 0) _ rfl (HRS3.out.row Z) Tryd.underlying25 rfl HI4.out) rfl ⟨by rw [HZ.out], below_row HB3.out HB3.out.size (by rw [HG.out]; exact Nat.le_refl _) _⟩
end Go.Proofs.YtpfhhbfjemmkaaaDoor
