/- The program's block of a number: the document's counter. -/
import Derived.Test.YtcajlmlblkdjoaaPSteps
import Derived.Test.YtcajlmlblkdjoaaAesS
namespace Go.Proofs.Ytcajlmlblkdjoaa
open Go.RowKit

def numL (n : Nat) : Nat → List UInt8
  | 0 => List.replicate 16 0
  | j + 1 => (numL n j).set (15 - j) (UInt8.ofNat (n / 256 ^ j))
theorem numL_len (n j : Nat) : (numL n j).length = 16 := by
  induction j with
  | zero => exact List.length_replicate ..
  | succ j ih => exact (List.length_set ..).trans ih
theorem numL_at (n : Nat) : ∀ j, j ≤ 16 → ∀ m, m < 16 → (numL n j).getD m 0 = if 16 - j ≤ m then UInt8.ofNat (n / 256 ^ (15 - m)) else 0
  | 0, _, m, hm => by
    rw [if_neg (by omega)]
    unfold numL
    rw [List.getD_eq_getElem?_getD, List.getElem?_replicate, if_pos hm]
    rfl
  | j + 1, hj, m, hm => by
    have ih := numL_at n j (by omega) m hm
    rw [numL, List.getD_eq_getElem?_getD, List.getElem?_set]
    by_cases h : 15 - j = m
    · rw [if_pos h, if_pos (by rw [numL_len]; omega), if_pos (by omega), show 15 - m = j by omega]
      rfl
    · rw [if_neg h, ← List.getD_eq_getElem?_getD, ih]
      by_cases h2 : 16 - j ≤ m
      · rw [if_pos h2, if_pos (by omega)]
      · rw [if_neg h2, if_neg (by omega)]
theorem ctrL_all (n : Nat) {m : Nat} (h : m < 16) : (ctrL n).getD m 0 = if 8 ≤ m then UInt8.ofNat (n / 256 ^ (15 - m)) else 0 := by
  by_cases h8 : 8 ≤ m
  · have := ctrL_at n (m - 8) (by omega)
    rw [show 8 + (m - 8) = m by omega] at this
    rw [this, if_pos h8]
    unfold putL
    rw [map_getD _ 8 (m - 8) (by omega), show 8 - 1 - (m - 8) = 15 - m by omega]
  · rw [if_neg h8]
    unfold ctrL
    rw [List.getD_eq_getElem?_getD, List.getElem?_append_left (by rw [List.length_replicate]; omega), List.getElem?_replicate, if_pos (by omega)]
    rfl
theorem numL_ctr (n j : Nat) (hj : j ≤ 8) (h0 : n / 256 ^ j = 0) : numL n j = ctrL n := by
  apply List.ext_getElem (by rw [numL_len, ctrL_len])
  intro m h1 h2
  have hm : m < 16 := by rw [numL_len] at h1; exact h1
  have e1 := numL_at n j (by omega) m hm
  have e2 := ctrL_all n hm
  rw [List.getD_eq_getElem?_getD, List.getElem?_eq_getElem h1, Option.getD_some] at e1
  rw [List.getD_eq_getElem?_getD, List.getElem?_eq_getElem h2, Option.getD_some] at e2
  rw [e1, e2]
  by_cases h : 16 - j ≤ m
  · rw [if_pos h, if_pos (by omega)]
  · rw [if_neg h]
    by_cases h8 : 8 ≤ m
    · rw [if_pos h8]
      have : n / 256 ^ (15 - m) = 0 := by
        have hle : 256 ^ j ≤ 256 ^ (15 - m) := Nat.pow_le_pow_right (by decide) (by omega)
        have h3 := Nat.div_le_div_left (a := n) hle (Nat.pow_pos (n := j) (show 0 < 256 by decide))
        rw [h0] at h3
        exact Nat.le_zero.1 h3
      rw [this]
      rfl
    · rw [if_neg h8]
theorem retA {a b : Array Value} (h : a = b) : Ending.returned (.agg a) = .returned (.agg b) := by rw [h]
set_option maxRecDepth 100000 in
set_option maxHeartbeats 4000000 in
theorem numbered_any (n : Nat) (w : World) (hn : n < 9223372036854775808) :
    Calls Try.prog 26 #[.int .i64 (n : Int)] w fun e w' => e = .returned (.agg (u8A (ctrL n))) ∧ Below w.heap.size w w' := by
  have hz := fun W => pzero16 W
  obtain ⟨Z, hZ⟩ : ∃ Z, u8A (List.replicate 16 0) = Z := ⟨_, rfl⟩
  rw [hZ] at hz
  have hzz : Z.size = 16 := by rw [← hZ, u8A_size]; exact List.length_replicate ..
  have HZ := Lib.hid hZ
  have HZZ := Lib.hid hzz
  have HN := Lib.hid hn
  clear hZ hzz hn
  go_enter Try.func26, Try.ntmps26
  go_wp2_with fail
  obtain ⟨g1, g2, hbel⟩ := alloc2 w Z Z 48 48
  generalize World.alloc (World.alloc w _) _ = w1 at *
  obtain ⟨rb, hrb⟩ : ∃ z, w.heap.size = z := ⟨_, rfl⟩
  rw [hrb] at g1 g2 hbel ⊢
  obtain ⟨tb, htb⟩ : ∃ z, rb + 1 = z := ⟨_, rfl⟩
  rw [htb] at g2 ⊢
  have hrt : rb < tb := by omega
  have HW := Lib.hid hrb
  have G1 := Lib.hid (show Blk w1 tb (u8A (numL n 0)) 48 by show Blk w1 tb (u8A (List.replicate 16 0)) 48; rw [HZ.out]; exact g2)
  have G2 := Lib.hid (show ∃ rs, Blk w1 rb rs 48 ∧ rs.size = 16 from ⟨_, g1, HZZ.out⟩)
  clear g1 g2 hrb htb hz
  go_loopw [0, 4] (fun m t wr => ∃ j : Nat, j ≤ 8 ∧ t = .int .i64 (15 - (j : Int)) ∧ m = .int .i64 ((n / 256 ^ j : Nat) : Int) ∧ Below rb w wr ∧ Hid (Blk wr tb (u8A (numL n j)) 48) ∧ Hid (∃ rs, Blk wr rb rs 48 ∧ rs.size = 16)) (fun _ t _ => (intOf t).toNat)
  case atStart => exact ⟨0, by omega, rfl, by rw [Nat.pow_zero, Nat.div_one], hbel, G1, G2⟩
  case round =>
    clear hbel G1 G2
    obtain ⟨j, hj, rfl, rfl, hbel, G1, G2⟩ := hrel
    obtain ⟨q, hq⟩ : ∃ q, n / 256 ^ j = q := ⟨_, rfl⟩
    have hql : q < 9223372036854775808 := by rw [← hq]; exact Nat.lt_of_le_of_lt (Nat.div_le_self _ _) HN.out
    have hqi : (q : Int) < 9223372036854775808 := by omega
    by_cases hlt : 0 < q
    · have hpos : (0 : Int) < (q : Int) := by omega
      have hj8 : j < 8 := by
        rcases Nat.lt_or_ge j 8 with h | h
        · exact h
        · exfalso
          have hp : 256 ^ 8 ≤ 256 ^ j := Nat.pow_le_pow_right (by decide) h
          have : n / 256 ^ j = 0 := Nat.div_eq_of_lt (Nat.lt_of_lt_of_le (by have := HN.out; omega) hp)
          omega
      have p0 : (0 : Int) ≤ 15 - (j : Int) := by omega
      have p1 : 15 - (j : Int) < 16 := by omega
      have p2 : (15 - (j : Int)).toNat = 15 - j := by omega
      have hf := G1.out.frozen (15 - j)
      obtain ⟨o, ho⟩ : ∃ old, wr.cell? ⟨tb, 15 - j, none⟩ = some old := ⟨_, G1.out.byteAt (i := 15 - j) (by rw [numL_len]; omega)⟩
      have HNX := Lib.hid (show numL n (j + 1) = (numL n j).set (15 - j) (UInt8.ofNat q) by rw [← hq]; rfl)
      have HQ := Lib.hid (show n / 256 ^ (j + 1) = q / 256 by rw [← hq, Nat.div_div_eq_div_mul, Nat.pow_succ])
      rw [hq]
      clear hq
      go_wp2_with fail
      go_roundw
      case rel =>
        refine ⟨j + 1, by omega, by go_num, by rw [HQ.out]; go_num, hbel.setCell (by simp; omega) _, Lib.hid ?_, Lib.hid ?_⟩
        · rw [HNX.out]
          exact G1.out.put _ (by rw [UInt8.toNat_ofNat']; omega)
        · obtain ⟨rs, h, hz⟩ := G2.out
          exact ⟨rs, h.other (by simp; omega) _, hz⟩
      case measure => simp [intOf]; omega
    · have hneg : ¬ (0 : Int) < (q : Int) := by omega
      have hfull : Blk wr tb (u8A (ctrL n)) 48 := by
        have := G1.out
        rwa [numL_ctr n j hj (by omega)] at this
      obtain ⟨rs, hrs, hrz⟩ := G2.out
      have hfz : (u8A (ctrL n)).size = 16 := by rw [u8A_size, ctrL_len]
      have hone := u8A_one (ctrL n)
      obtain ⟨fin, hfe⟩ : ∃ z, u8A (ctrL n) = z := ⟨_, rfl⟩
      rw [hfe] at hfull hfz hone
      have HFE := Lib.hid hfe
      have HFZ := Lib.hid hfz
      have HONE := Lib.hid hone
      have HRZ := Lib.hid hrz
      rw [hq]
      clear hfe hfz hone hrz G1 G2 hq
      go_wp2_with (first
        | (with_reducible refine wpList_load_blk rfl 48 (.tmp 3) rfl tb rfl 48 fin _ hfull Try.underlying48 rfl (by rw [HFZ.out]; kernel_rfl) ?_)
        | (with_reducible refine wpList_store_blk rfl 48 (.tmp 2) (.tmp 15) rfl rb fin rfl rfl 48 rs hrs (by rw [HFZ.out]; kernel_rfl) (by rw [HFZ.out, HRZ.out]) HONE.out ?_))
      refine bodyPost_ret (v := .agg fin) (results_cell_row (p := 2) (ty := 48) (by kernel_rfl) _ _ rb 48 _ (0, 0) _ rfl (hrs.row fin) Try.underlying48 rfl (by rw [HFZ.out]; kernel_rfl)) rfl ⟨by rw [HFE.out], ?_⟩
      rw [HW.out]
      exact below_row hbel (by have := hfull.lt; omega) (by omega) _
end Go.Proofs.Ytcajlmlblkdjoaa
