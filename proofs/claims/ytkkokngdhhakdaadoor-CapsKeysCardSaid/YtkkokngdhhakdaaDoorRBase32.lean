/- Base32 of the document writes the letters of its bytes. -/
import Derived.Test.YtkkokngdhhakdaaDoorBase32
import Derived.Test.YtkkokngdhhakdaaDoorMem
namespace Go.Proofs.YtkkokngdhhakdaaDoor
open Go.RowKit
set_option maxRecDepth 100000

set_option maxHeartbeats 1000000 in
theorem rbase32_any (A : Option Addr) (n c B : Nat) (l : List UInt8) (w : World) (hn : l.length = n) (h1 : n ≤ 1000000) (ha : Rd w B A l) (hB : B ≤ w.heap.size) :
    Calls Tryd.prog 71 #[.slice A n c] w fun e w' => e = .returned (.string ⟨(enc l).toArray⟩) ∧ Below w.heap.size w w' := by
  obtain ⟨i0, hi, hz0, hz1, hz2⟩ := info_parts info5
  have HN := Lib.hid hn
  clear hn
  go_enter Tryd.func71, Tryd.ntmps71
  go_wp2
  go_loopw [3, 4, 5, 9] (fun ov hv bv i wr => ∃ (k h b : Nat) (out : List UInt8), k ≤ n ∧ i = .int .i64 k ∧ hv = .int .i64 h ∧ bv = .int .i64 b ∧ b < 5 ∧ h < 16 ∧ Hid (h < 2 ^ b) ∧ Hid (wr.ownsRow w.heap.size 5 1 ov out.length (Lib.byteCells out)) ∧ Below w.heap.size w wr ∧ Hid (5 * out.length + b = 8 * k) ∧ Hid (out ++ encFrom h b (l.drop k) = enc l)) (fun _ _ _ i _ => n - (intOf i).toNat)
  case atStart => exact ⟨0, 0, 0, [], Nat.zero_le _, rfl, rfl, rfl, by omega, by omega, Lib.hid (by decide), Lib.hid (World.ownsRow_nil _ _ _ _), Below.refl _ _, Lib.hid rfl, Lib.hid rfl⟩
  case round =>
    obtain ⟨k, h, b, out, hk, rfl, rfl, rfl, hb5, hh, hhb, HO, hbel, hol, henc⟩ := hrel
    by_cases hlt : k < n
    · have hl1 : k < l.length := by rw [HN.out]; exact hlt
      obtain ⟨ab, off, rfl, hab, hc⟩ := (ha.below hbel hB).at_ k hl1
      have HD := Lib.hid (List.drop_eq_getElem_cons hl1)
      have hx := l[k].toNat_lt
      generalize l[k] = x at *
      go_wp2
      clear hc
      go_loopw [3, 4, 5] (fun ov hv bv wi => ∃ (h2 b2 : Nat) (out2 : List UInt8), hv = .int .i64 h2 ∧ bv = .int .i64 b2 ∧ b2 ≤ 12 ∧ h2 < 4096 ∧ Hid (h2 < 2 ^ b2) ∧ Hid (wi.ownsRow w.heap.size 5 1 ov out2.length (Lib.byteCells out2)) ∧ Below w.heap.size w wi ∧ Hid (5 * out2.length + b2 = 8 * (k + 1)) ∧ Hid (out2 ++ encFrom h2 b2 (l.drop (k + 1)) = enc l)) (fun _ _ bv _ => (intOf bv).toNat)
      case atStart =>
        refine ⟨h * 256 + x.toNat, b + 8, out, by go_num, by go_num, by omega, by omega, Lib.hid ?_, HO, hbel, Lib.hid (by have := hol.out; omega), Lib.hid ?_⟩
        · have := hhb.out
          rw [Nat.pow_add]; omega
        · rw [← henc.out, HD.out, encFrom_cons hb5]
      case round =>
        obtain ⟨h2, b2, out2, rfl, rfl, hb2, hh2, hhb2, HO2, hbel2, hol2, henc2⟩ := hrel
        by_cases hge : 5 ≤ b2
        · have hshr := div_pow_cast h2 (b2 - 5)
          have hq : h2 / 2 ^ (b2 - 5) < 32 := div_lt_of_pow hhb2.out (m := 5) (by omega)
          generalize hqe : h2 / 2 ^ (b2 - 5) = q at *
          have HQ := Lib.hid hqe
          clear hqe
          have hlen : out2.length + 1 ≤ 140737488355328 := by have := hol2.out; omega
          have hle := hbel2.size
          go_wp2_with (at_builtin; refine wpList_append_rd rfl _ _ 26 rfl w.heap.size 5 i0 Tryd.underlying26 hi hz0 hz1 hz2 _ _ _ rfl (HO2.out.alloc _) _ _ 1 1 [letter q] rfl rfl (Rd.one _ 5 (letter q) _ (congrArg _ (abc_at q hq))) hlen (by simp; omega) ?_)
          intro v1 w1 hown1 hg1
          have hbel1 : Below w.heap.size w w1 := (hbel2.alloc hle _).grown hg1 (by simp; omega) (fun k hk => (HO2.out.lt k hk).1)
          have HO1 := Lib.hid (show w1.ownsRow w.heap.size 5 1 v1 (out2 ++ [letter q]).length (Lib.byteCells (out2 ++ [letter q])) by rw [Lib.byteCells_append, List.length_append]; exact hown1)
          clear hown1 hg1 hle hlen
          go_wp2_with fail
          go_roundw
          case rel =>
            refine ⟨h2 % 2 ^ (b2 - 5), b2 - 5, out2 ++ [letter q], ?_, by go_num, by omega, ?_, Lib.hid (Nat.mod_lt _ (Nat.two_pow_pos _)), HO1, hbel1, Lib.hid ?_, Lib.hid ?_⟩
            · rw [and_mask _ _ (by omega) (by omega)]
            · exact Nat.lt_of_le_of_lt (Nat.mod_le _ _) hh2
            · have := hol2.out; simp; omega
            · rw [← henc2.out, encFrom_drain hge, HQ.out]; simp
          case measure => simp [intOf]; omega
        · go_wp2
          go_roundw
          case rel => exact ⟨k + 1, h2, b2, out2, by omega, by go_num, rfl, rfl, by omega, by have := hhb2.out; have h5 : 2 ^ b2 ≤ 2 ^ 4 := (Nat.pow_le_pow_right (by omega) (by omega)); omega, hhb2, HO2, hbel2, hol2, henc2⟩
          case measure => simp [intOf]; omega
    · have hd : l.drop k = [] := List.drop_of_length_le (by rw [HN.out]; omega)
      have HE := Lib.hid (show out ++ encFrom h b [] = enc l by rw [← henc.out, hd])
      clear hd
      have hge : ¬ (k : Int) < (n : Int) := by omega
      by_cases hb0 : 0 < b
      · have hq : h * 2 ^ (5 - b) < 32 := by
          have := hhb.out
          have h5 : 2 ^ b * 2 ^ (5 - b) = 2 ^ 5 := by rw [← Nat.pow_add, show b + (5 - b) = 5 from by omega]
          have h6 := Nat.mul_lt_mul_of_pos_right this (Nat.two_pow_pos (5 - b))
          omega
        have hshl := mul_pow_cast h (5 - b)
        generalize hqe : h * 2 ^ (5 - b) = q at *
        have HQ := Lib.hid hqe
        clear hqe
        have hlen : out.length + 1 ≤ 140737488355328 := by have := hol.out; omega
        have hle := hbel.size
        go_wp2_with (at_builtin; refine wpList_append_rd rfl _ _ 26 rfl w.heap.size 5 i0 Tryd.underlying26 hi hz0 hz1 hz2 _ _ _ rfl (HO.out.alloc _) _ _ 1 1 [letter q] rfl rfl (Rd.one _ 5 (letter q) _ (congrArg _ (abc_at q hq))) hlen (by simp; omega) ?_)
        intro v1 w1 hown1 hg1
        have hbel1 : Below w.heap.size w w1 := (hbel.alloc hle _).grown hg1 (by simp; omega) (fun k hk => (HO.out.lt k hk).1)
        obtain ⟨A1, c1, rfl, _⟩ := own_slice hown1
        have hcv := run_string_rd (P := Tryd.prog) (w := w1) 26 9 5 Tryd.underlying26 Tryd.underlying5 Tryd.underlying9 _ A1 (out.length + 1) c1 (out ++ [letter q]) (by simp) (by rw [← Lib.byteCells_append] at hown1; exact Rd.of_own hown1)
        have HE2 := Lib.hid (show out ++ [letter q] = enc l by rw [← HE.out, encFrom_last hb5 hb0, HQ.out])
        generalize out ++ [letter q] = out3 at hcv HE2
        clear hown1 hg1 hle hlen
        go_wp2_with fail
        go_ret
        exact ⟨ret_str HE2.out, hbel1⟩
      · have HE2 := Lib.hid (show out = enc l by rw [← HE.out, show b = 0 from (by omega), encFrom_end]; simp)
        have hb0' : ¬ (0 : Int) < (b : Int) := by omega
        obtain ⟨A1, c1, rfl, _⟩ := own_slice HO.out
        have hcv := run_string_rd (P := Tryd.prog) (w := wr) 26 9 5 Tryd.underlying26 Tryd.underlying5 Tryd.underlying9 _ A1 out.length c1 out rfl (Rd.of_own HO.out)
        go_wp2_with fail
        go_ret
        exact ⟨ret_str HE2.out, hbel⟩
end Go.Proofs.YtkkokngdhhakdaaDoor
