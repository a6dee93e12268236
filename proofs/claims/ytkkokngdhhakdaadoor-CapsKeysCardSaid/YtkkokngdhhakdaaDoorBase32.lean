/- Base32 of the program writes the letters of its bytes. -/
import Derived.Test.YtkkokngdhhakdaaDoorBuilder
import Derived.Test.YtkkokngdhhakdaaDoorShelf
import Derived.Test.YtkkokngdhhakdaaDoorB32
import Derived.Test.YtkkokngdhhakdaaDoorBits
import Derived.WalkLawsBesides
namespace Go.Proofs.YtkkokngdhhakdaaDoor
open Go.RowKit

theorem abc_at (q : Nat) (h : q < 32) : ((⟨#[97, 98, 99, 100, 101, 102, 103, 104, 105, 106, 107, 108, 109, 110, 111, 112, 113, 114, 115, 116, 117, 118, 119, 120, 121, 122, 50, 51, 52, 53, 54, 55]⟩ : ByteArray)[q]'h).toNat = (letter q).toNat := by
  have hl : q < abc.length := h
  unfold letter
  rw [List.getD_eq_getElem?_getD, List.getElem?_eq_getElem hl]
  rfl
theorem byteCells_snoc (l : List UInt8) (x : UInt8) : Lib.byteCells (l ++ [x]) = Lib.byteCells l ++ [.int .u8 (x.toNat : Int)] := by simp [Lib.byteCells]

set_option maxHeartbeats 1000000 in
theorem base32_any (A : Option Addr) (n c B : Nat) (l : List UInt8) (w : World) (hn : l.length = n) (h1 : n ≤ 1000000) (ha : Rd w B A l) (hB : B ≤ w.heap.size) :
    Calls Tryd.prog 58 #[.slice A n c] w fun e w' => e = .returned (.string ⟨(enc l).toArray⟩) ∧ Below w.heap.size w w' := by
  have HN := Lib.hid hn
  clear hn
  go_enter Tryd.func58, Tryd.ntmps58
  go_wp2
  go_loopw [4, 5, 10] (fun hv bv i wr => ∃ (k h b : Nat) (out : List UInt8), k ≤ n ∧ i = .int .i64 k ∧ hv = .int .i64 h ∧ bv = .int .i64 b ∧ b < 5 ∧ h < 16 ∧ Hid (h < 2 ^ b) ∧ Lib.IsBuilder 82 5 w.heap.size w.heap.size (Lib.byteCells out) wr ∧ Below w.heap.size w wr ∧ Hid (5 * out.length + b = 8 * k) ∧ Hid (out ++ encFrom h b (l.drop k) = enc l)) (fun _ _ i _ => n - (intOf i).toNat)
  case atStart => exact ⟨0, 0, 0, [], Nat.zero_le _, rfl, rfl, rfl, by omega, by omega, Lib.hid (by decide), Lib.fresh_isBuilder _ _ _, (Below.refl _ _).alloc (Nat.le_refl _) _, Lib.hid rfl, Lib.hid rfl⟩
  case round =>
    obtain ⟨k, h, b, out, hk, rfl, rfl, rfl, hb5, hh, hhb, hbld, hbel, hol, henc⟩ := hrel
    have HB := Lib.hid hbld
    clear hbld
    by_cases hlt : k < n
    · have hl1 : k < l.length := by rw [HN.out]; exact hlt
      obtain ⟨ab, off, rfl, hab, hc⟩ := (ha.below hbel hB).at_ k hl1
      have HD := Lib.hid (List.drop_eq_getElem_cons hl1)
      have hx := l[k].toNat_lt
      generalize l[k] = x at *
      have hor := or_byte h x.toNat (by omega) hx
      go_wp2
      clear hor hc
      go_loopw [4, 5] (fun hv bv wi => ∃ (h2 b2 : Nat) (out2 : List UInt8), hv = .int .i64 h2 ∧ bv = .int .i64 b2 ∧ b2 ≤ 12 ∧ h2 < 4096 ∧ Hid (h2 < 2 ^ b2) ∧ Lib.IsBuilder 82 5 w.heap.size w.heap.size (Lib.byteCells out2) wi ∧ Below w.heap.size w wi ∧ Hid (5 * out2.length + b2 = 8 * (k + 1)) ∧ Hid (out2 ++ encFrom h2 b2 (l.drop (k + 1)) = enc l)) (fun _ bv _ => (intOf bv).toNat)
      case atStart =>
        refine ⟨h * 256 + x.toNat, b + 8, out, rfl, rfl, by omega, by omega, Lib.hid ?_, HB.out, hbel, Lib.hid (by have := hol.out; omega), Lib.hid ?_⟩
        · have := hhb.out
          rw [Nat.pow_add]; omega
        · rw [← henc.out, HD.out, encFrom_cons hb5]
      case round =>
        obtain ⟨h2, b2, out2, rfl, rfl, hb2, hh2, hhb2, hbld2, hbel2, hol2, henc2⟩ := hrel
        by_cases hge : 5 ≤ b2
        · have hshr := div_pow_cast h2 (b2 - 5)
          have hq : h2 / 2 ^ (b2 - 5) < 32 := div_lt_of_pow hhb2.out (m := 5) (by omega)
          generalize hqe : h2 / 2 ^ (b2 - 5) = q at *
          have HQ := Lib.hid hqe
          clear hqe
          have hlen : (Lib.byteCells out2).length + 1 ≤ 140737488355328 := by have := hol2.out; simp only [Lib.byteCells, List.length_map]; omega
          go_wp2_with fail
          refine (writeByte_any w.heap.size w.heap.size (Lib.byteCells out2) _ _ hbld2 hlen hbel2.size).mono ?_
          rintro e w1 ⟨rfl, hbld1, hbel1⟩
          clear hbld2 hlen
          go_wp2_with fail
          go_roundw
          case rel =>
            refine ⟨h2 % 2 ^ (b2 - 5), b2 - 5, out2 ++ [letter q], ?_, by go_num, by omega, ?_, Lib.hid (Nat.mod_lt _ (Nat.two_pow_pos _)), ?_, hbel2.trans hbel1, Lib.hid ?_, Lib.hid ?_⟩
            · rw [and_mask _ _ (by omega) (by omega)]
            · exact Nat.lt_of_le_of_lt (Nat.mod_le _ _) hh2
            · rw [byteCells_snoc, ← abc_at q hq]; exact .inr hbld1
            · have := hol2.out; simp; omega
            · rw [← henc2.out, encFrom_drain hge, HQ.out]; simp
          case measure => simp [intOf]; omega
        · go_wp2
          go_roundw
          case rel => exact ⟨k + 1, h2, b2, out2, by omega, by go_num, rfl, rfl, by omega, by have := hhb2.out; have h5 : 2 ^ b2 ≤ 2 ^ 4 := (Nat.pow_le_pow_right (by omega) (by omega)); omega, hhb2, hbld2, hbel2, hol2, henc2⟩
          case measure => simp [intOf]; omega
    · have hd : l.drop k = [] := List.drop_of_length_le (by rw [HN.out]; omega)
      have HE := Lib.hid (show out ++ encFrom h b [] = enc l by rw [← henc.out, hd])
      clear hd
      have hge : ¬ (k : Int) < (n : Int) := by omega
      by_cases hb0 : 0 < b
      · have hq : h * 2 ^ (5 - b) < 32 := by
          have := hhb.out
          have h5 : 2 ^ b * 2 ^ (5 - b) = 2 ^ 5 := by rw [← Nat.pow_add, show b + (5 - b) = 5 from by omega]
          have h6 := Nat.mul_lt_mul_of_pos_right this (Nat.two_pow_pos (5 - b))
          omega
        have hshl := mul_pow_cast h (5 - b)
        generalize hqe : h * 2 ^ (5 - b) = q at *
        have HQ := Lib.hid hqe
        clear hqe
        go_wp2_with fail
        have HB2 := HB.out
        have hlen : (Lib.byteCells out).length + 1 ≤ 140737488355328 := by have := hol.out; simp only [Lib.byteCells, List.length_map]; omega
        refine (writeByte_any w.heap.size w.heap.size (Lib.byteCells out) _ _ HB2 hlen hbel.size).mono ?_
        rintro e w1 ⟨rfl, hbld1, hbel1⟩
        have hbld3 : Lib.IsBuilder 82 5 w.heap.size w.heap.size (Lib.byteCells (out ++ [letter q])) w1 := by
          rw [byteCells_snoc, ← abc_at q hq]; exact .inr hbld1
        have hbel2 := hbel.trans hbel1
        have HE2 := Lib.hid (show out ++ [letter q] = enc l by rw [← HE.out, encFrom_last hb5 hb0, HQ.out])
        clear HB2 hlen hbld1 hbel1
        generalize out ++ [letter q] = out3 at hbld3 HE2
        go_wp2_with fail
        refine (Tryd.Builder_String_any w.heap.size w.heap.size out3 _ hbld3 hbel2.size).mono ?_
        rintro e w2 ⟨rfl, hbel3⟩
        go_wp2
        go_ret
        exact ⟨ret_str HE2.out, hbel2.trans hbel3⟩
      · have HE2 := Lib.hid (show out = enc l by rw [← HE.out, show b = 0 from (by omega), encFrom_end]; simp)
        have hb0' : ¬ (0 : Int) < (b : Int) := by omega
        have HB2 := HB.out
        go_wp2_with fail
        refine (Tryd.Builder_String_any w.heap.size w.heap.size out _ HB2 hbel.size).mono ?_
        rintro e w2 ⟨rfl, hbel3⟩
        go_wp2
        go_ret
        exact ⟨ret_str HE2.out, hbel.trans hbel3⟩
end Go.Proofs.YtkkokngdhhakdaaDoor
