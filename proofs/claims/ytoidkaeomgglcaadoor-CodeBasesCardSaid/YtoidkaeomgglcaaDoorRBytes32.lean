/- Bytes32 of the document answers what the program's answers. -/
import Derived.Test.YtoidkaeomgglcaaDoorBytes32
namespace Go.Proofs.YtoidkaeomgglcaaDoor
open Go.RowKit

theorem ans_len (s : ByteArray) : (ans s.data.toList).length ≤ s.size := by
  unfold ans
  cases h : bytes32 s.data.toList with
  | none => simp
  | some o =>
    have h1 := congrArg List.length (bytes32_some h)
    rw [enc_length] at h1
    simp at h1 ⊢
    omega

theorem letter_ne {c : UInt8} {j : Nat} (h : j < val c) : letter j ≠ c := by
  have hl : j < abc.length := Nat.lt_of_lt_of_le h (val_le c)
  have := List.not_of_lt_findIdx (p := (· == c)) (xs := abc) h
  unfold letter
  rw [List.getD_eq_getElem?_getD, List.getElem?_eq_getElem hl]
  simpa using this

theorem abc_ne {c : UInt8} {j : Nat} (h : j < val c) (hj : j < 32) : ((((⟨#[97, 98, 99, 100, 101, 102, 103, 104, 105, 106, 107, 108, 109, 110, 111, 112, 113, 114, 115, 116, 117, 118, 119, 120, 121, 122, 50, 51, 52, 53, 54, 55]⟩ : ByteArray)[j]'hj).toNat : Int) != ((c.toNat : Nat) : Int)) = true := by
  rw [abc_at j hj]
  simp only [bne_iff_ne, ne_eq]
  intro e
  exact letter_ne h (UInt8.toNat_inj.1 (by omega))
theorem abc_eq {c : UInt8} {j : Nat} (h : j = val c) (hj : j < 32) : ((((⟨#[97, 98, 99, 100, 101, 102, 103, 104, 105, 106, 107, 108, 109, 110, 111, 112, 113, 114, 115, 116, 117, 118, 119, 120, 121, 122, 50, 51, 52, 53, 54, 55]⟩ : ByteArray)[j]'hj).toNat : Int) != ((c.toNat : Nat) : Int)) = false := by
  rw [abc_at j hj, h, letter_val c (by omega)]
  simp

theorem own_below {w w' : World} {base : Nat} {e : TypeId} {v : Value} {n : Nat} {xs : List Value} (h : w.ownsRow base e 1 v n xs) (hb : Below w.heap.size w w') : w'.ownsRow base e 1 v n xs := by
  refine ⟨h.1, ?_⟩
  rcases h.2 with h0 | ⟨g, cap, cur, h1, h2, h3, h4⟩
  · exact .inl h0
  · refine .inr ⟨g, cap, cur, h1, h2, ?_, h4⟩
    rw [hb.block g]
    · exact h3
    · rcases Nat.lt_or_ge g w.heap.size with h' | h'
      · exact h'
      · rw [Array.getElem?_eq_none h'] at h3; cases h3
theorem own_drewN {w : World} {base : Nat} {e : TypeId} {size : Nat} {v : Value} {n : Nat} {xs : List Value} (h : w.ownsRow base e size v n xs) (q : Nat) : (w.drewN q).ownsRow base e size v n xs := h

set_option maxHeartbeats 2000000 in
theorem rbytes32_any (s : ByteArray) (n : Nat) (w : World) (hn : s.size = n) (h1 : n ≤ 1000000) :
    Calls Tryd.prog 37 #[.string s] w fun e w' => ∃ A c, e = .returned (.tuple #[.slice A (ans s.data.toList).length c, .bool (bytes32 s.data.toList).isSome]) ∧ w'.ownsRow w.heap.size 5 1 (.slice A (ans s.data.toList).length c) (ans s.data.toList).length (Lib.byteCells (ans s.data.toList)) ∧ Below w.heap.size w w' := by
  obtain ⟨i0, hi, hz0, hz1, hz2⟩ := info_parts info5
  have HN := Lib.hid hn
  have hn' : s.size ≤ 1000000 := by omega
  clear hn
  go_enter Tryd.func37, Tryd.ntmps37
  go_wp2
  go_loopw [4, 5, 6, 7] (fun ov hv bv i wr => ∃ (k h b : Nat) (out : List UInt8), k ≤ s.size ∧ i = .int .i64 k ∧ hv = .int .i64 h ∧ bv = .int .i64 b ∧ b < 8 ∧ h < 128 ∧ Hid (h < 2 ^ b) ∧ Hid (wr.ownsRow w.heap.size 5 1 ov out.length (Lib.byteCells out)) ∧ Below w.heap.size w wr ∧ out.length ≤ k ∧ Hid (Part s.data.toList h b out (s.data.toList.drop k))) (fun _ _ _ i _ => s.size - (intOf i).toNat)
  case atStart => exact ⟨0, 0, 0, [], Nat.zero_le _, rfl, rfl, rfl, by omega, by omega, Lib.hid (by decide), Lib.hid (World.ownsRow_nil _ _ _ _), Below.refl _ _, by simp, Lib.hid (Part.start _)⟩
  case round =>
    obtain ⟨k, h, b, out, hk, rfl, rfl, rfl, hb8, hh, hhb, HO, hbel, hol, HP⟩ := hrel
    by_cases hlt : k < s.size
    · have HD := Lib.hid (str_drop s k hlt)
      have hklt : (k : Int) < (s.size : Int) := by omega
      have hk0 : (0 : Int) ≤ (k : Int) := by omega
      have hvle := val_le s[k]
      go_wp2
      obtain ⟨wo, rfl⟩ : ∃ wo : World, wo = wr := ⟨_, rfl⟩
      go_loopw [8] (fun x wi => ∃ j q : Nat, x = .int .i64 j ∧ Hid (j ≤ val s[k]) ∧ j ≤ 32 ∧ wi = wo.drewN q) (fun x _ => 32 - (intOf x).toNat)
      case atStart => exact ⟨0, 0, rfl, Lib.hid (Nat.zero_le _), by omega, rfl⟩
      case round =>
        obtain ⟨j, q, rfl, hjv, hj32, rfl⟩ := hrel
        by_cases hj : j < 32
        · have hji : (j : Int) < 32 := by omega
          have hj0 : (0 : Int) ≤ (j : Int) := by omega
          have hd : decide ((j : Int) < 32) = true := decide_eq_true hji
          by_cases hjl : j < val s[k]
          · have hne := abc_ne hjl hj
            have HJ := Lib.hid (show j + 1 ≤ val s[k] by omega)
            clear hjl
            go_wp2
            go_quiet (fail)
            go_wp2
            go_roundw
            case rel => exact ⟨j + 1, _, by go_num, HJ, by omega, rfl⟩
            case measure => simp [intOf]; omega
          · have hje : j = val s[k] := by have := hjv.out; omega
            have hne := abc_eq hje hj
            have HJ := Lib.hid hje
            have hv : val s[k] < 32 := by omega
            clear hje hjl
            have hpt := HP.out
            rw [HD.out] at hpt
            have HPT := Lib.hid hpt
            clear hpt
            go_wp2
            go_quiet (fail)
            have HO2 := Lib.hid (own_drewN (own_drewN HO.out q) nq)
            have hbel2 := below_drewN (below_drewN hbel q) nq
            generalize (wo.drewN q).drewN nq = W2 at HO2 hbel2 ⊢
            clear HO hbel hne hd HP HD
            have HHV := Lib.hid (show h * 32 + j < 2 ^ (b + 5) by have := hhb.out; rw [Nat.pow_add]; omega)
            have hm : h * 32 + j < 4096 := by omega
            have hj2 : ((j : Int) == 32) = false := by rw [beq_eq_false_iff_ne]; omega
            have hv' : val s[k] < 32 := hv
            have HB := Lib.hid (fun h8 => Part.byte HPT.out hv' h8)
            have HM := Lib.hid (fun h8 => Part.more HPT.out hv' h8)
            rw [← HJ.out] at HB HM
            clear HPT hv hv'
            have hle := hbel2.size
            have e1 : (h : Int) * 32 + (j : Int) = ((h * 32 + j : Nat) : Int) := by omega
            generalize h * 32 + j = m at *
            by_cases h8 : 8 ≤ b + 5
            · have hshr := div_pow_cast m (b - 3)
              have hpb := HB.out h8
              rw [show b + 5 - 8 = b - 3 from by omega] at hpb
              have HPB := Lib.hid hpb
              have hq : m / 2 ^ (b - 3) < 256 := div_lt_of_pow HHV.out (m := 8) (by omega)
              clear hpb
              generalize m / 2 ^ (b - 3) = q at *
              have hlen : out.length + 1 ≤ 140737488355328 := by omega
              clear HB HM
              go_wp2_with (at_builtin; refine wpList_append_rd rfl _ _ 23 rfl w.heap.size 5 i0 Tryd.underlying23 hi hz0 hz1 hz2 _ _ _ rfl (HO2.out.alloc _) _ _ 1 1 [UInt8.ofNat q] rfl rfl (Rd.one _ 5 (UInt8.ofNat q) _ (byte_of q hq)) hlen (by simp; omega) ?_)
              intro v1 w1 hown1 hg1
              have hbel1 : Below w.heap.size w w1 := (hbel2.alloc hle _).grown hg1 (by simp; omega) (fun k hk => (HO2.out.lt k hk).1)
              have HO1 := Lib.hid (show w1.ownsRow w.heap.size 5 1 v1 (out ++ [UInt8.ofNat q]).length (Lib.byteCells (out ++ [UInt8.ofNat q])) by rw [Lib.byteCells_append, List.length_append]; exact hown1)
              clear hown1 hg1 hle hlen
              go_wp2_with fail
              go_roundw
              case rel =>
                refine ⟨k + 1, m % 2 ^ (b - 3), b - 3, out ++ [UInt8.ofNat q], by omega, by go_num, ?_, by go_num, by omega, ?_, Lib.hid (Nat.mod_lt _ (Nat.two_pow_pos _)), HO1, hbel1, by simp; omega, HPB⟩
                · rw [and_mask _ _ (by omega) (by omega)]
                · have h1 : m % 2 ^ (b - 3) < 2 ^ (b - 3) := Nat.mod_lt _ (Nat.two_pow_pos _)
                  have h2 : 2 ^ (b - 3) ≤ 2 ^ 4 := Nat.pow_le_pow_right (by omega) (by omega)
                  omega
              case measure => simp [intOf]; omega
            · have HPB := Lib.hid (HM.out h8)
              have h5 : 2 ^ (b + 5) ≤ 2 ^ 7 := Nat.pow_le_pow_right (by omega) (by omega)
              have hm2 : m < 128 := by have := HHV.out; omega
              clear HB HM h5
              go_wp2_with fail
              go_roundw
              case rel => exact ⟨k + 1, m, b + 5, out, by omega, by go_num, rfl, by go_num, by omega, hm2, HHV, HO2, hbel2, by omega, HPB⟩
              case measure => simp [intOf]; omega
        · have hje : j = 32 := by omega
          have hv : 32 ≤ val s[k] := by have := hjv.out; omega
          have hd : decide ((j : Int) < 32) = false := decide_eq_false (by omega)
          have hj2 : ((j : Int) == 32) = true := by rw [beq_iff_eq]; omega
          have hdn := HP.out
          rw [HD.out] at hdn
          obtain ⟨e1, e2⟩ := ans_bad (Part.bad hdn hv)
          have E1 := Lib.hid e1
          have E2 := Lib.hid e2
          have hji : ¬ (j : Int) < 32 := by omega
          clear hdn e1 e2 hje hj
          go_wp2
          go_quiet (fail)
          have hbel2 := below_drewN (below_drewN hbel q) nq
          generalize (wo.drewN q).drewN nq = W2 at hbel2 ⊢
          go_wp2
          go_ret2
          rw [E1.out, E2.out]
          exact ⟨none, 0, rfl, World.ownsRow_nil _ _ _ _, hbel2⟩
    · have hd : s.data.toList.drop k = [] := List.drop_of_length_le (by simp; omega)
      have hpt := HP.out
      rw [hd] at hpt
      have hdn := hpt.done
      clear hpt hd
      have hge : ¬ (k : Int) < (s.size : Int) := by omega
      obtain ⟨A1, c1, rfl, _⟩ := own_slice HO.out
      have hro := Rd.of_own HO.out
      have hol2 : out.length ≤ 1000000 := by omega
      by_cases hc : 5 ≤ b ∨ h ≠ 0
      · obtain ⟨e1, e2⟩ := ans_left hdn hc
        have hne : ¬ enc out = s.data.toList := fun e => (check_iff hdn).1 e hc
        have E1 := Lib.hid e1
        have E2 := Lib.hid e2
        have hcmp : (!(enc out == s.toList)) = true := by rw [Lib.toList_data]; simpa using hne
        clear hdn e1 e2 hc hne
        go_wp2_with fail
        refine (rbase32_any A1 out.length c1 _ out _ rfl hol2 hro (Nat.le_refl _)).mono ?_
        rintro e w2 ⟨rfl, hb2⟩
        have hbel2 : Below w.heap.size w w2 := hbel.trans (hb2.mono hbel.size)
        clear hb2
        go_wp2_with fail
        go_ret2
        rw [E1.out, E2.out]
        exact ⟨none, 0, rfl, World.ownsRow_nil _ _ _ _, hbel2⟩
      · obtain ⟨e1, e2⟩ := ans_good hdn hc
        have heq : enc out = s.data.toList := (check_iff hdn).2 hc
        have E1 := Lib.hid e1
        have E2 := Lib.hid e2
        have hcmp : (!(enc out == s.toList)) = false := by rw [Lib.toList_data, heq]; simp
        clear hdn e1 e2 hc heq
        go_wp2_with fail
        refine (rbase32_any A1 out.length c1 _ out _ rfl hol2 hro (Nat.le_refl _)).mono ?_
        rintro e w2 ⟨rfl, hb2⟩
        have hbel2 : Below w.heap.size w w2 := hbel.trans (hb2.mono hbel.size)
        have HO2 := Lib.hid (own_below HO.out hb2)
        clear hb2
        go_wp2_with fail
        go_ret2
        rw [E1.out, E2.out]
        exact ⟨A1, c1, rfl, HO2.out, hbel2⟩
end Go.Proofs.YtoidkaeomgglcaaDoor
