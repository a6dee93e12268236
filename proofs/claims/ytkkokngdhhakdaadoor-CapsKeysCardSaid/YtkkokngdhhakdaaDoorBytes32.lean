/- Bytes32 of the program reads the letters' bytes, or tells that there are none. -/
import Derived.Test.YtkkokngdhhakdaaDoorRBase32
import Derived.Test.YtkkokngdhhakdaaDoorD32
namespace Go.Proofs.YtkkokngdhhakdaaDoor
open Go.RowKit
set_option maxRecDepth 100000

theorem indexByte_eq (c : UInt8) : ∀ l : List UInt8, Lib.indexByte l c = if l.findIdx (· == c) < l.length then ((l.findIdx (· == c) : Nat) : Int) else -1
  | [] => by simp [Lib.indexByte]
  | b :: l => by
    have ih := indexByte_eq c l
    rw [Lib.indexByte, List.findIdx_cons]
    generalize Lib.indexByte l c = z at ih
    generalize l.findIdx (· == c) = i at ih
    by_cases h : (b == c) = true
    · simp [h]
    · have hb : (b == c) = false := by simpa using h
      simp only [hb, Bool.false_eq_true, if_false, cond_false, List.length_cons]
      by_cases h2 : i < l.length
      · rw [if_pos h2] at ih
        subst ih
        rw [if_neg (by rw [beq_iff_eq]; omega), if_pos (by omega)]
        omega
      · rw [if_neg h2] at ih
        subst ih
        rw [if_pos (by decide), if_neg (by omega)]

theorem str_drop (s : ByteArray) (k : Nat) (h : k < s.size) : s.data.toList.drop k = s[k] :: s.data.toList.drop (k + 1) := by
  rw [List.drop_eq_getElem_cons (by simpa using h)]; rfl

theorem index_abc (c : UInt8) : Lib.indexByte abc c = if val c < 32 then ((val c : Nat) : Int) else -1 := indexByte_eq c abc

theorem byte_of32 (q : Nat) (h : q < 256) : (q : Int) = ((UInt8.ofNat q).toNat : Int) := by
  rw [UInt8.toNat_ofNat', Nat.mod_eq_of_lt h]

/-- What Bytes32 hands back: the bytes (none of them beside a false). -/
def ans (s : List UInt8) : List UInt8 := (bytes32 s).getD []

theorem ans_bad {s : List UInt8} (h : dec 0 0 s = none) : ans s = [] ∧ (bytes32 s).isSome = false := by
  unfold ans bytes32; rw [h]; exact ⟨rfl, rfl⟩
theorem ans_left {s o : List UInt8} {h b : Nat} (e : dec 0 0 s = some (o, h, b)) (hc : 5 ≤ b ∨ h ≠ 0) : ans s = [] ∧ (bytes32 s).isSome = false := by
  unfold ans bytes32; simp only [e]; rw [if_pos hc]; exact ⟨rfl, rfl⟩
theorem ans_good {s o : List UInt8} {h b : Nat} (e : dec 0 0 s = some (o, h, b)) (hc : ¬ (5 ≤ b ∨ h ≠ 0)) : ans s = o ∧ (bytes32 s).isSome = true := by
  unfold ans bytes32; simp only [e]; rw [if_neg hc]; exact ⟨rfl, rfl⟩

/-- How far the reading is. -/
def Part (s : List UInt8) (h b : Nat) (out rest : List UInt8) : Prop := dec 0 0 s = (dec h b rest).map fun x => (out ++ x.1, x.2)

theorem Part.start (s : List UInt8) : Part s 0 0 [] s := by
  unfold Part; cases dec 0 0 s <;> simp
theorem Part.bad {s : List UInt8} {h b : Nat} {out : List UInt8} {c : UInt8} {r : List UInt8} (p : Part s h b out (c :: r)) (hc : 32 ≤ val c) : dec 0 0 s = none := by
  unfold Part at p; rw [p, dec, if_pos hc]; rfl
theorem Part.more {s : List UInt8} {h b : Nat} {out : List UInt8} {c : UInt8} {r : List UInt8} (p : Part s h b out (c :: r)) (hc : val c < 32) (h8 : ¬ 8 ≤ b + 5) : Part s (h * 32 + val c) (b + 5) out r := by
  unfold Part at p ⊢; rw [p, dec, if_neg (by omega), if_neg h8]
theorem Part.byte {s : List UInt8} {h b : Nat} {out : List UInt8} {c : UInt8} {r : List UInt8} (p : Part s h b out (c :: r)) (hc : val c < 32) (h8 : 8 ≤ b + 5) :
    Part s ((h * 32 + val c) % 2 ^ (b + 5 - 8)) (b + 5 - 8) (out ++ [UInt8.ofNat ((h * 32 + val c) / 2 ^ (b + 5 - 8))]) r := by
  unfold Part at p ⊢
  rw [p, dec, if_neg (by omega), if_pos h8, Option.map_map]
  cases dec ((h * 32 + val c) % 2 ^ (b + 5 - 8)) (b + 5 - 8) r <;> simp
theorem Part.done {s : List UInt8} {h b : Nat} {out : List UInt8} (p : Part s h b out []) : dec 0 0 s = some (out, h, b) := by
  unfold Part at p; rw [p]; simp [dec]

set_option maxHeartbeats 1000000 in
theorem bytes32_any (s : ByteArray) (n : Nat) (w : World) (hn : s.size = n) (h1 : n ≤ 1000000) :
    Calls Tryd.prog 69 #[.string s] w fun e w' => ∃ A c, e = .returned (.tuple #[.slice A (ans s.data.toList).length c, .bool (bytes32 s.data.toList).isSome]) ∧ w'.ownsRow w.heap.size 5 1 (.slice A (ans s.data.toList).length c) (ans s.data.toList).length (Lib.byteCells (ans s.data.toList)) ∧ Below w.heap.size w w' := by
  obtain ⟨i0, hi, hz0, hz1, hz2⟩ := info_parts info5
  have HN := Lib.hid hn
  have hn' : s.size ≤ 1000000 := by omega
  clear hn
  go_enter Tryd.func69, Tryd.ntmps69
  go_wp2
  go_loopw [4, 5, 6, 11] (fun ov hv bv i wr => ∃ (k h b : Nat) (out : List UInt8), k ≤ s.size ∧ i = .int .i64 k ∧ hv = .int .i64 h ∧ bv = .int .i64 b ∧ b < 8 ∧ h < 128 ∧ Hid (h < 2 ^ b) ∧ Hid (wr.ownsRow w.heap.size 5 1 ov out.length (Lib.byteCells out)) ∧ Below w.heap.size w wr ∧ out.length ≤ k ∧ Hid (Part s.data.toList h b out (s.data.toList.drop k))) (fun _ _ _ i _ => s.size - (intOf i).toNat)
  case atStart => exact ⟨0, 0, 0, [], Nat.zero_le _, rfl, rfl, rfl, by omega, by omega, Lib.hid (by decide), Lib.hid (World.ownsRow_nil _ _ _ _), Below.refl _ _, by simp, Lib.hid (Part.start _)⟩
  case round =>
    obtain ⟨k, h, b, out, hk, rfl, rfl, rfl, hb8, hh, hhb, HO, hbel, hol, HP⟩ := hrel
    by_cases hlt : k < s.size
    · have HD := Lib.hid (str_drop s k hlt)
      have hle := hbel.size
      go_wp2_with fail
      refine (Tryd.strings_IndexByte _ _ _).mono ?_
      rintro e w1 ⟨rfl, rfl⟩
      have hix : Lib.indexByte [97, 98, 99, 100, 101, 102, 103, 104, 105, 106, 107, 108, 109, 110, 111, 112, 113, 114, 115, 116, 117, 118, 119, 120, 121, 122, 50, 51, 52, 53, 54, 55] (((s[k].toNat : Nat) : Int).toNat.toUInt8) = if val s[k] < 32 then ((val s[k] : Nat) : Int) else -1 := by
        rw [Int.toNat_natCast, show Nat.toUInt8 s[k].toNat = s[k] from UInt8.ofNat_toNat]; exact index_abc _
      rw [hix]
      clear hix
      by_cases hv : val s[k] < 32
      · rw [if_pos hv]
        have hpt := HP.out
        rw [HD.out] at hpt
        have HPT := Lib.hid hpt
        clear hpt
        have hor := or_five h (val s[k]) (by omega) hv
        generalize hve : val s[k] = v at *
        have HV := Lib.hid hve
        clear hve
        have HHV := Lib.hid (show h * 32 + v < 2 ^ (b + 5) by have := hhb.out; rw [Nat.pow_add]; omega)
        have hm : h * 32 + v < 4096 := by omega
        have HB := Lib.hid (fun h8 => Part.byte HPT.out (HV.out ▸ hv) h8)
        have HM := Lib.hid (fun h8 => Part.more HPT.out (HV.out ▸ hv) h8)
        rw [HV.out] at HB HM
        clear HPT
        generalize h * 32 + v = m at *
        by_cases h8 : 8 ≤ b + 5
        · have hshr := div_pow_cast m (b - 3)
          have hpb := HB.out h8
          rw [show b + 5 - 8 = b - 3 from by omega] at hpb
          have HPB := Lib.hid hpb
          have hq : m / 2 ^ (b - 3) < 256 := div_lt_of_pow HHV.out (m := 8) (by omega)
          clear hpb
          generalize m / 2 ^ (b - 3) = q at *
          have hlen : out.length + 1 ≤ 140737488355328 := by omega
          clear HB HM
          go_wp2_with (at_builtin; refine wpList_append_rd rfl _ _ 26 rfl w.heap.size 5 i0 Tryd.underlying26 hi hz0 hz1 hz2 _ _ _ rfl (HO.out.alloc _) _ _ 1 1 [UInt8.ofNat q] rfl rfl (Rd.one _ 5 (UInt8.ofNat q) _ (byte_of32 q hq)) hlen (by simp; omega) ?_)
          intro v1 w1 hown1 hg1
          have hbel1 : Below w.heap.size w w1 := (hbel.alloc hle _).grown hg1 (by simp; omega) (fun k hk => (HO.out.lt k hk).1)
          have HO1 := Lib.hid (show w1.ownsRow w.heap.size 5 1 v1 (out ++ [UInt8.ofNat q]).length (Lib.byteCells (out ++ [UInt8.ofNat q])) by rw [Lib.byteCells_append, List.length_append]; exact hown1)
          clear hown1 hg1 hle hlen
          go_wp2_with fail
          go_roundw
          case rel =>
            refine ⟨k + 1, m % 2 ^ (b - 3), b - 3, out ++ [UInt8.ofNat q], by omega, by go_num, ?_, by go_num, by omega, ?_, Lib.hid (Nat.mod_lt _ (Nat.two_pow_pos _)), HO1, hbel1, by simp; omega, HPB⟩
            · rw [and_mask _ _ (by omega) (by omega)]
            · have h1 : m % 2 ^ (b - 3) < 2 ^ (b - 3) := Nat.mod_lt _ (Nat.two_pow_pos _)
              have h2 : 2 ^ (b - 3) ≤ 2 ^ 4 := Nat.pow_le_pow_right (by omega) (by omega)
              omega
          case measure => simp [intOf]; omega
        · have HPB := Lib.hid (HM.out h8)
          have h5 : 2 ^ (b + 5) ≤ 2 ^ 7 := Nat.pow_le_pow_right (by omega) (by omega)
          have hm2 : m < 128 := by have := HHV.out; omega
          clear HB HM h5
          go_wp2_with fail
          go_roundw
          case rel => exact ⟨k + 1, m, b + 5, out, by omega, by go_num, rfl, by go_num, by omega, hm2, HHV, HO, hbel, by omega, HPB⟩
          case measure => simp [intOf]; omega
      · rw [if_neg hv]
        have hdn := HP.out
        rw [HD.out] at hdn
        obtain ⟨e1, e2⟩ := ans_bad (Part.bad hdn (by omega))
        have E1 := Lib.hid e1
        have E2 := Lib.hid e2
        clear hdn e1 e2
        go_wp2
        go_ret2
        rw [E1.out, E2.out]
        exact ⟨none, 0, rfl, World.ownsRow_nil _ _ _ _, hbel⟩
    · have hd : s.data.toList.drop k = [] := List.drop_of_length_le (by simp; omega)
      have hpt := HP.out
      rw [hd] at hpt
      have hdn := hpt.done
      clear hpt hd
      have hge : ¬ (k : Int) < (s.size : Int) := by omega
      by_cases hc : 5 ≤ b ∨ h ≠ 0
      · obtain ⟨e1, e2⟩ := ans_left hdn hc
        have E1 := Lib.hid e1
        have E2 := Lib.hid e2
        clear hdn e1 e2
        by_cases h5 : 5 ≤ b
        · clear hc
          go_wp2
          go_ret2
          rw [E1.out, E2.out]
          exact ⟨none, 0, rfl, World.ownsRow_nil _ _ _ _, hbel⟩
        · have h0 : ((h : Int) != 0) = true := by simp only [bne_iff_ne, ne_eq]; omega
          clear hc
          go_wp2
          go_ret2
          rw [E1.out, E2.out]
          exact ⟨none, 0, rfl, World.ownsRow_nil _ _ _ _, hbel⟩
      · obtain ⟨e1, e2⟩ := ans_good hdn hc
        have E1 := Lib.hid e1
        have E2 := Lib.hid e2
        have h5 : ¬ 5 ≤ b := by omega
        have h0 : ((h : Int) != 0) = false := by rw [bne_eq_false_iff_eq]; omega
        clear hdn e1 e2 hc
        obtain ⟨A1, c1, rfl, _⟩ := own_slice HO.out
        go_wp2
        go_ret2
        rw [E1.out, E2.out]
        exact ⟨A1, c1, rfl, HO.out, hbel⟩
end Go.Proofs.YtkkokngdhhakdaaDoor
