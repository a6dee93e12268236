/- Put of the program and of the document answer the same bytes: the number's lowest so many base-256 digits, the greatest first. -/
import Derived.Test.YtkkokngdhhakdaaDoorProg
import Derived.Test.YtkkokngdhhakdaaDoorMem
import Derived.WalkLawsBesides
namespace Go.Proofs.YtkkokngdhhakdaaDoor
open Go.RowKit

theorem info5 : (Tryd.prog.info? 5).map (fun i => (i.zero, i.size, i.bytes)) = some (some (.int .u8 0), 1, 1) := by kernel_rfl

/-- The number N as W bytes, the greatest first. -/
def putL (N W : Nat) : List UInt8 := (List.range W).map fun s => UInt8.ofNat (N / 256 ^ (W - 1 - s))
theorem putL_length (N W : Nat) : (putL N W).length = W := by simp [putL]

/-- The cells from t on are the number's. -/
def Filled (N W t : Nat) (xs : List Value) : Prop := ∀ s, t ≤ s → s < W → xs[s]? = some (.int .u8 ((N / 256 ^ (W - 1 - s) % 256 : Nat) : Int))

theorem Filled.top (N W : Nat) (xs : List Value) : Filled N W W xs := fun s h1 h2 => by omega
theorem Filled.down {N W t : Nat} {xs : List Value} (h : Filled N W (t + 1) xs) (hl : xs.length = W) (ht : t < W) {u : Value} (hu : u = .int .u8 ((N / 256 ^ (W - 1 - t) % 256 : Nat) : Int)) : Filled N W t (xs.set t u) := fun s h1 h2 => by
  by_cases e : t = s
  · subst e; rw [List.getElem?_set_self (by omega), hu]
  · rw [List.getElem?_set_ne e]; exact h s (by omega) h2
theorem Filled.all {N W : Nat} {xs : List Value} (h : Filled N W 0 xs) (hl : xs.length = W) : xs = Lib.byteCells (putL N W) := by
  apply List.ext_getElem?
  intro s
  by_cases hs : s < W
  · rw [h s (Nat.zero_le _) hs]
    unfold Lib.byteCells putL
    simp [hs]
  · rw [List.getElem?_eq_none (by omega), List.getElem?_eq_none (by simp [Lib.byteCells, putL]; omega)]

theorem pow_step (N W t : Nat) (ht : t < W) : N / 256 ^ (W - (t + 1)) / 256 = N / 256 ^ (W - t) := by
  rw [Nat.div_div_eq_div_mul, ← Nat.pow_succ, Nat.succ_eq_add_one, show W - (t + 1) + 1 = W - t from by omega]

set_option maxHeartbeats 400000 in
theorem put_core (n wd : Int) (N V W : Nat) (w : World) (hN : N ≤ 9223372036854775807) (hW8 : W ≤ 8) (hM : (if n < 0 then 0 else n) = (N : Int)) (hV : (if wd < 0 then 0 else wd) = (V : Int)) (hW : (if 8 < (V : Int) then 8 else (V : Int)) = (W : Int)) :
    Calls Tryd.prog 40 #[.int .i64 n, .int .i64 wd] w fun e w' => ∃ c, e = .returned (.slice (some ⟨w.heap.size, 0, none⟩) W c) ∧ w'.ownsRow w.heap.size 5 1 (.slice (some ⟨w.heap.size, 0, none⟩) W c) W (Lib.byteCells (putL N W)) ∧ Below w.heap.size w w' := by
  obtain ⟨i0, hi, hz0, hz1, hz2⟩ := info_parts info5
  go_enter Tryd.func40, Tryd.ntmps40
  go_wp2_with (at_make; refine wpList_make_full _ rfl _ _ 26 rfl w.heap.size 5 i0 (.int .u8 0) 1 Tryd.underlying26 hi hz0 hz1 _ _ _ _ W rfl rfl rfl rfl (by rw [hz2]; omega) (by unfold maxLen; omega) (Nat.le_refl _) ?_; intro w1 hown1 hg1)
  clear hM hV hW hi hz0 hz1 hz2
  go_loopw [0, 6] (fun x i wr => ∃ (t : Nat) (xs : List Value), t ≤ W ∧ i = .int .i64 ((t : Int) - 1) ∧ x = .int .i64 ((N / 256 ^ (W - t) : Nat) : Int) ∧ wr.ownsRow w.heap.size 5 1 (.slice (some ⟨w.heap.size, 0, none⟩) W W) W xs ∧ Below w.heap.size w wr ∧ Filled N W t xs) (fun _ i _ => (intOf i + 1).toNat)
  case atStart => exact ⟨W, _, Nat.le_refl _, rfl, by simp, hown1, (Below.refl _ _).grown hg1 (Nat.le_refl _) (by simp), Filled.top _ _ _⟩
  case round =>
    obtain ⟨t, xs, ht, rfl, rfl, hown, hbel, hF⟩ := hrel
    have HF := Lib.hid hF
    have HO := Lib.hid hown
    clear hF
    by_cases h0 : 0 < t
    · obtain ⟨s, rfl⟩ : ∃ s, t = s + 1 := ⟨t - 1, by omega⟩
      have hd : N / 256 ^ (W - (s + 1)) ≤ 9223372036854775807 := Nat.le_trans (Nat.div_le_self _ _) hN
      have HP := Lib.hid (pow_step N W s (by omega))
      have hlen : xs.length = W := by simpa using hown.1
      obtain ⟨u, hc⟩ := own_cell hown s (by omega)
      have hf := hown.frozenAt s
      clear hown
      rw [show ((s + 1 : Nat) : Int) - 1 = (s : Int) from by omega]
      generalize hm : N / 256 ^ (W - (s + 1)) = m at *
      have HM := Lib.hid hm
      have HL := Lib.hid hlen
      clear hm hlen
      go_wp2
      go_roundw
      case rel =>
        refine ⟨s, xs.set s _, by omega, rfl, ?_, (HO.out.stored s _).1, hbel.setCell (Nat.le_refl _) _, HF.out.down HL.out (by omega) ?_⟩
        · rw [← HP.out]; go_num
        · rw [show W - 1 - s = W - (s + 1) from by omega, HM.out]; go_num
      case measure => simp [intOf]
    · obtain rfl : t = 0 := by omega
      have HA := Lib.hid (HF.out.all (by simpa using hown.1))
      clear hown
      rw [show ((0 : Nat) : Int) - 1 = -1 from rfl]
      go_wp2
      go_ret
      exact ⟨_, rfl, HA.out ▸ HO.out, hbel⟩

set_option maxHeartbeats 800000 in
theorem rput_core (n wd : Int) (N V W : Nat) (w : World) (hN : N ≤ 9223372036854775807) (hW8 : W ≤ 8) (hM : (if n < 0 then 0 else n) = (N : Int)) (hV : (if wd < 0 then 0 else wd) = (V : Int)) (hW : (if 8 < (V : Int) then 8 else (V : Int)) = (W : Int)) :
    Calls Tryd.prog 49 #[.int .i64 n, .int .i64 wd] w fun e w' => ∃ c, e = .returned (.slice (some ⟨w.heap.size, 0, none⟩) W c) ∧ w'.ownsRow w.heap.size 5 1 (.slice (some ⟨w.heap.size, 0, none⟩) W c) W (Lib.byteCells (putL N W)) ∧ Below w.heap.size w w' := by
  obtain ⟨i0, hi, hz0, hz1, hz2⟩ := info_parts info5
  by_cases hn : n < 0
  all_goals
    first | (rw [if_pos hn] at hM; have HN0 := Lib.hid (show N = 0 by omega)) | (rw [if_neg hn] at hM; subst hM)
    try clear hM
    go_enter Tryd.func49, Tryd.ntmps49
    go_wp2_with (at_make; refine wpList_make_full _ rfl _ _ 26 rfl w.heap.size 5 i0 (.int .u8 0) 1 Tryd.underlying26 hi hz0 hz1 _ _ _ _ W rfl rfl rfl rfl (by rw [hz2]; omega) (by unfold maxLen; omega) (Nat.le_refl _) ?_; intro w1 hown1 hg1)
    clear hV hW hi hz0 hz1 hz2
    go_loopw [0, 6] (fun x i wr => ∃ (t : Nat) (xs : List Value), t ≤ W ∧ i = .int .i64 ((t : Int) - 1) ∧ x = .int .i64 ((N / 256 ^ (W - t) : Nat) : Int) ∧ wr.ownsRow w.heap.size 5 1 (.slice (some ⟨w.heap.size, 0, none⟩) W W) W xs ∧ Below w.heap.size w wr ∧ Filled N W t xs) (fun _ i _ => (intOf i + 1).toNat)
    case atStart => exact ⟨W, _, Nat.le_refl _, rfl, by first | (simp; done) | (rw [HN0.out]; simp), hown1, (Below.refl _ _).grown hg1 (Nat.le_refl _) (by simp), Filled.top _ _ _⟩
    case round =>
      obtain ⟨t, xs, ht, rfl, rfl, hown, hbel, hF⟩ := hrel
      have HF := Lib.hid hF
      have HO := Lib.hid hown
      clear hF
      by_cases h0 : 0 < t
      · obtain ⟨s, rfl⟩ : ∃ s, t = s + 1 := ⟨t - 1, by omega⟩
        have hd : N / 256 ^ (W - (s + 1)) ≤ 9223372036854775807 := Nat.le_trans (Nat.div_le_self _ _) hN
        have HP := Lib.hid (pow_step N W s (by omega))
        have hlen : xs.length = W := by simpa using hown.1
        obtain ⟨u, hc⟩ := own_cell hown s (by omega)
        have hf := hown.frozenAt s
        clear hown
        rw [show ((s + 1 : Nat) : Int) - 1 = (s : Int) from by omega]
        generalize hm : N / 256 ^ (W - (s + 1)) = m at *
        have HM := Lib.hid hm
        have HL := Lib.hid hlen
        clear hm hlen
        go_wp2
        go_roundw
        case rel =>
          refine ⟨s, xs.set s _, by omega, rfl, ?_, (HO.out.stored s _).1, hbel.setCell (Nat.le_refl _) _, HF.out.down HL.out (by omega) ?_⟩
          · rw [← HP.out]; go_num
          · rw [show W - 1 - s = W - (s + 1) from by omega, HM.out]; go_num
        case measure => simp [intOf]
      · obtain rfl : t = 0 := by omega
        have HA := Lib.hid (HF.out.all (by simpa using hown.1))
        clear hown
        rw [show ((0 : Nat) : Int) - 1 = -1 from rfl]
        go_wp2
        go_ret
        exact ⟨_, rfl, HA.out ▸ HO.out, hbel⟩

/-- The number that is put, and the width that it is put at. -/
def putN (n : Int) : Nat := (if n < 0 then 0 else n).toNat
def putW (wd : Int) : Nat := (if 8 < (if wd < 0 then 0 else wd) then 8 else (if wd < 0 then 0 else wd)).toNat

theorem putW_le (wd : Int) : putW wd ≤ 8 := by unfold putW; split <;> split <;> omega
theorem putN_le (n : Int) (h : n ≤ 9223372036854775807) : putN n ≤ 9223372036854775807 := by unfold putN; split <;> omega

theorem put_any (n wd : Int) (w : World) (hn : n ≤ 9223372036854775807) :
    Calls Tryd.prog 40 #[.int .i64 n, .int .i64 wd] w fun e w' => ∃ A c, e = .returned (.slice A (putW wd) c) ∧ w'.ownsRow w.heap.size 5 1 (.slice A (putW wd) c) (putW wd) (Lib.byteCells (putL (putN n) (putW wd))) ∧ Below w.heap.size w w' :=
  (put_core n wd (putN n) (if wd < 0 then 0 else wd).toNat (putW wd) w (putN_le n hn) (putW_le wd) (by unfold putN; split <;> omega) (by split <;> omega) (by unfold putW; split <;> split <;> omega)).mono
    fun _ _ ⟨c, h⟩ => ⟨_, c, h⟩
theorem rput_any (n wd : Int) (w : World) (hn : n ≤ 9223372036854775807) :
    Calls Tryd.prog 49 #[.int .i64 n, .int .i64 wd] w fun e w' => ∃ A c, e = .returned (.slice A (putW wd) c) ∧ w'.ownsRow w.heap.size 5 1 (.slice A (putW wd) c) (putW wd) (Lib.byteCells (putL (putN n) (putW wd))) ∧ Below w.heap.size w w' :=
  (rput_core n wd (putN n) (if wd < 0 then 0 else wd).toNat (putW wd) w (putN_le n hn) (putW_le wd) (by unfold putN; split <;> omega) (by split <;> omega) (by unfold putW; split <;> split <;> omega)).mono
    fun _ _ ⟨c, h⟩ => ⟨_, c, h⟩
end Go.Proofs.YtkkokngdhhakdaaDoor
