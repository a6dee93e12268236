/- AppendUint and AppendInt at base 10, with what the spare cells hold. -/
import Derived.Test.YtoidkaeomgglcaaDoorOwnB
import Derived.Test.YtoidkaeomgglcaaDoorPut
import Derived.Test.YtoidkaeomgglcaaDoorNet
import Derived.Test.YtoidkaeomgglcaaDoorShelf
namespace Go.Proofs.YtoidkaeomgglcaaDoor
open Go.RowKit Go.Sort

theorem netL_app' (l : List UInt8) : netL l = Lib.decDigits l.length ++ [58] ++ l ++ [44] := by
  unfold netL Lib.itoa
  rw [if_neg (by omega)]
  simp

set_option maxHeartbeats 4000000 in
set_option maxRecDepth 100000 in
theorem appUint_small (B n u : Nat) (hu : u < 100) (sv : Value) (xl : List UInt8) (w : World) (hown : OwnB w B 5 sv n xl) (hBw : B ≤ w.heap.size) (hlim : n + 20 ≤ 140737488355328) :
    Calls Tryd.prog 53 #[sv, .int .u64 u, .int .i64 10] w fun e w' => ∃ v', e = .returned v' ∧ OwnB w' B 5 v' (n + (Lib.decDigits u).length) (xl ++ Lib.decDigits u) ∧ Below B w w' := by
  obtain ⟨i0, hi, hz0, hz1, hz2⟩ := info_parts info5
  have hlen : (Lib.decDigits u).length ≤ 20 := decDigits_len u (by omega)
  go_enter Tryd.func53, Tryd.ntmps53
  go_wp2_with fail
  refine (Tryd.internal_strconv_small u hu _).mono ?_
  rintro e w' ⟨rfl, rfl⟩
  go_wp2_with (at_builtin; refine wpList_append_B rfl _ _ 23 9 rfl B 5 i0 Tryd.underlying23 hi hz0 hz1 hz2 _ n xl rfl hown _ rfl _ (Lib.decDigits u) rfl (Src.ofStr Tryd.underlying9 _) (by omega) hBw ?_)
  intro v' w1 hown' hgrow
  have hb : Below B w' w1 := (Below.refl B _).grown hgrow hBw (fun k hk => hown.lt k hk)
  go_wp2
  go_ret
  exact ⟨v', rfl, hown', hb⟩

/-- What formatBase10 leaves in the array: the numeral; all else is as it was. -/
theorem after_fmt (w : World) (T : TypeId) (u k : Nat) (dk : Array UInt8) {v' : Nat} (hnd : Lib.nDigits u ≤ 24) (hF : Lib.FmtInv (Lib.nDigits u) u 0 v' dk) :
    Rd ((putRow (fun (b : UInt8) => Value.int .u8 (b.toNat : Int)) (w.alloc (.cells Lib.zeros24 T)) w.heap.size 0 dk).drewN k) (w.heap.size + 1) (some ⟨w.heap.size, 0, none⟩) (Lib.decDigits u) ∧
      Below w.heap.size w ((putRow (fun (b : UInt8) => Value.int .u8 (b.toNat : Int)) (w.alloc (.cells Lib.zeros24 T)) w.heap.size 0 dk).drewN k) := by
  refine ⟨.inr ⟨w.heap.size, 0, rfl, by omega, fun j hj => ?_⟩, ?_⟩
  · have hsz := hF.size
    have hdj : j < dk.size := by rw [hsz, ← Lib.decDigits_length]; exact hj
    rw [Lib.row_is_numeral hF j hj, World.cell?_drewN]
    exact cell?_putRow (fun (b : UInt8) => Value.int .u8 (b.toNat : Int)) _ w.heap.size 0 _ dk (Lib.holds_zero0 w T (Lib.nDigits u) hnd) (by rw [hsz, Array.size_replicate]) j hdj
  · obtain ⟨os, e⟩ := Lib.fin_at w (.cells Lib.zeros24 T) dk k 0
    rw [e]
    exact Lib.below_grow w.heap.size w (Nat.le_refl _) k os

set_option maxHeartbeats 8000000 in
set_option maxRecDepth 100000 in
theorem appUint_big (B n u : Nat) (hu : 100 ≤ u) (hu64 : u < 1000000000000) (sv : Value) (xl : List UInt8) (w : World) (hown : OwnB w B 5 sv n xl) (hBw : B ≤ w.heap.size) (hlim : n + 20 ≤ 140737488355328)
    (htab : Lib.TabIs Tryd.prog w "internal/strconv.uint64pow10" .u64 Lib.pow10Tab) :
    Calls Tryd.prog 53 #[sv, .int .u64 u, .int .i64 10] w fun e w' => ∃ v', e = .returned v' ∧ OwnB w' B 5 v' (n + (Lib.decDigits u).length) (xl ++ Lib.decDigits u) ∧ Below B w w' := by
  obtain ⟨i0, hi, hz0, hz1, hz2⟩ := info_parts info5
  have hlen : (Lib.decDigits u).length ≤ 20 := decDigits_len u (by omega)
  have hnd : Lib.nDigits u ≤ 20 := by rw [← Lib.decDigits_length]; exact hlen
  have hfmt := Tryd.internal_strconv_formatBase10 w.heap.size 0 24 u (Array.replicate (Lib.nDigits u) 0) (w.alloc (.cells Lib.zeros24 71)) (Lib.holds_zero0 w _ (Lib.nDigits u) (by omega)) (by rw [Array.size_replicate]; exact Lib.lt_pow_nDigits u) (by omega) (by rw [Array.size_replicate]; omega)
  rw [Array.size_replicate] at hfmt
  have hdl : (Lib.decDigits u).length = Lib.nDigits u := Lib.decDigits_length u
  have haf := fun k dk v' => after_fmt w 71 u k dk (v' := v') (by omega)
  have iu : (100 : Int) ≤ (u : Int) := by omega
  have HA := Lib.hid haf
  have HF := Lib.hid hfmt
  have HDL := Lib.hid hdl
  clear haf hfmt hdl
  go_enter Tryd.func53, Tryd.ntmps53
  go_wp2_with fail
  refine (Tryd.internal_strconv_numDigits u (by omega) (by omega) _ (Lib.tabIs_alloc htab _)).mono ?_
  rintro e w' ⟨rfl, rfl⟩
  have iu20 : (Lib.nDigits u : Int) ≤ 24 := by omega
  go_wp2_with fail
  refine HF.out.mono ?_
  rintro e w' ⟨rfl, k, v', dk, rfl, hinv⟩
  obtain ⟨hrd, hb2⟩ := HA.out k dk v' hinv
  have hown2 := hown.on hb2
  have hs2 := hb2.size
  generalize (putRow (fun (b : UInt8) => Value.int .u8 (b.toNat : Int)) (w.alloc (.cells Lib.zeros24 71)) w.heap.size 0 dk).drewN k = w2 at *
  clear HA HF hown
  go_wp2_with (at_builtin; refine wpList_append_B rfl _ _ 23 23 rfl B 5 i0 Tryd.underlying23 hi hz0 hz1 hz2 _ n xl rfl hown2 _ rfl _ (Lib.decDigits u) HDL.out (Src.ofRd Tryd.underlying23 _ _ _ 24 _ HDL.out hrd) (by omega) (by omega) ?_)
  intro v3 w3 hown3 hgrow
  have hb3 : Below B w w3 := (hb2.mono hBw).grown hgrow (by omega) (fun k hk => hown2.lt k hk)
  rw [← HDL.out] at hown3
  go_wp2
  go_ret
  exact ⟨v3, rfl, hown3, hb3⟩

theorem appUint_b (B n u : Nat) (hu64 : u < 1000000000000) (sv : Value) (xl : List UInt8) (w : World) (hown : OwnB w B 5 sv n xl) (hBw : B ≤ w.heap.size) (hlim : n + 20 ≤ 140737488355328)
    (htab : Lib.TabIs Tryd.prog w "internal/strconv.uint64pow10" .u64 Lib.pow10Tab) :
    Calls Tryd.prog 53 #[sv, .int .u64 u, .int .i64 10] w fun e w' => ∃ v', e = .returned v' ∧ OwnB w' B 5 v' (n + (Lib.decDigits u).length) (xl ++ Lib.decDigits u) ∧ Below B w w' := by
  by_cases h : u < 100
  · exact appUint_small B n u h sv xl w hown hBw hlim
  · exact appUint_big B n u (by omega) hu64 sv xl w hown hBw hlim htab

set_option maxHeartbeats 4000000 in
theorem appInt_b (B n u : Nat) (hu64 : u < 1000000000000) (sv : Value) (xl : List UInt8) (w : World) (hown : OwnB w B 5 sv n xl) (hBw : B ≤ w.heap.size) (hlim : n + 20 ≤ 140737488355328)
    (htab : Lib.TabIs Tryd.prog w "internal/strconv.uint64pow10" .u64 Lib.pow10Tab) :
    Calls Tryd.prog 50 #[sv, .int .i64 (u : Int), .int .i64 10] w fun e w' => ∃ v', e = .returned v' ∧ OwnB w' B 5 v' (n + (Lib.decDigits u).length) (xl ++ Lib.decDigits u) ∧ Below B w w' := by
  have hneg : ¬ (u : Int) < 0 := by omega
  go_enter Tryd.func50, Tryd.ntmps50
  go_wp2_with fail
  refine (appUint_b B n u hu64 sv xl _ hown hBw hlim htab).mono ?_
  rintro e w2 ⟨v2, rfl, hown2, hb2⟩
  go_wp2
  first | go_ret | go_ret2
  exact ⟨v2, rfl, hown2, hb2⟩

set_option maxHeartbeats 4000000 in
/-- strconv.AppendInt at base 10. -/
theorem appendInt_b (B n u : Nat) (hu64 : u < 1000000000000) (sv : Value) (xl : List UInt8) (w : World) (hown : OwnB w B 5 sv n xl) (hBw : B ≤ w.heap.size) (hlim : n + 20 ≤ 140737488355328) (htab : Pow10 B w) :
    Calls Tryd.prog 46 #[sv, .int .i64 (u : Int), .int .i64 10] w fun e w' => ∃ v', e = .returned v' ∧ OwnB w' B 5 v' (n + (Lib.decDigits u).length) (xl ++ Lib.decDigits u) ∧ Below B w w' := by
  go_enter Tryd.func46, Tryd.ntmps46
  go_wp2_with fail
  refine (appInt_b B n u hu64 sv xl _ hown hBw hlim (htab _ (Below.refl _ _))).mono ?_
  rintro e w2 ⟨v2, rfl, hown2, hb2⟩
  go_wp2
  first | go_ret | go_ret2
  exact ⟨v2, rfl, hown2, hb2⟩

set_option maxHeartbeats 1000000 in
/-- appendNet, with what the spare cells hold. -/
theorem appendNet_b (B n m c : Nat) (sv : Value) (xl : List UInt8) (A : Option Addr) (l : List UInt8) (w : World) (hown : OwnB w B 5 sv n xl) (hB : B ≤ w.heap.size) (hl : l.length = m)
    (h1 : m ≤ 1000000000) (h2 : n ≤ 1000000000000) (hb : Rd w B A l) (htab : Pow10 B w) :
    Calls Tryd.prog 40 #[sv, .slice A m c] w fun e w' => ∃ v', e = .returned v' ∧ OwnB w' B 5 v' (n + (netL l).length) (xl ++ netL l) ∧ Below B w w' := by
  obtain ⟨i0, hi, hz0, hz1, hz2⟩ := info_parts info5
  have HL := Lib.hid hl
  have HT := Lib.hid htab
  have hd : (Lib.decDigits m).length ≤ 20 := decDigits_len m (by simp; omega)
  have hnet := netL_app' l
  rw [hl] at hnet
  have HNET := Lib.hid hnet
  clear hl htab hnet
  go_enter Tryd.func40, Tryd.ntmps40
  go_wp2_with fail
  refine (appendInt_b B n m (by omega) sv xl _ hown hB (by omega) HT.out).mono ?_
  rintro e w1 ⟨v1, rfl, hown1, hbel1⟩
  clear hown HT
  generalize hdd : Lib.decDigits m = ds at *
  clear hdd
  go_wp2_with (at_builtin; refine wpList_append_B rfl _ _ 23 23 rfl B 5 i0 Tryd.underlying23 hi hz0 hz1 hz2 _ _ _ rfl (hown1.alloc _) _ rfl 1 [58] rfl (Src.ofRd Tryd.underlying23 _ _ 1 1 [58] rfl (Rd.one w1 5 58 58 rfl)) (by omega) (by have := hbel1.size; simp; omega) ?_)
  intro v2 w2 hown2 hg2
  have hbel2 : Below B w w2 := (hbel1.alloc (by have := hbel1.size; omega) _).grown hg2 (by have := hbel1.size; simp; omega) (fun k hk => hown1.lt k hk)
  clear hown1 hg2
  have hb2 := hb.below hbel2 (Nat.le_refl _)
  go_wp2_with (at_builtin; refine wpList_append_B rfl _ _ 23 23 rfl B 5 i0 Tryd.underlying23 hi hz0 hz1 hz2 _ _ _ rfl hown2 _ rfl m l HL.out (Src.ofRd Tryd.underlying23 B A m c l HL.out hb2) (by omega) (by have := hbel2.size; omega) ?_)
  intro v3 w3 hown3 hg3
  have hbel3 : Below B w w3 := hbel2.grown hg3 (by have := hbel2.size; omega) (fun k hk => hown2.lt k hk)
  clear hown2 hg3 hb2
  go_wp2_with (at_builtin; refine wpList_append_B rfl _ _ 23 23 rfl B 5 i0 Tryd.underlying23 hi hz0 hz1 hz2 _ _ _ rfl (hown3.alloc _) _ rfl 1 [44] rfl (Src.ofRd Tryd.underlying23 _ _ 1 1 [44] rfl (Rd.one w3 5 44 44 rfl)) (by omega) (by have := hbel3.size; simp; omega) ?_)
  intro v4 w4 hown4 hg4
  have hbel4 : Below B w w4 := (hbel3.alloc (by have := hbel3.size; omega) _).grown hg4 (by have := hbel3.size; simp; omega) (fun k hk => hown3.lt k hk)
  clear hown3 hg4
  have key : ∀ (n' : Nat) (yl : List UInt8), OwnB w4 B 5 v4 n' yl → yl = xl ++ netL l → n' = n + (netL l).length → OwnB w4 B 5 v4 (n + (netL l).length) (xl ++ netL l) := by
    rintro n' yl h rfl rfl; exact h
  have HF := Lib.hid (key _ _ hown4 (by rw [HNET.out]; simp) (by rw [HNET.out]; simp [HL.out]; omega))
  clear hown4 key
  go_wp2
  go_ret
  exact ⟨_, rfl, HF.out, hbel4⟩

set_option maxHeartbeats 400000 in
theorem net_b (m c : Nat) (A : Option Addr) (l : List UInt8) (w : World) (hl : l.length = m) (h1 : m ≤ 1000000000) (hb : Rd w w.heap.size A l) (htab : Pow10 w.heap.size w) :
    Calls Tryd.prog 27 #[.slice A m c] w fun e w' => ∃ v', e = .returned v' ∧ OwnB w' w.heap.size 5 v' (netL l).length (netL l) ∧ Below w.heap.size w w' := by
  have HL := Lib.hid hl
  have HT := Lib.hid htab
  clear hl htab
  go_enter Tryd.func27, Tryd.ntmps27
  go_wp2_with fail
  refine (appendNet_b w.heap.size 0 m c (.slice none 0 0) [] A l _ (OwnB.nil _ _ _) (Nat.le_refl _) HL.out h1 (by omega) hb HT.out).mono ?_
  rintro e w1 ⟨v1, rfl, hown1, hbel1⟩
  have HF := Lib.hid (show OwnB w1 w.heap.size 5 v1 (netL l).length (netL l) by simpa using hown1)
  clear hown1
  go_wp2
  go_ret
  exact ⟨_, rfl, HF.out, hbel1⟩
end Go.Proofs.YtoidkaeomgglcaaDoor
