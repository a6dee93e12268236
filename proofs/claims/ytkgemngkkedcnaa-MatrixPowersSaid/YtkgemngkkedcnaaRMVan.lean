/- The document's own matrix of powers. -/
import Derived.Test.YtkgemngkkedcnaaRMUnit
import Derived.Test.YtkgemngkkedcnaaGfD
import Derived.Test.YtkgemngkkedcnaaAppend
namespace Go.Proofs.Ytkgemngkkedcnaa
open Go.RowKit

theorem rowL_succ (f : Mx) (m r : Nat) : rowL f 0 (m + 1) r = rowL f 0 m r ++ [f r m] := by simp [rowL, List.range_succ]

theorem rvander_no (n k : Int) (w : World) (h : ¬ (1 ≤ n ∧ n ≤ 16 ∧ 1 ≤ k ∧ k ≤ 16)) :
    Calls Try.prog 22 #[.int .i64 n, .int .i64 k] w fun e w' => e = .returned (.slice none 0 0) ∧ w = w' := by
  by_cases h1 : n < 1
  · go_enter Try.func22, Try.ntmps22
    go_wp2_with fail
    go_ret
    exact ⟨rfl, rfl⟩
  · by_cases h2 : 16 < n
    · go_enter Try.func22, Try.ntmps22
      go_wp2_with fail
      go_ret
      exact ⟨rfl, rfl⟩
    · by_cases h3 : k < 1
      · go_enter Try.func22, Try.ntmps22
        go_wp2_with fail
        go_ret
        exact ⟨rfl, rfl⟩
      · have h4 : 16 < k := by omega
        go_enter Try.func22, Try.ntmps22
        go_wp2_with fail
        go_ret
        exact ⟨rfl, rfl⟩

set_option maxRecDepth 100000 in
set_option maxHeartbeats 4000000 in
theorem rvander_any (n k : Nat) (w : World) (h1 : 1 ≤ n) (h2 : n ≤ 16) (h3 : 1 ≤ k) (h4 : k ≤ 16) :
    Calls Try.prog 22 #[.int .i64 (n : Int), .int .i64 (k : Int)] w fun e w' => ∃ X cp, e = .returned (.slice X n cp) ∧ n ≤ cp ∧ RdR w' w'.heap.size X (rowsL vdM 0 k n) ∧ Below w.heap.size w w' := by
  obtain ⟨i0, hi, hz0, hz1, hz2⟩ := info_parts info5
  obtain ⟨i1, hi', hz0', hz1', hz2'⟩ := info_parts infoSlice
  have a1 : ¬ (n : Int) < 1 := by omega
  have a2 : ¬ (16 : Int) < (n : Int) := by omega
  have a3 : ¬ (k : Int) < 1 := by omega
  have a4 : ¬ (16 : Int) < (k : Int) := by omega
  go_enter Try.func22, Try.ntmps22
  go_wp2_with fail
  clear a1 a2 a3 a4
  go_loopw [5, 6] (fun v t wr => ∃ (i : Nat) (vs : List Value), i ≤ n ∧ t = .int .i64 i ∧ Hid (wr.ownsRow w.heap.size 22 1 v i vs) ∧ Hid (sliceOwn wr w.heap.size 5 vs (rowsL vdM 0 k i)) ∧ Below w.heap.size w wr) (fun _ t _ => n - (intOf t).toNat)
  case atStart => exact ⟨0, [], by omega, rfl, Lib.hid (World.ownsRow_nil _ _ _ _), Lib.hid ⟨rfl, fun i hi => by simp [rowsL] at hi⟩, Below.refl _ _⟩
  case round =>
    obtain ⟨i, vs, hin, rfl, HO, HS, hbel⟩ := hrel
    by_cases hlt : i < n
    · have hii : (i : Int) < (n : Int) := by omega
      have HSN := Lib.hid (rowsL_succ vdM 0 k i)
      have hle := hbel.size
      have hi16 : (i : Int) < 16 := by omega
      obtain ⟨wo, rfl⟩ : ∃ y : World, y = wr := ⟨_, rfl⟩
      have HB0 := Lib.hid hbel
      clear hbel
      go_wp2_with fail
      go_loopw [7, 8] (fun v t wq => ∃ j : Nat, j ≤ k ∧ t = .int .i64 j ∧ Hid (wq.ownsRow wo.heap.size 5 1 v j (Lib.byteCells (rowL vdM 0 j i))) ∧ Below wo.heap.size wo wq) (fun _ t _ => k - (intOf t).toNat)
      case atStart => exact ⟨0, by omega, rfl, Lib.hid (World.ownsRow_nil _ _ _ _), Below.refl _ _⟩
      case round =>
        obtain ⟨j, hj, rfl, HR, hbq⟩ := hrel
        by_cases hjk : j < k
        · have hji : (j : Int) < (k : Int) := by omega
          have HC := Lib.hid (show Calls Try.prog 42 #[.int .u8 (i : Int), .int .i64 (j : Int)] wr fun e w' => e = .returned (.int .u8 ((vdM i j).toNat : Int)) ∧ wr = w' by
            have := rpow_any (UInt8.ofNat i) (j : Int) wr ⟨by omega, by omega⟩
            rw [show ((UInt8.ofNat i).toNat : Int) = (i : Int) by rw [UInt8.toNat_ofNat', Nat.mod_eq_of_lt (by omega)], Int.toNat_natCast] at this
            exact this)
          have HRS := Lib.hid (rowL_succ vdM j i)
          generalize vdM i j = x at *
          have hlq := hbq.size
          go_wp2_with fail
          with_reducible refine (HC.out).mono ?_
          rintro e w4 ⟨rfl, rfl⟩
          go_wp2_with (at_builtin; refine wpList_append_rd rfl _ _ 22 rfl wo.heap.size 5 i0 Try.underlying22 hi hz0 hz1 hz2 _ _ _ rfl (HR.out.alloc _) _ _ 1 1 [x] rfl rfl (Rd.one _ 5 x _ rfl) (by omega) (by simp; omega) ?_)
          intro v3 w3 hown3 hg3
          have hbq3 : Below wo.heap.size wo w3 := (hbq.alloc hlq _).grown hg3 (by simp; omega) (fun k hk => (HR.out.lt k hk).1)
          have HR3 := Lib.hid (show w3.ownsRow wo.heap.size 5 1 v3 (j + 1) (Lib.byteCells (rowL vdM 0 (j + 1) i)) by rw [HRS.out, Lib.byteCells_append]; exact hown3)
          clear hown3 hg3 HR hbq hlq HC HRS
          go_wp2_with fail
          go_roundw
          case rel => exact ⟨j + 1, by omega, by go_num, HR3, hbq3⟩
          case measure => simp [intOf]; omega
        · obtain rfl : j = k := by omega
          obtain ⟨Ar, cr, rfl, hkc, hcm⟩ := own_caps HR.out
          have hlq := hbq.size
          have hsz : w.heap.size ≤ wr.heap.size := Nat.le_trans hle hlq
          go_wp2_with (at_builtin; refine wpList_append_one rfl _ _ 24 rfl w.heap.size 22 i1 Try.underlying24 hi' hz0' hz1' hz2' _ i vs rfl wr Ar j cr rfl (own_keep HO.out hbq) rfl (by omega) hsz ?_)
          intro v2 w2 hown2 hg2
          have hal : Below wr.heap.size wr (wr.alloc (.cells #[.slice Ar j cr] 22)) := (Below.refl _ _).alloc (Nat.le_refl _) _
          have HS2 := Lib.hid (HS.out.grow (hbq.trans (hal.mono hlq)) (own_keep (own_keep HO.out hbq) hal) hg2 (own_keep (own_base HR.out hle) hal) (rowL_len _ _ _ _) hkc hcm)
          rw [← HSN.out] at HS2
          have HO2 := Lib.hid hown2
          have hbel2 : Below w.heap.size w w2 := (HB0.out.trans ((hbq.trans (hal.mono hlq)).mono hle)).grown hg2 (by simp; omega) (fun k hk => (HO.out.lt k hk).1)
          clear hown2 hg2 hal hbq HO HS HR
          go_wp2_with fail
          go_roundw
          case rel => exact ⟨i + 1, _, by omega, by go_num, HO2, HS2, hbel2⟩
          case measure => simp [intOf]; omega
    · obtain rfl : i = n := by omega
      obtain ⟨A', c', rfl, hkc, _⟩ := own_caps HO.out
      have HR := Lib.hid (RdR.of_own HO.out HS.out.vals (Nat.le_refl _))
      have hni : ¬ (i : Int) < (i : Int) := by omega
      clear HO HS
      go_wp2_with fail
      go_ret
      exact ⟨A', c', rfl, hkc, HR.out, hbel⟩
end Go.Proofs.Ytkgemngkkedcnaa
