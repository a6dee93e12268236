/- A new hash, the table of the rounds, and the ending, as the program makes them. -/
import Derived.Test.YtdjnaeifmeffoaaDoorShaAt
namespace Go.Proofs.YtdjnaeifmeffoaaDoor
open Go.RowKit

set_option maxRecDepth 100000 in
set_option maxHeartbeats 400000 in
theorem table_any (w : World) :
    Calls Tryd.prog 31 #[] w fun e w' => e = .returned (.agg (u32Cells kL).toArray) ∧ Below w.heap.size w w' := by
  go_enter Tryd.func31, Tryd.ntmps31
  go_wp2_with (first
    | (with_reducible refine wpList_buildFlatArr rfl 59 51 64 _ rfl .u32 kL ?hu ?hsz ?hz ?hparts ?_)
    | (with_reducible refine wpList_store_row rfl 59 (.tmp 0) (.tmp 1) rfl w.heap.size (kL.map (Value.int .u32)).toArray rfl rfl 59 ?old ?hg ?hi ?ho ?h1 ?_))
  case hu => exact Tryd.underlying59
  case hsz => kernel_rfl
  case hz => kernel_rfl
  case hparts => rfl
  case hi => kernel_rfl
  case h1 => kernel_rfl
  case hg => exact heap_alloc_new _ _
  case ho => rfl
  have hb : Below w.heap.size w ((w.alloc (.cells (List.replicate 64 (Value.int .u32 0)).toArray 59)).setRow w.heap.size (kL.map (Value.int .u32)).toArray) :=
    below_row ((Below.refl _ _).alloc (Nat.le_refl _) _) (by simp) (Nat.le_refl _) _
  refine bodyPost_ret (v := .agg (kL.map (Value.int .u32)).toArray) (results_cell_row (p := 0) (ty := 59) (by kernel_rfl) _ _ w.heap.size 59 _ (0, 0) _ rfl (setRow_heap _ _ _ _ _ _ (heap_alloc_new _ _)) Tryd.underlying59 rfl (by kernel_rfl)) rfl ⟨rfl, hb⟩

set_option maxRecDepth 100000 in
set_option maxHeartbeats 400000 in
theorem start_any (w : World) :
    Calls Tryd.prog 30 #[] w fun e w' => e = .returned (.agg (h8 init8)) ∧ Below w.heap.size w w' := by
  go_enter Tryd.func30, Tryd.ntmps30
  go_wp2_with (with_reducible refine wpList_store_blk rfl 53 (.tmp 0) (.tmp 1) rfl w.heap.size (h8 init8) rfl rfl 53 _ (Blk.new w _ _) (by kernel_rfl) (by kernel_rfl) (by kernel_rfl) ?_)
  refine bodyPost_ret (v := .agg (h8 init8)) (results_cell_row (p := 0) (ty := 53) (by kernel_rfl) _ _ w.heap.size 53 _ (0, 0) _ rfl ((Blk.new w _ _).row _) Tryd.underlying53 rfl (by kernel_rfl)) rfl ⟨rfl, below_row ((Below.refl _ _).alloc (Nat.le_refl _) _) (by simp) (Nat.le_refl _) _⟩

theorem zeros_small (n : Nat) : zeros n < 64 := by unfold zeros; omega
theorem own_on {w w' : World} {base : Nat} {e : TypeId} {v : Value} {n : Nat} {xs : List Value} (h : w.ownsRow base e 1 v n xs) (hb : Below w.heap.size w w') : w'.ownsRow base e 1 v n xs :=
  h.kept (row := none) ⟨hb.os, hb.tape, hb.output, hb.size, fun j hj _ => hb.block j hj⟩ (by cases v.ownBlock <;> simp)
theorem zeros_end63 (n : Nat) : 63 - (n + 8) % 64 = zeros n := by unfold zeros; omega
/-- The mark, the noughts, the count in bits. -/
def endL (n : Nat) : List UInt8 := [128] ++ List.replicate (zeros n) 0 ++ putL (8 * n) 8
theorem endL_pad (l : List UInt8) : l ++ endL l.length = padL l := by simp [endL, padL]

set_option maxRecDepth 100000 in
set_option maxHeartbeats 400000 in
theorem new_any (w : World) :
    Calls Tryd.prog 21 #[] w fun e w' => ∃ g, e = .returned (.pointer (some ⟨g, 0, none⟩)) ∧ w.heap.size ≤ g ∧ ShaAt w' g [] ∧ Below w.heap.size w w' := by
  go_enter Tryd.func21, Tryd.ntmps21
  go_wp2_with fail
  refine (start_any _).mono ?_
  rintro e w1 ⟨rfl, hb1⟩
  go_wp2_with (with_reducible refine wpList_build rfl 57 _ rfl (by kernel_rfl) ?_)
  have hbt : (Tryd.prog.built 57 [(0, Value.agg (h8 init8))]).getD #[] = shaA init8 (List.replicate 64 0) 0 := by kernel_rfl
  rw [hbt]
  have hs : ShaAt (w1.alloc (.cells (shaA init8 (List.replicate 64 0) 0) 57)) w1.heap.size [] := ⟨List.replicate 64 0, by simp, by simp, Blk.new _ _ _⟩
  have HS := Lib.hid hs
  have HB := Lib.hid (hb1.alloc hb1.size (.cells (shaA init8 (List.replicate 64 0) 0) 57))
  clear hbt hs
  generalize w1.alloc _ = w2 at *
  have hle := hb1.size
  generalize w1.heap.size = g at *
  go_ret
  exact ⟨g, rfl, hle, HS.out, HB.out⟩

set_option maxHeartbeats 1000000 in
theorem ending_any (n : Nat) (w : World) (hn : n ≤ 1000000) :
    Calls Tryd.prog 33 #[.int .i64 n] w fun e w' => ∃ v c, e = .returned (.slice v (zeros n + 9) c) ∧ w'.ownsRow w.heap.size 5 1 (.slice v (zeros n + 9) c) (zeros n + 9) (Lib.byteCells (endL n)) ∧ Below w.heap.size w w' := by
  obtain ⟨i0, hi, hz0, hz1, hz2⟩ := info_parts info5
  have hz := zeros_small n
  have hze := zeros_end63 n
  obtain ⟨z, hzz⟩ : ∃ z, zeros n = z := ⟨_, rfl⟩
  have HZ := Lib.hid hzz
  rw [hzz] at hz hze ⊢
  have hmod : (63 : Int) - ((n : Int) + 8) % 64 = (z : Int) := by omega
  have hmk := fun W => run_make (P := Tryd.prog) W 22 5 i0 (.int .u8 0) Tryd.underlying22 hi hz0 .i64 .i64 (1 + (z : Int)) (1 + (z : Int) + 8) (by omega) (by omega) (by rw [hz2]; omega) (by omega)
  have hm0 : (madeCells #[Value.int .u8 0] (1 + z + 8))[0]? = some (.int .u8 0) := by
    rw [← Array.getElem?_toList, toList_madeCells_one, List.getElem?_replicate]
    simp
  have hp8 : ∀ w : World, Calls Tryd.prog 42 #[.int .i64 (8 * (n : Int)), .int .i64 8] w fun e w' => ∃ A c, e = .returned (.slice A 8 c) ∧ w'.ownsRow w.heap.size 5 1 (.slice A 8 c) 8 (Lib.byteCells (putL (8 * n) 8)) ∧ Below w.heap.size w w' := fun w => by
    have h := put_any (8 * (n : Int)) 8 w (by omega)
    rw [show putW 8 = 8 from rfl, show putN (8 * (n : Int)) = 8 * n from by unfold putN; rw [if_neg (by omega)]; omega] at h
    exact h
  have HP8 := Lib.hid hp8
  have HE := Lib.hid (show Lib.byteCells ([128] ++ List.replicate z 0) ++ Lib.byteCells (putL (8 * n) 8) = Lib.byteCells (endL n) by rw [← Lib.byteCells_append, endL, HZ.out])
  clear hze hzz hp8
  go_enter Tryd.func33, Tryd.ntmps33
  go_wp2_with fail
  have hown : (w.alloc (.cells ((madeCells #[.int .u8 0] (1 + z + 8)).setIfInBounds 0 (.int .u8 128)) 5)).ownsRow w.heap.size 5 1 (.slice (some ⟨w.heap.size, 0, none⟩) (1 + z) (1 + z + 8)) (1 + z) (Lib.byteCells ([128] ++ List.replicate z 0)) := by
    refine ⟨by simp [Lib.byteCells]; omega, .inr ⟨w.heap.size, 1 + z + 8, _, rfl, Nat.le_refl _, Blk.new _ _ _, by omega, by unfold maxLen; omega, by simp [size_madeCells], ?_⟩⟩
    rw [Array.toList_setIfInBounds, toList_madeCells_one, show 1 + z + 8 = (z + 8) + 1 by omega, List.replicate_succ, List.set_cons_zero, show (1 + z) * 1 = z + 1 by omega, List.take_succ_cons, List.take_replicate, show min z (z + 8) = z by omega]
    simp [Lib.byteCells]
  have hb1 : Below w.heap.size w (w.alloc (.cells ((madeCells #[.int .u8 0] (1 + z + 8)).setIfInBounds 0 (.int .u8 128)) 5)) := (Below.refl _ _).alloc (Nat.le_refl _) _
  generalize w.alloc _ = w1 at *
  refine (HP8.out _).mono ?_
  rintro e w2 ⟨A2, c2, rfl, hown2, hb2⟩
  have HO := Lib.hid (own_on hown hb2)
  have hbel := hb1.trans (hb2.mono hb1.size)
  have hr2 := Rd.of_own hown2
  have hle := hbel.size
  clear hown hb1 hb2 hown2 hm0 hmk
  go_wp2_with (at_builtin; refine wpList_append_rd rfl _ _ 22 rfl w.heap.size 5 i0 Tryd.underlying22 hi hz0 hz1 hz2 _ _ _ rfl HO.out _ A2 8 c2 (putL (8 * n) 8) rfl (putL_length _ _) hr2 (by omega) hle ?_)
  intro v3 w3 hown3 hg3
  have hbel3 := hbel.grown hg3 hle (fun k hk => (HO.out.lt k hk).1)
  have hown4 : w3.ownsRow w.heap.size 5 1 v3 (z + 9) (Lib.byteCells (endL n)) := by rw [← HE.out, show z + 9 = 1 + z + 8 by omega]; exact hown3
  obtain ⟨A3, c3, rfl, _⟩ := own_slice hown4
  have HO3 := Lib.hid hown4
  clear hown3 hown4 hg3 HO hbel hle
  go_wp2_with fail
  go_ret
  exact ⟨A3, c3, rfl, HO3.out, hbel3⟩
end Go.Proofs.YtdjnaeifmeffoaaDoor
