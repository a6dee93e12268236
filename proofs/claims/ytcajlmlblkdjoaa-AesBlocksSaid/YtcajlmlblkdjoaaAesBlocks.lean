/- AesBlocks: a block and the round keys are the document's. For all keys and blocks. -/
import Derived.Test.YtcajlmlblkdjoaaLaw
import Derived.Test.YtcajlmlblkdjoaaOpenA
import Derived.Test.YtcajlmlblkdjoaaFreeT
import Derived.Test.YtcajlmlblkdjoaaArrEq
import Derived.Test.YtcajlmlblkdjoaaRAes
import Derived.Test.YtcajlmlblkdjoaaWakes3
namespace Go.Proofs.Ytcajlmlblkdjoaa.aesBlocks
open Go.ChangeShapes Go.WideShapes Go.ChangeAt Go.RowKit

set_option maxRecDepth 100000 in
set_option maxHeartbeats 4000000 in
theorem walk (k x : List UInt8) (w0 : World) (hk : k.length = 16) (hx : x.length = 16) :
    Calls Try.prog 4 #[.agg (u8A k), .agg (u8A x)] w0 fun e w' => e = .returned (.bool true) ∧ Below w0.heap.size w0 w' := by
  have HPB := Lib.hid (fun W => pBlock_any k x W hk hx)
  have HRB := Lib.hid (fun W => rBlock_any k x W hk hx)
  have HPE := Lib.hid (fun W => pExpand_any k W hk)
  have HRE := Lib.hid (fun W => rExpand_any k W hk)
  have HQB := Lib.hid (fun W => (run_b16_10000 W (blockL (keysTo k 11) x) (blockL (keysTo k 11) x) (stU_len _ _ _) (stU_len _ _ _)).trans (by rw [decide_eq_true rfl]))
  have HQE := Lib.hid (fun W => (run_k176_10000 W (keysTo k 11) (keysTo k 11) (keysTo_len hk 11) (keysTo_len hk 11)).trans (by rw [decide_eq_true rfl]))
  have HKZ := Lib.hid (show (u8A k).size = 16 by rw [u8A_size, hk])
  have HXZ := Lib.hid (show (u8A x).size = 16 by rw [u8A_size, hx])
  obtain ⟨bA, hbe⟩ : ∃ K, u8A (blockL (keysTo k 11) x) = K := ⟨_, rfl⟩
  obtain ⟨eA, hee⟩ : ∃ K, u8A (keysTo k 11) = K := ⟨_, rfl⟩
  obtain ⟨kA, hke⟩ : ∃ K, u8A k = K := ⟨_, rfl⟩
  obtain ⟨xA, hxe⟩ : ∃ K, u8A x = K := ⟨_, rfl⟩
  rw [hbe] at HPB HRB HQB
  rw [hee] at HPE HRE HQE
  rw [hke] at HPB HRB HPE HRE HKZ ⊢
  rw [hxe] at HPB HRB HXZ ⊢
  clear hbe hee hke hxe hk hx
  go_enter Try.func4, Try.ntmps4
  go_wp2_with fail
  obtain ⟨g1, g2, hbel⟩ := alloc2 w0 kA xA 23 22
  generalize World.alloc (World.alloc w0 _) _ = w1 at *
  obtain ⟨kb, hkb⟩ : ∃ z, w0.heap.size = z := ⟨_, rfl⟩
  have HW := Lib.hid hkb
  have hsz := hbel.size
  rw [hkb] at g1 g2
  obtain ⟨xb, hxb⟩ : ∃ z, kb + 1 = z := ⟨_, rfl⟩
  rw [hxb] at g2
  rw [hkb, hxb]
  rw [hkb] at hbel hsz
  have HK1 := Lib.hid (fun W (h : Below w1.heap.size w1 W) => g1.below h g1.lt)
  have HX1 := Lib.hid (fun W (h : Below w1.heap.size w1 W) => g2.below h g2.lt)
  clear g1 g2 hkb hxb
  refine wp_region_free (promises [.is (.agg kA), .is (.agg xA), .is (.agg bA), .is (.agg kA), .is (.agg xA), .is (.agg bA), .is (.bool true), .is (.bool true), .is (.agg kA), .is (.agg eA), .is (.agg kA), .is (.agg eA), .is (.bool true), .is (.bool true), .is (.bool true), .is (.bool true), .is (.bool true), .is (.bool true)]) (by kernel_rfl) (by kernel_rfl) (fun i v w w' h hb => Spec.keep h hb) ⟨?_, ?_, ?_, ?_, ?_, ?_, ?_, ?_, ?_, ?_, ?_, ?_, ?_, ?_, ?_, ?_, ?_, ?_, trivial⟩ ?_
  · intro ac w hb hu hk
    refine ⟨wanted_none rfl, ?_⟩
    have e2 : ac.eval (.tmp 2) = .pointer (some ⟨kb, 0, none⟩) := hu.is (t := 2) (by kernel_rfl)
    exact wp_load_row 23 (.tmp 2) rfl kb e2 23 kA (0, 0) _ (HK1.out w hb) Try.underlying23 rfl (by rw [HKZ.out]; kernel_rfl) ⟨_, rfl, rfl, Below.refl _ _⟩
  · intro ac w hb hu hk
    refine ⟨wanted_none rfl, ?_⟩
    have e3 : ac.eval (.tmp 3) = .pointer (some ⟨xb, 0, none⟩) := hu.is (t := 3) (by kernel_rfl)
    exact wp_load_row 22 (.tmp 3) rfl xb e3 22 xA (0, 0) _ (HX1.out w hb) Try.underlying22 rfl (by rw [HXZ.out]; kernel_rfl) ⟨_, rfl, rfl, Below.refl _ _⟩
  · intro ac w hb hu hk
    refine ⟨wanted_none rfl, ?_⟩
    have e5 : ac.eval (.tmp 5) = (.agg kA) := (hk ⟨0, .data⟩ (by simp) rfl).is rfl rfl
    have e6 : ac.eval (.tmp 6) = (.agg xA) := (hk ⟨1, .data⟩ (by simp) rfl).is rfl rfl
    have ef : ac.eval (.func 12) = .func (.func 12) #[] #[] := rfl
    refine step_enter (f := 12) (args := #[.agg kA, .agg xA]) ?_ ?_
    · generalize ac.eval = ρ at e5 e6 ef ⊢
      go_simp
    · exact (HPB.out w).mono fun e w' ⟨he, hq⟩ => ⟨_, he, rfl, hq⟩
  · intro ac w hb hu hk
    refine ⟨wanted_none rfl, ?_⟩
    have e2 : ac.eval (.tmp 2) = .pointer (some ⟨kb, 0, none⟩) := hu.is (t := 2) (by kernel_rfl)
    exact wp_load_row 23 (.tmp 2) rfl kb e2 23 kA (0, 0) _ (HK1.out w hb) Try.underlying23 rfl (by rw [HKZ.out]; kernel_rfl) ⟨_, rfl, rfl, Below.refl _ _⟩
  · intro ac w hb hu hk
    refine ⟨wanted_none rfl, ?_⟩
    have e3 : ac.eval (.tmp 3) = .pointer (some ⟨xb, 0, none⟩) := hu.is (t := 3) (by kernel_rfl)
    exact wp_load_row 22 (.tmp 3) rfl xb e3 22 xA (0, 0) _ (HX1.out w hb) Try.underlying22 rfl (by rw [HXZ.out]; kernel_rfl) ⟨_, rfl, rfl, Below.refl _ _⟩
  · intro ac w hb hu hk
    refine ⟨wanted_none rfl, ?_⟩
    have e8 : ac.eval (.tmp 8) = (.agg kA) := (hk ⟨3, .data⟩ (by simp) rfl).is rfl rfl
    have e9 : ac.eval (.tmp 9) = (.agg xA) := (hk ⟨4, .data⟩ (by simp) rfl).is rfl rfl
    have ef : ac.eval (.func 13) = .func (.func 13) #[] #[] := rfl
    refine step_enter (f := 13) (args := #[.agg kA, .agg xA]) ?_ ?_
    · generalize ac.eval = ρ at e8 e9 ef ⊢
      go_simp
    · exact (HRB.out w).mono fun e w' ⟨he, hq⟩ => ⟨_, he, rfl, hq⟩
  · intro ac w hb hu hk
    refine ⟨wanted_none rfl, ?_⟩
    have e7 : ac.eval (.tmp 7) = (.agg bA) := (hk ⟨2, .data⟩ (by simp) rfl).is rfl rfl
    have e10 : ac.eval (.tmp 10) = (.agg bA) := (hk ⟨5, .data⟩ (by simp) rfl).is rfl rfl
    refine step_value (w' := w) (v := .bool true) ?_ (Below.refl _ _) rfl
    have heqw := HQB.out w
    generalize ac.eval = ρ at e7 e10 ⊢
    go_simp
  · intro ac w hb hu hk
    refine ⟨wanted_none rfl, ?_⟩
    have e11 : ac.eval (.tmp 11) = (.bool true) := (hk ⟨6, .data⟩ (by simp) rfl).is rfl rfl
    exact step_value (BigFrame.run_move (.tmp 11) rfl w) (Below.refl _ _) e11
  · intro ac w hb hu hk
    refine ⟨wanted_some rfl (hk ⟨7, .guard⟩ (by simp) rfl) rfl rfl (fun _ h => h), ?_⟩
    have e2 : ac.eval (.tmp 2) = .pointer (some ⟨kb, 0, none⟩) := hu.is (t := 2) (by kernel_rfl)
    exact wp_load_row 23 (.tmp 2) rfl kb e2 23 kA (0, 0) _ (HK1.out w hb) Try.underlying23 rfl (by rw [HKZ.out]; kernel_rfl) ⟨_, rfl, rfl, Below.refl _ _⟩
  · intro ac w hb hu hk
    refine ⟨wanted_some rfl (hk ⟨7, .chain⟩ (by simp) rfl) rfl rfl (fun _ h => h), ?_⟩
    have e13 : ac.eval (.tmp 13) = (.agg kA) := (hk ⟨8, .data⟩ (by simp) rfl).is rfl rfl
    have ef : ac.eval (.func 14) = .func (.func 14) #[] #[] := rfl
    refine step_enter (f := 14) (args := #[.agg kA]) ?_ ?_
    · generalize ac.eval = ρ at e13 ef ⊢
      go_simp
    · exact (HPE.out w).mono fun e w' ⟨he, hq⟩ => ⟨_, he, rfl, hq⟩
  · intro ac w hb hu hk
    refine ⟨wanted_some rfl (hk ⟨7, .guard⟩ (by simp) rfl) rfl rfl (fun _ h => h), ?_⟩
    have e2 : ac.eval (.tmp 2) = .pointer (some ⟨kb, 0, none⟩) := hu.is (t := 2) (by kernel_rfl)
    exact wp_load_row 23 (.tmp 2) rfl kb e2 23 kA (0, 0) _ (HK1.out w hb) Try.underlying23 rfl (by rw [HKZ.out]; kernel_rfl) ⟨_, rfl, rfl, Below.refl _ _⟩
  · intro ac w hb hu hk
    refine ⟨wanted_some rfl (hk ⟨7, .guard⟩ (by simp) rfl) rfl rfl (fun _ h => h), ?_⟩
    have e15 : ac.eval (.tmp 15) = (.agg kA) := (hk ⟨10, .data⟩ (by simp) rfl).is rfl rfl
    have ef : ac.eval (.func 15) = .func (.func 15) #[] #[] := rfl
    refine step_enter (f := 15) (args := #[.agg kA]) ?_ ?_
    · generalize ac.eval = ρ at e15 ef ⊢
      go_simp
    · exact (HRE.out w).mono fun e w' ⟨he, hq⟩ => ⟨_, he, rfl, hq⟩
  · intro ac w hb hu hk
    refine ⟨wanted_some rfl (hk ⟨7, .guard⟩ (by simp) rfl) rfl rfl (fun _ h => h), ?_⟩
    have e14 : ac.eval (.tmp 14) = (.agg eA) := (hk ⟨9, .data⟩ (by simp) rfl).is rfl rfl
    have e16 : ac.eval (.tmp 16) = (.agg eA) := (hk ⟨11, .data⟩ (by simp) rfl).is rfl rfl
    refine step_value (w' := w) (v := .bool true) ?_ (Below.refl _ _) rfl
    have heqw := HQE.out w
    generalize ac.eval = ρ at e14 e16 ⊢
    go_simp
  · intro ac w hb hu hk
    refine ⟨wanted_none rfl, ?_⟩
    have e12 : ac.eval (.tmp 12) = (.bool true) := (hk ⟨7, .data⟩ (by simp) rfl).is rfl rfl
    have e17 : ac.eval (.tmp 17) = (.bool true) := (hk ⟨12, .data⟩ (by simp) rfl).is rfl rfl
    exact step_value (run_pick_true e12 rfl w) (Below.refl _ _) e17
  · intro ac w hb hu hk
    refine ⟨wanted_none rfl, ?_⟩
    have e18 : ac.eval (.tmp 18) = (.bool true) := (hk ⟨13, .data⟩ (by simp) rfl).is rfl rfl
    exact step_value (BigFrame.run_move (.tmp 18) rfl w) (Below.refl _ _) e18
  · intro ac w hb hu hk
    refine ⟨wanted_some rfl (hk ⟨14, .chain⟩ (by simp) rfl) rfl rfl (fun _ h => h), ?_⟩
    have ef : ac.eval (.func 11) = .func (.func 11) #[] #[] := rfl
    refine step_enter (f := 11) (args := #[]) ?_ ?_
    · generalize ac.eval = ρ at ef ⊢
      go_simp
    · exact (wakes3_any w).mono fun e w' ⟨he, hq⟩ => ⟨_, he, rfl, hq⟩
  · intro ac w hb hu hk
    refine ⟨wanted_none rfl, ?_⟩
    have e19 : ac.eval (.tmp 19) = (.bool true) := (hk ⟨14, .data⟩ (by simp) rfl).is rfl rfl
    have e20 : ac.eval (.tmp 20) = (.bool true) := (hk ⟨15, .data⟩ (by simp) rfl).is rfl rfl
    exact step_value (run_pick_true e19 rfl w) (Below.refl _ _) e20
  · intro ac w hb hu hk
    refine ⟨wanted_none rfl, ?_⟩
    have e21 : ac.eval (.tmp 21) = (.bool true) := (hk ⟨16, .data⟩ (by simp) rfl).is rfl rfl
    exact step_value (BigFrame.run_assign (.tmp 21) rfl w) (Below.refl _ _) e21
  · intro ac w' hb hu hk
    obtain ⟨_, h4, rfl⟩ := (hk 17 (by decide)).put rfl rfl
    obtain ⟨_, h5, rfl⟩ := (hk 0 (by decide)).put rfl rfl
    obtain ⟨_, h6, rfl⟩ := (hk 1 (by decide)).put rfl rfl
    obtain ⟨_, h7, rfl⟩ := (hk 2 (by decide)).put rfl rfl
    obtain ⟨_, h8, rfl⟩ := (hk 3 (by decide)).put rfl rfl
    obtain ⟨_, h9, rfl⟩ := (hk 4 (by decide)).put rfl rfl
    obtain ⟨_, h10, rfl⟩ := (hk 5 (by decide)).put rfl rfl
    obtain ⟨_, h11, rfl⟩ := (hk 6 (by decide)).put rfl rfl
    obtain ⟨_, h12, rfl⟩ := (hk 7 (by decide)).put rfl rfl
    obtain ⟨_, h13, rfl⟩ := (hk 8 (by decide)).put rfl rfl
    obtain ⟨_, h14, rfl⟩ := (hk 9 (by decide)).put rfl rfl
    obtain ⟨_, h15, rfl⟩ := (hk 10 (by decide)).put rfl rfl
    obtain ⟨_, h16, rfl⟩ := (hk 11 (by decide)).put rfl rfl
    obtain ⟨_, h17, rfl⟩ := (hk 12 (by decide)).put rfl rfl
    obtain ⟨_, h18, rfl⟩ := (hk 13 (by decide)).put rfl rfl
    obtain ⟨_, h19, rfl⟩ := (hk 14 (by decide)).put rfl rfl
    obtain ⟨_, h20, rfl⟩ := (hk 15 (by decide)).put rfl rfl
    obtain ⟨_, h21, rfl⟩ := (hk 16 (by decide)).put rfl rfl
    have hF : AllPuts ac.tmps ((4, _) :: (5, _) :: (6, _) :: (7, _) :: (8, _) :: (9, _) :: (10, _) :: (11, _) :: (12, _) :: (13, _) :: (14, _) :: (15, _) :: (16, _) :: (17, _) :: (18, _) :: (19, _) :: (20, _) :: (21, _) :: []) := ⟨h4, h5, h6, h7, h8, h9, h10, h11, h12, h13, h14, h15, h16, h17, h18, h19, h20, h21, trivial⟩
    obtain rfl := frame_puts hu (by kernel_rfl) hF
    simp only [puts, Act.put, List.setIfInBounds_toArray, List.set_cons_zero, List.set_cons_succ]
    clear hk hu hF h4 h5 h6 h7 h8 h9 h10 h11 h12 h13 h14 h15 h16 h17 h18 h19 h20 h21
    have hend := hbel.trans (hb.mono hsz)
    clear hb
    go_wp2_with fail
    go_ret
    exact ⟨rfl, by rw [HW.out]; exact hend⟩

theorem contract (H : Type) (enc : TypeId × Value → H) (W : World) (base : Nat) (args : Array Value) (ds gs : List (DataW H)) (before : List MemPlace)
    (hval : ∀ (j : Nat) t v, Try.f4.params[j]? = some t → args[j]? = some v → Value.okWide Try.prog W .any base t v)
    (hW : DataW.Whole enc Try.prog Try.f4.params.toList Rows.aesBlocksSpec.vars false W args.toList ds gs before) :
    Calls Try.prog 4 args W fun e W' => ∃ v, e = .returned v ∧ Rows.aesBlocksSpec.post enc Try.prog Try.f4 false true false false W args v W' := by
  have hW' := hW
  obtain ⟨p, q, hA0, hV, rfl, hfz, hnd⟩ := hW
  have hA : DataW.TrodAll enc Try.prog W 0 (fun _ => true) true Try.f4.params.toList args.toList ds p := hA0
  rw [Try.params4] at hA hval
  obtain ⟨v0, v1, d0, d1, p0, p1, rfl, rfl, rfl, h0, h1⟩ := trodAll_two hA
  obtain ⟨rfl, rfl⟩ := trodVars_none hV
  obtain ⟨k0, rfl, hk0⟩ := open_array Try.underlying23 (by kernel_rfl) (hval 0 23 v0 rfl rfl) h0
  obtain ⟨k1, rfl, hk1⟩ := open_array Try.underlying22 (by kernel_rfl) (hval 1 22 v1 rfl rfl) h1
  clear hA0
  refine (walk k0 k1 W hk0 hk1).mono fun e W' ⟨he, hb⟩ => ?_
  exact ⟨_, he, law_post hW' rfl (by kernel_rfl) rfl (by kernel_rfl) hb⟩

set_option maxRecDepth 100000 in
theorem lifted (os : Os) (started : os.Started) (H : Type) (enc : TypeId × Value → H) :
    ReturnsInHanded {} Try.checked os 4 .any (Rows.aesBlocksSpec.pre6 enc Try.prog Try.f4 Rows.aesBlocksRow.domain false) (Rows.aesBlocksSpec.post enc Try.prog Try.f4 false true false false) := by
  refine returnsInHanded_of_change (C := Try.checked) own started (by kernel_rfl) Try.func4
    (ChangeSpec.witness6 (enc := enc) (C := Try.checked) false ⟨#[], #[.agg #[.int .u8 0, .int .u8 0, .int .u8 0, .int .u8 0, .int .u8 0, .int .u8 0, .int .u8 0, .int .u8 0, .int .u8 0, .int .u8 0, .int .u8 0, .int .u8 0, .int .u8 0, .int .u8 0, .int .u8 0, .int .u8 0], .agg #[.int .u8 0, .int .u8 0, .int .u8 0, .int .u8 0, .int .u8 0, .int .u8 0, .int .u8 0, .int .u8 0, .int .u8 0, .int .u8 0, .int .u8 0, .int .u8 0, .int .u8 0, .int .u8 0, .int .u8 0, .int .u8 0]], []⟩ 8 (by kernel_rfl) (by kernel_rfl) (by kernel_rfl) (by kernel_rfl)) ?_
  intro W base args ds gs before hval0 hW _ _
  have hval : ∀ (j : Nat) t v, Try.f4.params[j]? = some t → args[j]? = some v → Value.okWide Try.prog W .any base t v := hval0
  exact contract H enc W base args ds gs before hval hW

/-- The statement. -/
theorem card : Rows.AesBlocksSaid :=
  OpenClaim.holds_of_wide 4 Try.f4 rfl rfl rfl rfl rfl rfl rfl ⟨rfl, rfl, rfl, rfl, rfl⟩ rfl rfl rfl rfl rfl (by kernel_rfl) Try.func4 (by kernel_rfl)
    (of_decide_eq_true (by kernel_rfl)) (by unfold Func.isWrapper; first | (rw [if_pos (by decide +kernel)]; kernel_rfl) | (rw [if_neg (by decide +kernel)]; exact ⟨rfl, rfl⟩))
    (fun os started H enc _ => lifted os started H enc)
end Go.Proofs.Ytcajlmlblkdjoaa.aesBlocks
