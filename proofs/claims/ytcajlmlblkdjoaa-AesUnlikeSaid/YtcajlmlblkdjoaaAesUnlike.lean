/- AesUnlike: unlike blocks of one key are unlike still, and the first round key is the key. For all keys and blocks. -/
import Derived.Test.YtcajlmlblkdjoaaLaw
import Derived.Test.YtcajlmlblkdjoaaOpenA
import Derived.Test.YtcajlmlblkdjoaaFreeT
import Derived.Test.YtcajlmlblkdjoaaArrEq
import Derived.Test.YtcajlmlblkdjoaaAesI
import Derived.Test.YtcajlmlblkdjoaaWakes3
namespace Go.Proofs.Ytcajlmlblkdjoaa.aesUnlike
open Go.ChangeShapes Go.WideShapes Go.ChangeAt Go.RowKit

theorem first_key (k : List UInt8) (hk : k.length = 16) : (keysTo k 11).take 16 = k := by
  have step : ∀ n, (keysTo k (n + 1)).take 16 = k := by
    intro n
    induction n with
    | zero => show ([] ++ k).take 16 = k; rw [List.nil_append, List.take_of_length_le (by omega)]
    | succ n ih => rw [keysTo, List.take_append_of_le_length (by rw [keysTo_len hk]; omega), ih]
  exact step 10
theorem run_index_first (W : World) (x : List UInt8) : (Instr.index 30 (.agg (u8A x)) (.int .i64 0)).run Try.prog W = .ok (.agg (u8A (x.take 16))) W := by
  have hT : Try.prog.underlying 30 = some (.array 11 22) := Try.underlying30
  have hs : (sizeOf 22).run Try.prog W = .ok 16 W := by
    obtain ⟨j, hq, _⟩ := infoRow
    rw [run_sizeOf W hq, show Try.prog.cellsOf 22 = 16 from by kernel_rfl]
  have hp := run_part_row W x 0
  rw [List.drop_zero] at hp
  simp [Instr.index, asIntOf, run_underlying hT, hs, hp]

set_option maxRecDepth 100000 in
set_option maxHeartbeats 4000000 in
theorem walk (k x y : List UInt8) (w0 : World) (hk : k.length = 16) (hx : x.length = 16) (hy : y.length = 16) :
    Calls Try.prog 8 #[.agg (u8A k), .agg (u8A x), .agg (u8A y)] w0 fun e w' => e = .returned (.bool true) ∧ Below w0.heap.size w0 w' := by
  have HPB := Lib.hid (fun W => pBlock_any k x W hk hx)
  have HPC := Lib.hid (fun W => pBlock_any k y W hk hy)
  have HPE := Lib.hid (fun W => pExpand_any k W hk)
  have hinj : decide (blockL (keysTo k 11) x = blockL (keysTo k 11) y) = decide (x = y) := by
    by_cases h : x = y
    · rw [h, decide_eq_true rfl, decide_eq_true rfl]
    · rw [decide_eq_false h, decide_eq_false fun h2 => h (blockL_inj hx hy h2)]
  have HQ1 := Lib.hid (fun W => (run_b16_10000 W (blockL (keysTo k 11) x) (blockL (keysTo k 11) y) (stU_len _ _ _) (stU_len _ _ _)).trans (by rw [hinj]))
  have HQ2 := Lib.hid (fun W => run_b16_10000 W x y hx hy)
  have HQ3 := Lib.hid (fun W => (run_b16_10000 W k k hk hk).trans (by rw [decide_eq_true rfl]))
  have HIX := Lib.hid (fun W => (run_index_first W (keysTo k 11)).trans (by rw [first_key k hk]))
  have HKZ := Lib.hid (show (u8A k).size = 16 by rw [u8A_size, hk])
  have HXZ := Lib.hid (show (u8A x).size = 16 by rw [u8A_size, hx])
  have HYZ := Lib.hid (show (u8A y).size = 16 by rw [u8A_size, hy])
  obtain ⟨r, hr⟩ : ∃ r, decide (x = y) = r := ⟨_, rfl⟩
  obtain ⟨bA, hbe⟩ : ∃ K, u8A (blockL (keysTo k 11) x) = K := ⟨_, rfl⟩
  obtain ⟨cA, hce⟩ : ∃ K, u8A (blockL (keysTo k 11) y) = K := ⟨_, rfl⟩
  obtain ⟨eA, hee⟩ : ∃ K, u8A (keysTo k 11) = K := ⟨_, rfl⟩
  obtain ⟨kA, hke⟩ : ∃ K, u8A k = K := ⟨_, rfl⟩
  obtain ⟨xA, hxe⟩ : ∃ K, u8A x = K := ⟨_, rfl⟩
  obtain ⟨yA, hye⟩ : ∃ K, u8A y = K := ⟨_, rfl⟩
  rw [hr] at HQ1 HQ2
  rw [hbe] at HPB HQ1
  rw [hce] at HPC HQ1
  rw [hee] at HPE HIX
  rw [hke] at HPB HPC HPE HQ3 HIX HKZ ⊢
  rw [hxe] at HPB HQ2 HXZ ⊢
  rw [hye] at HPC HQ2 HYZ ⊢
  clear hbe hce hee hke hxe hye hk hx hy hr hinj
  go_enter Try.func8, Try.ntmps8
  go_wp2_with fail
  obtain ⟨g1, g2, g3, hbel⟩ := alloc3 w0 kA xA yA 23 22 22
  generalize World.alloc (World.alloc (World.alloc w0 _) _) _ = w1 at *
  obtain ⟨kb, hkb⟩ : ∃ z, w0.heap.size = z := ⟨_, rfl⟩
  have HW := Lib.hid hkb
  have hsz := hbel.size
  rw [hkb] at g1 g2 g3
  obtain ⟨xb, hxb⟩ : ∃ z, kb + 1 = z := ⟨_, rfl⟩
  rw [hxb] at g2 g3
  obtain ⟨yb, hyb⟩ : ∃ z, xb + 1 = z := ⟨_, rfl⟩
  rw [hyb] at g3
  rw [hkb, hxb, hyb]
  rw [hkb] at hbel hsz
  have HK1 := Lib.hid (fun W (h : Below w1.heap.size w1 W) => g1.below h g1.lt)
  have HX1 := Lib.hid (fun W (h : Below w1.heap.size w1 W) => g2.below h g2.lt)
  have HY1 := Lib.hid (fun W (h : Below w1.heap.size w1 W) => g3.below h g3.lt)
  clear g1 g2 g3 hkb hxb hyb
  refine wp_region_free (promises [.is (.agg kA), .is (.agg xA), .is (.agg bA), .is (.agg kA), .is (.agg yA), .is (.agg cA), .is (.bool r), .is (.agg xA), .is (.agg yA), .is (.bool r), .is (.bool true), .is (.bool true), .is (.agg kA), .is (.agg eA), .is (.agg kA), .is (.agg kA), .is (.bool true), .is (.bool true), .is (.bool true), .is (.bool true), .is (.bool true), .is (.bool true)]) (by kernel_rfl) (by kernel_rfl) (fun i v w w' h hb => Spec.keep h hb) ⟨?_, ?_, ?_, ?_, ?_, ?_, ?_, ?_, ?_, ?_, ?_, ?_, ?_, ?_, ?_, ?_, ?_, ?_, ?_, ?_, ?_, ?_, trivial⟩ ?_
  · intro ac w hb hu hk
    refine ⟨wanted_none rfl, ?_⟩
    have e3 : ac.eval (.tmp 3) = .pointer (some ⟨kb, 0, none⟩) := hu.is (t := 3) (by kernel_rfl)
    exact wp_load_row 23 (.tmp 3) rfl kb e3 23 kA (0, 0) _ (HK1.out w hb) Try.underlying23 rfl (by rw [HKZ.out]; kernel_rfl) ⟨_, rfl, rfl, Below.refl _ _⟩
  · intro ac w hb hu hk
    refine ⟨wanted_none rfl, ?_⟩
    have e4 : ac.eval (.tmp 4) = .pointer (some ⟨xb, 0, none⟩) := hu.is (t := 4) (by kernel_rfl)
    exact wp_load_row 22 (.tmp 4) rfl xb e4 22 xA (0, 0) _ (HX1.out w hb) Try.underlying22 rfl (by rw [HXZ.out]; kernel_rfl) ⟨_, rfl, rfl, Below.refl _ _⟩
  · intro ac w hb hu hk
    refine ⟨wanted_none rfl, ?_⟩
    have e7 : ac.eval (.tmp 7) = (.agg kA) := (hk ⟨0, .data⟩ (by simp) rfl).is rfl rfl
    have e8 : ac.eval (.tmp 8) = (.agg xA) := (hk ⟨1, .data⟩ (by simp) rfl).is rfl rfl
    have ef : ac.eval (.func 12) = .func (.func 12) #[] #[] := rfl
    refine step_enter (f := 12) (args := #[.agg kA, .agg xA]) ?_ ?_
    · generalize ac.eval = ρ at e7 e8 ef ⊢
      go_simp
    · exact (HPB.out w).mono fun e w' ⟨he, hq⟩ => ⟨_, he, rfl, hq⟩
  · intro ac w hb hu hk
    refine ⟨wanted_none rfl, ?_⟩
    have e3 : ac.eval (.tmp 3) = .pointer (some ⟨kb, 0, none⟩) := hu.is (t := 3) (by kernel_rfl)
    exact wp_load_row 23 (.tmp 3) rfl kb e3 23 kA (0, 0) _ (HK1.out w hb) Try.underlying23 rfl (by rw [HKZ.out]; kernel_rfl) ⟨_, rfl, rfl, Below.refl _ _⟩
  · intro ac w hb hu hk
    refine ⟨wanted_none rfl, ?_⟩
    have e5 : ac.eval (.tmp 5) = .pointer (some ⟨yb, 0, none⟩) := hu.is (t := 5) (by kernel_rfl)
    exact wp_load_row 22 (.tmp 5) rfl yb e5 22 yA (0, 0) _ (HY1.out w hb) Try.underlying22 rfl (by rw [HYZ.out]; kernel_rfl) ⟨_, rfl, rfl, Below.refl _ _⟩
  · intro ac w hb hu hk
    refine ⟨wanted_none rfl, ?_⟩
    have e10 : ac.eval (.tmp 10) = (.agg kA) := (hk ⟨3, .data⟩ (by simp) rfl).is rfl rfl
    have e11 : ac.eval (.tmp 11) = (.agg yA) := (hk ⟨4, .data⟩ (by simp) rfl).is rfl rfl
    have ef : ac.eval (.func 12) = .func (.func 12) #[] #[] := rfl
    refine step_enter (f := 12) (args := #[.agg kA, .agg yA]) ?_ ?_
    · generalize ac.eval = ρ at e10 e11 ef ⊢
      go_simp
    · exact (HPC.out w).mono fun e w' ⟨he, hq⟩ => ⟨_, he, rfl, hq⟩
  · intro ac w hb hu hk
    refine ⟨wanted_none rfl, ?_⟩
    have e9 : ac.eval (.tmp 9) = (.agg bA) := (hk ⟨2, .data⟩ (by simp) rfl).is rfl rfl
    have e12 : ac.eval (.tmp 12) = (.agg cA) := (hk ⟨5, .data⟩ (by simp) rfl).is rfl rfl
    refine step_value (w' := w) (v := .bool r) ?_ (Below.refl _ _) rfl
    have heqw := HQ1.out w
    generalize ac.eval = ρ at e9 e12 ⊢
    go_simp
  · intro ac w hb hu hk
    refine ⟨wanted_none rfl, ?_⟩
    have e4 : ac.eval (.tmp 4) = .pointer (some ⟨xb, 0, none⟩) := hu.is (t := 4) (by kernel_rfl)
    exact wp_load_row 22 (.tmp 4) rfl xb e4 22 xA (0, 0) _ (HX1.out w hb) Try.underlying22 rfl (by rw [HXZ.out]; kernel_rfl) ⟨_, rfl, rfl, Below.refl _ _⟩
  · intro ac w hb hu hk
    refine ⟨wanted_none rfl, ?_⟩
    have e5 : ac.eval (.tmp 5) = .pointer (some ⟨yb, 0, none⟩) := hu.is (t := 5) (by kernel_rfl)
    exact wp_load_row 22 (.tmp 5) rfl yb e5 22 yA (0, 0) _ (HY1.out w hb) Try.underlying22 rfl (by rw [HYZ.out]; kernel_rfl) ⟨_, rfl, rfl, Below.refl _ _⟩
  · intro ac w hb hu hk
    refine ⟨wanted_none rfl, ?_⟩
    have e14 : ac.eval (.tmp 14) = (.agg xA) := (hk ⟨7, .data⟩ (by simp) rfl).is rfl rfl
    have e15 : ac.eval (.tmp 15) = (.agg yA) := (hk ⟨8, .data⟩ (by simp) rfl).is rfl rfl
    refine step_value (w' := w) (v := .bool r) ?_ (Below.refl _ _) rfl
    have heqw := HQ2.out w
    generalize ac.eval = ρ at e14 e15 ⊢
    go_simp
  · intro ac w hb hu hk
    refine ⟨wanted_none rfl, ?_⟩
    have e13 : ac.eval (.tmp 13) = (.bool r) := (hk ⟨6, .data⟩ (by simp) rfl).is rfl rfl
    have e16 : ac.eval (.tmp 16) = (.bool r) := (hk ⟨9, .data⟩ (by simp) rfl).is rfl rfl
    refine step_value (w' := w) (v := .bool true) ?_ (Below.refl _ _) rfl
    generalize ac.eval = ρ at e13 e16 ⊢
    go_simp
  · intro ac w hb hu hk
    refine ⟨wanted_none rfl, ?_⟩
    have e17 : ac.eval (.tmp 17) = (.bool true) := (hk ⟨10, .data⟩ (by simp) rfl).is rfl rfl
    exact step_value (BigFrame.run_move (.tmp 17) rfl w) (Below.refl _ _) e17
  · intro ac w hb hu hk
    refine ⟨wanted_some rfl (hk ⟨11, .guard⟩ (by simp) rfl) rfl rfl (fun _ h => h), ?_⟩
    have e3 : ac.eval (.tmp 3) = .pointer (some ⟨kb, 0, none⟩) := hu.is (t := 3) (by kernel_rfl)
    exact wp_load_row 23 (.tmp 3) rfl kb e3 23 kA (0, 0) _ (HK1.out w hb) Try.underlying23 rfl (by rw [HKZ.out]; kernel_rfl) ⟨_, rfl, rfl, Below.refl _ _⟩
  · intro ac w hb hu hk
    refine ⟨wanted_some rfl (hk ⟨11, .chain⟩ (by simp) rfl) rfl rfl (fun _ h => h), ?_⟩
    have e19 : ac.eval (.tmp 19) = (.agg kA) := (hk ⟨12, .data⟩ (by simp) rfl).is rfl rfl
    have ef : ac.eval (.func 14) = .func (.func 14) #[] #[] := rfl
    refine step_enter (f := 14) (args := #[.agg kA]) ?_ ?_
    · generalize ac.eval = ρ at e19 ef ⊢
      go_simp
    · exact (HPE.out w).mono fun e w' ⟨he, hq⟩ => ⟨_, he, rfl, hq⟩
  · intro ac w hb hu hk
    refine ⟨wanted_some rfl (hk ⟨11, .guard⟩ (by simp) rfl) rfl rfl (fun _ h => h), ?_⟩
    have e20 : ac.eval (.tmp 20) = (.agg eA) := (hk ⟨13, .data⟩ (by simp) rfl).is rfl rfl
    refine step_value (w' := w) (v := .agg kA) ?_ (Below.refl _ _) rfl
    have hix := HIX.out w
    have ec : ac.eval (.const (.int .i64 0)) = .int .i64 0 := rfl
    generalize ac.eval = ρ at e20 ec ⊢
    go_simp
  · intro ac w hb hu hk
    refine ⟨wanted_some rfl (hk ⟨11, .guard⟩ (by simp) rfl) rfl rfl (fun _ h => h), ?_⟩
    have e3 : ac.eval (.tmp 3) = .pointer (some ⟨kb, 0, none⟩) := hu.is (t := 3) (by kernel_rfl)
    exact wp_load_row 23 (.tmp 3) rfl kb e3 23 kA (0, 0) _ (HK1.out w hb) Try.underlying23 rfl (by rw [HKZ.out]; kernel_rfl) ⟨_, rfl, rfl, Below.refl _ _⟩
  · intro ac w hb hu hk
    refine ⟨wanted_some rfl (hk ⟨11, .guard⟩ (by simp) rfl) rfl rfl (fun _ h => h), ?_⟩
    have e21 : ac.eval (.tmp 21) = (.agg kA) := (hk ⟨14, .data⟩ (by simp) rfl).is rfl rfl
    have e22 : ac.eval (.tmp 22) = (.agg kA) := (hk ⟨15, .data⟩ (by simp) rfl).is rfl rfl
    refine step_value (w' := w) (v := .bool true) ?_ (Below.refl _ _) rfl
    have heqw := HQ3.out w
    generalize ac.eval = ρ at e21 e22 ⊢
    go_simp
  · intro ac w hb hu hk
    refine ⟨wanted_none rfl, ?_⟩
    have e18 : ac.eval (.tmp 18) = (.bool true) := (hk ⟨11, .data⟩ (by simp) rfl).is rfl rfl
    have e23 : ac.eval (.tmp 23) = (.bool true) := (hk ⟨16, .data⟩ (by simp) rfl).is rfl rfl
    exact step_value (run_pick_true e18 rfl w) (Below.refl _ _) e23
  · intro ac w hb hu hk
    refine ⟨wanted_none rfl, ?_⟩
    have e24 : ac.eval (.tmp 24) = (.bool true) := (hk ⟨17, .data⟩ (by simp) rfl).is rfl rfl
    exact step_value (BigFrame.run_move (.tmp 24) rfl w) (Below.refl _ _) e24
  · intro ac w hb hu hk
    refine ⟨wanted_some rfl (hk ⟨18, .chain⟩ (by simp) rfl) rfl rfl (fun _ h => h), ?_⟩
    have ef : ac.eval (.func 11) = .func (.func 11) #[] #[] := rfl
    refine step_enter (f := 11) (args := #[]) ?_ ?_
    · generalize ac.eval = ρ at ef ⊢
      go_simp
    · exact (wakes3_any w).mono fun e w' ⟨he, hq⟩ => ⟨_, he, rfl, hq⟩
  · intro ac w hb hu hk
    refine ⟨wanted_none rfl, ?_⟩
    have e25 : ac.eval (.tmp 25) = (.bool true) := (hk ⟨18, .data⟩ (by simp) rfl).is rfl rfl
    have e26 : ac.eval (.tmp 26) = (.bool true) := (hk ⟨19, .data⟩ (by simp) rfl).is rfl rfl
    exact step_value (run_pick_true e25 rfl w) (Below.refl _ _) e26
  · intro ac w hb hu hk
    refine ⟨wanted_none rfl, ?_⟩
    have e27 : ac.eval (.tmp 27) = (.bool true) := (hk ⟨20, .data⟩ (by simp) rfl).is rfl rfl
    exact step_value (BigFrame.run_assign (.tmp 27) rfl w) (Below.refl _ _) e27
  · intro ac w' hb hu hk
    obtain ⟨_, h6, rfl⟩ := (hk 21 (by decide)).put rfl rfl
    obtain ⟨_, h7, rfl⟩ := (hk 0 (by decide)).put rfl rfl
    obtain ⟨_, h8, rfl⟩ := (hk 1 (by decide)).put rfl rfl
    obtain ⟨_, h9, rfl⟩ := (hk 2 (by decide)).put rfl rfl
    obtain ⟨_, h10, rfl⟩ := (hk 3 (by decide)).put rfl rfl
    obtain ⟨_, h11, rfl⟩ := (hk 4 (by decide)).put rfl rfl
    obtain ⟨_, h12, rfl⟩ := (hk 5 (by decide)).put rfl rfl
    obtain ⟨_, h13, rfl⟩ := (hk 6 (by decide)).put rfl rfl
    obtain ⟨_, h14, rfl⟩ := (hk 7 (by decide)).put rfl rfl
    obtain ⟨_, h15, rfl⟩ := (hk 8 (by decide)).put rfl rfl
    obtain ⟨_, h16, rfl⟩ := (hk 9 (by decide)).put rfl rfl
    obtain ⟨_, h17, rfl⟩ := (hk 10 (by decide)).put rfl rfl
    obtain ⟨_, h18, rfl⟩ := (hk 11 (by decide)).put rfl rfl
    obtain ⟨_, h19, rfl⟩ := (hk 12 (by decide)).put rfl rfl
    obtain ⟨_, h20, rfl⟩ := (hk 13 (by decide)).put rfl rfl
    obtain ⟨_, h21, rfl⟩ := (hk 14 (by decide)).put rfl rfl
    obtain ⟨_, h22, rfl⟩ := (hk 15 (by decide)).put rfl rfl
    obtain ⟨_, h23, rfl⟩ := (hk 16 (by decide)).put rfl rfl
    obtain ⟨_, h24, rfl⟩ := (hk 17 (by decide)).put rfl rfl
    obtain ⟨_, h25, rfl⟩ := (hk 18 (by decide)).put rfl rfl
    obtain ⟨_, h26, rfl⟩ := (hk 19 (by decide)).put rfl rfl
    obtain ⟨_, h27, rfl⟩ := (hk 20 (by decide)).put rfl rfl
    have hF : AllPuts ac.tmps ((6, _) :: (7, _) :: (8, _) :: (9, _) :: (10, _) :: (11, _) :: (12, _) :: (13, _) :: (14, _) :: (15, _) :: (16, _) :: (17, _) :: (18, _) :: (19, _) :: (20, _) :: (21, _) :: (22, _) :: (23, _) :: (24, _) :: (25, _) :: (26, _) :: (27, _) :: []) := ⟨h6, h7, h8, h9, h10, h11, h12, h13, h14, h15, h16, h17, h18, h19, h20, h21, h22, h23, h24, h25, h26, h27, trivial⟩
    obtain rfl := frame_puts hu (by kernel_rfl) hF
    simp only [puts, Act.put, List.setIfInBounds_toArray, List.set_cons_zero, List.set_cons_succ]
    clear hk hu hF h6 h7 h8 h9 h10 h11 h12 h13 h14 h15 h16 h17 h18 h19 h20 h21 h22 h23 h24 h25 h26 h27
    have hend := hbel.trans (hb.mono hsz)
    clear hb
    go_wp2_with fail
    go_ret
    exact ⟨rfl, by rw [HW.out]; exact hend⟩

theorem contract (H : Type) (enc : TypeId × Value → H) (W : World) (base : Nat) (args : Array Value) (ds gs : List (DataW H)) (before : List MemPlace)
    (hval : ∀ (j : Nat) t v, Try.f8.params[j]? = some t → args[j]? = some v → Value.okWide Try.prog W .any base t v)
    (hW : DataW.Whole enc Try.prog Try.f8.params.toList Rows.aesUnlikeSpec.vars false W args.toList ds gs before) :
    Calls Try.prog 8 args W fun e W' => ∃ v, e = .returned v ∧ Rows.aesUnlikeSpec.post enc Try.prog Try.f8 false true false false W args v W' := by
  have hW' := hW
  obtain ⟨p, q, hA0, hV, rfl, hfz, hnd⟩ := hW
  have hA : DataW.TrodAll enc Try.prog W 0 (fun _ => true) true Try.f8.params.toList args.toList ds p := hA0
  rw [Try.params8] at hA hval
  obtain ⟨v0, v1, v2, d0, d1, d2, p0, p1, p2, rfl, rfl, rfl, h0, h1, h2⟩ := trodAll_three hA
  obtain ⟨rfl, rfl⟩ := trodVars_none hV
  obtain ⟨k0, rfl, hk0⟩ := open_array Try.underlying23 (by kernel_rfl) (hval 0 23 v0 rfl rfl) h0
  obtain ⟨k1, rfl, hk1⟩ := open_array Try.underlying22 (by kernel_rfl) (hval 1 22 v1 rfl rfl) h1
  obtain ⟨k2, rfl, hk2⟩ := open_array Try.underlying22 (by kernel_rfl) (hval 2 22 v2 rfl rfl) h2
  clear hA0
  refine (walk k0 k1 k2 W hk0 hk1 hk2).mono fun e W' ⟨he, hb⟩ => ?_
  exact ⟨_, he, law_post hW' rfl (by kernel_rfl) rfl (by kernel_rfl) hb⟩

set_option maxRecDepth 100000 in
theorem lifted (os : Os) (started : os.Started) (H : Type) (enc : TypeId × Value → H) :
    ReturnsInHanded {} Try.checked os 8 .any (Rows.aesUnlikeSpec.pre6 enc Try.prog Try.f8 Rows.aesUnlikeRow.domain false) (Rows.aesUnlikeSpec.post enc Try.prog Try.f8 false true false false) := by
  refine returnsInHanded_of_change (C := Try.checked) own started (by kernel_rfl) Try.func8
    (ChangeSpec.witness6 (enc := enc) (C := Try.checked) false ⟨#[], #[.agg #[.int .u8 0, .int .u8 0, .int .u8 0, .int .u8 0, .int .u8 0, .int .u8 0, .int .u8 0, .int .u8 0, .int .u8 0, .int .u8 0, .int .u8 0, .int .u8 0, .int .u8 0, .int .u8 0, .int .u8 0, .int .u8 0], .agg #[.int .u8 0, .int .u8 0, .int .u8 0, .int .u8 0, .int .u8 0, .int .u8 0, .int .u8 0, .int .u8 0, .int .u8 0, .int .u8 0, .int .u8 0, .int .u8 0, .int .u8 0, .int .u8 0, .int .u8 0, .int .u8 0], .agg #[.int .u8 0, .int .u8 0, .int .u8 0, .int .u8 0, .int .u8 0, .int .u8 0, .int .u8 0, .int .u8 0, .int .u8 0, .int .u8 0, .int .u8 0, .int .u8 0, .int .u8 0, .int .u8 0, .int .u8 0, .int .u8 0]], []⟩ 8 (by kernel_rfl) (by kernel_rfl) (by kernel_rfl) (by kernel_rfl)) ?_
  intro W base args ds gs before hval0 hW _ _
  have hval : ∀ (j : Nat) t v, Try.f8.params[j]? = some t → args[j]? = some v → Value.okWide Try.prog W .any base t v := hval0
  exact contract H enc W base args ds gs before hval hW

/-- The statement. -/
theorem card : Rows.AesUnlikeSaid :=
  OpenClaim.holds_of_wide 8 Try.f8 rfl rfl rfl rfl rfl rfl rfl ⟨rfl, rfl, rfl, rfl, rfl⟩ rfl rfl rfl rfl rfl (by kernel_rfl) Try.func8 (by kernel_rfl)
    (of_decide_eq_true (by kernel_rfl)) (by unfold Func.isWrapper; first | (rw [if_pos (by decide +kernel)]; kernel_rfl) | (rw [if_neg (by decide +kernel)]; exact ⟨rfl, rfl⟩))
    (fun os started H enc _ => lifted os started H enc)
end Go.Proofs.Ytcajlmlblkdjoaa.aesUnlike
