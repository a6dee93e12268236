/- CodeBack: what fits into so many bytes comes back out of them; one byte less cuts the greatest off. For every number and width. -/
import Derived.Test.YtoidkaeomgglcaaDoorLaw
import Derived.Test.YtoidkaeomgglcaaDoorGet
import Derived.Test.YtoidkaeomgglcaaDoorKeep
import Derived.Test.YtoidkaeomgglcaaDoorWakes
namespace Go.Proofs.YtoidkaeomgglcaaDoor.codeBack
open Go.ChangeShapes Go.WideShapes Go.ChangeAt Go.RowKit

theorem putL_succ (N W : Nat) : putL N (W + 1) = putL (N / 256) W ++ [UInt8.ofNat N] := by
  unfold putL
  rw [List.range_succ, List.map_append]
  congr 1
  · apply List.map_congr_left
    intro s hs
    have hs' : s < W := List.mem_range.1 hs
    rw [Nat.div_div_eq_div_mul, show W + 1 - 1 - s = (W - 1 - s) + 1 from by omega, Nat.pow_succ, Nat.mul_comm]
  · simp
theorem getL_putL (W : Nat) : ∀ N, getL (putL N W) = N % 256 ^ W := by
  induction W with
  | zero => intro N; simp [putL, getL]; omega
  | succ W ih =>
    intro N
    rw [putL_succ, getL_snoc, ih, Nat.pow_succ, UInt8.toNat_ofNat', Nat.mul_comm (256 ^ W) 256, Nat.mod_mul]
    omega

set_option maxHeartbeats 800000 in
theorem walk (n wd : Int) (w : World) (h0 : -9223372036854775808 ≤ n) (h1 : n ≤ 9223372036854775807) (h2 : -9223372036854775808 ≤ wd) (h3 : wd ≤ 9223372036854775807) (htab : Pow10 w.heap.size w) :
    Calls Tryd.prog 6 #[.int .i64 n, .int .i64 wd] w fun e w' => e = .returned (.bool true) ∧ Below w.heap.size w w' := by
  have HT := Lib.hid htab
  clear htab
  go_enter Tryd.func6, Tryd.ntmps6
  go_wp2_with fail
  refine (within_any wd 7 _ h2 h3 (by omega)).mono ?_
  rintro e w' ⟨rfl, rfl⟩
  obtain ⟨r1, r2⟩ := withinI_range wd 7 (by omega)
  obtain ⟨V, hV⟩ : ∃ V : Nat, withinI wd 7 = (V : Int) := ⟨(withinI wd 7).toNat, by omega⟩
  rw [hV] at r1 r2 ⊢
  clear hV
  go_wp2_with fail
  go_loop [5, 6] (fun t i => ∃ k : Nat, (k : Int) ≤ 1 + (V : Int) ∧ i = .int .i64 k ∧ t = .int .i64 ((256 ^ k : Nat) : Int)) (fun _ i => V + 1 - (intOf i).toNat)
  case atStart => exact ⟨0, by omega, rfl, rfl⟩
  case round =>
    obtain ⟨k, hk, rfl, rfl⟩ := hrel
    by_cases hlt : k < 1 + V
    · have hp : 256 ^ k ≤ 256 ^ 6 := Nat.pow_le_pow_right (by omega) (by omega)
      have HP := Lib.hid (Nat.pow_succ 256 k)
      generalize 256 ^ k = t at *
      have hlt' : (k : Int) < 1 + (V : Int) := by omega
      go_wp2
      go_round
      case rel => exact ⟨k + 1, by omega, by go_num, by rw [HP.out]; go_num⟩
      case measure => simp [intOf]; omega
    · obtain rfl : k = 1 + V := by omega
      have hT1 : 256 ^ (1 + V) ≤ 256 ^ 7 := Nat.pow_le_pow_right (by omega) (by omega)
      have hT0 : 1 ≤ 256 ^ (1 + V) := Nat.one_le_pow _ _ (by omega)
      have HQ := Lib.hid (show 256 ^ (1 + V) / 256 = 256 ^ V by rw [Nat.add_comm, Nat.pow_succ, Nat.mul_div_cancel _ (by omega)])
      have HPT := Lib.hid (show 256 ^ (1 + V) = 256 ^ (1 + V) from rfl)
      generalize hTe : 256 ^ (1 + V) = T at hT1 hT0 HQ HPT ⊢
      have HTe := Lib.hid hTe
      clear hTe HPT
      go_wp2_with fail
      refine (within_any n (T : Int) _ h0 h1 (by omega)).mono ?_
      rintro e w' ⟨rfl, rfl⟩
      obtain ⟨q1, q2⟩ := withinI_range n (T : Int) (by omega)
      obtain ⟨M, hM⟩ : ∃ M : Nat, withinI n (T : Int) = (M : Int) := ⟨(withinI n (T : Int)).toNat, by omega⟩
      rw [hM] at q1 q2 ⊢
      have hMT : M < T := by omega
      clear hM
      go_wp2_with fail
      refine (put_any (M : Int) (1 + (V : Int)) _ (by omega)).mono ?_
      rintro e w1 ⟨A1, c1, rfl, hown1, hb1⟩
      have eN : putN (M : Int) = M := by unfold putN; rw [if_neg (by omega)]; omega
      have eW : putW (1 + (V : Int)) = 1 + V := by unfold putW; rw [if_neg (show ¬ (1 + (V : Int)) < 0 by omega), if_neg (by omega)]; omega
      have eW' : putW (1 + (V : Int) - 1) = V := by unfold putW; rw [if_neg (show ¬ (1 + (V : Int) - 1) < 0 by omega), if_neg (by omega)]; omega
      have hr1 := Rd.of_own hown1
      rw [eN, eW] at hr1
      rw [eW]
      have EN := Lib.hid eN
      have EW := Lib.hid eW
      have EW' := Lib.hid eW'
      clear eN eW eW' hown1
      have hg1 := getL_putL (1 + V) M
      rw [HTe.out, Nat.mod_eq_of_lt hMT] at hg1
      have G1 := Lib.hid hg1
      have L1 := Lib.hid (putL_length M (1 + V))
      clear hg1
      go_wp2_with fail
      refine (get_any A1 (1 + V) c1 _ _ _ L1.out (by unfold maxLen; omega) hr1).mono ?_
      rintro e w' ⟨rfl, rfl⟩
      rw [if_pos (show 1 + V ≤ 7 by omega), decide_eq_true (show 1 + V ≤ 7 by omega), G1.out]
      clear hr1
      have hb1' : Below w.heap.size w w1 := hb1
      clear hb1
      go_wp2_with fail
      refine (put_any (M : Int) (1 + (V : Int) - 1) _ (by omega)).mono ?_
      rintro e w2 ⟨A2, c2, rfl, hown2, hb2⟩
      have hr2 := Rd.of_own hown2
      rw [EN.out, EW'.out] at hr2
      rw [EW'.out]
      have hg2 := getL_putL V M
      generalize hRe : M % 256 ^ V = R at hg2
      have G2 := Lib.hid hg2
      have L2 := Lib.hid (putL_length M V)
      have hb2' : Below w.heap.size w w2 := hb1'.trans (hb2.mono hb1'.size)
      have hQ1 : 1 ≤ 256 ^ V := Nat.one_le_pow _ _ (by omega)
      have hdiv : (T : Int) / 256 = ((256 ^ V : Nat) : Int) := by have := HQ.out; omega
      generalize 256 ^ V = Q at *
      have hbeq : (((R : Nat) : Int) == (M : Int) % (Q : Int)) = true := by
        have hRI : (R : Int) = (M : Int) % (Q : Int) := by rw [← hRe, Int.natCast_emod]
        rw [beq_iff_eq]
        exact hRI
      clear hown2 hb2 hb1' hg2 hRe
      go_wp2_with fail
      refine (get_any A2 V c2 _ _ _ L2.out (by unfold maxLen; omega) hr2).mono ?_
      rintro e w' ⟨rfl, rfl⟩
      rw [if_pos (show V ≤ 7 by omega), decide_eq_true (show V ≤ 7 by omega), G2.out]
      clear hr2
      go_wp2_with fail
      refine (put_any (M : Int) (1 + (V : Int)) _ (by omega)).mono ?_
      rintro e w3 ⟨A3, c3, rfl, _, hb3⟩
      rw [EW.out]
      have hb3' : Below w.heap.size w w3 := hb2'.trans (hb3.mono hb2'.size)
      clear hb3 hb2'
      go_wp2_with fail
      refine (wakes_any _ (tab_on HT.out hb3' hb3'.size)).mono ?_
      rintro e w4 ⟨rfl, hb4⟩
      have hb4' : Below w.heap.size w w4 := hb3'.trans (hb4.mono hb3'.size)
      clear hb4 hb3'
      go_wp2_with fail
      go_ret
      exact ⟨rfl, hb4'⟩

theorem contract (H : Type) (enc : TypeId × Value → H) (W : World) (base : Nat) (args : Array Value) (ds gs : List (DataW H)) (before : List MemPlace)
    (hval : ∀ (j : Nat) t v, Tryd.f6.params[j]? = some t → args[j]? = some v → Value.okWide Tryd.prog W .any base t v)
    (hW : DataW.Whole enc Tryd.prog Tryd.f6.params.toList Rows.codeBackSpec.vars false W args.toList ds gs before) (hL : laidMetH Tryd.prog Rows.codeBackRow.laid W) :
    Calls Tryd.prog 6 args W fun e W' => ∃ v, e = .returned v ∧ Rows.codeBackSpec.post enc Tryd.prog Tryd.f6 false true false false W args v W' := by
  have hW' := hW
  obtain ⟨p, q, hA0, hV, rfl, hfz, hnd⟩ := hW
  have hA : DataW.TrodAll enc Tryd.prog W 0 (fun _ => true) true Tryd.f6.params.toList args.toList ds p := hA0
  rw [Tryd.params6] at hA hval
  obtain ⟨v0, v1, d0, d1, p0, p1, rfl, rfl, rfl, h0, h1⟩ := trodAll_two hA
  obtain ⟨rfl, rfl⟩ := trodVars_none hV
  obtain ⟨n0, rfl, rfl, rfl, wf0⟩ := open_int Tryd.underlying3 (hval 0 3 v0 rfl rfl) h0
  have b0 := bounds_i64 wf0
  obtain ⟨n1, rfl, rfl, rfl, wf1⟩ := open_int Tryd.underlying3 (hval 1 3 v1 rfl rfl) h1
  have b1 := bounds_i64 wf1
  clear hA0
  refine (walk n0 n1 W b0.1 b0.2 b1.1 b1.2 (pow10 hL)).mono fun e W' ⟨he, hb⟩ => ?_
  exact ⟨_, he, law_post hW' rfl (by kernel_rfl) rfl (by kernel_rfl) hb⟩

theorem laid_met (os : Os) : laidMet Tryd.prog Rows.codeBackRow.laid ((laidWorld os).forCall (fun _ _ => 0) ⟨#[], #[.int .i64 0, .int .i64 0], []⟩).memory :=
  laidMet_of_run' 8 (by kernel_rfl) (by kernel_rfl)
theorem reads (os : Os) {H : Type} (enc : TypeId × Value → H) : ∃ places, DataW.whole enc Tryd.prog ((laidWorld os).forCall (fun _ _ => 0) ⟨#[], #[.int .i64 0, .int .i64 0], []⟩).memory Tryd.f6.params.toList Rows.codeBackSpec.vars false #[Value.int .i64 0, Value.int .i64 0].toList 8 = some ([.lit (.int .i64 0), .lit (.int .i64 0)], [], places) :=
  ⟨[], by kernel_rfl⟩

set_option maxRecDepth 100000 in
theorem lifted (os : Os) (started : os.Started) (H : Type) (enc : TypeId × Value → H) (F : Stop.Interp) :
    ReturnsInHanded {} Tryd.checked os 6 .any ((OpenSpec.ofChange Rows.codeBackSpec).preRow enc Tryd.prog Tryd.f6 Rows.codeBackRow.domain false Rows.codeBackRow.laid) (((OpenSpec.ofChange Rows.codeBackSpec).at F).post enc Tryd.prog Tryd.f6 false true false false) := by
  obtain ⟨places, hx⟩ := reads os enc
  refine returnsInHanded_of_row (C := Tryd.checked) (s := OpenSpec.ofChange Rows.codeBackSpec) own started (by kernel_rfl) Tryd.func6
    (witness_row_at (enc := enc) (C := Tryd.checked) false (laidWorld os) #[.int .i64 0, .int .i64 0] rfl (by kernel_rfl) (by kernel_rfl) (by kernel_rfl)
      (OpenSpec.preRow_of_cond 8 hx (by kernel_rfl) (fun k hk => by cases hk) (by kernel_rfl) (laid_met os))) ?_
  intro W base args ds gs before hval hW _ _ _ hL _ _
  exact contract H enc W base args ds gs before hval hW hL

theorem said : Rows.CodeBackSaid :=
  OpenClaim.holds_of_cond 6 Tryd.f6 rfl rfl rfl rfl rfl rfl rfl ⟨rfl, rfl, rfl, rfl, rfl⟩ rfl rfl rfl rfl rfl (by kernel_rfl) Tryd.func6 (by kernel_rfl)
    (of_decide_eq_true (by kernel_rfl)) (by unfold Func.isWrapper; first | (rw [if_pos (by decide +kernel)]; kernel_rfl) | (rw [if_neg (by decide +kernel)]; exact ⟨rfl, rfl⟩))
    (fun os started H enc _ F => by rw [OpenClaim.pre_eq_preRow]; exact lifted os started H enc F)

theorem plain (f : FuncId) (fn : Func) (hf : Tryd.pinned.checked.prog.funcNamed "aumbry/aumbrylaw01.CodeBack" = some f) (hfn : Tryd.pinned.checked.prog.funcs[f]? = some fn) :
    false = Tryd.pinned.checked.prog.looks [] ∧ ∀ (j : Nat) t, fn.params[j]? = some t → Tryd.pinned.checked.prog.wantsStandIn t = false := by
  obtain rfl : f = 6 := Option.some.inj ((show Tryd.prog.funcNamed "aumbry/aumbrylaw01.CodeBack" = some 6 by kernel_rfl).symm.trans hf) |>.symm
  obtain rfl : fn = Tryd.f6 := (Option.some.inj (Tryd.func6.symm.trans hfn)).symm
  refine ⟨by kernel_rfl, fun j t ht => ?_⟩
  exact wants_none (by kernel_rfl) (Array.mem_of_getElem? ht)

/-- The card: the statement holds, its listed tables tied to the program's text. -/
theorem card : Rows.CodeBackCardSaid :=
  Claim7.holds_tied_plain_at .later [] _ _ _ _ said (fun _ h => by cases h) (by kernel_rfl) (fun _ h => by cases h) codeBack_row_tie rfl ⟨rfl, rfl⟩ (by kernel_rfl) rfl plain (by kernel_rfl)
end Go.Proofs.YtoidkaeomgglcaaDoor.codeBack
