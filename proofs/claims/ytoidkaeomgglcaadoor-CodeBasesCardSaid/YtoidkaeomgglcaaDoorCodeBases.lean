/- CodeBases: for any bytes and any letters, Base32 and Bytes32 of the program answer what the document's answer. -/
import Derived.Test.YtoidkaeomgglcaaDoorLaw
import Derived.Test.YtoidkaeomgglcaaDoorOpen
import Derived.Test.YtoidkaeomgglcaaDoorSame
import Derived.Test.YtoidkaeomgglcaaDoorKeep
import Derived.Test.YtoidkaeomgglcaaDoorWakes
import Derived.Test.YtoidkaeomgglcaaDoorRBytes32
namespace Go.Proofs.YtoidkaeomgglcaaDoor.codeBases
open Go.ChangeShapes Go.WideShapes Go.ChangeAt Go.RowKit Go.ChangeMaps

set_option maxHeartbeats 1000000 in
theorem walk (A : Option Addr) (n c : Nat) (l : List UInt8) (s : ByteArray) (w : World) (hl : l.length = n) (hc : n ≤ c) (hr : Rd w w.heap.size A l) (hs : s.size ≤ maxLen) (htab : Pow10 w.heap.size w) :
    Calls Tryd.prog 11 #[.slice A n c, .string s] w fun e w' => e = .returned (.bool true) ∧ Below w.heap.size w w' := by
  have HT := Lib.hid htab
  have HL := Lib.hid (show (l.take 200).length = min n 200 by rw [List.length_take, hl, Nat.min_comm])
  have hk : min n 200 ≤ 200 := Nat.min_le_right _ _
  have hr' := hr.take 200
  unfold maxLen at hs
  clear htab hl hr
  go_enter Tryd.func11, Tryd.ntmps11
  go_wp2_with fail
  refine (cut_any A n c 200 _ hc).mono ?_
  rintro e w' ⟨rfl, rfl⟩
  generalize l.take 200 = k at HL hr'
  generalize min n 200 = m at HL hk ⊢
  clear hc
  by_cases h200 : (200 : Int) < (s.size : Int)
  · go_wp2_with fail
    refine (wakes_any _ HT.out).mono ?_
    rintro e w4 ⟨rfl, hb4⟩
    go_wp2_with fail
    go_ret
    exact ⟨rfl, hb4⟩
  · have h201 : s.size ≤ 1000000 := by omega
    go_wp2_with fail
    refine (bytes32_any s s.size _ rfl h201).mono ?_
    rintro e w1 ⟨A1, c1, rfl, hown1, hb1⟩
    have hr1 := Rd.of_own hown1
    have hk1 := hr'.on hb1
    clear hown1 hr'
    go_wp2_with fail
    refine (rbytes32_any s s.size _ rfl h201).mono ?_
    rintro e w2 ⟨A2, c2, rfl, hown2, hb2⟩
    have hr2 := Rd.of_own hown2
    have hx2 := hr1.on hb2
    have hk2 := hk1.on hb2
    have hb2' := Below.then hb1 hb2
    have hlen : (ans s.data.toList).length ≤ maxLen := by have := ans_len s; unfold maxLen; omega
    clear hown2 hr1 hb1 hb2 hk1
    generalize ans s.data.toList = o at *
    generalize (bytes32 s.data.toList).isSome = ok at *
    obtain ⟨ol, hol⟩ : ∃ x, o.length = x := ⟨_, rfl⟩
    have HOL := Lib.hid hol
    rw [hol] at hlen ⊢
    clear hol
    go_wp2_with fail
    refine (base32_any A m c _ k _ HL.out (by omega) hk2 (Nat.le_refl _)).mono ?_
    rintro e w3 ⟨rfl, hb3⟩
    have hk3 := hk2.on hb3
    have hx3 := hx2.on hb3
    have hr3 := hr2.on hb3
    have hb3' := Below.then hb2' hb3
    clear hk2 hx2 hr2 hb2' hb3
    go_wp2_with fail
    refine (rbase32_any A m c _ k _ HL.out (by omega) hk3 (Nat.le_refl _)).mono ?_
    rintro e w4 ⟨rfl, hb4⟩
    have hx4 := hx3.on hb4
    have hr4 := hr3.on hb4
    have hb4' := Below.then hb3' hb4
    clear hk3 hx3 hr3 hb3' hb4
    go_wp2_with fail
    refine (same_any A1 A2 ol ol c1 c2 _ _ o o _ HOL.out HOL.out hlen hx4 hr4).mono ?_
    rintro e w5 ⟨rfl, q, rfl⟩
    rw [decide_eq_true (rfl : o = o)]
    have hb5' := below_drewN hb4' q
    clear hx4 hr4 hb4'
    go_wp2_with fail
    refine (wakes_any _ (tab_on HT.out hb5' hb5'.size)).mono ?_
    rintro e w6 ⟨rfl, hb6⟩
    have hb6' := Below.then hb5' hb6
    clear hb5' hb6
    go_wp2_with fail
    go_ret
    exact ⟨rfl, hb6'⟩

theorem contract (H : Type) (enc : TypeId × Value → H) (W : World) (base : Nat) (args : Array Value) (ds gs : List (DataW H)) (before : List MemPlace)
    (hval : ∀ (j : Nat) t v, Tryd.f11.params[j]? = some t → args[j]? = some v → Value.okWide Tryd.prog W .any base t v)
    (hW : DataW.Whole enc Tryd.prog Tryd.f11.params.toList Rows.codeBasesSpec.vars false W args.toList ds gs before) (hL : laidMetH Tryd.prog Rows.codeBasesRow.laid W) :
    Calls Tryd.prog 11 args W fun e W' => ∃ v, e = .returned v ∧ Rows.codeBasesSpec.post enc Tryd.prog Tryd.f11 false true false false W args v W' := by
  have hW' := hW
  obtain ⟨p, q, hA0, hV, rfl, hfz, hnd⟩ := hW
  have hA : DataW.TrodAll enc Tryd.prog W 0 (fun _ => true) true Tryd.f11.params.toList args.toList ds p := hA0
  rw [Tryd.params11] at hA hval
  obtain ⟨v0, v1, d0, d1, p0, p1, rfl, rfl, rfl, h0, h1⟩ := trodAll_two hA
  obtain ⟨rfl, rfl⟩ := trodVars_none hV
  obtain ⟨A0, m0, c0, l0, rfl, hl0, hc0, hm0, hr0⟩ := open_bytes (hval 0 23 v0 rfl rfl) h0
  obtain ⟨s1, rfl, rfl, rfl, hs1⟩ := open_string Tryd.underlying9 (hval 1 9 v1 rfl rfl) h1
  clear hA0
  refine (walk A0 m0 c0 l0 s1 W hl0 hc0 hr0 hs1 (pow10 hL)).mono fun e W' ⟨he, hb⟩ => ?_
  exact ⟨_, he, law_post hW' rfl (by kernel_rfl) rfl (by kernel_rfl) hb⟩

theorem laid_met (os : Os) : laidMet Tryd.prog Rows.codeBasesRow.laid ((laidWorld os).forCall (fun _ _ => 0) ⟨#[], #[.slice none 0 0, .string ⟨#[]⟩], []⟩).memory :=
  laidMet_of_run' 8 (by kernel_rfl) (by kernel_rfl)
theorem reads (os : Os) {H : Type} (enc : TypeId × Value → H) : ∃ places, DataW.whole enc Tryd.prog ((laidWorld os).forCall (fun _ _ => 0) ⟨#[], #[.slice none 0 0, .string ⟨#[]⟩], []⟩).memory Tryd.f11.params.toList Rows.codeBasesSpec.vars false #[Value.slice none 0 0, Value.string ⟨#[]⟩].toList 8 = some ([.nil, .lit (.string [])], [], places) :=
  ⟨[], by kernel_rfl⟩

set_option maxRecDepth 100000 in
theorem lifted (os : Os) (started : os.Started) (H : Type) (enc : TypeId × Value → H) (F : Stop.Interp) :
    ReturnsInHanded {} Tryd.checked os 11 .any ((OpenSpec.ofChange Rows.codeBasesSpec).preRow enc Tryd.prog Tryd.f11 Rows.codeBasesRow.domain false Rows.codeBasesRow.laid) (((OpenSpec.ofChange Rows.codeBasesSpec).at F).post enc Tryd.prog Tryd.f11 false true false false) := by
  obtain ⟨places, hx⟩ := reads os enc
  refine returnsInHanded_of_row (C := Tryd.checked) (s := OpenSpec.ofChange Rows.codeBasesSpec) own started (by kernel_rfl) Tryd.func11
    (witness_row_at (enc := enc) (C := Tryd.checked) false (laidWorld os) #[.slice none 0 0, .string ⟨#[]⟩] rfl (by kernel_rfl) (by kernel_rfl) (by kernel_rfl)
      (OpenSpec.preRow_of_cond 8 hx (by kernel_rfl) (fun k hk => by cases hk) (by kernel_rfl) (laid_met os))) ?_
  intro W base args ds gs before hval hW _ _ _ hL _ _
  exact contract H enc W base args ds gs before hval hW hL

theorem said : Rows.CodeBasesSaid :=
  OpenClaim.holds_of_cond 11 Tryd.f11 rfl rfl rfl rfl rfl rfl rfl ⟨rfl, rfl, rfl, rfl, rfl⟩ rfl rfl rfl rfl rfl (by kernel_rfl) Tryd.func11 (by kernel_rfl)
    (of_decide_eq_true (by kernel_rfl)) (by unfold Func.isWrapper; first | (rw [if_pos (by decide +kernel)]; kernel_rfl) | (rw [if_neg (by decide +kernel)]; exact ⟨rfl, rfl⟩))
    (fun os started H enc _ F => by rw [OpenClaim.pre_eq_preRow]; exact lifted os started H enc F)

theorem plain (f : FuncId) (fn : Func) (hf : Tryd.pinned.checked.prog.funcNamed "aumbry/aumbrylaw01.CodeBases" = some f) (hfn : Tryd.pinned.checked.prog.funcs[f]? = some fn) :
    false = Tryd.pinned.checked.prog.looks [] ∧ ∀ (j : Nat) t, fn.params[j]? = some t → Tryd.pinned.checked.prog.wantsStandIn t = false := by
  obtain rfl : f = 11 := Option.some.inj ((show Tryd.prog.funcNamed "aumbry/aumbrylaw01.CodeBases" = some 11 by kernel_rfl).symm.trans hf) |>.symm
  obtain rfl : fn = Tryd.f11 := (Option.some.inj (Tryd.func11.symm.trans hfn)).symm
  refine ⟨by kernel_rfl, fun j t ht => ?_⟩
  exact wants_none (by kernel_rfl) (Array.mem_of_getElem? ht)

/-- The card: the statement holds, its listed tables tied to the program's text. -/
theorem card : Rows.CodeBasesCardSaid :=
  Claim7.holds_tied_plain_at .later [] _ _ _ _ said (fun _ h => by cases h) (by kernel_rfl) (fun _ h => by cases h) codeBases_row_tie rfl ⟨rfl, rfl⟩ (by kernel_rfl) rfl plain (by kernel_rfl)
end Go.Proofs.YtoidkaeomgglcaaDoor.codeBases
