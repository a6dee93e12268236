/- DiskPlays: whatever is written, read, stopped and started, each call answers what the document's own disk answers; a clone goes its own way. For all numbers and calls. -/
import Derived.Test.YtclmnpfmodlnjaaLaw
import Derived.Test.YtclmnpfmodlnjaaSix
import Derived.Test.YtclmnpfmodlnjaaDskY
namespace Go.Proofs.Ytclmnpfmodlnjaa.diskPlays
open Go.ChangeShapes Go.WideShapes Go.ChangeAt Go.RowKit

theorem rdnew_at (n : Nat) (k : Int) (hk : k = n) (w : World) (h1 : 1 ≤ n) (h2 : n ≤ 4096) : Calls Try.prog 15 #[.int .i64 k] w fun e w' => ∃ p, e = .returned (.tuple #[.pointer (some ⟨p, 0, none⟩), .bool true]) ∧ w.heap.size ≤ p ∧ ∃ g, w.heap.size ≤ g ∧ RP w' p g n (n * 32) (newD n) ∧ Below w.heap.size w w' := by
  subst hk
  exact rdnew_any n w h1 h2
set_option maxRecDepth 100000 in
set_option maxHeartbeats 4000000 in
theorem walk (n : Int) (A1 : Option Addr) (m1 c1 : Nat) (l1 : List Act5) (A2 : Option Addr) (m2 c2 : Nat) (l2 : List Act5) (w0 : World) (hn0 : -9223372036854775808 ≤ n) (hn1 : n ≤ 9223372036854775807) (hl1 : l1.length = m1) (hl2 : l2.length = m2) (hk1 : ∀ a ∈ l1, a.ok) (hk2 : ∀ a ∈ l2, a.ok) (hr1 : RdAc w0 w0.heap.size A1 l1) (hr2 : RdAc w0 w0.heap.size A2 l2) :
    Calls Try.prog 4 #[.int .i64 n, .slice A1 m1 c1, .slice A2 m2 c2] w0 fun e w' => e = .returned (.bool true) ∧ Below w0.heap.size w0 w' := by
  have HL1 := Lib.hid hl1
  have HL2 := Lib.hid hl2
  have HK1 := Lib.hid hk1
  have HK2 := Lib.hid hk2
  have HR1 := Lib.hid hr1
  have HR2 := Lib.hid hr2
  clear hl1 hl2 hk1 hk2 hr1 hr2
  by_cases h20 : 20 < n ∧ n ≤ 4096
  · obtain ⟨ha, hb⟩ := h20
    obtain ⟨t, ht, ht20⟩ : ∃ t : Nat, withinI n 20 = (t : Int) ∧ t < 20 := by
      have := withinI_range n 20 (by omega)
      exact ⟨(withinI n 20).toNat, by omega, by omega⟩
    have HWN := Lib.hid (fun W => (show Calls Try.prog 6 #[.int .i64 n, .int .i64 20] W fun e w' => e = .returned (.int .i64 (t : Int)) ∧ W = w' by rw [← ht]; exact within_any n 20 W hn0 hn1 (by omega)))
    have hd1 : decide (20 < n) = true := decide_eq_true ha
    have hd2 : decide (n ≤ 4096) = true := decide_eq_true hb
    clear ht
    go_enter Try.func4, Try.ntmps4
    go_wp2_with fail
    with_reducible refine (HWN.out _).mono ?_
    rintro e w' ⟨rfl, rfl⟩
    go_wp2_with fail
    by_cases h0 : t < 1
    · with_reducible refine (pnew_bad (t : Int) _ (.inl (by omega))).mono ?_
      rintro e w' ⟨rfl, rfl⟩
      go_wp2_with fail
      with_reducible refine (rdnew_bad (t : Int) _ (.inl (by omega))).mono ?_
      rintro e w' ⟨rfl, rfl⟩
      go_wp2_with fail
      with_reducible refine (wakes10_any _).mono ?_
      rintro e w7 ⟨rfl, hb7⟩
      go_wp2_with fail
      go_ret
      exact ⟨rfl, hb7⟩
    · obtain ⟨N, hN⟩ : ∃ N, t = N := ⟨_, rfl⟩
      have hN1 : 1 ≤ N := by omega
      have hN2 : N ≤ 4096 := by omega
      rw [hN]
      clear hN
      with_reducible refine (pnew_any N _ (by omega) (by omega)).mono ?_
      rintro e w1 ⟨p, rfl, hp, g, hg, D1, hb1⟩
      have HD1 := Lib.hid D1
      clear D1
      go_wp2_with fail
      with_reducible refine (rdnew_any N _ (by omega) (by omega)).mono ?_
      rintro e w2 ⟨q, rfl, hq, h, hh, R2, hb2⟩
      have hs1 := hb1.size
      have HAP := Lib.hid (show Apart4 p g q h from by
        have e1 := HD1.out.head.lt
        have e2 := HD1.out.body.lt
        exact ⟨by omega, by omega, by omega, by omega⟩)
      have HD2 := Lib.hid (HD1.out.below hb2)
      have HR2' := Lib.hid R2
      have HB2 := Lib.hid (hb1.trans (hb2.mono hs1))
      clear R2 hb2 hb1 HD1
      go_wp2_with fail
      with_reducible refine (play_any p g q h N N (N * 32) w0.heap.size A1 m1 c1 l1 _ _ w2 HAP.out HD2.out HR2'.out (Like.refl _) HB2.out.size hp hg (by omega) (by omega) HL1.out HK1.out (HR1.out.keep fun x hx => HB2.out.cell hx)).mono ?_
      rintro e w3 ⟨rfl, s3, r3, D3, R3, L3, C3⟩
      have hb3 := HB2.out.trans (C3.below HB2.out.size (four_ge hp hg (by omega) (by omega)))
      have HD3 := Lib.hid D3
      have HR3 := Lib.hid R3
      have HL3 := Lib.hid L3
      have HB3 := Lib.hid hb3
      clear D3 R3 L3 C3 hb3 HD2 HR2' HB2
      go_wp2_with fail
      with_reducible refine (pclone_any HD3.out).mono ?_
      rintro e w4 ⟨p', rfl, hp', g', c', hg', D4, hb4⟩
      have HD4 := Lib.hid D4
      have HD4o := Lib.hid (HD3.out.below hb4)
      have HR4 := Lib.hid (HR3.out.below hb4)
      have hs3 := HB3.out.size
      have HB4 := Lib.hid (HB3.out.trans (hb4.mono hs3))
      have hs4 := hb4.size
      clear D4 hb4
      go_wp2_with fail
      with_reducible refine (rdcopy_any HR4.out).mono ?_
      rintro e w5 ⟨q', rfl, hq', h', d', hh', R5, hb5⟩
      have HAP' := Lib.hid (show Apart4 p' g' q' h' from by
        have e1 := HD4.out.head.lt
        have e2 := HD4.out.body.lt
        exact ⟨by omega, by omega, by omega, by omega⟩)
      have HNO := Lib.hid (show ∀ k, k < w3.heap.size → ¬ four p' g' q' h' k from fun k hk hf => by
        rcases hf with hf | hf | hf | hf <;> omega)
      have HD5 := Lib.hid (HD4.out.below hb5)
      have HR5 := Lib.hid R5
      have HD5o := Lib.hid (HD4o.out.below hb5)
      have HR5o := Lib.hid (HR4.out.below hb5)
      have HB5 := Lib.hid (HB4.out.trans (hb5.mono (Nat.le_trans hs3 hs4)))
      clear R5 hb5 HD4 HD4o HR4 HB4
      go_wp2_with fail
      with_reducible refine (play_any p' g' q' h' N c' d' w0.heap.size A2 m2 c2 l2 _ _ w5 HAP'.out HD5.out HR5.out HL3.out HB5.out.size (by omega) (by omega) (by omega) (by omega) HL2.out HK2.out (HR2.out.keep fun x hx => HB5.out.cell hx)).mono ?_
      rintro e w6 ⟨rfl, s6, r6, _, _, _, C6⟩
      have HD6 := Lib.hid (HD5o.out.chg C6 (HNO.out _ HD3.out.head.lt) (HNO.out _ HD3.out.body.lt))
      have HR6 := Lib.hid (HR5o.out.chg C6 (HNO.out _ HR3.out.head.lt) (HNO.out _ HR3.out.body.lt))
      have HB6 := Lib.hid (HB5.out.trans (C6.below HB5.out.size (four_ge (by omega) (by omega) (by omega) (by omega))))
      clear C6 HD5 HR5 HD5o HR5o HB5
      go_wp2_with fail
      with_reducible refine (play_any p g q h N N (N * 32) w0.heap.size A1 m1 c1 l1 _ _ w6 HAP.out HD6.out HR6.out HL3.out HB6.out.size hp hg (by omega) (by omega) HL1.out HK1.out (HR1.out.keep fun x hx => HB6.out.cell hx)).mono ?_
      rintro e w7 ⟨rfl, s7, r7, _, _, _, C7⟩
      have HB7 := Lib.hid (HB6.out.trans (C7.below HB6.out.size (four_ge hp hg (by omega) (by omega))))
      clear C7
      go_wp2_with fail
      with_reducible refine (wakes10_any _).mono ?_
      rintro e w8 ⟨rfl, hb8⟩
      go_wp2_with fail
      go_ret
      exact ⟨rfl, HB7.out.trans (hb8.mono HB7.out.size)⟩
  · by_cases hbad : n < 1 ∨ 4096 < n
    · by_cases ha : 20 < n
      · have hb : ¬ n ≤ 4096 := by omega
        have hd1 : decide (20 < n) = true := decide_eq_true ha
        have hd2 : decide (n ≤ 4096) = false := decide_eq_false hb
        have hbad4 : 4096 < n := by omega
        clear h20 hbad hb
        go_enter Try.func4, Try.ntmps4
        go_wp2_with fail
        with_reducible refine (pnew_bad n _ (.inr hbad4)).mono ?_
        rintro e w' ⟨rfl, rfl⟩
        go_wp2_with fail
        with_reducible refine (rdnew_bad n _ (.inr hbad4)).mono ?_
        rintro e w' ⟨rfl, rfl⟩
        go_wp2_with fail
        with_reducible refine (wakes10_any _).mono ?_
        rintro e w7 ⟨rfl, hb7⟩
        go_wp2_with fail
        go_ret
        exact ⟨rfl, hb7⟩
      · have hd1 : decide (20 < n) = false := decide_eq_false ha
        have hbad1 : n < 1 := by omega
        clear h20 hbad
        go_enter Try.func4, Try.ntmps4
        go_wp2_with fail
        with_reducible refine (pnew_bad n _ (.inl hbad1)).mono ?_
        rintro e w' ⟨rfl, rfl⟩
        go_wp2_with fail
        with_reducible refine (rdnew_bad n _ (.inl hbad1)).mono ?_
        rintro e w' ⟨rfl, rfl⟩
        go_wp2_with fail
        with_reducible refine (wakes10_any _).mono ?_
        rintro e w7 ⟨rfl, hb7⟩
        go_wp2_with fail
        go_ret
        exact ⟨rfl, hb7⟩
    · obtain ⟨N, rfl⟩ : ∃ N : Nat, n = (N : Int) := ⟨n.toNat, by omega⟩
      have hN1 : 1 ≤ N := by omega
      have hN2 : N ≤ 4096 := by omega
      have ha : ¬ 20 < (N : Int) := by omega
      have hd1 : decide (20 < (N : Int)) = false := decide_eq_false ha
      have hd3 : decide (20 < N) = false := decide_eq_false (by omega)
      clear h20 hbad
      go_enter Try.func4, Try.ntmps4
      go_wp2_with fail
      with_reducible refine (pnew_any N _ (by omega) (by omega)).mono ?_
      rintro e w1 ⟨p, rfl, hp, g, hg, D1, hb1⟩
      have HD1 := Lib.hid D1
      clear D1
      go_wp2_with fail
      with_reducible refine (rdnew_any N _ (by omega) (by omega)).mono ?_
      rintro e w2 ⟨q, rfl, hq, h, hh, R2, hb2⟩
      have hs1 := hb1.size
      have HAP := Lib.hid (show Apart4 p g q h from by
        have e1 := HD1.out.head.lt
        have e2 := HD1.out.body.lt
        exact ⟨by omega, by omega, by omega, by omega⟩)
      have HD2 := Lib.hid (HD1.out.below hb2)
      have HR2' := Lib.hid R2
      have HB2 := Lib.hid (hb1.trans (hb2.mono hs1))
      clear R2 hb2 hb1 HD1
      go_wp2_with fail
      with_reducible refine (play_any p g q h N N (N * 32) w0.heap.size A1 m1 c1 l1 _ _ w2 HAP.out HD2.out HR2'.out (Like.refl _) HB2.out.size hp hg (by omega) (by omega) HL1.out HK1.out (HR1.out.keep fun x hx => HB2.out.cell hx)).mono ?_
      rintro e w3 ⟨rfl, s3, r3, D3, R3, L3, C3⟩
      have hb3 := HB2.out.trans (C3.below HB2.out.size (four_ge hp hg (by omega) (by omega)))
      have HD3 := Lib.hid D3
      have HR3 := Lib.hid R3
      have HL3 := Lib.hid L3
      have HB3 := Lib.hid hb3
      clear D3 R3 L3 C3 hb3 HD2 HR2' HB2
      go_wp2_with fail
      with_reducible refine (pclone_any HD3.out).mono ?_
      rintro e w4 ⟨p', rfl, hp', g', c', hg', D4, hb4⟩
      have HD4 := Lib.hid D4
      have HD4o := Lib.hid (HD3.out.below hb4)
      have HR4 := Lib.hid (HR3.out.below hb4)
      have hs3 := HB3.out.size
      have HB4 := Lib.hid (HB3.out.trans (hb4.mono hs3))
      have hs4 := hb4.size
      clear D4 hb4
      go_wp2_with fail
      with_reducible refine (rdcopy_any HR4.out).mono ?_
      rintro e w5 ⟨q', rfl, hq', h', d', hh', R5, hb5⟩
      have HAP' := Lib.hid (show Apart4 p' g' q' h' from by
        have e1 := HD4.out.head.lt
        have e2 := HD4.out.body.lt
        exact ⟨by omega, by omega, by omega, by omega⟩)
      have HNO := Lib.hid (show ∀ k, k < w3.heap.size → ¬ four p' g' q' h' k from fun k hk hf => by
        rcases hf with hf | hf | hf | hf <;> omega)
      have HD5 := Lib.hid (HD4.out.below hb5)
      have HR5 := Lib.hid R5
      have HD5o := Lib.hid (HD4o.out.below hb5)
      have HR5o := Lib.hid (HR4.out.below hb5)
      have HB5 := Lib.hid (HB4.out.trans (hb5.mono (Nat.le_trans hs3 hs4)))
      clear R5 hb5 HD4 HD4o HR4 HB4
      go_wp2_with fail
      with_reducible refine (play_any p' g' q' h' N c' d' w0.heap.size A2 m2 c2 l2 _ _ w5 HAP'.out HD5.out HR5.out HL3.out HB5.out.size (by omega) (by omega) (by omega) (by omega) HL2.out HK2.out (HR2.out.keep fun x hx => HB5.out.cell hx)).mono ?_
      rintro e w6 ⟨rfl, s6, r6, _, _, _, C6⟩
      have HD6 := Lib.hid (HD5o.out.chg C6 (HNO.out _ HD3.out.head.lt) (HNO.out _ HD3.out.body.lt))
      have HR6 := Lib.hid (HR5o.out.chg C6 (HNO.out _ HR3.out.head.lt) (HNO.out _ HR3.out.body.lt))
      have HB6 := Lib.hid (HB5.out.trans (C6.below HB5.out.size (four_ge (by omega) (by omega) (by omega) (by omega))))
      clear C6 HD5 HR5 HD5o HR5o HB5
      go_wp2_with fail
      with_reducible refine (play_any p g q h N N (N * 32) w0.heap.size A1 m1 c1 l1 _ _ w6 HAP.out HD6.out HR6.out HL3.out HB6.out.size hp hg (by omega) (by omega) HL1.out HK1.out (HR1.out.keep fun x hx => HB6.out.cell hx)).mono ?_
      rintro e w7 ⟨rfl, s7, r7, _, _, _, C7⟩
      have HB7 := Lib.hid (HB6.out.trans (C7.below HB6.out.size (four_ge hp hg (by omega) (by omega))))
      clear C7
      go_wp2_with fail
      with_reducible refine (wakes10_any _).mono ?_
      rintro e w8 ⟨rfl, hb8⟩
      go_wp2_with fail
      go_ret
      exact ⟨rfl, HB7.out.trans (hb8.mono HB7.out.size)⟩

set_option maxRecDepth 100000 in
theorem contract (H : Type) (enc : TypeId × Value → H) (W : World) (base : Nat) (args : Array Value) (ds gs : List (DataW H)) (before : List MemPlace)
    (hval : ∀ (j : Nat) t v, Try.f4.params[j]? = some t → args[j]? = some v → Value.okWide Try.prog W .any base t v)
    (hW : DataW.Whole enc Try.prog Try.f4.params.toList Rows.diskPlaysSpec.vars false W args.toList ds gs before) :
    Calls Try.prog 4 args W fun e W' => ∃ v, e = .returned v ∧ Rows.diskPlaysSpec.post enc Try.prog Try.f4 false true false false W args v W' := by
  have hW' := hW
  obtain ⟨p, q, hA0, hV, rfl, hfz, hnd⟩ := hW
  have hA : DataW.TrodAll enc Try.prog W 0 (fun _ => true) true Try.f4.params.toList args.toList ds p := hA0
  rw [Try.params4] at hA hval
  obtain ⟨v0, v1, v2, d0, d1, d2, p0, p1, p2, rfl, rfl, rfl, h0, h1, h2⟩ := trodAll_three hA
  obtain ⟨rfl, rfl⟩ := trodVars_none hV
  obtain ⟨n0, rfl, rfl, rfl, wf0⟩ := open_int Try.underlying3 (hval 0 3 v0 rfl rfl) h0
  have b0 := bounds_i64 wf0
  obtain ⟨A1, m1, c1, l1, rfl, hl1, hc1, hm1, hk1, hr1⟩ := open_acts (hval 1 36 v1 rfl rfl) h1
  obtain ⟨A2, m2, c2, l2, rfl, hl2, hc2, hm2, hk2, hr2⟩ := open_acts (hval 2 36 v2 rfl rfl) h2
  clear hA0
  refine (walk n0 A1 m1 c1 l1 A2 m2 c2 l2 W b0.1 b0.2 hl1 hl2 hk1 hk2 hr1 hr2).mono fun e W' ⟨he, hb⟩ => ?_
  exact ⟨_, he, law_post hW' rfl (by kernel_rfl) rfl (by kernel_rfl) hb⟩

set_option maxRecDepth 100000 in
theorem lifted (os : Os) (started : os.Started) (H : Type) (enc : TypeId × Value → H) :
    ReturnsInHanded {} Try.checked os 4 .any (Rows.diskPlaysSpec.pre6 enc Try.prog Try.f4 Rows.diskPlaysRow.domain false) (Rows.diskPlaysSpec.post enc Try.prog Try.f4 false true false false) := by
  refine returnsInHanded_of_change (C := Try.checked) own started (by kernel_rfl) Try.func4
    (ChangeSpec.witness6 (enc := enc) (C := Try.checked) false ⟨#[], #[.int .i64 0, .slice none 0 0, .slice none 0 0], []⟩ 8 (by kernel_rfl) (by kernel_rfl) (by kernel_rfl) (by kernel_rfl)) ?_
  intro W base args ds gs before hval0 hW _ _
  have hval : ∀ (j : Nat) t v, Try.f4.params[j]? = some t → args[j]? = some v → Value.okWide Try.prog W .any base t v := hval0
  exact contract H enc W base args ds gs before hval hW

/-- The statement. -/
theorem card : Rows.DiskPlaysSaid :=
  OpenClaim.holds_of_wide 4 Try.f4 rfl rfl rfl rfl rfl rfl rfl ⟨rfl, rfl, rfl, rfl, rfl⟩ rfl rfl rfl rfl rfl (by kernel_rfl) Try.func4 (by kernel_rfl)
    (of_decide_eq_true (by kernel_rfl)) (by unfold Func.isWrapper; first | (rw [if_pos (by decide +kernel)]; kernel_rfl) | (rw [if_neg (by decide +kernel)]; exact ⟨rfl, rfl⟩))
    (fun os started H enc _ => lifted os started H enc)
end Go.Proofs.Ytclmnpfmodlnjaa.diskPlays
