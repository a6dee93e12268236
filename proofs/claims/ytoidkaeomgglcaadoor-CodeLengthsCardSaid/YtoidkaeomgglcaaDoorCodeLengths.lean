/- CodeLengths: a length with noughts ahead, or that is too great, is none. For all numbers. -/
import Derived.Test.YtoidkaeomgglcaaDoorLaw
import Derived.Test.YtoidkaeomgglcaaDoorOpen
import Derived.Test.YtoidkaeomgglcaaDoorKeep
import Derived.Test.YtoidkaeomgglcaaDoorWakes
import Derived.Test.YtoidkaeomgglcaaDoorLong
import Derived.Test.YtoidkaeomgglcaaDoorRNet
import Derived.Test.YtoidkaeomgglcaaDoorStrBytes
namespace Go.Proofs.YtoidkaeomgglcaaDoor.codeLengths
open Go.ChangeShapes Go.WideShapes Go.ChangeAt Go.RowKit

theorem takeNet_to (A : Option Addr) (n c m1 m2 : Nat) (b : Bool) (l : List UInt8) (o : Option (List UInt8 × List UInt8)) (w : World) (ho : takeL l = o) (hm1 : (tItem o).length = m1) (hm2 : (tRest o).length = m2) (hb : o.isSome = b) (hl : l.length = n) (hnc : n ≤ c) (h1 : n ≤ 1000000) (ha : Rd w w.heap.size A l) :
    Calls Tryd.prog 31 #[.slice A n c] w fun e w' => ∃ A1 c1 A2 c2, e = .returned (.tuple #[.slice A1 m1 c1, .slice A2 m2 c2, .bool b]) ∧ Below w.heap.size w w' := by
  have h := takeNet_any A n c l w hl hnc h1 ha
  rw [ho] at h
  subst hm1 hm2 hb
  refine h.mono ?_
  rintro e w' ⟨A1, c1, A2, c2, he, _, _, _, _, hb⟩
  exact ⟨A1, c1, A2, c2, he, hb⟩

set_option maxHeartbeats 8000000 in
theorem walk (a : Int) (t : Bool) (w : World) (h0 : -9223372036854775808 ≤ a) (h1 : a ≤ 9223372036854775807) (htab : Pow10 w.heap.size w) :
    Calls Tryd.prog 10 #[.int .i64 a, .bool t] w fun e w' => e = .returned (.bool true) ∧ Below w.heap.size w w' := by
  obtain ⟨i0, hi, hz0, hz1, hz2⟩ := info_parts info5
  have HT := Lib.hid htab
  clear htab
  go_enter Tryd.func10, Tryd.ntmps10
  go_wp2_with fail
  refine (within_any a 20 _ h0 h1 (by omega)).mono ?_
  rintro e w' ⟨rfl, rfl⟩
  obtain ⟨q1, q2⟩ := withinI_range a 20 (by omega)
  obtain ⟨M, hM⟩ : ∃ M : Nat, withinI a 20 = (M : Int) := ⟨(withinI a 20).toNat, by omega⟩
  rw [hM] at q1 q2 ⊢
  have hM20 : M < 20 := by omega
  clear hM q1 q2 h0 h1
  go_wp2_with fail
  refine (digits_any (M + 1) M _ (by omega) (by omega)).mono ?_
  rintro e w1 ⟨rfl, hb1⟩
  have hdl := decDigits_len M (by simp; omega)
  obtain ⟨D, hD⟩ : ∃ x, Lib.decDigits M = x := ⟨_, rfl⟩
  rw [hD] at hdl ⊢
  have HD := Lib.hid hD
  clear hD
  cases t
  · obtain ⟨v2, w2, hcv, hown2, hb2⟩ := run_bytes_M (P := Tryd.prog) (w := w1) 9 23 5 (D ++ [58]) (by simp; omega) Tryd.underlying9 Tryd.underlying23 Tryd.underlying5
    have hcat : (⟨D.toArray⟩ : ByteArray) ++ ⟨#[58]⟩ = ⟨(D ++ [58]).toArray⟩ := by simp only [ByteArray.mk_append_mk] <;> rfl
    rw [← hcat] at hcv
    have HO2 := Lib.hid hown2
    have hbel2 := Below.then hb1 hb2
    have hs1 := hb1.size
    have hs2 := hb2.size
    have HSL := Lib.hid (show (D ++ [58]).length = (D).length + 1 by simp)
    have hsl : (D).length ≤ 21 := by first | omega | (simp; omega)
    obtain ⟨sn, hsn⟩ : ∃ x, (D).length = x := ⟨_, rfl⟩
    rw [hsn] at HSL hsl
    have HSN := Lib.hid hsn
    rw [HSL.out] at HO2
    clear hown2 hb1 hb2 hcat hsn HSL
    obtain ⟨z, hz⟩ : ∃ x, List.replicate M (0 : UInt8) = x := ⟨_, rfl⟩
    have HZ := Lib.hid (show z.length = M by rw [← hz]; simp)
    go_wp2_with (at_builtin; refine wpList_append_Z rfl _ _ 23 3 rfl w1.heap.size 5 i0 .i64 .i64 Tryd.underlying23 Tryd.underlying3 hi hz0 hz1 hz2 _ _ (D ++ [58]) rfl HO2.out M z rfl hz (by omega) hs2 ?_)
    intro v4 w4 hown4 hg4
    have hbel4 := hbel2.grown hg4 hbel2.size (fun k hk => Nat.le_trans hs1 (HO2.out.lt k hk))
    have HO4 := Lib.hid hown4
    have hs4 : w1.heap.size ≤ w4.heap.size := Nat.le_trans hs2 hg4.size
    clear hown4 hg4 hbel2 HO2 hcv hs2 hz
    go_wp2_with (at_builtin; refine wpList_append_M rfl _ _ 23 rfl w1.heap.size 5 i0 Tryd.underlying23 hi hz0 hz1 hz2 _ _ _ rfl (HO4.out.alloc _) _ _ 1 1 [44] rfl rfl (Rd.one w4 5 44 44 rfl) (by omega) (by simp; omega) ?_)
    intro v5 w5 hown5 hg5
    have hbel5 : Below w.heap.size w w5 := (hbel4.alloc hbel4.size _).grown hg5 (by have := hbel4.size; simp; omega) (fun k hk => Nat.le_trans hs1 (HO4.out.lt k hk))
    obtain ⟨n5, hn5⟩ : ∃ x, sn + 1 + M = x := ⟨_, rfl⟩
    rw [hn5] at hown5
    obtain ⟨g, cap, rfl, hcap, hg0⟩ := hown5.form
    obtain ⟨lw, hlw⟩ : ∃ x, D ++ 58 :: (z ++ [44]) = x := ⟨_, rfl⟩
    rw [hlw] at hown5
    have HLWE := Lib.hid hlw
    have HO5 := Lib.hid hown5
    have HLW := Lib.hid hown5.1
    have HR5 := Lib.hid hown5.rd
    have HTW5 := Lib.hid (tab_on HT.out hbel5 hbel5.size)
    have hgw : w.heap.size ≤ g := Nat.le_trans hs1 hg0
    clear hown5 hg5 hbel4 HO4 hs4 hlw
    have HTL := Lib.hid (show takeL lw = some (z, []) by
      rw [← HLWE.out, ← HD.out, ← HZ.out]
      have := takeL_whole z (by have := HZ.out; omega)
      simpa using this)
    have HTS := Lib.hid (show takeL (lw.set n5 59) = none by
      have h := takeL_semi z (by have := HZ.out; omega)
      rw [HZ.out, HD.out] at h
      have e : lw.set n5 59 = D ++ [58] ++ z ++ [59] := by
        have h1 := HLW.out
        rw [← HLWE.out] at h1 ⊢
        rw [show D ++ 58 :: (z ++ [44]) = (D ++ [58] ++ z) ++ [44] by simp] at h1 ⊢
        rw [List.length_append] at h1
        simp only [List.length_cons, List.length_nil] at h1
        have e3 : n5 - (D ++ [58] ++ z).length = 0 := by omega
        rw [List.set_append, if_neg (by omega), e3]
        rfl
      rw [e]; exact h)
    have hT := fun W (r : Rd W W.heap.size (some ⟨g, 0, none⟩) lw) => takeNet_to (some ⟨g, 0, none⟩) (n5 + 1) cap M 0 true _ _ W HTL.out HZ.out rfl rfl HLW.out hcap (by omega) r
    have HTN := Lib.hid hT
    have hT2 := fun W (r : Rd W W.heap.size (some ⟨g, 0, none⟩) (lw.set n5 59)) => takeNet_to (some ⟨g, 0, none⟩) (n5 + 1) cap 0 0 false _ _ W HTS.out rfl rfl rfl (by rw [List.length_set]; exact HLW.out) hcap (by omega) r
    have HTN2 := Lib.hid hT2
    clear hT hT2
    go_wp2_with fail
    refine (HTN.out _ HR5.out).mono ?_
    rintro e w6 ⟨A1, c1, A2, c2, rfl, hb6⟩
    have hbel6 := Below.then hbel5 hb6
    have HO6 := Lib.hid (HO5.out.on hb6)
    have HTW6 := Lib.hid (tab_on HTW5.out hb6 hb6.size)
    clear hb6 hbel5 HTW5 HTN HO5 HR5 HTL HTS
    go_wp2_with fail
    refine (digits_any 16386 16385 _ (by omega) (by omega)).mono ?_
    rintro e w7 ⟨rfl, hb7⟩
    have hdl2 : (Lib.decDigits 16385).length = 5 := by rw [dec_over]; rfl
    have hTlong := takeL_long
    obtain ⟨D2, hD2⟩ : ∃ x, Lib.decDigits 16385 = x := ⟨_, rfl⟩
    rw [hD2] at hdl2 hTlong ⊢
    obtain ⟨v8, w8, hcv8, hown8, hb8⟩ := run_bytes_M (P := Tryd.prog) (w := w7) 9 23 5 (D2 ++ [58]) (by simp; omega) Tryd.underlying9 Tryd.underlying23 Tryd.underlying5
    have hcat8 : (⟨D2.toArray⟩ : ByteArray) ++ ⟨#[58]⟩ = ⟨(D2 ++ [58]).toArray⟩ := by simp only [ByteArray.mk_append_mk] <;> rfl
    rw [← hcat8] at hcv8
    have hlen8 : (D2 ++ [58]).length = 6 := by simp [hdl2]
    rw [hlen8] at hown8
    have HO8 := Lib.hid hown8
    have hb78 := Below.then hb7 hb8
    have hbel8 := Below.then hbel6 hb78
    have HO6_0 := HO6
    have hs7 : w6.heap.size ≤ w7.heap.size := hb7.size
    have hs0 : w.heap.size ≤ w6.heap.size := hbel6.size
    have hs8 : w7.heap.size ≤ w8.heap.size := hb8.size
    have HTL2 := Lib.hid hTlong
    have HDL2 := Lib.hid hdl2
    have hdl3 : D2.length ≤ 20 := by omega
    have HG6 := Lib.hid HO6.out.size_lt
    clear hown8 hb7 hb8 hcat8 hlen8 hTlong hD2 hdl2 HO6
    obtain ⟨z2, hz2'⟩ : ∃ x, List.replicate 16385 (0 : UInt8) = x := ⟨_, rfl⟩
    have HZ2 := Lib.hid (show z2.length = 16385 by rw [← hz2', List.length_replicate])
    go_wp2_with (at_builtin; refine wpList_append_Z rfl _ _ 23 3 rfl w7.heap.size 5 i0 .i64 .i64 Tryd.underlying23 Tryd.underlying3 hi hz0 hz1 hz2 _ _ (D2 ++ [58]) rfl HO8.out 16385 z2 rfl hz2' (by omega) hs8 ?_)
    intro v9 w9 hown9 hg9
    have hbel9 := hbel8.grown hg9 hbel8.size (fun k hk => Nat.le_trans hs0 (Nat.le_trans hs7 (HO8.out.lt k hk)))
    have h69 : Below w6.heap.size w6 w9 := hb78.grown hg9 hb78.size (fun k hk => Nat.le_trans hs7 (HO8.out.lt k hk))
    have HO9 := Lib.hid hown9
    have hs9 : w7.heap.size ≤ w9.heap.size := Nat.le_trans hs8 hg9.size
    clear hown9 hg9 hbel8 HO8 hcv8 hs8 hz2' hb78
    go_wp2_with (at_builtin; refine wpList_append_M rfl _ _ 23 rfl w7.heap.size 5 i0 Tryd.underlying23 hi hz0 hz1 hz2 _ _ _ rfl (HO9.out.alloc _) _ _ 1 1 [44] rfl rfl (Rd.one w9 5 44 44 rfl) (by omega) (by simp; omega) ?_)
    intro v10 w10 hown10 hg10
    have hbel10 : Below w.heap.size w w10 := (hbel9.alloc hbel9.size _).grown hg10 (by have := hbel9.size; simp; omega) (fun k hk => Nat.le_trans hs0 (Nat.le_trans hs7 (HO9.out.lt k hk)))
    have h610 : Below w6.heap.size w6 w10 := (h69.alloc h69.size _).grown hg10 (by have := h69.size; simp; omega) (fun k hk => Nat.le_trans hs7 (HO9.out.lt k hk))
    have HO6 := Lib.hid (HO6_0.out.on h610)
    have HTW10 := Lib.hid (tab_on HTW6.out h610 h610.size)
    obtain ⟨n10, hn10⟩ : ∃ x : Nat, 6 + 16385 = x := ⟨_, rfl⟩
    obtain ⟨g2, cap2, rfl, hcap2, _⟩ := hown10.form
    obtain ⟨lw2, hlw2⟩ : ∃ x, D2 ++ 58 :: (z2 ++ [44]) = x := ⟨_, rfl⟩
    rw [hlw2] at hown10
    have HTL3 := Lib.hid (show takeL lw2 = none by rw [← hlw2]; exact HTL2.out _)
    have HLW2 := Lib.hid hown10.1
    have HR10 := Lib.hid hown10.rd
    have hT3 := fun W (r : Rd W W.heap.size (some ⟨g2, 0, none⟩) lw2) => takeNet_to (some ⟨g2, 0, none⟩) _ cap2 0 0 false _ _ W HTL3.out rfl rfl rfl HLW2.out hcap2 (by omega) r
    have HTN3 := Lib.hid hT3
    clear hown10 hg10 hbel9 HO9 h69 h610 HO6_0 HTW6 hT3 hlw2 hn10 hs9 hs7
    go_wp2_with fail
    refine (HTN3.out _ HR10.out).mono ?_
    rintro e w11 ⟨A3, c3, A4, c4, rfl, hb11⟩
    have hbel11 := Below.then hbel10 hb11
    have HO11 := Lib.hid (HO6.out.on hb11)
    have HTW11 := Lib.hid (tab_on HTW10.out hb11 hb11.size)
    have hcP := HO11.out.cell n5 (by rw [HLW.out]; omega)
    have hfP := HO11.out.free n5 (by omega)
    have hG := HO11.out.size_lt
    have hst := Rd.stored hG HO11.out.cell n5 (by rw [HLW.out]; omega) 59 59 rfl
    have HST := Lib.hid hst
    have hbelS : Below w.heap.size w (w11.setCell ⟨g, n5, none⟩ (.int .u8 59)) := hbel11.setCell hgw _
    have HTWS := Lib.hid (tab_on HT.out hbelS hbelS.size)
    clear hst hb11 hbel10 HO6 HTW10 HR10 HTN3
    go_wp2_with fail
    refine (HTN2.out _ HST.out).mono ?_
    rintro e w12 ⟨A5, c5, A6, c6, rfl, hb12⟩
    have hbel9 := Below.then hbelS hb12
    have HTW9 := Lib.hid (tab_on HT.out hbel9 hbel9.size)
    clear hb12 hbelS hcP hfP HST HTN2
    go_wp2_with fail
    refine (wakes_any _ HTW9.out).mono ?_
    rintro e w10 ⟨rfl, hb10⟩
    have hbel10 := Below.then hbel9 hb10
    clear hb10 hbel9
    go_wp2_with fail
    go_ret
    exact ⟨rfl, hbel10⟩
  · obtain ⟨v2, w2, hcv, hown2, hb2⟩ := run_bytes_M (P := Tryd.prog) (w := w1) 9 23 5 (48 :: D ++ [58]) (by simp; omega) Tryd.underlying9 Tryd.underlying23 Tryd.underlying5
    have hcat : ((⟨#[48]⟩ : ByteArray) ++ ⟨D.toArray⟩) ++ ⟨#[58]⟩ = ⟨(48 :: D ++ [58]).toArray⟩ := by simp only [ByteArray.mk_append_mk] <;> rfl
    rw [← hcat] at hcv
    have HO2 := Lib.hid hown2
    have hbel2 := Below.then hb1 hb2
    have hs1 := hb1.size
    have hs2 := hb2.size
    have HSL := Lib.hid (show (48 :: D ++ [58]).length = (48 :: D).length + 1 by simp)
    have hsl : (48 :: D).length ≤ 21 := by first | omega | (simp; omega)
    obtain ⟨sn, hsn⟩ : ∃ x, (48 :: D).length = x := ⟨_, rfl⟩
    rw [hsn] at HSL hsl
    have HSN := Lib.hid hsn
    rw [HSL.out] at HO2
    clear hown2 hb1 hb2 hcat hsn HSL
    obtain ⟨z, hz⟩ : ∃ x, List.replicate M (0 : UInt8) = x := ⟨_, rfl⟩
    have HZ := Lib.hid (show z.length = M by rw [← hz]; simp)
    go_wp2_with (at_builtin; refine wpList_append_Z rfl _ _ 23 3 rfl w1.heap.size 5 i0 .i64 .i64 Tryd.underlying23 Tryd.underlying3 hi hz0 hz1 hz2 _ _ (48 :: D ++ [58]) rfl HO2.out M z rfl hz (by omega) hs2 ?_)
    intro v4 w4 hown4 hg4
    have hbel4 := hbel2.grown hg4 hbel2.size (fun k hk => Nat.le_trans hs1 (HO2.out.lt k hk))
    have HO4 := Lib.hid hown4
    have hs4 : w1.heap.size ≤ w4.heap.size := Nat.le_trans hs2 hg4.size
    clear hown4 hg4 hbel2 HO2 hcv hs2 hz
    go_wp2_with (at_builtin; refine wpList_append_M rfl _ _ 23 rfl w1.heap.size 5 i0 Tryd.underlying23 hi hz0 hz1 hz2 _ _ _ rfl (HO4.out.alloc _) _ _ 1 1 [44] rfl rfl (Rd.one w4 5 44 44 rfl) (by omega) (by simp; omega) ?_)
    intro v5 w5 hown5 hg5
    have hbel5 : Below w.heap.size w w5 := (hbel4.alloc hbel4.size _).grown hg5 (by have := hbel4.size; simp; omega) (fun k hk => Nat.le_trans hs1 (HO4.out.lt k hk))
    obtain ⟨n5, hn5⟩ : ∃ x, sn + 1 + M = x := ⟨_, rfl⟩
    rw [hn5] at hown5
    obtain ⟨g, cap, rfl, hcap, hg0⟩ := hown5.form
    obtain ⟨lw, hlw⟩ : ∃ x, 48 :: (D ++ 58 :: (z ++ [44])) = x := ⟨_, rfl⟩
    rw [hlw] at hown5
    have HLWE := Lib.hid hlw
    have HO5 := Lib.hid hown5
    have HLW := Lib.hid hown5.1
    have HR5 := Lib.hid hown5.rd
    have HTW5 := Lib.hid (tab_on HT.out hbel5 hbel5.size)
    have hgw : w.heap.size ≤ g := Nat.le_trans hs1 hg0
    clear hown5 hg5 hbel4 HO4 hs4 hlw
    have HTL := Lib.hid (show takeL lw = none by
      rw [← HLWE.out, ← HD.out]
      exact takeL_nought M (58 :: (z ++ [44])))
    have hT := fun W (r : Rd W W.heap.size (some ⟨g, 0, none⟩) lw) => takeNet_to (some ⟨g, 0, none⟩) (n5 + 1) cap 0 0 false _ _ W HTL.out rfl rfl rfl HLW.out hcap (by omega) r
    have HTN := Lib.hid hT
    clear hT
    go_wp2_with fail
    refine (HTN.out _ HR5.out).mono ?_
    rintro e w6 ⟨A1, c1, A2, c2, rfl, hb6⟩
    have hbel9 := Below.then hbel5 hb6
    have HTW9 := Lib.hid (tab_on HTW5.out hb6 hb6.size)
    clear hb6 hbel5 HTW5 HTN
    go_wp2_with fail
    refine (wakes_any _ HTW9.out).mono ?_
    rintro e w10 ⟨rfl, hb10⟩
    have hbel10 := Below.then hbel9 hb10
    clear hb10 hbel9
    go_wp2_with fail
    go_ret
    exact ⟨rfl, hbel10⟩

theorem contract (H : Type) (enc : TypeId × Value → H) (W : World) (base : Nat) (args : Array Value) (ds gs : List (DataW H)) (before : List MemPlace)
    (hval : ∀ (j : Nat) t v, Tryd.f10.params[j]? = some t → args[j]? = some v → Value.okWide Tryd.prog W .any base t v)
    (hW : DataW.Whole enc Tryd.prog Tryd.f10.params.toList Rows.codeLengthsSpec.vars false W args.toList ds gs before) (hL : laidMetH Tryd.prog Rows.codeLengthsRow.laid W) :
    Calls Tryd.prog 10 args W fun e W' => ∃ v, e = .returned v ∧ Rows.codeLengthsSpec.post enc Tryd.prog Tryd.f10 false true false false W args v W' := by
  have hW' := hW
  obtain ⟨p, q, hA0, hV, rfl, hfz, hnd⟩ := hW
  have hA : DataW.TrodAll enc Tryd.prog W 0 (fun _ => true) true Tryd.f10.params.toList args.toList ds p := hA0
  rw [Tryd.params10] at hA hval
  obtain ⟨v0, v1, d0, d1, p0, p1, rfl, rfl, rfl, h0, h1⟩ := trodAll_two hA
  obtain ⟨rfl, rfl⟩ := trodVars_none hV
  obtain ⟨n0, rfl, rfl, rfl, wf0⟩ := open_int Tryd.underlying3 (hval 0 3 v0 rfl rfl) h0
  have b0 := bounds_i64 wf0
  obtain ⟨t1, rfl, rfl, rfl⟩ := open_bool Tryd.underlying4 (hval 1 4 v1 rfl rfl) h1
  clear hA0
  refine (walk n0 t1 W b0.1 b0.2 (pow10 hL)).mono fun e W' ⟨he, hb⟩ => ?_
  exact ⟨_, he, law_post hW' rfl (by kernel_rfl) rfl (by kernel_rfl) hb⟩

theorem laid_met (os : Os) : laidMet Tryd.prog Rows.codeLengthsRow.laid ((laidWorld os).forCall (fun _ _ => 0) ⟨#[], #[.int .i64 0, .bool false], []⟩).memory :=
  laidMet_of_run' 8 (by kernel_rfl) (by kernel_rfl)
theorem reads (os : Os) {H : Type} (enc : TypeId × Value → H) : ∃ places, DataW.whole enc Tryd.prog ((laidWorld os).forCall (fun _ _ => 0) ⟨#[], #[.int .i64 0, .bool false], []⟩).memory Tryd.f10.params.toList Rows.codeLengthsSpec.vars false #[Value.int .i64 0, Value.bool false].toList 8 = some ([.lit (.int .i64 0), .lit (.bool false)], [], places) :=
  ⟨[], by kernel_rfl⟩

set_option maxRecDepth 100000 in
theorem lifted (os : Os) (started : os.Started) (H : Type) (enc : TypeId × Value → H) (F : Stop.Interp) :
    ReturnsInHanded {} Tryd.checked os 10 .any ((OpenSpec.ofChange Rows.codeLengthsSpec).preRow enc Tryd.prog Tryd.f10 Rows.codeLengthsRow.domain false Rows.codeLengthsRow.laid) (((OpenSpec.ofChange Rows.codeLengthsSpec).at F).post enc Tryd.prog Tryd.f10 false true false false) := by
  obtain ⟨places, hx⟩ := reads os enc
  refine returnsInHanded_of_row (C := Tryd.checked) (s := OpenSpec.ofChange Rows.codeLengthsSpec) own started (by kernel_rfl) Tryd.func10
    (witness_row_at (enc := enc) (C := Tryd.checked) false (laidWorld os) #[.int .i64 0, .bool false] rfl (by kernel_rfl) (by kernel_rfl) (by kernel_rfl)
      (OpenSpec.preRow_of_cond 8 hx (by kernel_rfl) (fun k hk => by cases hk) (by kernel_rfl) (laid_met os))) ?_
  intro W base args ds gs before hval hW _ _ _ hL _ _
  exact contract H enc W base args ds gs before hval hW hL

theorem said : Rows.CodeLengthsSaid :=
  OpenClaim.holds_of_cond 10 Tryd.f10 rfl rfl rfl rfl rfl rfl rfl ⟨rfl, rfl, rfl, rfl, rfl⟩ rfl rfl rfl rfl rfl (by kernel_rfl) Tryd.func10 (by kernel_rfl)
    (of_decide_eq_true (by kernel_rfl)) (by unfold Func.isWrapper; first | (rw [if_pos (by decide +kernel)]; kernel_rfl) | (rw [if_neg (by decide +kernel)]; exact ⟨rfl, rfl⟩))
    (fun os started H enc _ F => by rw [OpenClaim.pre_eq_preRow]; exact lifted os started H enc F)

theorem plain (f : FuncId) (fn : Func) (hf : Tryd.pinned.checked.prog.funcNamed "aumbry/aumbrylaw01.CodeLengths" = some f) (hfn : Tryd.pinned.checked.prog.funcs[f]? = some fn) :
    false = Tryd.pinned.checked.prog.looks [] ∧ ∀ (j : Nat) t, fn.params[j]? = some t → Tryd.pinned.checked.prog.wantsStandIn t = false := by
  obtain rfl : f = 10 := Option.some.inj ((show Tryd.prog.funcNamed "aumbry/aumbrylaw01.CodeLengths" = some 10 by kernel_rfl).symm.trans hf) |>.symm
  obtain rfl : fn = Tryd.f10 := (Option.some.inj (Tryd.func10.symm.trans hfn)).symm
  refine ⟨by kernel_rfl, fun j t ht => ?_⟩
  exact wants_none (by kernel_rfl) (Array.mem_of_getElem? ht)

/-- The card: the statement holds, its listed tables tied to the program's text. -/
theorem card : Rows.CodeLengthsCardSaid :=
  Claim7.holds_tied_plain_at .later [] _ _ _ _ said (fun _ h => by cases h) (by kernel_rfl) (fun _ h => by cases h) codeLengths_row_tie rfl ⟨rfl, rfl⟩ (by kernel_rfl) rfl plain (by kernel_rfl)
end Go.Proofs.YtoidkaeomgglcaaDoor.codeLengths
