/- CodeNets: a row with its length, and rows one behind the other, as the document writes them; what is handed in stays as it was, whatever becomes of the answer. For all bytes and rows. -/
import Derived.Test.YtoidkaeomgglcaaDoorLaw
import Derived.Test.YtoidkaeomgglcaaDoorOpen
import Derived.Test.YtoidkaeomgglcaaDoorKeep
import Derived.Test.YtoidkaeomgglcaaDoorWakes
import Derived.Test.YtoidkaeomgglcaaDoorAppUint
import Derived.Test.YtoidkaeomgglcaaDoorRNets
import Derived.Test.YtoidkaeomgglcaaDoorRowsCmp
import Derived.Test.YtoidkaeomgglcaaDoorMake
import Derived.Test.YtoidkaeomgglcaaDoorIntact
namespace Go.Proofs.YtoidkaeomgglcaaDoor.codeNets
open Go.ChangeShapes Go.WideShapes Go.ChangeAt Go.RowKit

def cutRows (ls : List (List UInt8)) : List (List UInt8) := (ls.take 10).map (·.take 100)
theorem cutRows_len (ls : List (List UInt8)) : (cutRows ls).length ≤ 10 := by simp [cutRows]; omega
theorem cutRows_rows (ls : List (List UInt8)) : ∀ r ∈ cutRows ls, r.length ≤ 100 := by
  intro r hr
  obtain ⟨x, _, rfl⟩ := List.mem_map.1 hr
  simp; omega
theorem cut_step (ls : List (List UInt8)) (k : Nat) (h : k < ls.length) : (ls.take (k + 1)).map (·.take 100) = (ls.take k).map (·.take 100) ++ [ls[k].take 100] := by
  rw [List.take_succ_eq_append_getElem h, List.map_append]; rfl
theorem cut_end (ls : List (List UInt8)) (k : Nat) (hk : k ≤ ls.length) (hk6 : k ≤ 10) (h : ¬ k < ls.length ∨ ¬ k < 10) : (ls.take k).map (·.take 100) = cutRows ls := by
  unfold cutRows
  rcases h with h | h
  · obtain rfl : k = ls.length := by omega
    rw [List.take_of_length_le (Nat.le_refl _), List.take_of_length_le (by omega)]
  · obtain rfl : k = 10 := by omega
    rfl

/-- The row that a call has made, all of whose cells are bytes. -/
theorem own_all {w : World} {base : Nat} {e : TypeId} {v : Value} {n : Nat} {l : List UInt8} (h : OwnB w base e v n l) (h0 : 0 < n) : ∃ g cap full, v = .slice (some ⟨g, 0, none⟩) n cap ∧ base ≤ g ∧ n ≤ cap ∧ cap ≤ maxLen ∧ full.length = cap ∧ AllB w g e full := by
  obtain ⟨_, h⟩ := h
  rcases h with ⟨_, rfl⟩ | ⟨g, cap, full, hv, hb, hg, hnc, hcm, hf, _⟩
  · omega
  · exact ⟨g, cap, full, hv, hb, hnc, hcm, hf, hg⟩

theorem AllB.on {w w' : World} {g : Nat} {e : TypeId} {full : List UInt8} (h : AllB w g e full) (hb : Below w.heap.size w w') : AllB w' g e full := by
  unfold AllB at h ⊢
  exact (hb.block g (Array.getElem?_eq_some_iff.1 h).1).trans h

set_option maxHeartbeats 8000000 in
theorem walk (A B : Option Addr) (n c m d : Nat) (bl : List UInt8) (ls : List (List UInt8)) (w : World) (hbl : bl.length = n) (hc : n ≤ c) (hb : Rd w w.heap.size A bl) (hl : ls.length = m) (ha : RdR w w.heap.size B ls) (htab : Pow10 w.heap.size w) :
    Calls Tryd.prog 7 #[.slice A n c, .slice B m d] w fun e w' => e = .returned (.bool true) ∧ Below w.heap.size w w' := by
  obtain ⟨i1, hi, hz0, hz1, hz2⟩ := info_parts infoSlice
  have HT := Lib.hid htab
  have HL := Lib.hid hl
  have HBCUT := Lib.hid (fun W => cut_any A n c 300 W hc)
  have hkb : (bl.take 300).length = min n 300 := by rw [List.length_take, hbl, Nat.min_comm]
  have hb3 : min n 300 ≤ 300 := Nat.min_le_right _ _
  have hbc : min n 300 ≤ c := Nat.le_trans (Nat.min_le_left _ _) hc
  have hbr := hb.take 300
  generalize bl.take 300 = b at *
  generalize min n 300 = p at *
  have HBL := Lib.hid hkb
  have HBR := Lib.hid hbr
  clear htab hl hb hbr hkb hbl
  go_enter Tryd.func7, Tryd.ntmps7
  go_wp2_with fail
  refine (HBCUT.out _).mono ?_
  rintro e w' ⟨rfl, rfl⟩
  clear HBCUT
  go_wp2_with fail
  go_loopw [5, 6] (fun v i wr => ∃ (k : Nat) (vs : List Value), k ≤ m ∧ k ≤ 10 ∧ i = .int .i64 k ∧ Hid (wr.ownsRow w.heap.size 23 1 v k vs) ∧ Hid (sliceVals w w.heap.size vs ((ls.take k).map (·.take 100))) ∧ Below w.heap.size w wr) (fun _ i _ => 10 - (intOf i).toNat)
  case atStart => exact ⟨0, [], Nat.zero_le _, Nat.zero_le _, rfl, Lib.hid (World.ownsRow_nil _ _ _ _), Lib.hid (sliceVals.nil _ _), Below.refl _ _⟩
  case round =>
    obtain ⟨k, vs, hk, hk6le, rfl, HO, HS, hbel⟩ := hrel
    by_cases hlt : k < m ∧ k < 10
    · obtain ⟨hkn, hk6⟩ := hlt
      have hl1 : k < ls.length := by rw [HL.out]; exact hkn
      obtain ⟨bb, off, A1, c1, rfl, _, hc, hlc, hcm, hrd⟩ := ha.at_ k hl1
      have hc' : wr.cell? ⟨bb, off + k, none⟩ = some (.slice A1 ls[k].length c1) := by rw [← hc]; exact hbel.cell (by assumption)
      have HC := Lib.hid (cut_step ls k hl1)
      have hrt := hrd.take 100
      obtain ⟨q, hq⟩ : ∃ q, ls[k].length = q := ⟨_, rfl⟩
      rw [hq] at hc' hlc
      have HQ := Lib.hid (show (ls[k].take 100).length = min q 100 by rw [List.length_take, hq, Nat.min_comm])
      have hmin : min q 100 ≤ c1 := Nat.le_trans (Nat.min_le_left _ _) hlc
      have hcut := fun W => cut_any A1 q c1 100 W hlc
      have HCUT := Lib.hid hcut
      have hki : (k : Int) < (m : Int) := by omega
      have hk6i : (k : Int) < 10 := by omega
      clear hcut hc hq
      go_wp2_with fail
      refine (HCUT.out _).mono ?_
      rintro e w' ⟨rfl, rfl⟩
      have hle := hbel.size
      go_wp2_with (at_builtin; refine wpList_append_one rfl _ _ 22 rfl w.heap.size 23 i1 Tryd.underlying22 hi hz0 hz1 hz2 _ k vs rfl wr A1 (min q 100) c1 rfl HO.out rfl (by omega) hle ?_)
      intro v2 w2 hown2 hg2
      have HS2 := Lib.hid (HS.out.snoc HQ.out hmin hcm hrt)
      rw [← HC.out] at HS2
      have HO2 := Lib.hid hown2
      have hbel2 : Below w.heap.size w w2 := (hbel.alloc hle _).grown hg2 (by simp; omega) (fun k hk => (HO.out.lt k hk).1)
      clear hown2 hg2 hbel hle
      go_wp2_with fail
      go_roundw
      case rel => exact ⟨k + 1, _, by omega, by omega, by go_num, HO2, HS2, hbel2⟩
      case measure => simp [intOf]; omega
    · have hor : ¬ k < m ∨ ¬ k < 10 := by omega
      have hst := hor
      have hSa0 := HS.out
      rw [cut_end ls k (by rw [HL.out]; exact hk) hk6le (by rw [HL.out]; exact hst)] at hSa0
      obtain ⟨Aa, ca, rfl, _⟩ := own_slice HO.out
      have hra := RdR.of_own HO.out (hSa0.below hbel (Nat.le_refl _)) hbel.size
      obtain ⟨la, hlae⟩ : ∃ x, cutRows ls = x := ⟨_, rfl⟩
      have ra := cutRows_rows ls
      rw [hlae] at hSa0 ra hra
      have hla1 := hSa0.1
      have hla2 := HO.out.1
      have HLA := Lib.hid (show la.length = k by omega)
      have HRA := Lib.hid (show ∀ r ∈ la, r.length ≤ 1000 from fun r hr => by have := ra r hr; omega)
      have HTW := Lib.hid (tab_on HT.out hbel hbel.size)
      have HRD := Lib.hid hra
      have HB0 := Lib.hid (HBR.out.on hbel)
      obtain ⟨w0, rfl⟩ : ∃ wo : World, wo = wr := ⟨_, rfl⟩
      clear HS hSa0 hlae hla1 hla2 hst HO ha ra hra HT HL HBR
      rcases (show ((k : Int) < (m : Int) ∧ ¬ (k : Int) < 10) ∨ ¬ (k : Int) < (m : Int) by omega) with ⟨hki, hk6i⟩ | hki <;> (
        clear hor
        go_wp2_with fail
        refine (lend_any A p c b _ HBL.out (by omega) HB0.out).mono ?_
        rintro e w1 ⟨A1, rfl, hx1, hb1⟩
        have HX1 := Lib.hid hx1
        have hxr := hx1.take p
        rw [List.take_append_of_le_length (by rw [HBL.out]; exact Nat.le_refl _), List.take_of_length_le (by rw [HBL.out]; exact Nat.le_refl _)] at hxr
        have HTW1 := Lib.hid (tab_on HTW.out hb1 hb1.size)
        clear hx1
        go_wp2_with fail
        refine (net_b p (p + 3) A1 b _ HBL.out (by omega) hxr HTW1.out).mono ?_
        rintro e w2 ⟨v2, rfl, hown2, hb2⟩
        have hnl := netL_len b (by rw [HBL.out]; omega)
        rw [HBL.out] at hnl
        have hnp : 0 < (netL b).length := by rw [netL_app']; simp; omega
        have hr2 := fun (A2 : Option Addr) (c2 : Nat) (hv : v2 = .slice A2 (netL b).length c2) => OwnB.rd (hv ▸ hown2)
        obtain ⟨g, cap, full, rfl, hg1, hcp, hcm, hfl, hall⟩ := own_all hown2 hnp
        have hr2 := hr2 _ _ rfl
        have HN2 := Lib.hid hr2
        have HALL := Lib.hid hall
        have HFL := Lib.hid hfl
        obtain ⟨nb, hnb⟩ : ∃ x, netL b = x := ⟨_, rfl⟩
        obtain ⟨k2, hk2⟩ : ∃ x, nb.length = x := ⟨_, rfl⟩
        have HNBL := Lib.hid hk2
        have HRN := Lib.hid (fun W (r : Rd W W.heap.size A b) => rnet_any p c A b W HBL.out (by omega) r)
        rw [hnb] at hnl hnp hcp HN2 HRN ⊢
        rw [hk2] at hnl hnp hcp HRN ⊢
        have hc02 := Below.then hb1 hb2
        have hbel2 := Below.then hbel hc02
        have hB2 := HB0.out.on hc02
        have hs12 := hb2.size
        clear hxr hown2 hr2 hall hfl hnb hk2 HTW1
        go_wp2_with fail
        refine (HRN.out _ hB2).mono ?_
        rintro e w3 ⟨A3, c3, rfl, _, hr3, hb3'⟩
        have HN3 := Lib.hid (HN2.out.on hb3')
        have HR3 := Lib.hid hr3
        have HS3 := Lib.hid (fun W (x : Rd W w3.heap.size _ nb) (y : Rd W w3.heap.size _ nb) => same_any (some ⟨g, 0, none⟩) A3 k2 k2 cap c3 _ _ nb nb W HNBL.out HNBL.out (by unfold maxLen; omega) x y)
        rw [decide_eq_true (show nb = nb from rfl)] at HS3
        clear hr3 HRN hB2 HN2
        go_wp2_with fail
        refine (HS3.out _ HN3.out HR3.out).mono ?_
        rintro e w4 ⟨rfl, q, rfl⟩
        have hc24 := below_drewN hb3' q
        have hc04 := Below.then hc02 hc24
        have hbel4 := Below.then hbel hc04
        have HRD4 := Lib.hid ((HRD.out.below hc04 (Nat.le_refl _)).more hc04.size)
        have HTW4 := Lib.hid (tab_on HTW.out hc04 hc04.size)
        generalize w3.drewN q = w4 at *
        clear HS3 HN3 HR3 hb3'
        go_wp2_with fail
        refine (nets_any Aa k ca la _ HLA.out (by omega) HRA.out HRD4.out HTW4.out).mono ?_
        rintro e w5 ⟨X5, c5, rfl, _, hx5, hb5⟩
        have HX5 := Lib.hid hx5
        have HRD5 := Lib.hid ((HRD4.out.below hb5 (Nat.le_refl _)).more hb5.size)
        have hlen := netsL_len la HRA.out la.length (Nat.le_refl _)
        rw [List.take_of_length_le (Nat.le_refl _), HLA.out] at hlen
        have HRN := Lib.hid (fun W (r : RdR W W.heap.size Aa la) => rnets_any Aa k ca la W HLA.out (by omega) HRA.out r)
        generalize netsL la = xl at *
        obtain ⟨xn, hxn⟩ : ∃ x, xl.length = x := ⟨_, rfl⟩
        have HXN := Lib.hid hxn
        rw [hxn] at hlen HRN ⊢
        have hc25 := Below.then hc24 hb5
        have hc05 := Below.then hc04 hb5
        clear hx5 hxn HRD4 HTW4 hb5 hc24 hc04 hbel4
        go_wp2_with fail
        refine (HRN.out _ HRD5.out).mono ?_
        rintro e w6 ⟨X6, c6, rfl, _, hx6, hb6⟩
        have HX6 := Lib.hid hx6
        have HX5' := Lib.hid (HX5.out.on hb6)
        have HS6 := Lib.hid (fun W (x : Rd W w6.heap.size X5 xl) (y : Rd W w6.heap.size X6 xl) => same_any X5 X6 xn xn c5 c6 _ _ xl xl W HXN.out HXN.out (by unfold maxLen; omega) x y)
        rw [decide_eq_true (show xl = xl from rfl)] at HS6
        have hc26 := Below.then hc25 hb6
        have hc06 := Below.then hc05 hb6
        clear hx6 HRN HRD5 HX5 hb6 hc25 hc05
        go_wp2_with fail
        refine (HS6.out _ HX5'.out HX6.out).mono ?_
        rintro e w7 ⟨rfl, q7, rfl⟩
        have hc27 := below_drewN hc26 q7
        have hc07 := below_drewN hc06 q7
        have HALL7 := Lib.hid (AllB.on HALL.out hc27)
        have hc17 := Below.then hb2 hc27
        generalize w6.drewN q7 = w7 at *
        clear HS6 HX5' HX6 hc26 hc06 HALL
        go_wp2_with fail
        refine (spoil_any g k2 cap w1.heap.size full _ HFL.out hcp hcm HALL7.out hg1).mono ?_
        rintro e w8 ⟨rfl, hb8⟩
        have hc18 := hc17.trans hb8
        have hc08 := Below.then hb1 hc18
        have hbel8 := Below.then hbel hc08
        have HX8 := Lib.hid (HX1.out.below hc18 (Nat.le_refl _))
        have HB8 := Lib.hid (HB0.out.below hc08 (Nat.le_refl _))
        clear HALL7 hb8 hc17 hc18 hc07 hc27
        go_wp2_with fail
        refine (intact_any A1 A p c _ _ b _ HBL.out (by omega) HX8.out HB8.out).mono ?_
        rintro e w9 ⟨rfl, q9, rfl⟩
        have hbel9 := below_drewN hbel8 q9
        have HTW9 := Lib.hid (tab_on HTW.out (below_drewN hc08 q9) (show w0.heap.size ≤ (w8.drewN q9).heap.size from hc08.size))
        generalize w8.drewN q9 = w9 at *
        clear hbel8 HX8 HB8
        go_wp2_with fail
        refine (wakes_any _ HTW9.out).mono ?_
        rintro e w10 ⟨rfl, hb10⟩
        have hbel10 := Below.then hbel9 hb10
        clear hb10 hbel9
        go_wp2_with fail
        go_ret
        exact ⟨rfl, hbel10⟩)

theorem contract (H : Type) (enc : TypeId × Value → H) (W : World) (base : Nat) (args : Array Value) (ds gs : List (DataW H)) (before : List MemPlace)
    (hval : ∀ (j : Nat) t v, Tryd.f7.params[j]? = some t → args[j]? = some v → Value.okWide Tryd.prog W .any base t v)
    (hW : DataW.Whole enc Tryd.prog Tryd.f7.params.toList Rows.codeNetsSpec.vars false W args.toList ds gs before) (hL : laidMetH Tryd.prog Rows.codeNetsRow.laid W) :
    Calls Tryd.prog 7 args W fun e W' => ∃ v, e = .returned v ∧ Rows.codeNetsSpec.post enc Tryd.prog Tryd.f7 false true false false W args v W' := by
  have hW' := hW
  obtain ⟨p, q, hA0, hV, rfl, hfz, hnd⟩ := hW
  have hA : DataW.TrodAll enc Tryd.prog W 0 (fun _ => true) true Tryd.f7.params.toList args.toList ds p := hA0
  rw [Tryd.params7] at hA hval
  obtain ⟨v0, v1, d0, d1, p0, p1, rfl, rfl, rfl, h0, h1⟩ := trodAll_two hA
  obtain ⟨rfl, rfl⟩ := trodVars_none hV
  obtain ⟨A0, m0, c0, l0, rfl, hl0, hc0, hm0, hr0⟩ := open_bytes (hval 0 23 v0 rfl rfl) h0
  obtain ⟨A1, m1, c1, l1, rfl, hl1, hc1, hm1, hr1⟩ := open_rows (hval 1 22 v1 rfl rfl) h1
  clear hA0
  refine (walk A0 A1 m0 c0 m1 c1 l0 l1 W hl0 hc0 hr0 hl1 hr1 (pow10 hL)).mono fun e W' ⟨he, hb⟩ => ?_
  exact ⟨_, he, law_post hW' rfl (by kernel_rfl) rfl (by kernel_rfl) hb⟩

theorem laid_met (os : Os) : laidMet Tryd.prog Rows.codeNetsRow.laid ((laidWorld os).forCall (fun _ _ => 0) ⟨#[], #[.slice none 0 0, .slice none 0 0], []⟩).memory :=
  laidMet_of_run' 8 (by kernel_rfl) (by kernel_rfl)
theorem reads (os : Os) {H : Type} (enc : TypeId × Value → H) : ∃ places, DataW.whole enc Tryd.prog ((laidWorld os).forCall (fun _ _ => 0) ⟨#[], #[.slice none 0 0, .slice none 0 0], []⟩).memory Tryd.f7.params.toList Rows.codeNetsSpec.vars false #[Value.slice none 0 0, Value.slice none 0 0].toList 8 = some ([.nil, .nil], [], places) :=
  ⟨[], by kernel_rfl⟩

set_option maxRecDepth 100000 in
theorem lifted (os : Os) (started : os.Started) (H : Type) (enc : TypeId × Value → H) (F : Stop.Interp) :
    ReturnsInHanded {} Tryd.checked os 7 .any ((OpenSpec.ofChange Rows.codeNetsSpec).preRow enc Tryd.prog Tryd.f7 Rows.codeNetsRow.domain false Rows.codeNetsRow.laid) (((OpenSpec.ofChange Rows.codeNetsSpec).at F).post enc Tryd.prog Tryd.f7 false true false false) := by
  obtain ⟨places, hx⟩ := reads os enc
  refine returnsInHanded_of_row (C := Tryd.checked) (s := OpenSpec.ofChange Rows.codeNetsSpec) own started (by kernel_rfl) Tryd.func7
    (witness_row_at (enc := enc) (C := Tryd.checked) false (laidWorld os) #[.slice none 0 0, .slice none 0 0] rfl (by kernel_rfl) (by kernel_rfl) (by kernel_rfl)
      (OpenSpec.preRow_of_cond 8 hx (by kernel_rfl) (fun k hk => by cases hk) (by kernel_rfl) (laid_met os))) ?_
  intro W base args ds gs before hval hW _ _ _ hL _ _
  exact contract H enc W base args ds gs before hval hW hL

theorem said : Rows.CodeNetsSaid :=
  OpenClaim.holds_of_cond 7 Tryd.f7 rfl rfl rfl rfl rfl rfl rfl ⟨rfl, rfl, rfl, rfl, rfl⟩ rfl rfl rfl rfl rfl (by kernel_rfl) Tryd.func7 (by kernel_rfl)
    (of_decide_eq_true (by kernel_rfl)) (by unfold Func.isWrapper; first | (rw [if_pos (by decide +kernel)]; kernel_rfl) | (rw [if_neg (by decide +kernel)]; exact ⟨rfl, rfl⟩))
    (fun os started H enc _ F => by rw [OpenClaim.pre_eq_preRow]; exact lifted os started H enc F)

theorem plain (f : FuncId) (fn : Func) (hf : Tryd.pinned.checked.prog.funcNamed "aumbry/aumbrylaw01.CodeNets" = some f) (hfn : Tryd.pinned.checked.prog.funcs[f]? = some fn) :
    false = Tryd.pinned.checked.prog.looks [] ∧ ∀ (j : Nat) t, fn.params[j]? = some t → Tryd.pinned.checked.prog.wantsStandIn t = false := by
  obtain rfl : f = 7 := Option.some.inj ((show Tryd.prog.funcNamed "aumbry/aumbrylaw01.CodeNets" = some 7 by kernel_rfl).symm.trans hf) |>.symm
  obtain rfl : fn = Tryd.f7 := (Option.some.inj (Tryd.func7.symm.trans hfn)).symm
  refine ⟨by kernel_rfl, fun j t ht => ?_⟩
  exact wants_none (by kernel_rfl) (Array.mem_of_getElem? ht)

/-- The card: the statement holds, its listed tables tied to the program's text. -/
theorem card : Rows.CodeNetsCardSaid :=
  Claim7.holds_tied_plain_at .later [] _ _ _ _ said (fun _ h => by cases h) (by kernel_rfl) (fun _ h => by cases h) codeNets_row_tie rfl ⟨rfl, rfl⟩ (by kernel_rfl) rfl plain (by kernel_rfl)
end Go.Proofs.YtoidkaeomgglcaaDoor.codeNets
