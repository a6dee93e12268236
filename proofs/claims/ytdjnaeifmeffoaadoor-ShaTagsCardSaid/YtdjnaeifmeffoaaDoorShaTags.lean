/- ShaTags: tagged hashes, their texts, and the short ones, are the document's. For all tags and rows. -/
import Derived.Test.YtdjnaeifmeffoaaDoorLaw
import Derived.Test.YtdjnaeifmeffoaaDoorOpen
import Derived.Test.YtdjnaeifmeffoaaDoorKeep
import Derived.Test.YtdjnaeifmeffoaaDoorSame
import Derived.Test.YtdjnaeifmeffoaaDoorRShort
namespace Go.Proofs.YtdjnaeifmeffoaaDoor.shaTags
open Go.ChangeShapes Go.WideShapes Go.ChangeAt Go.RowKit Go.ChangeMaps

theorem run_key_same (W : World) (x : List UInt8) (hx : x.length = 16) : (Op.equalIn 10000 26 (.agg (u8A x)) (.agg (u8A x))).run Tryd.prog W = .ok true W := by
  obtain ⟨i, hi, _⟩ := infoByte
  rw [show (10000 : Nat) = 9999 + 1 from rfl, run_equalIn_array W 9999 (u8A x) (u8A x) Tryd.underlying26 hi, show Tryd.prog.cellsOf 5 = 1 from by kernel_rfl, run_items W x x 9998 _ (fun j hj => by have := List.mem_range.1 hj; omega)]
  simp

def cutSix (ls : List (List UInt8)) : List (List UInt8) := (ls.take 6).map (·.take 100)
theorem cutSix_rows (ls : List (List UInt8)) : ∀ r ∈ cutSix ls, r.length ≤ 100 := by
  intro r hr
  obtain ⟨x, _, rfl⟩ := List.mem_map.1 hr
  simp; omega
theorem cut_step (ls : List (List UInt8)) (k : Nat) (h : k < ls.length) : (ls.take (k + 1)).map (·.take 100) = (ls.take k).map (·.take 100) ++ [ls[k].take 100] := by
  rw [List.take_succ_eq_append_getElem h, List.map_append]; rfl
theorem cut_end (ls : List (List UInt8)) (k : Nat) (hk : k ≤ ls.length) (hk6 : k ≤ 6) (h : ¬ k < ls.length ∨ ¬ k < 6) : (ls.take k).map (·.take 100) = cutSix ls := by
  unfold cutSix
  rcases h with h | h
  · obtain rfl : k = ls.length := by omega
    rw [List.take_of_length_le (Nat.le_refl _), List.take_of_length_le (by omega)]
  · obtain rfl : k = 6 := by omega
    rfl

set_option maxRecDepth 100000 in
set_option maxHeartbeats 4000000 in
theorem walk (ta : List UInt8) (A : Option Addr) (n c : Nat) (ls : List (List UInt8)) (w : World) (hta : ta.length ≤ maxLen) (hl : ls.length = n) (ha : RdR w w.heap.size A ls) (htab : Pow10 w.heap.size w) :
    Calls Tryd.prog 4 #[.string ⟨ta.toArray⟩, .slice A n c] w fun e w' => e = .returned (.bool true) ∧ Below w.heap.size w w' := by
  unfold maxLen at hta
  obtain ⟨sA, hsA⟩ : ∃ s, (⟨ta.toArray⟩ : ByteArray) = s := ⟨_, rfl⟩
  have hzA : sA.size = ta.length := by rw [← hsA]; rfl
  obtain ⟨na, hna⟩ : ∃ k, ta.length = k := ⟨_, rfl⟩
  rw [hna] at hzA hta
  by_cases hsmall : na ≤ 60
  · have HTX := Lib.hid (fun (A : Option Addr) (n c : Nat) (L : List (List UInt8)) (W : World) (hn : L.length = n) (h1 : n ≤ 100) (h2 : ∀ r ∈ L, r.length ≤ 1000) hr ht => text_any ta A n c L W (by omega) hn h1 h2 hr ht)
    have HRX := Lib.hid (fun (A : Option Addr) (n c : Nat) (L : List (List UInt8)) (W : World) (hn : L.length = n) (h1 : n ≤ 100) (h2 : ∀ r ∈ L, r.length ≤ 1000) hr => rtext_any ta A n c L W (by omega) hn h1 h2 hr)
    have HTG := Lib.hid (fun (A : Option Addr) (n c : Nat) (L : List (List UInt8)) (W : World) (hn : L.length = n) (h1 : n ≤ 100) (h2 : ∀ r ∈ L, r.length ≤ 1000) hr ht => tagged_any ta A n c L W (by omega) hn h1 h2 hr ht)
    have HRG := Lib.hid (fun (A : Option Addr) (n c : Nat) (L : List (List UInt8)) (W : World) (hn : L.length = n) (h1 : n ≤ 100) (h2 : ∀ r ∈ L, r.length ≤ 1000) hr => rtagged_any ta A n c L W (by omega) hn h1 h2 hr)
    have HTS := Lib.hid (fun (A : Option Addr) (n c : Nat) (L : List (List UInt8)) (W : World) (hn : L.length = n) (h1 : n ≤ 100) (h2 : ∀ r ∈ L, r.length ≤ 1000) hr ht => short_any ta A n c L W (by omega) hn h1 h2 hr ht)
    have HRS := Lib.hid (fun (A : Option Addr) (n c : Nat) (L : List (List UInt8)) (W : World) (hn : L.length = n) (h1 : n ≤ 100) (h2 : ∀ r ∈ L, r.length ≤ 1000) hr => rshort_any ta A n c L W (by omega) hn h1 h2 hr)
    rw [hsA] at HTX HRX HTG HRG HTS HRS ⊢
    have HNA := Lib.hid hna
    obtain ⟨i1, hi, hz0, hz1, hz2⟩ := info_parts infoSlice
    have HL := Lib.hid hl
    have HT := Lib.hid htab
    have hsz : sA.size ≤ 60 := by omega
    clear hsA hna hzA hl htab
    go_enter Tryd.func4, Tryd.ntmps4
    go_wp2_with fail
    go_loopw [5, 6] (fun v i wr => ∃ (k : Nat) (vs : List Value), k ≤ n ∧ k ≤ 6 ∧ i = .int .i64 k ∧ Hid (wr.ownsRow w.heap.size 22 1 v k vs) ∧ Hid (sliceVals w w.heap.size vs ((ls.take k).map (·.take 100))) ∧ Below w.heap.size w wr) (fun _ i _ => 6 - (intOf i).toNat)
    case atStart => exact ⟨0, [], Nat.zero_le _, Nat.zero_le _, rfl, Lib.hid (World.ownsRow_nil _ _ _ _), Lib.hid (sliceVals.nil _ _), Below.refl _ _⟩
    case round =>
      obtain ⟨k, vs, hk, hk6le, rfl, HO, HS, hbel⟩ := hrel
      by_cases hlt : k < n ∧ k < 6
      · obtain ⟨hkn, hk6⟩ := hlt
        have hl1 : k < ls.length := by rw [HL.out]; exact hkn
        obtain ⟨b, off, A1, c1, rfl, _, hc, hlc, hcm, hrd⟩ := ha.at_ k hl1
        have hc' : wr.cell? ⟨b, off + k, none⟩ = some (.slice A1 ls[k].length c1) := by rw [← hc]; exact hbel.cell (by assumption)
        have HC := Lib.hid (cut_step ls k hl1)
        have hrt := hrd.take 100
        obtain ⟨q, hq⟩ : ∃ q, ls[k].length = q := ⟨_, rfl⟩
        rw [hq] at hc' hlc
        have HQ := Lib.hid (show (ls[k].take 100).length = min q 100 by rw [List.length_take, hq, Nat.min_comm])
        have hmin : min q 100 ≤ c1 := Nat.le_trans (Nat.min_le_left _ _) hlc
        have HCUT := Lib.hid (fun W => cut_any A1 q c1 100 W hlc)
        have hki : (k : Int) < (n : Int) := by omega
        have hk6i : (k : Int) < 6 := by omega
        have HRT := Lib.hid hrt
        clear hc hq hrt hrd
        go_wp2_with fail
        refine (HCUT.out _).mono ?_
        rintro e w' ⟨rfl, rfl⟩
        have hle := hbel.size
        go_wp2_with (at_builtin; refine wpList_append_one rfl _ _ 36 rfl w.heap.size 22 i1 Tryd.underlying36 hi hz0 hz1 hz2 _ k vs rfl wr A1 (min q 100) c1 rfl HO.out rfl (by omega) hle ?_)
        intro v2 w2 hown2 hg2
        have HS2 := Lib.hid (HS.out.snoc HQ.out hmin hcm HRT.out)
        rw [← HC.out] at HS2
        have HO2 := Lib.hid hown2
        have hbel2 : Below w.heap.size w w2 := (hbel.alloc hle _).grown hg2 (by simp; omega) (fun k hk => (HO.out.lt k hk).1)
        clear hown2 hg2 hbel hle
        go_wp2_with fail
        go_roundw
        case rel => exact ⟨k + 1, _, by omega, by omega, by go_num, HO2, HS2, hbel2⟩
        case measure => simp [intOf]; omega
      · have hor : ¬ k < n ∨ ¬ k < 6 := by omega
        have hSa0 := HS.out
        rw [cut_end ls k (by rw [HL.out]; exact hk) hk6le (by rw [HL.out]; exact hor)] at hSa0
        obtain ⟨Aa, ca, rfl, _⟩ := own_slice HO.out
        have hra := RdR.of_own HO.out (hSa0.below hbel (Nat.le_refl _)) hbel.size
        obtain ⟨la, hlae⟩ : ∃ x, cutSix ls = x := ⟨_, rfl⟩
        have ra := cutSix_rows ls
        rw [hlae] at hSa0 ra hra
        have hla1 := hSa0.1
        have hla2 := HO.out.1
        have HLA := Lib.hid (show la.length = k by omega)
        have HRA := Lib.hid (show ∀ r ∈ la, r.length ≤ 1000 from fun r hr => by have := ra r hr; omega)
        have HT0 := Lib.hid (tab_on HT.out hbel hbel.size)
        have HR0 := Lib.hid hra
        have HTX2 := Lib.hid (fun (W : World) hr ht => HTX.out Aa k ca la W HLA.out (by omega) HRA.out hr ht)
        have HRX2 := Lib.hid (fun (W : World) hr => HRX.out Aa k ca la W HLA.out (by omega) HRA.out hr)
        have HTG2 := Lib.hid (fun (W : World) hr ht => HTG.out Aa k ca la W HLA.out (by omega) HRA.out hr ht)
        have HRG2 := Lib.hid (fun (W : World) hr => HRG.out Aa k ca la W HLA.out (by omega) HRA.out hr)
        have HTS2 := Lib.hid (fun (W : World) hr ht => HTS.out Aa k ca la W HLA.out (by omega) HRA.out hr ht)
        have HRS2 := Lib.hid (fun (W : World) hr => HRS.out Aa k ca la W HLA.out (by omega) HRA.out hr)
        have hxs := nets_short (ta :: la) (by simp [HLA.out]; omega) (by
          intro r hr
          rcases List.mem_cons.1 hr with rfl | hr
          · have := HNA.out; omega
          · exact HRA.out r hr)
        obtain ⟨x, hxe⟩ : ∃ x, netsL (ta :: la) = x := ⟨_, rfl⟩
        rw [hxe] at HTX2 HRX2 HTG2 HRG2 HTS2 HRS2 hxs
        obtain ⟨xn, hxn⟩ : ∃ x', x.length = x' := ⟨_, rfl⟩
        rw [hxn] at HTX2 HRX2 hxs
        have HXN := Lib.hid hxn
        have HSM := Lib.hid (fun (X Y : Option Addr) (xc yc : Nat) (W : World) (h1 : Rd W W.heap.size X x) (h2 : Rd W W.heap.size Y x) => same_any X Y xn xn xc yc _ _ x x W HXN.out HXN.out (by unfold maxLen; omega) h1 h2)
        rw [decide_eq_true (show x = x from rfl)] at HSM
        have heq := fun W => run_hash_same W x
        have heqk := fun W => run_key_same W ((shaL x).take 16) (by rw [List.length_take, shaL_len]; rfl)
        obtain ⟨fin, hfe⟩ : ∃ z, u8A (shaL x) = z := ⟨_, rfl⟩
        obtain ⟨key, hke⟩ : ∃ z, u8A ((shaL x).take 16) = z := ⟨_, rfl⟩
        rw [hfe] at heq HTG2 HRG2
        rw [hke] at heqk HTS2 HRS2
        obtain ⟨wa, rfl⟩ : ∃ wo : World, wo = wr := ⟨_, rfl⟩
        clear HS hSa0 hlae hla1 hla2 ha ra hra HT HL hxe hxn hfe hke HTX HRX HTG HRG HTS HRS HNA HO
        rcases (show ((k : Int) < (n : Int) ∧ ¬ (k : Int) < 6) ∨ ¬ (k : Int) < (n : Int) by omega) with ⟨hki, hk6i⟩ | hki <;> (
          clear hor
          go_wp2_with fail
          refine (HTX2.out _ HR0.out HT0.out).mono ?_
          rintro e w1 ⟨X, xc, rfl, hxc, hx1, hb1⟩
          have HX1 := Lib.hid hx1
          have HR1 := Lib.hid ((HR0.out.below hb1 (Nat.le_refl _)).more hb1.size)
          have HT1 := Lib.hid (tab_on HT0.out hb1 hb1.size)
          have hbel1 := Below.then hbel hb1
          clear hx1 hb1 hbel HR0 HT0 HTX2
          go_wp2_with fail
          refine (HRX2.out _ HR1.out).mono ?_
          rintro e w2 ⟨Y, yc, rfl, hyc, hy2, hb2⟩
          have HY2 := Lib.hid hy2
          have HX2 := Lib.hid (HX1.out.on hb2)
          have HR2 := Lib.hid ((HR1.out.below hb2 (Nat.le_refl _)).more hb2.size)
          have HT2 := Lib.hid (tab_on HT1.out hb2 hb2.size)
          have hbel2 := Below.then hbel1 hb2
          clear hy2 hb2 hbel1 HX1 HR1 HT1 HRX2
          go_wp2_with fail
          refine (HSM.out X Y xc yc _ HX2.out HY2.out).mono ?_
          rintro e w' ⟨rfl, q, rfl⟩
          have HR3 := Lib.hid (show RdR (w2.drewN q) (w2.drewN q).heap.size Aa la from HR2.out.drewN q)
          have HT3 := Lib.hid (show Pow10 (w2.drewN q).heap.size (w2.drewN q) from tab_on HT2.out (below_drewN (Below.refl _ _) q) (Nat.le_refl _))
          have hbel3 := below_drewN hbel2 q
          generalize w2.drewN q = w3 at *
          clear HX2 HY2 HR2 HT2 hbel2 HSM
          go_wp2_with fail
          refine (HTG2.out _ HR3.out HT3.out).mono ?_
          rintro e w4 ⟨rfl, hb4⟩
          have HR4 := Lib.hid ((HR3.out.below hb4 (Nat.le_refl _)).more hb4.size)
          have HT4 := Lib.hid (tab_on HT3.out hb4 hb4.size)
          have hbel4 := Below.then hbel3 hb4
          clear hb4 hbel3 HR3 HT3 HTG2
          go_wp2_with fail
          refine (HRG2.out _ HR4.out).mono ?_
          rintro e w5 ⟨rfl, hb5⟩
          have HR5 := Lib.hid ((HR4.out.below hb5 (Nat.le_refl _)).more hb5.size)
          have HT5 := Lib.hid (tab_on HT4.out hb5 hb5.size)
          have hbel5 := Below.then hbel4 hb5
          clear hb5 hbel4 HR4 HT4 HRG2
          go_wp2_with fail
          refine (HTS2.out _ HR5.out HT5.out).mono ?_
          rintro e w6 ⟨rfl, hb6⟩
          have HR6 := Lib.hid ((HR5.out.below hb6 (Nat.le_refl _)).more hb6.size)
          have hbel6 := Below.then hbel5 hb6
          clear hb6 hbel5 HR5 HT5 HTS2 heq
          go_wp2_with fail
          refine (HRS2.out _ HR6.out).mono ?_
          rintro e w7 ⟨rfl, hb7⟩
          have hbel7 := Below.then hbel6 hb7
          clear hb7 hbel6 HR6 HRS2
          go_wp2_with fail
          refine (wakes2_any _).mono ?_
          rintro e w8 ⟨rfl, hb8⟩
          have hbel8 := Below.then hbel7 hb8
          clear hb8 hbel7 heqk
          go_wp2_with fail
          go_ret
          exact ⟨rfl, hbel8⟩)
  · rw [hsA]
    have hbig : 60 < sA.size := by omega
    clear hsA hna hzA hl htab ha hsmall hta
    go_enter Tryd.func4, Tryd.ntmps4
    go_wp2_with fail
    refine (wakes2_any _).mono ?_
    rintro e w5 ⟨rfl, hb5⟩
    go_wp2_with fail
    go_ret
    exact ⟨rfl, hb5⟩

theorem contract (H : Type) (enc : TypeId × Value → H) (W : World) (base : Nat) (args : Array Value) (ds gs : List (DataW H)) (before : List MemPlace)
    (hval : ∀ (j : Nat) t v, Tryd.f4.params[j]? = some t → args[j]? = some v → Value.okWide Tryd.prog W .any base t v)
    (hW : DataW.Whole enc Tryd.prog Tryd.f4.params.toList Rows.shaTagsSpec.vars false W args.toList ds gs before) (hL : laidMetH Tryd.prog Rows.shaTagsRow.laid W) :
    Calls Tryd.prog 4 args W fun e W' => ∃ v, e = .returned v ∧ Rows.shaTagsSpec.post enc Tryd.prog Tryd.f4 false true false false W args v W' := by
  have hW' := hW
  obtain ⟨p, q, hA0, hV, rfl, hfz, hnd⟩ := hW
  have hA : DataW.TrodAll enc Tryd.prog W 0 (fun _ => true) true Tryd.f4.params.toList args.toList ds p := hA0
  rw [Tryd.params4] at hA hval
  obtain ⟨v0, v1, d0, d1, p0, p1, rfl, rfl, rfl, h0, h1⟩ := trodAll_two hA
  obtain ⟨rfl, rfl⟩ := trodVars_none hV
  obtain ⟨s0, rfl, rfl, rfl, hs0⟩ := open_string Tryd.underlying9 (hval 0 9 v0 rfl rfl) h0
  obtain ⟨A1, m1, c1, l1, rfl, hl1, hc1, hm1, hr1⟩ := open_rows (hval 1 36 v1 rfl rfl) h1
  clear hA0
  refine (walk s0.data.toList A1 m1 c1 l1 W hs0 hl1 hr1 (pow10 hL)).mono fun e W' ⟨he, hb⟩ => ?_
  exact ⟨_, he, law_post hW' rfl (by kernel_rfl) rfl (by kernel_rfl) hb⟩

theorem laid_met (os : Os) : laidMet Tryd.prog Rows.shaTagsRow.laid ((laidWorld os).forCall (fun _ _ => 0) ⟨#[], #[.string ⟨#[]⟩, .slice none 0 0], []⟩).memory :=
  laidMet_of_run' 8 (by kernel_rfl) (by kernel_rfl)
theorem reads (os : Os) {H : Type} (enc : TypeId × Value → H) : ∃ places, DataW.whole enc Tryd.prog ((laidWorld os).forCall (fun _ _ => 0) ⟨#[], #[.string ⟨#[]⟩, .slice none 0 0], []⟩).memory Tryd.f4.params.toList Rows.shaTagsSpec.vars false #[Value.string ⟨#[]⟩, Value.slice none 0 0].toList 8 = some ([.lit (.string []), .nil], [], places) :=
  ⟨[], by kernel_rfl⟩

set_option maxRecDepth 100000 in
theorem lifted (os : Os) (started : os.Started) (H : Type) (enc : TypeId × Value → H) (F : Stop.Interp) :
    ReturnsInHanded {} Tryd.checked os 4 .any ((OpenSpec.ofChange Rows.shaTagsSpec).preRow enc Tryd.prog Tryd.f4 Rows.shaTagsRow.domain false Rows.shaTagsRow.laid) (((OpenSpec.ofChange Rows.shaTagsSpec).at F).post enc Tryd.prog Tryd.f4 false true false false) := by
  obtain ⟨places, hx⟩ := reads os enc
  refine returnsInHanded_of_row (C := Tryd.checked) (s := OpenSpec.ofChange Rows.shaTagsSpec) own started (by kernel_rfl) Tryd.func4
    (witness_row_at (enc := enc) (C := Tryd.checked) false (laidWorld os) #[.string ⟨#[]⟩, .slice none 0 0] rfl (by kernel_rfl) (by kernel_rfl) (by kernel_rfl)
      (OpenSpec.preRow_of_cond 8 hx (by kernel_rfl) (fun k hk => by cases hk) (by kernel_rfl) (laid_met os))) ?_
  intro W base args ds gs before hval hW _ _ _ hL _ _
  exact contract H enc W base args ds gs before hval hW hL

theorem said : Rows.ShaTagsSaid :=
  OpenClaim.holds_of_cond 4 Tryd.f4 rfl rfl rfl rfl rfl rfl rfl ⟨rfl, rfl, rfl, rfl, rfl⟩ rfl rfl rfl rfl rfl (by kernel_rfl) Tryd.func4 (by kernel_rfl)
    (of_decide_eq_true (by kernel_rfl)) (by unfold Func.isWrapper; first | (rw [if_pos (by decide +kernel)]; kernel_rfl) | (rw [if_neg (by decide +kernel)]; exact ⟨rfl, rfl⟩))
    (fun os started H enc _ F => by rw [OpenClaim.pre_eq_preRow]; exact lifted os started H enc F)

theorem plain (f : FuncId) (fn : Func) (hf : Tryd.pinned.checked.prog.funcNamed "aumbry/aumbrylaw02.ShaTags" = some f) (hfn : Tryd.pinned.checked.prog.funcs[f]? = some fn) :
    false = Tryd.pinned.checked.prog.looks [] ∧ ∀ (j : Nat) t, fn.params[j]? = some t → Tryd.pinned.checked.prog.wantsStandIn t = false := by
  obtain rfl : f = 4 := Option.some.inj ((show Tryd.prog.funcNamed "aumbry/aumbrylaw02.ShaTags" = some 4 by kernel_rfl).symm.trans hf) |>.symm
  obtain rfl : fn = Tryd.f4 := (Option.some.inj (Tryd.func4.symm.trans hfn)).symm
  refine ⟨by kernel_rfl, fun j t ht => ?_⟩
  exact wants_none (by kernel_rfl) (Array.mem_of_getElem? ht)

/-- The card: the statement holds, its listed tables tied to the program's text. -/
theorem card : Rows.ShaTagsCardSaid :=
  Claim7.holds_tied_plain_at .later [] _ _ _ _ said (fun _ h => by cases h) (by kernel_rfl) (fun _ h => by cases h) shaTags_row_tie rfl ⟨rfl, rfl⟩ (by kernel_rfl) rfl plain (by kernel_rfl)
end Go.Proofs.YtdjnaeifmeffoaaDoor.shaTags
