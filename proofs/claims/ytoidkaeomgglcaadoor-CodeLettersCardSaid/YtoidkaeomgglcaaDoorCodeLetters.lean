/- CodeLetters: bytes that are written in letters and read again are themselves; a letter turned makes other bytes, or none. For all bytes, places and letters. -/
import Derived.Test.YtoidkaeomgglcaaDoorLaw
import Derived.Test.YtoidkaeomgglcaaDoorOpen
import Derived.Test.YtoidkaeomgglcaaDoorSame
import Derived.Test.YtoidkaeomgglcaaDoorKeep
import Derived.Test.YtoidkaeomgglcaaDoorWakes
import Derived.Test.YtoidkaeomgglcaaDoorRBytes32
import Derived.Test.YtoidkaeomgglcaaDoorStrBytes
namespace Go.Proofs.YtoidkaeomgglcaaDoor.codeLetters
open Go.ChangeShapes Go.WideShapes Go.ChangeAt Go.RowKit Go.ChangeMaps

theorem ans_enc (l : List UInt8) : ans (enc l) = l ∧ (bytes32 (enc l)).isSome = true := by
  unfold ans; rw [bytes32_enc]; exact ⟨rfl, rfl⟩

/-- The last line's answer. -/
theorem other {l t : List UInt8} (h : enc l ≠ t) (hs : (bytes32 t).isSome = true) : ans t ≠ l := by
  intro e
  cases hb : bytes32 t with
  | none => rw [hb] at hs; cases hs
  | some o =>
    have ho := bytes32_some hb
    have : ans t = o := by unfold ans; rw [hb]; rfl
    rw [← this, e] at ho
    exact h ho

set_option maxHeartbeats 1000000 in
theorem walk (A : Option Addr) (n c : Nat) (l : List UInt8) (at_ x : Int) (w : World) (hl : l.length = n) (hc : n ≤ c) (hr : Rd w w.heap.size A l) (ha0 : -9223372036854775808 ≤ at_) (ha1 : at_ ≤ 9223372036854775807) (hx0 : 0 ≤ x) (hx1 : x ≤ 255) (htab : Pow10 w.heap.size w) :
    Calls Tryd.prog 12 #[.slice A n c, .int .i64 at_, .int .u8 x] w fun e w' => e = .returned (.bool true) ∧ Below w.heap.size w w' := by
  have HT := Lib.hid htab
  have HL := Lib.hid (show (l.take 100).length = min n 100 by rw [List.length_take, hl, Nat.min_comm])
  have hk : min n 100 ≤ 100 := Nat.min_le_right _ _
  have hr' := hr.take 100
  clear htab hl hr
  go_enter Tryd.func12, Tryd.ntmps12
  go_wp2_with fail
  refine (cut_any A n c 100 _ hc).mono ?_
  rintro e w' ⟨rfl, rfl⟩
  generalize l.take 100 = k at HL hr'
  generalize min n 100 = m at HL hk ⊢
  clear hc
  go_wp2_with fail
  refine (base32_any A m c _ k _ HL.out (by omega) hr' (Nat.le_refl _)).mono ?_
  rintro e w1 ⟨rfl, hb1⟩
  have hk1 := hr'.on hb1
  have hel := enc_length k
  rw [HL.out] at hel
  obtain ⟨q1, q2⟩ := ans_enc k
  have Q1 := Lib.hid q1
  have Q2 := Lib.hid q2
  have hsz : (⟨(enc k).toArray⟩ : ByteArray).size = (8 * m + 4) / 5 := by rw [← hel]; rfl
  have hd : (⟨(enc k).toArray⟩ : ByteArray).data.toList = enc k := rfl
  generalize (⟨(enc k).toArray⟩ : ByteArray) = sB at hsz hd ⊢
  have HD := Lib.hid hd
  have HSZ := Lib.hid hsz
  clear q1 q2 hr' hsz hd
  go_wp2_with fail
  refine (bytes32_any sB ((8 * m + 4) / 5) _ HSZ.out (by omega)).mono ?_
  rintro e w2 ⟨A2, c2, rfl, hown2, hb2⟩
  rw [HD.out, Q1.out, Q2.out, HL.out]
  rw [HD.out, Q1.out, HL.out] at hown2
  have hr2 := Rd.of_own hown2
  have hk2 := hk1.on hb2
  have hb2' := Below.then hb1 hb2
  clear hown2 hk1 hb1 hb2
  go_wp2_with fail
  refine (same_any A2 A m m c2 c _ _ k k _ HL.out HL.out (by unfold maxLen; omega) hr2 hk2).mono ?_
  rintro e w3 ⟨rfl, q, rfl⟩
  rw [decide_eq_true (rfl : k = k)]
  have hk3 := (hk2.drewN q)
  have hb3' := below_drewN hb2' q
  clear hk2 hr2 hb2'
  have hcmp : (((sB.size : Nat) : Int) != (8 * (m : Int) + 4) / 5) = false := by rw [bne_eq_false_iff_eq, HSZ.out]; omega
  by_cases hm0 : m = 0
  · have hz : (((sB.size : Nat) : Int) == 0) = true := by rw [beq_iff_eq, HSZ.out]; omega
    have HM0 := Lib.hid hm0
    clear hm0
    go_wp2_with fail
    refine (wakes_any _ (tab_on HT.out hb3' hb3'.size)).mono ?_
    rintro e w4 ⟨rfl, hb4⟩
    have hb4' := Below.then hb3' hb4
    clear hb3' hb4
    go_wp2_with fail
    go_ret
    exact ⟨rfl, hb4'⟩
  · have hz : (((sB.size : Nat) : Int) == 0) = false := by rw [beq_eq_false_iff_ne, HSZ.out]; omega
    obtain ⟨ct, w4, hcv, hct, hb4, hlt4, hcell, hfz⟩ := run_bytes_of_str (P := Tryd.prog) (w2.drewN q) 9 23 5 sB (enc k) HD.out Tryd.underlying9 Tryd.underlying23 Tryd.underlying5
    obtain ⟨L, hL⟩ : ∃ L : Nat, (8 * m + 4) / 5 = L := ⟨_, rfl⟩
    have hn1 : 1 ≤ L := by omega
    have hn2 : L ≤ 200 := by omega
    rw [hL] at hel
    rw [hel] at hcv hct
    have hk4 := Rd.on hk3 hb4
    have hb4' := Below.then hb3' hb4
    have HEL := Lib.hid hel
    have HLm := Lib.hid hL
    have hLI : (8 * (m : Int) + 4) / 5 = (L : Int) := by omega
    have hG0 : w.heap.size ≤ (w2.drewN q).heap.size := hb3'.size
    have hkS0 : ∀ P u, Rd (w4.setCell ⟨(w2.drewN q).heap.size, P, none⟩ u) (w4.setCell ⟨(w2.drewN q).heap.size, P, none⟩ u).heap.size A k := fun P u =>
      ((hk3.below hb4 (Nat.le_refl _)).keep (fun p hp => World.cell?_setCell_other _ _ _ _ (by rintro rfl; exact Nat.lt_irrefl _ hp))).more (by have := hb4.size; simp [World.setCell]; exact this)
    have htop : (w2.drewN q).heap.size = (w2.drewN q).heap.size := rfl
    generalize hG : (w2.drewN q).heap.size = G at hcv hcell hfz hlt4 hG0 hkS0
    clear hk3 hm0 hel hL htop
    have HCELL := Lib.hid hcell
    have HFZ := Lib.hid hfz
    have HLT := Lib.hid hlt4
    clear hcell hfz hlt4 hG
    have HSZ' := Lib.hid (HSZ.out.trans HLm.out)
    have hszI : ((sB.size : Nat) : Int) = (L : Int) := by rw [HSZ'.out]
    clear HSZ
    go_wp2_with fail
    refine (within_any at_ (L : Int) _ ha0 ha1 (by omega)).mono ?_
    rintro e w' ⟨rfl, rfl⟩
    obtain ⟨r1, r2⟩ := withinI_range at_ (L : Int) (by omega)
    obtain ⟨P, hP⟩ : ∃ P : Nat, withinI at_ (L : Int) = (P : Int) := ⟨(withinI at_ (L : Int)).toNat, by omega⟩
    rw [hP] at r1 r2 ⊢
    clear hP
    have hPL : P < L := by omega
    have hPe : P < (enc k).length := by rw [HEL.out]; exact hPL
    have hcP := HCELL.out P hPe
    have hfP := HFZ.out P hPe
    have hxb : x = ((UInt8.ofNat x.toNat).toNat : Int) := by rw [UInt8.toNat_ofNat', Nat.mod_eq_of_lt (by omega)]; omega
    have hst := Rd.stored HLT.out HCELL.out P hPe (UInt8.ofNat x.toNat) x hxb
    have hlt : ((enc k).set P (UInt8.ofNat x.toNat)).length = L := by rw [List.length_set, HEL.out]
    generalize (enc k).set P (UInt8.ofNat x.toNat) = t at hst hlt
    have HTL := Lib.hid hlt
    have hcv2 := run_string_rd (P := Tryd.prog) 23 9 5 Tryd.underlying23 Tryd.underlying5 Tryd.underlying9 _ _ L ct t HTL.out hst
    have hbS : Below w.heap.size w (w4.setCell ⟨G, P, none⟩ (.int .u8 x)) := hb4'.setCell hG0 _
    have hkS : Rd (w4.setCell ⟨G, P, none⟩ (.int .u8 x)) (w4.setCell ⟨G, P, none⟩ (.int .u8 x)).heap.size A k := hkS0 P _
    have hstS := hst
    clear hlt hxb hst hcv hk4 hb4' hkS0
    go_wp2_with fail
    refine (bytes32_any ⟨t.toArray⟩ L _ (by rw [← HTL.out]; rfl) (by omega)).mono ?_
    rintro e w6 ⟨A6, c6, rfl, hown6, hb6⟩
    have hstr : (⟨t.toArray⟩ : ByteArray).data.toList = t := rfl
    have hstz : (⟨t.toArray⟩ : ByteArray).size = L := by rw [← HTL.out]; rfl
    rw [hstr] at hown6 ⊢
    have hr6 := Rd.of_own hown6
    have hk6 := Rd.on hkS hb6
    have ht6 := Rd.on hstS hb6
    have hb6' := Below.then hbS hb6
    have hcv6 := run_string_rd (P := Tryd.prog) 23 9 5 Tryd.underlying23 Tryd.underlying5 Tryd.underlying9 _ _ L ct t HTL.out ht6
    have hal : (ans t).length ≤ 1000000 := by have h1 := ans_len ⟨t.toArray⟩; rw [hstr, hstz] at h1; omega
    have HOT := Lib.hid (fun h => other (l := k) (t := t) h)
    clear hown6 hstr hstz hstS hcv2 hkS hbS hb6 ht6
    by_cases hcase : enc k = t
    · have hc1 : (t == sB.toList) = true := by rw [Lib.toList_data, HD.out, hcase]; simp
      clear HOT hcase
      generalize ans t = o at *
      generalize (bytes32 t).isSome = ok at *
      go_wp2_with fail
      refine (wakes_any _ (tab_on HT.out hb6' hb6'.size)).mono ?_
      rintro e w7 ⟨rfl, hb7⟩
      have hb7' := Below.then hb6' hb7
      clear hb6' hb7
      go_wp2_with fail
      go_ret
      exact ⟨rfl, hb7'⟩
    · have hc1 : (t == sB.toList) = false := by
        rw [Lib.toList_data, HD.out]
        simpa using fun h => hcase h.symm
      have HO2 := Lib.hid (HOT.out hcase)
      clear HOT hcase
      generalize ans t = o at *
      generalize (bytes32 t).isSome = ok at *
      cases ok
      · clear HO2
        go_wp2_with fail
        refine (wakes_any _ (tab_on HT.out hb6' hb6'.size)).mono ?_
        rintro e w7 ⟨rfl, hb7⟩
        have hb7' := Below.then hb6' hb7
        clear hb6' hb7
        go_wp2_with fail
        go_ret
        exact ⟨rfl, hb7'⟩
      · have HNE := Lib.hid (HO2.out rfl)
        clear HO2
        go_wp2_with fail
        refine (same_any A6 A o.length m c6 c _ _ o k _ rfl HL.out (by unfold maxLen; omega) hr6 hk6).mono ?_
        rintro e w7 ⟨rfl, q7, rfl⟩
        rw [decide_eq_false HNE.out]
        have hb7' := below_drewN hb6' q7
        clear hb6' hr6 hk6 hcv6
        go_wp2_with fail
        refine (wakes_any _ (tab_on HT.out hb7' hb7'.size)).mono ?_
        rintro e w8 ⟨rfl, hb8⟩
        have hb8' := Below.then hb7' hb8
        clear hb7' hb8
        go_wp2_with fail
        go_ret
        exact ⟨rfl, hb8'⟩

theorem contract (H : Type) (enc : TypeId × Value → H) (W : World) (base : Nat) (args : Array Value) (ds gs : List (DataW H)) (before : List MemPlace)
    (hval : ∀ (j : Nat) t v, Tryd.f12.params[j]? = some t → args[j]? = some v → Value.okWide Tryd.prog W .any base t v)
    (hW : DataW.Whole enc Tryd.prog Tryd.f12.params.toList Rows.codeLettersSpec.vars false W args.toList ds gs before) (hL : laidMetH Tryd.prog Rows.codeLettersRow.laid W) :
    Calls Tryd.prog 12 args W fun e W' => ∃ v, e = .returned v ∧ Rows.codeLettersSpec.post enc Tryd.prog Tryd.f12 false true false false W args v W' := by
  have hW' := hW
  obtain ⟨p, q, hA0, hV, rfl, hfz, hnd⟩ := hW
  have hA : DataW.TrodAll enc Tryd.prog W 0 (fun _ => true) true Tryd.f12.params.toList args.toList ds p := hA0
  rw [Tryd.params12] at hA hval
  obtain ⟨v0, v1, v2, d0, d1, d2, p0, p1, p2, rfl, rfl, rfl, h0, h1, h2⟩ := trodAll_three hA
  obtain ⟨rfl, rfl⟩ := trodVars_none hV
  obtain ⟨A0, m0, c0, l0, rfl, hl0, hc0, hm0, hr0⟩ := open_bytes (hval 0 23 v0 rfl rfl) h0
  obtain ⟨n1, rfl, rfl, rfl, wf1⟩ := open_int Tryd.underlying3 (hval 1 3 v1 rfl rfl) h1
  have b1 := bounds_i64 wf1
  obtain ⟨n2, rfl, rfl, rfl, wf2⟩ := open_int Tryd.underlying5 (hval 2 5 v2 rfl rfl) h2
  have b2 := bounds_u8 wf2
  clear hA0
  refine (walk A0 m0 c0 l0 n1 n2 W hl0 hc0 hr0 b1.1 b1.2 b2.1 b2.2 (pow10 hL)).mono fun e W' ⟨he, hb⟩ => ?_
  exact ⟨_, he, law_post hW' rfl (by kernel_rfl) rfl (by kernel_rfl) hb⟩

theorem laid_met (os : Os) : laidMet Tryd.prog Rows.codeLettersRow.laid ((laidWorld os).forCall (fun _ _ => 0) ⟨#[], #[.slice none 0 0, .int .i64 0, .int .u8 0], []⟩).memory :=
  laidMet_of_run' 8 (by kernel_rfl) (by kernel_rfl)
theorem reads (os : Os) {H : Type} (enc : TypeId × Value → H) : ∃ places, DataW.whole enc Tryd.prog ((laidWorld os).forCall (fun _ _ => 0) ⟨#[], #[.slice none 0 0, .int .i64 0, .int .u8 0], []⟩).memory Tryd.f12.params.toList Rows.codeLettersSpec.vars false #[Value.slice none 0 0, Value.int .i64 0, Value.int .u8 0].toList 8 = some ([.nil, .lit (.int .i64 0), .lit (.int .u8 0)], [], places) :=
  ⟨[], by kernel_rfl⟩

set_option maxRecDepth 100000 in
theorem lifted (os : Os) (started : os.Started) (H : Type) (enc : TypeId × Value → H) (F : Stop.Interp) :
    ReturnsInHanded {} Tryd.checked os 12 .any ((OpenSpec.ofChange Rows.codeLettersSpec).preRow enc Tryd.prog Tryd.f12 Rows.codeLettersRow.domain false Rows.codeLettersRow.laid) (((OpenSpec.ofChange Rows.codeLettersSpec).at F).post enc Tryd.prog Tryd.f12 false true false false) := by
  obtain ⟨places, hx⟩ := reads os enc
  refine returnsInHanded_of_row (C := Tryd.checked) (s := OpenSpec.ofChange Rows.codeLettersSpec) own started (by kernel_rfl) Tryd.func12
    (witness_row_at (enc := enc) (C := Tryd.checked) false (laidWorld os) #[.slice none 0 0, .int .i64 0, .int .u8 0] rfl (by kernel_rfl) (by kernel_rfl) (by kernel_rfl)
      (OpenSpec.preRow_of_cond 8 hx (by kernel_rfl) (fun k hk => by cases hk) (by kernel_rfl) (laid_met os))) ?_
  intro W base args ds gs before hval hW _ _ _ hL _ _
  exact contract H enc W base args ds gs before hval hW hL

theorem said : Rows.CodeLettersSaid :=
  OpenClaim.holds_of_cond 12 Tryd.f12 rfl rfl rfl rfl rfl rfl rfl ⟨rfl, rfl, rfl, rfl, rfl⟩ rfl rfl rfl rfl rfl (by kernel_rfl) Tryd.func12 (by kernel_rfl)
    (of_decide_eq_true (by kernel_rfl)) (by unfold Func.isWrapper; first | (rw [if_pos (by decide +kernel)]; kernel_rfl) | (rw [if_neg (by decide +kernel)]; exact ⟨rfl, rfl⟩))
    (fun os started H enc _ F => by rw [OpenClaim.pre_eq_preRow]; exact lifted os started H enc F)

theorem plain (f : FuncId) (fn : Func) (hf : Tryd.pinned.checked.prog.funcNamed "aumbry/aumbrylaw01.CodeLetters" = some f) (hfn : Tryd.pinned.checked.prog.funcs[f]? = some fn) :
    false = Tryd.pinned.checked.prog.looks [] ∧ ∀ (j : Nat) t, fn.params[j]? = some t → Tryd.pinned.checked.prog.wantsStandIn t = false := by
  obtain rfl : f = 12 := Option.some.inj ((show Tryd.prog.funcNamed "aumbry/aumbrylaw01.CodeLetters" = some 12 by kernel_rfl).symm.trans hf) |>.symm
  obtain rfl : fn = Tryd.f12 := (Option.some.inj (Tryd.func12.symm.trans hfn)).symm
  refine ⟨by kernel_rfl, fun j t ht => ?_⟩
  exact wants_none (by kernel_rfl) (Array.mem_of_getElem? ht)

/-- The card: the statement holds, its listed tables tied to the program's text. -/
theorem card : Rows.CodeLettersCardSaid :=
  Claim7.holds_tied_plain_at .later [] _ _ _ _ said (fun _ h => by cases h) (by kernel_rfl) (fun _ h => by cases h) codeLetters_row_tie rfl ⟨rfl, rfl⟩ (by kernel_rfl) rfl plain (by kernel_rfl)
end Go.Proofs.YtoidkaeomgglcaaDoor.codeLetters
