/- StoreTwice: a disk that stops while a store is opened loses nothing. For all bytes, at every stop. -/
import Derived.Test.YtffllpjlghehiaaDoorLaw
import Derived.Test.YtffllpjlghehiaaDoorLaw11B
import Derived.Test.YtffllpjlghehiaaDoorSix
namespace Go.Proofs.YtffllpjlghehiaaDoor.storeTwice
open Go.ChangeShapes Go.WideShapes Go.ChangeAt Go.RowKit

set_option maxRecDepth 100000 in
set_option maxHeartbeats 16000000 in
theorem walk (A : Option Addr) (na ca : Nat) (la : List UInt8) (B : Option Addr) (nb cb : Nat) (lb : List UInt8) (at_ keep again : Int) (w : World) (hna : la.length = na) (hca : na ≤ ca) (hma : ca ≤ maxLen) (hra : Rd w w.heap.size A la) (hnb : lb.length = nb) (hcb : nb ≤ cb) (hmb : cb ≤ maxLen) (hrb : Rd w w.heap.size B lb)
    (a0 : -9223372036854775808 ≤ at_) (a1 : at_ ≤ 9223372036854775807) (g0 : -9223372036854775808 ≤ again) (g1 : again ≤ 9223372036854775807) (htab : Pow10 w.heap.size w) :
    Calls Tryd.prog 4 #[.slice A na ca, .slice B nb cb, .int .i64 at_, .int .i64 keep, .int .i64 again] w fun e w' => e = .returned (.bool true) ∧ Below w.heap.size w w' := by
  have HT := Lib.hid htab
  obtain ⟨k, hk⟩ : ∃ k, min na 80 = k := ⟨_, rfl⟩
  obtain ⟨l, hl⟩ : ∃ l, min nb 80 = l := ⟨_, rfl⟩
  obtain ⟨a, ha⟩ : ∃ a, la.take 80 = a := ⟨_, rfl⟩
  obtain ⟨b', hb'⟩ : ∃ b, lb.take 80 = b := ⟨_, rfl⟩
  have HCA := Lib.hid (fun W => (show Calls Tryd.prog 12 #[.slice A na ca, .int .i64 80] W fun e w' => e = .returned (.slice A k ca) ∧ W = w' from by rw [← hk]; exact cut_any A na ca 80 W hca))
  have HCB := Lib.hid (fun W => (show Calls Tryd.prog 12 #[.slice B nb cb, .int .i64 80] W fun e w' => e = .returned (.slice B l cb) ∧ W = w' from by rw [← hl]; exact cut_any B nb cb 80 W hcb))
  have hkn : k ≤ 80 := by omega
  have hln : l ≤ 80 := by omega
  have hkc : k ≤ ca := by omega
  have hlc : l ≤ cb := by omega
  have HAL := Lib.hid (show a.length = k by rw [← ha, List.length_take]; omega)
  have HBL := Lib.hid (show b'.length = l by rw [← hb', List.length_take]; omega)
  have HRA := Lib.hid (show Rd w w.heap.size A a by rw [← ha]; exact hra.take 80)
  have HRB := Lib.hid (show Rd w w.heap.size B b' by rw [← hb']; exact hrb.take 80)
  have hr7 := withinI_range at_ 7 (by omega)
  obtain ⟨v7, hv7⟩ : ∃ v, withinI at_ 7 = v := ⟨_, rfl⟩
  rw [hv7] at hr7
  have HW7 := Lib.hid (fun W => (show Calls Tryd.prog 13 #[.int .i64 at_, .int .i64 7] W fun e w' => e = .returned (.int .i64 v7) ∧ W = w' from by rw [← hv7]; exact within_any at_ 7 W (by omega) (by omega) (by omega)))
  have hr2 := withinI_range again 2 (by omega)
  obtain ⟨v2, hv2⟩ : ∃ v, withinI again 2 = v := ⟨_, rfl⟩
  rw [hv2] at hr2
  have HW2 := Lib.hid (fun W => (show Calls Tryd.prog 13 #[.int .i64 again, .int .i64 2] W fun e w' => e = .returned (.int .i64 v2) ∧ W = w' from by rw [← hv2]; exact within_any again 2 W (by omega) (by omega) (by omega)))
  clear htab hv7 hv2 hk hl ha hb' hra hrb hna hnb
  go_enter Tryd.func4, Tryd.ntmps4
  go_wp2_with fail
  with_reducible refine (pnew_at 24 24 rfl w (by omega) (by omega)).mono ?_
  rintro e w1 ⟨p, rfl, hp, g, hg, D1, hb1⟩
  have HD1 := Lib.hid (show DP w1 p g (4 * (5 + 1)) 24 (newD (4 * (5 + 1))) from D1)
  clear D1
  go_wp2_with fail
  with_reducible refine (HCA.out _).mono ?_
  rintro e w' ⟨rfl, rfl⟩
  go_wp2_with fail
  with_reducible refine (HCB.out _).mono ?_
  rintro e w' ⟨rfl, rfl⟩
  clear HCA HCB
  go_wp2_with fail
  with_reducible refine (open_re HD1.out (by omega) (by omega) (new_re 5 4) rfl (i := 4) (j := 5) rfl rfl).mono ?_
  rintro e w2 ⟨q, b, rfl, hq, hb, S2, L2, C2⟩
  rw [new_same] at S2 L2
  have hbl2 := hb1.trans (C2.below hb1.size (two_ge hp hg))
  have HS2 := Lib.hid S2
  have HL2 := Lib.hid L2
  have hq' : w.heap.size ≤ q := Nat.le_trans hb1.size hq
  have hb' : w.heap.size ≤ b := Nat.le_trans hb1.size hb
  clear S2 L2 C2 HD1 hb1 hq hb
  go_wp2_with fail
  with_reducible refine (lput HS2.out HL2.out (by omega) [110] a rfl A k ca HAL.out hkc hma ((HRA.out.below hbl2 (Nat.le_refl _)).more hbl2.size) (tab_on HT.out hbl2 hbl2.size) (by simp) (by omega) (by simp; omega) (by simp)).mono ?_
  rintro e w3 ⟨s3, j3, hj3, rfl, S3, L3, C3⟩
  have HS3 := Lib.hid S3
  have HL3 := Lib.hid L3
  have hbl3 := hbl2.trans (C3.below hbl2.size (fourS_ge hq' hp hg hb'))
  clear S3 L3 C3 hj3 HS2 HL2 hbl2
  go_wp2_with fail
  with_reducible refine (lput HS3.out HL3.out (by omega) [111] a rfl A k ca HAL.out hkc hma ((HRA.out.below hbl3 (Nat.le_refl _)).more hbl3.size) (tab_on HT.out hbl3 hbl3.size) (by simp) (by omega) (by simp; omega) (by simp [putE])).mono ?_
  rintro e w4 ⟨s4, j4, hj4, rfl, S4, L4, C4⟩
  obtain ⟨t4, ht4⟩ : ∃ t4 : Sto, (⟨putE (Sto.l ⟨putE (Sto.l ⟨[], false⟩) (Sto.newR ⟨[], false⟩ [110] a, j3), false⟩) (Sto.newR ⟨putE (Sto.l ⟨[], false⟩) (Sto.newR ⟨[], false⟩ [110] a, j3), false⟩ [111] a, j4), false⟩ : Sto) = t4 := ⟨_, rfl⟩
  have hlt : ([110] : List UInt8) < [111] := by decide
  have ht : t4.died = false ∧ t4.l.length = 2 ∧ (oldE t4.l [110]).map (·.1.data) = some a ∧ (oldE t4.l [111]).map (·.1.data) = some a ∧ ∀ nm, (oldE t4.l nm).isSome = true ↔ nm = [110] ∨ nm = [111] := by
    subst ht4
    have r0 : Rising (Sto.l ⟨[], false⟩) := List.Pairwise.nil
    have r3 : Rising (Sto.l ⟨putE (Sto.l ⟨[], false⟩) (Sto.newR ⟨[], false⟩ [110] a, j3), false⟩) := putE_rising _ r0
    have n3 : oldE (Sto.l ⟨putE (Sto.l ⟨[], false⟩) (Sto.newR ⟨[], false⟩ [110] a, j3), false⟩) [111] = none := by
      have := get_put_other r0 [110] a j3 (nm := [111]) (by decide)
      exact this
    refine ⟨rfl, ?_, ?_, told_same r3 [111] a j4, fun nm => ?_⟩
    · show (putE _ _).length = 2
      rw [told_len [111] a j4 n3]
      rfl
    · show (oldE (putE _ _) [110]).map _ = _
      rw [get_put_other r3 [111] a j4 (by decide)]
      exact told_same r0 [110] a j3
    · show (oldE (putE _ _) nm).isSome = true ↔ _
      rw [told_isSome r3 [111] a j4 nm]
      have := told_isSome r0 [110] a j3 nm
      constructor
      · rintro (h | h)
        · exact .inr h
        · rcases this.1 h with h | h
          · exact .inl h
          · cases h
      · rintro (h | h)
        · exact .inr (this.2 (.inl h))
        · exact .inl h
  rw [ht4] at S4 L4
  have HS4 := Lib.hid S4
  have HL4 := Lib.hid L4
  have HT4 := Lib.hid ht
  have hbl4 := hbl3.trans (C4.below hbl3.size (fourS_ge hq' hp hg hb'))
  clear S4 L4 C4 hj4 ht4 ht HS3 HL3 hbl3
  go_wp2_with fail
  with_reducible refine (HW7.out _).mono ?_
  rintro e w' ⟨rfl, rfl⟩
  clear HW7
  go_wp2_with fail
  with_reducible refine (pstop_any HS4.out.sp.disk v7 keep (by omega)).mono ?_
  rintro e w5 ⟨rfl, D5, C5⟩
  have HS5 := Lib.hid (HS4.out.disk_chg D5 C5 rfl (show (s4.stop v7 keep).keep ≤ 32 from keepOf_le keep) HS4.out.live)
  have hbl5 := hbl4.trans (C5.below hbl4.size (two_ge hp hg))
  clear D5 C5 HS4 hbl4
  go_wp2_with fail
  have hfit := fits_small (R := 5) (name := [110]) (data := b') (by simp) (by rw [HBL.out]; omega) (by rw [HBL.out]; simp; omega)
  obtain ⟨p1, p2, _, p4⟩ := put_told HS5.out.good HT4.out.1 (by omega) hfit (by rw [HT4.out.2.1]; omega)
  with_reducible refine (lputany HS5.out (by omega) [110] b' rfl B l cb HBL.out hlc hmb ((HRB.out.below hbl5 (Nat.le_refl _)).more hbl5.size) (tab_on HT.out hbl5 hbl5.size) (by simp) (by omega)).mono ?_
  rintro e w6 ⟨rfl, S6, C6⟩
  generalize Sto.put t4 (s4.stop v7 keep) 5 4 [110] b' = X at *
  obtain ⟨X1, X2, K⟩ := X
  dsimp only at p1 p2 p4 S6 ⊢
  have HD6 := Lib.hid S6.sp.disk
  have HP4 := Lib.hid p4
  have hbl6 := hbl5.trans (C6.below hbl5.size (fourS_ge hq' hp hg hb'))
  clear S6 C6 HS5 hbl5 hfit p2 p4
  go_wp2_with fail
  with_reducible refine (pstart_any HD6.out).mono ?_
  rintro e w7 ⟨rfl, D7, C7⟩
  have HD7 := Lib.hid D7
  have hbl7 := hbl6.trans (C7.below hbl6.size (two_ge hp hg))
  clear D7 C7 HD6 hbl6
  go_wp2_with fail
  with_reducible refine (HW2.out _).mono ?_
  rintro e w' ⟨rfl, rfl⟩
  clear HW2
  go_wp2_with fail
  with_reducible refine (pstop_any HD7.out v2 0 (by omega)).mono ?_
  rintro e w8 ⟨rfl, D8, C8⟩
  have HD8 := Lib.hid D8
  have hbl8 := hbl7.trans (C8.below hbl7.size (two_ge hp hg))
  clear D8 C8 HD7 hbl7
  go_wp2_with fail
  with_reducible refine (open_disk HD8.out (by omega) (by omega) rfl (i := 4) (j := 5) rfl rfl).mono ?_
  rintro e w9 ⟨x1, x2, rfl, D9, C9⟩
  have HD9 := Lib.hid D9
  have hbl9 := hbl8.trans (C9.below hbl8.size (two_ge hp hg))
  clear D9 C9 HD8 hbl8
  go_wp2_with fail
  with_reducible refine (pstart_any HD9.out).mono ?_
  rintro e w10 ⟨rfl, D10, C10⟩
  have HD10 := Lib.hid D10
  have hbl10 := hbl9.trans (C10.below hbl9.size (two_ge hp hg))
  clear D10 C10 HD9 hbl9
  obtain ⟨L, hRe, hTo⟩ := HP4.out v2 0
  go_wp2_with fail
  with_reducible refine (open_re HD10.out (by omega) (by omega) hRe rfl (i := 4) (j := 5) rfl rfl).mono ?_
  rintro e w11 ⟨q9, b9, rfl, _, _, S11, L11, C11⟩
  have HS11 := Lib.hid S11
  have hbl11 := hbl10.trans (C11.below hbl10.size (two_ge hp hg))
  have hnL : L.map (·.1.name) = [[110], [111]] := names_of hTo.rising (by simp [hlt]) (fun nm => by
    by_cases e : nm = [110]
    · subst e
      refine ⟨fun _ => by simp, fun _ => ?_⟩
      rcases hTo.this with h | ⟨_, h⟩
      · cases ho : oldE L [110] with
        | none => rw [ho] at h; cases h
        | some x => rfl
      · rw [h]; exact (HT4.out.2.2.2.2 _).2 (.inl rfl)
    · rw [hTo.other nm e, HT4.out.2.2.2.2 nm]
      simp)
  have hgn : Sto.get ⟨L, false⟩ [110] = some b' ∨ (K = 8 ∧ Sto.get ⟨L, false⟩ [110] = some a) := by
    unfold Sto.get
    rw [if_neg (by simp)]
    rcases hTo.this with h | ⟨h1, h⟩
    · exact .inl h
    · exact .inr ⟨h1, by show (oldE L [110]).map _ = _; rw [h]; exact HT4.out.2.2.1⟩
  have hgo : Sto.get ⟨L, false⟩ [111] = some a := by
    unfold Sto.get
    rw [if_neg (by simp)]
    show (oldE L [111]).map _ = _
    rw [hTo.other [111] (by decide)]
    exact HT4.out.2.2.2.1
  have hnm : Sto.names ⟨L, false⟩ = [[110], [111]] := hnL
  have hfr : Sto.free ⟨L, false⟩ 4 = 2 := by
    unfold Sto.free
    rw [if_neg (by simp)]
    have := congrArg List.length hnL
    rw [List.length_map] at this
    show 4 - L.length = 2
    rw [this]; rfl
  have HGN := Lib.hid hgn
  have HGO := Lib.hid hgo
  have HNM := Lib.hid hnm
  have HFR := Lib.hid hfr
  clear S11 L11 C11 HD10 hbl10 hnL hgn hgo hnm hfr hTo hRe HP4 hlt HT4 HL4 p1
  go_wp2_with fail
  with_reducible refine (psnames_any HS11.out).mono ?_
  rw [HNM.out]
  rintro e w12 ⟨A12, c12, rfl, _, hr12, hb12⟩
  have HR12 := Lib.hid hr12
  have HS12 := Lib.hid (HS11.out.below hb12)
  have hbl12 := hbl11.trans (hb12.mono hbl11.size)
  have hl2 : ([[110], [111]] : List Name).length = 2 := rfl
  rw [hl2]
  clear hr12 hb12 HS11 hbl11 HNM hl2
  go_wp2_with fail
  have hlb : Below w12.heap.size w12 (w12.alloc (.cells #[.string ⟨#[110]⟩, .string ⟨#[111]⟩] 9)) := (Below.refl _ _).alloc (Nat.le_refl _) _
  have hlk := Blk.new w12 #[.string ⟨#[110]⟩, .string ⟨#[111]⟩] 9
  have hls : RdS (w12.alloc (.cells #[.string ⟨#[110]⟩, .string ⟨#[111]⟩] 9)) (w12.alloc (.cells #[.string ⟨#[110]⟩, .string ⟨#[111]⟩] 9)).heap.size (some ⟨w12.heap.size, 0, none⟩) [[110], [111]] := .inr ⟨w12.heap.size, 0, rfl, hlk.lt, fun i hi => by
    match i, hi with
    | 0, _ => exact hlk.cell 0
    | 1, _ => exact hlk.cell 1
    | i + 2, h => simp at h; omega⟩
  with_reducible refine (samestr_any A12 (some ⟨w12.heap.size, 0, none⟩) 2 2 c12 2 _ _ [[110], [111]] [[110], [111]] _ rfl rfl (by omega) (HR12.out.on hlb) hls).mono ?_
  rintro e w13 ⟨rfl, m13, rfl⟩
  have hbx := below_drewN hlb m13
  have HS13 := Lib.hid (HS12.out.below hbx)
  have hbl13 := hbl12.trans (hbx.mono hbl12.size)
  rw [show decide (([[110], [111]] : List Name) = [[110], [111]]) = true from decide_eq_true rfl]
  clear hlb hlk hls hbx HS12 hbl12 HR12
  generalize (w12.alloc (.cells #[.string ⟨#[110]⟩, .string ⟨#[111]⟩] 9)).drewN m13 = w14 at *
  go_wp2_with fail
  with_reducible refine (psfreeN_any HS13.out).mono ?_
  rw [HFR.out]
  rintro e w15 ⟨rfl, hb15⟩
  have HS15 := Lib.hid (HS13.out.below hb15)
  have hbl15 := hbl13.trans (hb15.mono hbl13.size)
  clear hb15 HS13 hbl13 HFR
  go_wp2_with fail
  have hgn := HGN.out
  have hba := HRA.out
  rcases hgn with hgn | ⟨hK8, hgn⟩
  all_goals
    with_reducible refine (lget HS15.out [110] rfl).mono ?_
    rw [hgn]
    rintro e w16 ⟨hb16, A16, c16, rfl, hc16, hr16⟩
    have HR16 := Lib.hid hr16
    have HS16 := Lib.hid (HS15.out.below hb16)
    have hbl16 := hbl15.trans (hb16.mono hbl15.size)
    clear hr16 hb16 HS15 hbl15 HGN hgn
    go_wp2_with fail
    with_reducible refine (lget HS16.out [111] rfl).mono ?_
    rw [HGO.out]
    rintro e w17 ⟨hb17, A17, c17, rfl, hc17, hr17⟩
    have HR17 := Lib.hid hr17
    have HR16' := Lib.hid (HR16.out.on hb17)
    have hbl17 := hbl16.trans (hb17.mono hbl16.size)
    have HRA17 := Lib.hid ((HRA.out.below hbl17 (Nat.le_refl _)).more hbl17.size)
    have HRB17 := Lib.hid ((HRB.out.below hbl17 (Nat.le_refl _)).more hbl17.size)
    clear hr17 hb17 HS16 hbl16 HR16 HGO hba
    rw [HAL.out]
    go_wp2_with fail
    with_reducible refine (same_any A17 A k k c17 ca _ _ a a _ HAL.out HAL.out (by unfold maxLen; omega) HR17.out HRA17.out).mono ?_
    rintro e w18 ⟨rfl, m18, rfl⟩
    rw [show decide (a = a) = true from decide_eq_true rfl]
    have hbl18 := below_drewN hbl17 m18
    have HR18 := Lib.hid (HR16'.out.drewN m18)
    have HRA18 := Lib.hid (HRA17.out.drewN m18)
    have HRB18 := Lib.hid (HRB17.out.drewN m18)
    clear HR17 HR16' HRA17 HRB17 hbl17
    generalize w17.drewN m18 = w19 at *
  · rw [HBL.out]
    go_wp2_with fail
    with_reducible refine (same_any A16 B l l c16 cb _ _ b' b' _ HBL.out HBL.out (by unfold maxLen; omega) HR18.out HRB18.out).mono ?_
    rintro e w20 ⟨rfl, m20, rfl⟩
    rw [show decide (b' = b') = true from decide_eq_true rfl]
    have hbl20 := below_drewN hbl18 m20
    clear HR18 HRA18 HRB18 hbl18
    generalize w19.drewN m20 = w21 at *
    go_wp2_with fail
    with_reducible refine (wakes11_any w21 (tab_on HT.out hbl20 hbl20.size)).mono ?_
    rintro e w22 ⟨rfl, hb22⟩
    have hbl22 := hbl20.trans (hb22.mono hbl20.size)
    go_wp2_with fail
    go_ret
    exact ⟨rfl, hbl22⟩
  · subst hK8
    go_wp2_with fail
    with_reducible refine (same_any A16 B k l c16 cb _ _ a b' _ HAL.out HBL.out (by unfold maxLen; omega) HR18.out HRB18.out).mono ?_
    rintro e w20 ⟨rfl, m20, rfl⟩
    have hbl20 := below_drewN hbl18 m20
    have HR20 := Lib.hid (HR18.out.drewN m20)
    have HRA20 := Lib.hid (HRA18.out.drewN m20)
    clear HR18 HRA18 HRB18 hbl18
    generalize w19.drewN m20 = w21 at *
    cases hab : decide (a = b') with
    | true =>
      clear hab
      go_wp2_with fail
      with_reducible refine (wakes11_any w21 (tab_on HT.out hbl20 hbl20.size)).mono ?_
      rintro e w22 ⟨rfl, hb22⟩
      have hbl22 := hbl20.trans (hb22.mono hbl20.size)
      go_wp2_with fail
      go_ret
      exact ⟨rfl, hbl22⟩
    | false =>
      clear hab
      go_wp2_with fail
      with_reducible refine (same_any A16 A k k c16 ca _ _ a a _ HAL.out HAL.out (by unfold maxLen; omega) HR20.out HRA20.out).mono ?_
      rintro e w22 ⟨rfl, m22, rfl⟩
      rw [show decide (a = a) = true from decide_eq_true rfl]
      have hbl22 := below_drewN hbl20 m22
      clear HR20 HRA20 hbl20
      generalize w21.drewN m22 = w23 at *
      go_wp2_with fail
      with_reducible refine (wakes11_any w23 (tab_on HT.out hbl22 hbl22.size)).mono ?_
      rintro e w24 ⟨rfl, hb24⟩
      have hbl24 := hbl22.trans (hb24.mono hbl22.size)
      go_wp2_with fail
      go_ret
      exact ⟨rfl, hbl24⟩

set_option maxRecDepth 100000 in
theorem contract (H : Type) (enc : TypeId × Value → H) (W : World) (base : Nat) (args : Array Value) (ds gs : List (DataW H)) (before : List MemPlace)
    (hval : ∀ (j : Nat) t v, Tryd.f4.params[j]? = some t → args[j]? = some v → Value.okWide Tryd.prog W .any base t v)
    (hW : DataW.Whole enc Tryd.prog Tryd.f4.params.toList Rows.storeTwiceSpec.vars false W args.toList ds gs before) (hL : laidMetH Tryd.prog Rows.storeTwiceRow.laid W) :
    Calls Tryd.prog 4 args W fun e W' => ∃ v, e = .returned v ∧ Rows.storeTwiceSpec.post enc Tryd.prog Tryd.f4 false true false false W args v W' := by
  have hW' := hW
  obtain ⟨p, q, hA0, hV, rfl, hfz, hnd⟩ := hW
  have hA : DataW.TrodAll enc Tryd.prog W 0 (fun _ => true) true Tryd.f4.params.toList args.toList ds p := hA0
  rw [Tryd.params4] at hA hval
  obtain ⟨v0, v1, v2, v3, v4, d0, d1, d2, d3, d4, p0, p1, p2, p3, p4, rfl, rfl, rfl, h0, h1, h2, h3, h4⟩ := trodAll_five hA
  obtain ⟨rfl, rfl⟩ := trodVars_none hV
  obtain ⟨A0, m0, c0, l0, rfl, hl0, hc0, hm0, hr0⟩ := open_bytes (hval 0 31 v0 rfl rfl) h0
  obtain ⟨A1, m1, c1, l1, rfl, hl1, hc1, hm1, hr1⟩ := open_bytes (hval 1 31 v1 rfl rfl) h1
  obtain ⟨n2, rfl, rfl, rfl, wf2⟩ := open_int Tryd.underlying3 (hval 2 3 v2 rfl rfl) h2
  have b2 := bounds_i64 wf2
  obtain ⟨n3, rfl, rfl, rfl, wf3⟩ := open_int Tryd.underlying3 (hval 3 3 v3 rfl rfl) h3
  have b3 := bounds_i64 wf3
  obtain ⟨n4, rfl, rfl, rfl, wf4⟩ := open_int Tryd.underlying3 (hval 4 3 v4 rfl rfl) h4
  have b4 := bounds_i64 wf4
  clear hA0
  refine (walk A0 m0 c0 l0 A1 m1 c1 l1 n2 n3 n4 W hl0 hc0 hm0 hr0 hl1 hc1 hm1 hr1 b2.1 b2.2 b4.1 b4.2 (pow10 hL)).mono fun e W' ⟨he, hb⟩ => ?_
  exact ⟨_, he, law_post hW' rfl (by kernel_rfl) rfl (by kernel_rfl) hb⟩

theorem laid_met (os : Os) : laidMet Tryd.prog Rows.storeTwiceRow.laid ((laidWorld os).forCall (fun _ _ => 0) ⟨#[], #[.slice none 0 0, .slice none 0 0, .int .i64 0, .int .i64 0, .int .i64 0], []⟩).memory :=
  laidMet_of_run' 8 (by kernel_rfl) (by kernel_rfl)
theorem reads (os : Os) {H : Type} (enc : TypeId × Value → H) : ∃ places, DataW.whole enc Tryd.prog ((laidWorld os).forCall (fun _ _ => 0) ⟨#[], #[.slice none 0 0, .slice none 0 0, .int .i64 0, .int .i64 0, .int .i64 0], []⟩).memory Tryd.f4.params.toList Rows.storeTwiceSpec.vars false #[Value.slice none 0 0, Value.slice none 0 0, Value.int .i64 0, Value.int .i64 0, Value.int .i64 0].toList 8 = some ([.nil, .nil, .lit (.int .i64 0), .lit (.int .i64 0), .lit (.int .i64 0)], [], places) :=
  ⟨[], by kernel_rfl⟩

set_option maxRecDepth 100000 in
theorem lifted (os : Os) (started : os.Started) (H : Type) (enc : TypeId × Value → H) (F : Stop.Interp) :
    ReturnsInHanded {} Tryd.checked os 4 .any ((OpenSpec.ofChange Rows.storeTwiceSpec).preRow enc Tryd.prog Tryd.f4 Rows.storeTwiceRow.domain false Rows.storeTwiceRow.laid) (((OpenSpec.ofChange Rows.storeTwiceSpec).at F).post enc Tryd.prog Tryd.f4 false true false false) := by
  obtain ⟨places, hx⟩ := reads os enc
  refine returnsInHanded_of_row (C := Tryd.checked) (s := OpenSpec.ofChange Rows.storeTwiceSpec) own started (by kernel_rfl) Tryd.func4
    (witness_row_at (enc := enc) (C := Tryd.checked) false (laidWorld os) #[.slice none 0 0, .slice none 0 0, .int .i64 0, .int .i64 0, .int .i64 0] rfl (by kernel_rfl) (by kernel_rfl) (by kernel_rfl)
      (OpenSpec.preRow_of_cond 8 hx (by kernel_rfl) (fun k hk => by cases hk) (by kernel_rfl) (laid_met os))) ?_
  intro W base args ds gs before hval hW _ _ _ hL _ _
  exact contract H enc W base args ds gs before hval hW hL

theorem said : Rows.StoreTwiceSaid :=
  OpenClaim.holds_of_cond 4 Tryd.f4 rfl rfl rfl rfl rfl rfl rfl ⟨rfl, rfl, rfl, rfl, rfl⟩ rfl rfl rfl rfl rfl (by kernel_rfl) Tryd.func4 (by kernel_rfl)
    (of_decide_eq_true (by kernel_rfl)) (by unfold Func.isWrapper; first | (rw [if_pos (by decide +kernel)]; kernel_rfl) | (rw [if_neg (by decide +kernel)]; exact ⟨rfl, rfl⟩))
    (fun os started H enc _ F => by rw [OpenClaim.pre_eq_preRow]; exact lifted os started H enc F)

theorem plain (f : FuncId) (fn : Func) (hf : Tryd.pinned.checked.prog.funcNamed "aumbry/aumbrylaw11.StoreTwice" = some f) (hfn : Tryd.pinned.checked.prog.funcs[f]? = some fn) :
    false = Tryd.pinned.checked.prog.looks [] ∧ ∀ (j : Nat) t, fn.params[j]? = some t → Tryd.pinned.checked.prog.wantsStandIn t = false := by
  obtain rfl : f = 4 := Option.some.inj ((show Tryd.prog.funcNamed "aumbry/aumbrylaw11.StoreTwice" = some 4 by kernel_rfl).symm.trans hf) |>.symm
  obtain rfl : fn = Tryd.f4 := (Option.some.inj (Tryd.func4.symm.trans hfn)).symm
  refine ⟨by kernel_rfl, fun j t ht => ?_⟩
  exact wants_none (by kernel_rfl) (Array.mem_of_getElem? ht)

/-- The card: the statement holds, its listed tables tied to the program's text. -/
theorem card : Rows.StoreTwiceCardSaid :=
  Claim7.holds_tied_plain_at .later [] _ _ _ _ said (fun _ h => by cases h) (by kernel_rfl) (fun _ h => by cases h) storeTwice_row_tie rfl ⟨rfl, rfl⟩ (by kernel_rfl) rfl plain (by kernel_rfl)
end Go.Proofs.YtffllpjlghehiaaDoor.storeTwice
