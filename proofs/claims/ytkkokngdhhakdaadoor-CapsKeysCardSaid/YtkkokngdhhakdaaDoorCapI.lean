/- The program's Enabler. -/
import Derived.Test.YtkkokngdhhakdaaDoorCapH
import Derived.Test.YtkkokngdhhakdaaDoorPut
namespace Go.Proofs.YtkkokngdhhakdaaDoor
open Go.RowKit
set_option maxRecDepth 100000

def enbTag : List UInt8 := [101, 110, 97, 98, 108, 101]
def put2 (n : Int) : List UInt8 := putL (putN n) 2
theorem put2_len (n : Int) : (put2 n).length = 2 := putL_length _ _
def enb13 (k : List UInt8) (n : Int) : List UInt8 := short13 enbTag [k, put2 n]
theorem pput2 (n : Int) (w : World) (hn : n ≤ 9223372036854775807) : Calls Tryd.prog 40 #[.int .i64 n, .int .i64 2] w fun e w' => ∃ A c, e = .returned (.slice A 2 c) ∧ 2 ≤ c ∧ c ≤ maxLen ∧ Rd w' w'.heap.size A (put2 n) ∧ Below w.heap.size w w' :=
  (put_any n 2 w hn).mono fun _ _ ⟨A, c, he, ho, hb⟩ => by
    have e4 : putW 2 = 2 := rfl
    rw [e4] at he ho
    obtain ⟨A', c', e, h1, h2⟩ := own_caps ho
    injection e with e1 e2 e3
    subst e1 e3
    exact ⟨A, c, he, h1, h2, Rd.of_own ho, hb⟩
theorem rdr_twoC (w : World) (A B : Option Addr) {n1 n2 c1 c2 : Nat} {l1 l2 : List UInt8} (h1 : l1.length = n1) (h2 : l2.length = n2) (a1 : n1 ≤ c1) (b1 : c1 ≤ maxLen) (a2 : n2 ≤ c2) (b2 : c2 ≤ maxLen)
    (r1 : Rd w w.heap.size A l1) (r2 : Rd w w.heap.size B l2) :
    RdR (w.alloc (.cells #[.slice A n1 c1, .slice B n2 c2] 26)) (w.alloc (.cells #[.slice A n1 c1, .slice B n2 c2] 26)).heap.size (some ⟨w.heap.size, 0, none⟩) [l1, l2] := by
  subst h1 h2
  have hal : Below w.heap.size w (w.alloc (.cells #[.slice A l1.length c1, .slice B l2.length c2] 26)) := (Below.refl _ _).alloc (Nat.le_refl _) _
  have hblk := Blk.new w #[.slice A l1.length c1, .slice B l2.length c2] 26
  refine .inr ⟨w.heap.size, 0, rfl, hblk.lt, fun i hi => ?_⟩
  rw [Nat.zero_add]
  match i, hi with
  | 0, _ => exact ⟨A, c1, hblk.cell 0, a1, b1, (r1.below hal (Nat.le_refl _)).more hal.size⟩
  | 1, _ => exact ⟨B, c2, hblk.cell 1, a2, b2, (r2.below hal (Nat.le_refl _)).more hal.size⟩
/-- The value is a slice that reads as the bytes, its room bounded. -/
def Spec.bycC (n : Nat) (l : List UInt8) : Spec := .any (fun v w => ∃ X c, v = .slice X n c ∧ n ≤ c ∧ c ≤ maxLen ∧ Rd w w.heap.size X l) (fun _ _ _ h hb => by
  obtain ⟨X, c, h1, h2, h3, h4⟩ := h
  exact ⟨X, c, h1, h2, h3, (h4.below hb (Nat.le_refl _)).more hb.size⟩)
set_option maxHeartbeats 8000000 in
theorem penabler_any {w : World} {c : Cap13} {A : Option Addr} {n cc : Nat} {server : Int} (hw : c.wf) (hn : c.lit.length = n) (hr : Rd w w.heap.size A c.lit) (hsv : server ≤ 9223372036854775807) (htab : Pow10 w.heap.size w) :
    Calls Tryd.prog 14 #[.agg (capA c (.slice A n cc)), .int .i64 server] w fun e w' => e = .returned (.tuple #[.agg (u8A (if c.writes then enb13 c.key server else key0)), .int .i64 (if c.writes then 0 else 11)]) ∧ Below w.heap.size w w' := by
  obtain ⟨CX, hCX⟩ : ∃ x, capA c (.slice A n cc) = x := ⟨_, rfl⟩
  have HST := Lib.hid (CapAt.new w (.slice A n cc) hw hCX)
  obtain ⟨OK, hOK⟩ : ∃ x, decide c.writes = x := ⟨_, rfl⟩
  have HV := Lib.hid (fun (W : World) (hW : Below w.heap.size w W) => (show Calls Tryd.prog 34 #[.agg CX] W fun e w' => e = .returned (.bool OK) ∧ Below W.heap.size W w' from by
    rw [← hCX, ← hOK]
    exact pcanwrite_any hw hn (hr.on hW)))
  obtain ⟨pa, hpa⟩ : ∃ x, put2 server = x := ⟨_, rfl⟩
  have HPL := Lib.hid (show pa.length = 2 by rw [← hpa]; exact put2_len _)
  have HPA := Lib.hid (fun W => (show Calls Tryd.prog 40 #[.int .i64 server, .int .i64 2] W fun e w' => ∃ A c, e = .returned (.slice A 2 c) ∧ 2 ≤ c ∧ c ≤ maxLen ∧ Rd w' w'.heap.size A pa ∧ Below W.heap.size W w' from by rw [← hpa]; exact pput2 server W hsv))
  have HSH := Lib.hid (fun (A2 : Option Addr) (W : World) (hW : Below w.heap.size w W) (hr : RdR W W.heap.size A2 [c.key, pa]) => short_any enbTag A2 2 2 [c.key, pa] W (by decide) rfl (by decide) (fun r h => by
    have h1 := hw.1
    have h2 := HPL.out
    simp at h
    rcases h with rfl | rfl <;> omega) hr (tab_on htab hW hW.size))
  have HOK := Lib.hid hOK
  have HCX := Lib.hid hCX
  have HW := Lib.hid hw
  rw [hCX]
  clear hCX hOK hw hn hr htab
  obtain ⟨K, hK⟩ : ∃ x, u8A (if c.writes then enb13 c.key server else key0) = x := ⟨_, rfl⟩
  obtain ⟨E, hE⟩ : ∃ x, (if c.writes then (0 : Int) else 11) = x := ⟨_, rfl⟩
  have HK := Lib.hid hK
  have HE := Lib.hid hE
  have HPB := Lib.hid hpa
  have HZK := Lib.hid (show K.size = 16 by
    rw [← hK, u8A_size]
    split
    · exact short13_len _ _
    · rfl)
  have HOKK := Lib.hid (show K.all (·.oneCell') = true by rw [← hK]; exact u8A_one _)
  rw [hK, hE]
  clear hK hE hpa
  go_enter Tryd.func14, Tryd.ntmps14
  go_upto_region 1 with fail
  generalize hwa : World.alloc _ _ = w1
  obtain ⟨b, hb⟩ : ∃ g, w.heap.size = g := ⟨_, rfl⟩
  obtain ⟨r, hr⟩ : ∃ g, w.heap.size + 1 = g := ⟨_, rfl⟩
  have hst : CapAt w1 b c (.slice A n cc) ∧ (∃ rs, Blk w1 r rs 23 ∧ rs.size = 16) ∧ Below w.heap.size w w1 := by
    obtain ⟨Y, hY, hz⟩ : ∃ Y : Array Value, w1 = (w.alloc (.cells CX 28)).alloc (.cells Y 23) ∧ Y.size = 16 := ⟨_, hwa.symm, rfl⟩
    have hs1 : (w.alloc (.cells CX 28)).heap.size = w.heap.size + 1 := by simp
    rw [hY, ← hb, ← hr]
    exact ⟨⟨HST.out.blk.alloc _, HW.out⟩, ⟨Y, by rw [← hs1]; exact Blk.new _ _ _, hz⟩, ((Below.refl _ _).alloc (Nat.le_refl _) _).alloc (by simp) _⟩
  have HNE := Lib.hid (show b ≠ r ∧ w.heap.size ≤ r by omega)
  rw [hr]
  rw [hb]
  have HB := Lib.hid hb
  have H1 := Lib.hid hst
  clear HST hwa hb hr hst
  by_cases hyes : c.writes
  · obtain rfl : OK = true := by rw [← HOK.out]; exact decide_eq_true hyes
    have hE : E = 0 := by rw [← HE.out, if_pos hyes]
    subst hE
    have HKK := Lib.hid (show u8A (enb13 c.key server) = K by rw [← HK.out, if_pos hyes])
    clear HK HE hyes
    go_upto_region 3 with (first
      | (refine wpList_load_capC ?_ (.tmp 2) rfl b rfl H1.out.1 HCX.out ?_; · rfl)
      | ((with_reducible refine (HV.out _ H1.out.2.2).mono ?_); rintro e w2 ⟨rfl, hb2⟩))
    have H2 := Lib.hid (show CapAt w2 b c (.slice A n cc) ∧ (∃ rs, Blk w2 r rs 23 ∧ rs.size = 16) ∧ Below w.heap.size w w2 from ⟨H1.out.1.below hb2, by obtain ⟨rs, h1, h2⟩ := H1.out.2.1; exact ⟨rs, h1.below hb2 h1.lt, h2⟩, H1.out.2.2.trans (hb2.mono H1.out.2.2.size)⟩)
    clear hb2 H1 HV
    obtain ⟨w3, hw3⟩ : ∃ x, w2 = x := ⟨_, rfl⟩
    rw [hw3] at H2 ⊢
    clear hw3
    obtain ⟨rs, hrs, hrz⟩ := H2.out.2.1
    have HRS := Lib.hid hrs
    have HRZ := Lib.hid hrz
    clear hrs hrz
    have HSR := Lib.hid (fun W (h : Below w3.heap.size w3 W) => (show Rd W W.heap.size (some ⟨b, 1, none⟩) c.key from Rd.of_range (H2.out.1.below h).lt (H2.out.1.below h).rangeKey))
    have HTG := Lib.hid (fun g W (hW : Below w3.heap.size w3 W) (hr : RdR W W.heap.size (some ⟨g, 0, none⟩) [c.key, pa]) => (show Calls Tryd.prog 15 #[.string ⟨#[101, 110, 97, 98, 108, 101]⟩, .slice (some ⟨g, 0, none⟩) 2 2] W fun e w' => e = .returned (.agg K) ∧ Below W.heap.size W w' from by
      rw [← HKK.out]
      unfold enb13
      rw [HPB.out]
      exact HSH.out _ _ (H2.out.2.2.trans (hW.mono H2.out.2.2.size)) hr))
    clear HSH
    refine wp_region_loose 6 2 (fun i => false) (promises [.is (.pointer (some ⟨b, 1, none⟩)), .is (.slice (some ⟨b, 1, none⟩) 16 16), .is (.int .i64 server), .bycC 2 pa, .rows 2 [c.key, pa], .is (.agg K)]) (by kernel_rfl) rfl (by kernel_rfl) (fun i v w w' h hb => Spec.keep h hb) ⟨?_, ?_, ?_, ?_, ?_, ?_, trivial⟩ ?_
    · refine StepOKl.of ?_
      intro ac w hb hu hk
      refine ⟨wanted_none rfl, ?_⟩
      have e2 : ac.eval (.tmp 2) = .pointer (some ⟨b, 0, none⟩) := hu.is (t := 2) (by kernel_rfl)
      refine step_value (w' := w) (v := .pointer (some ⟨b, 1, none⟩)) ?_ (Below.refl _ _) rfl
      generalize ac.eval = ρ at e2 ⊢
      go_simp
    · refine StepOKl.of ?_
      intro ac w hb hu hk
      refine ⟨wanted_none rfl, ?_⟩
      have e10 : ac.eval (.tmp 10) = (.pointer (some ⟨b, 1, none⟩)) := (hk ⟨0, .data⟩ (by simp) rfl).is rfl rfl
      refine step_value (w' := w) (v := .slice (some ⟨b, 1, none⟩) 16 16) ?_ (Below.refl _ _) rfl
      generalize ac.eval = ρ at e10 ⊢
      go_simp
    · refine StepOKl.of ?_
      intro ac w hb hu hk
      refine ⟨wanted_none rfl, ?_⟩
      have e1 : ac.eval (.tmp 1) = .int .i64 server := hu.is (t := 1) (by kernel_rfl)
      exact step_value (BigFrame.run_move (.tmp 1) rfl w) (Below.refl _ _) e1
    · refine StepOKl.of ?_
      intro ac w hb hu hk
      refine ⟨wanted_none rfl, ?_⟩
      have e12 : ac.eval (.tmp 12) = (.int .i64 server) := (hk ⟨2, .data⟩ (by simp) rfl).is rfl rfl
      have ef : ac.eval (.func 40) = .func (.func 40) #[] #[] := rfl
      have ec : ac.eval (.const (.int .i64 2)) = .int .i64 2 := rfl
      refine step_enter (f := 40) (args := #[.int .i64 server, .int .i64 2]) ?_ ?_
      · generalize ac.eval = ρ at e12 ec ef ⊢
        go_simp
      · exact (HPA.out w).mono fun e w' ⟨A, c, he, hc, hm, hr, hq⟩ => ⟨_, he, ⟨A, c, rfl, hc, hm, hr⟩, hq⟩
    · refine StepOKl.of ?_
      intro ac w hb hu hk
      refine ⟨wanted_none rfl, ?_⟩
      have e11 : ac.eval (.tmp 11) = (.slice (some ⟨b, 1, none⟩) 16 16) := (hk ⟨1, .data⟩ (by simp) rfl).is rfl rfl
      have e13 : ∃ X c, ac.eval (.tmp 13) = .slice X 2 c ∧ 2 ≤ c ∧ c ≤ maxLen ∧ Rd w w.heap.size X pa := (hk ⟨3, .data⟩ (by simp) rfl).is rfl rfl
      obtain ⟨B, d, eB, hcB, hmB, hrB⟩ := e13
      refine step_value (w' := w.alloc (.cells #[.slice (some ⟨b, 1, none⟩) 16 16, .slice B 2 d] 26)) (v := .slice (some ⟨w.heap.size, 0, none⟩) 2 2) ?_ ((Below.refl _ _).alloc (Nat.le_refl _) _) ⟨w.heap.size, rfl, rdr_twoC w _ _ HW.out.1 HPL.out (by decide) (by decide) hcB hmB (HSR.out w hb) hrB⟩
      generalize ac.eval = ρ at e11 eB ⊢
      go_simp
    · refine StepOKl.of ?_
      intro ac w hb hu hk
      refine ⟨wanted_none rfl, ?_⟩
      have e14 : ∃ g, ac.eval (.tmp 14) = .slice (some ⟨g, 0, none⟩) 2 2 ∧ RdR w w.heap.size (some ⟨g, 0, none⟩) [c.key, pa] := (hk ⟨4, .data⟩ (by simp) rfl).is rfl rfl
      obtain ⟨g, eg, hr⟩ := e14
      have ef : ac.eval (.func 15) = .func (.func 15) #[] #[] := rfl
      have es : ac.eval (.const (.string ⟨#[101, 110, 97, 98, 108, 101]⟩)) = .string ⟨#[101, 110, 97, 98, 108, 101]⟩ := rfl
      refine step_enter (f := 15) (args := #[.string ⟨#[101, 110, 97, 98, 108, 101]⟩, .slice (some ⟨g, 0, none⟩) 2 2]) ?_ ?_
      · generalize ac.eval = ρ at eg es ef ⊢
        go_simp
      · exact (HTG.out g w hb hr).mono fun e w' ⟨he, hq⟩ => ⟨_, he, rfl, hq⟩
    · intro ac w' hb hu hk hap
      obtain ⟨_, h10, rfl⟩ := (hk 0 (by decide)).put rfl rfl
      obtain ⟨_, h11, rfl⟩ := (hk 1 (by decide)).put rfl rfl
      obtain ⟨_, h12, rfl⟩ := (hk 2 (by decide)).put rfl rfl
      obtain ⟨_, h13, ⟨X13, xc13, rfl, hxc13, hX13⟩⟩ := (hk 3 (by decide)).put rfl rfl
      obtain ⟨_, h14, ⟨g14, rfl, hG14⟩⟩ := (hk 4 (by decide)).put rfl rfl
      obtain ⟨_, h15, rfl⟩ := (hk 5 (by decide)).put rfl rfl
      clear hap
      have hF : AllPuts ac.tmps ((10, _) :: (11, _) :: (12, _) :: (13, _) :: (14, _) :: (15, _) :: []) := ⟨h10, h11, h12, h13, h14, h15, trivial⟩
      obtain rfl := frame_puts hu (by kernel_rfl) hF
      simp only [puts, Act.put, List.setIfInBounds_toArray, List.set_cons_zero, List.set_cons_succ, List.drop_succ_cons, List.drop_zero]
      clear hk hu hF h10 h11 h12 h13 h14 h15
      have HRS2 := Lib.hid (HRS.out.below hb HRS.out.lt)
      have HBE := Lib.hid (H2.out.2.2.trans (hb.mono H2.out.2.2.size))
      clear hb HPA HTG HSR H2 HRS
      go_wp2_with (with_reducible refine wpList_store_blkTo rfl 23 (.tmp 4) (.tmp 15) rfl rfl r K rfl rfl 23 rs HRS2.out (by rw [HZK.out]; kernel_rfl) (by rw [HZK.out, HRZ.out]) HOKK.out ?_)
      have hs := below_row HBE.out HBE.out.size HNE.out.2 K
      refine bodyPost_ret (v := .tuple #[.agg K, .int .i64 0]) (results_cell_tmpC (p := 4) (q := 5) (ty := 23) (by kernel_rfl) _ _ r 23 _ (0, 0) _ _ rfl rfl (HRS2.out.row K) Tryd.underlying23 rfl (by rw [HZK.out]; kernel_rfl)) rfl ⟨rfl, by first | exact hs | (rw [← HB.out]; exact hs)⟩
  · obtain rfl : OK = false := by rw [← HOK.out]; exact decide_eq_false hyes
    have hE : E = 11 := by rw [← HE.out, if_neg hyes]
    subst hE
    have HKV := Lib.hid (show u8A key0 = K by rw [← HK.out, if_neg hyes])
    clear HK HE hyes HSH
    go_wp2_with (first
      | (refine wpList_load_capC ?_ (.tmp 2) rfl b rfl H1.out.1 HCX.out ?_; · rfl)
      | ((with_reducible refine (HV.out _ H1.out.2.2).mono ?_); rintro e w2 ⟨rfl, hb2⟩; have H2 := H1.out.2.1; obtain ⟨rs, hrs, hrz⟩ := H2; have HRS := Lib.hid (hrs.below hb2 hrs.lt); have HRZ := Lib.hid hrz; have HB2 := Lib.hid (H1.out.2.2.trans (hb2.mono H1.out.2.2.size)); clear hrs hrz hb2)
      | (refine wpList_build_C ?_ 23 #[] rfl [] (by simp) K _ built_key0 HKV.out ?_; · rfl)
      | (with_reducible refine wpList_store_blkTo rfl 23 (.tmp 4) (.tmp 9) rfl rfl r K rfl rfl 23 rs HRS.out (by rw [HZK.out]; kernel_rfl) (by rw [HZK.out, HRZ.out]) HOKK.out ?_))
    have hs := below_row HB2.out HB2.out.size HNE.out.2 K
    refine bodyPost_ret (v := .tuple #[.agg K, .int .i64 11]) (results_cell_tmpC (p := 4) (q := 5) (ty := 23) (by kernel_rfl) _ _ r 23 _ (0, 0) _ _ rfl rfl (HRS.out.row K) Tryd.underlying23 rfl (by rw [HZK.out]; kernel_rfl)) rfl ⟨rfl, by first | exact hs | (rw [← HB.out]; exact hs)⟩
end Go.Proofs.YtkkokngdhhakdaaDoor
