/- Two signatures compared; hashes one behind the other; what a leaf signed. The document's own bytes of a signature. -/
import Derived.Test.YtfgieebccjoboaaDoorMssP
import Derived.Test.YtfgieebccjoboaaDoorRTSame
import Derived.Test.YtfgieebccjoboaaDoorMem
namespace Go.Proofs.YtfgieebccjoboaaDoor
open Go.RowKit

set_option maxRecDepth 100000 in
set_option maxHeartbeats 8000000 in
theorem ksig9_true (h l : Int) (V1 P1 V2 P2 : Option Addr) (nv c1 c2 np d1 d2 : Nat) (vs ps : List (List UInt8)) (w : World) (hv1 : HV w (.slice V1 nv c1) vs) (hv2 : HV w (.slice V2 nv c2) vs) (hp1 : HV w (.slice P1 np d1) ps) (hp2 : HV w (.slice P2 np d2) ps) (hvl : vs.length ≤ 100000) (hpl : ps.length ≤ 100000) :
    Calls Tryd.prog 25 #[.agg #[.int .i64 h, .int .i64 l, .slice V1 nv c1, .slice P1 np d1], .agg #[.int .i64 h, .int .i64 l, .slice V2 nv c2, .slice P2 np d2]] w fun e w' => e = .returned (.bool true) ∧ Below w.heap.size w w' := by
  have HV1 := Lib.hid (fun W (hW : Below w.heap.size w W) => (show Calls Tryd.prog 22 #[.slice V1 nv c1, .slice V2 nv c2] W fun e w' => e = .returned (.bool true) ∧ Below W.heap.size W w' from by
    have := ksame7_any (hv1.on hW) (hv2.on hW) hvl
    rwa [decide_eq_true rfl] at this))
  have HV2 := Lib.hid (fun W (hW : Below w.heap.size w W) => (show Calls Tryd.prog 22 #[.slice P1 np d1, .slice P2 np d2] W fun e w' => e = .returned (.bool true) ∧ Below W.heap.size W w' from by
    have := ksame7_any (hp1.on hW) (hp2.on hW) hpl
    rwa [decide_eq_true rfl] at this))
  clear hv1 hv2 hp1 hp2
  go_enter Tryd.func25, Tryd.ntmps25
  go_upto_region 1 with fail
  generalize hw3 : World.alloc _ _ = w3
  obtain ⟨g2, hg2⟩ : ∃ g, w.heap.size = g := ⟨_, rfl⟩
  obtain ⟨g3, hg3⟩ : ∃ g, w.heap.size + 1 = g := ⟨_, rfl⟩
  have hf : Blk w3 g2 #[.int .i64 h, .int .i64 l, .slice V1 nv c1, .slice P1 np d1] 35 ∧ Blk w3 g3 #[.int .i64 h, .int .i64 l, .slice V2 nv c2, .slice P2 np d2] 35 ∧ Below w.heap.size w w3 := by
    have hw : w3 = (w.alloc (.cells #[.int .i64 h, .int .i64 l, .slice V1 nv c1, .slice P1 np d1] 35)).alloc (.cells #[.int .i64 h, .int .i64 l, .slice V2 nv c2, .slice P2 np d2] 35) := hw3.symm
    have e1 : (w.alloc (.cells #[.int .i64 h, .int .i64 l, .slice V1 nv c1, .slice P1 np d1] 35)).heap.size = w.heap.size + 1 := by simp
    rw [hw, ← hg2, ← hg3]
    refine ⟨(Blk.new w _ _).alloc _, ?_, ((Below.refl _ _).alloc (Nat.le_refl _) _).alloc (by simp) _⟩
    rw [← e1]; exact Blk.new _ _ _
  have HT2 := Lib.hid hf.1
  have HT3 := Lib.hid hf.2.1
  have HBW := Lib.hid hf.2.2
  clear hf hw3
  rw [hg3, hg2]
  clear hg3 hg2
  have a0 := HT2.out.cell 0
  have a1 := HT2.out.cell 1
  have a2 := HT2.out.cell 2
  have b0 := HT3.out.cell 0
  have b1 := HT3.out.cell 1
  have b2 := HT3.out.cell 2
  simp at a0 a1 a2 b0 b1 b2
  go_wp2_with fail
  with_reducible refine (HV1.out w3 HBW.out).mono ?_
  rintro e w4 ⟨rfl, hb⟩
  have a3 := (HT2.out.below hb HT2.out.lt).cell 3
  have b3 := (HT3.out.below hb HT3.out.lt).cell 3
  simp at a3 b3
  replace HBW := Lib.hid (HBW.out.trans (hb.mono HBW.out.size))
  clear hb a0 a1 a2 b0 b1 b2 HT2 HT3 HV1
  go_wp2_with fail
  with_reducible refine (HV2.out w4 HBW.out).mono ?_
  rintro e w5 ⟨rfl, hb⟩
  replace HBW := Lib.hid (HBW.out.trans (hb.mono HBW.out.size))
  clear hb HV2
  go_wp2_with fail
  go_ret
  exact ⟨by first | rfl | kernel_rfl, HBW.out⟩
/-- Hashes one behind the other. -/
def flatL (hs : List (List UInt8)) : List UInt8 := hs.flatten
theorem flatL_len : ∀ (hs : List (List UInt8)), (∀ r ∈ hs, r.length = 32) → (flatL hs).length = 32 * hs.length
  | [], _ => rfl
  | x :: r, h => by
    have := flatL_len r (fun y hy => h y (List.mem_cons_of_mem _ hy))
    have hx := h x (List.mem_cons_self ..)
    unfold flatL at this ⊢
    rw [List.flatten_cons, List.length_append, this, hx, List.length_cons]
    omega
theorem flatL_take {hs : List (List UInt8)} {k : Nat} (hk : k < hs.length) : flatL (hs.take (k + 1)) = flatL (hs.take k) ++ hs[k] := by
  unfold flatL
  rw [List.take_succ_eq_append_getElem hk, List.flatten_append]
  simp
set_option maxRecDepth 100000 in
set_option maxHeartbeats 8000000 in
theorem rhashes9_any (A : Option Addr) (n c : Nat) (hs : List (List UInt8)) (w : World) (hn : hs.length = n) (h1 : n ≤ 1000) (hl : ∀ r ∈ hs, r.length = 32) (hr : RdH w w.heap.size A hs) :
    Calls Tryd.prog 71 #[.slice A n c] w fun e w' => ∃ A' c', e = .returned (.slice A' (32 * n) c') ∧ w'.ownsRow w.heap.size 5 1 (.slice A' (32 * n) c') (32 * n) (Lib.byteCells (flatL hs)) ∧ Below w.heap.size w w' := by
  obtain ⟨i0, hi, hz0, hz1, hz2⟩ := info_parts info5
  have HN := Lib.hid hn
  have HL := Lib.hid hl
  have HR := Lib.hid hr
  clear hn hl hr
  go_enter Tryd.func71, Tryd.ntmps71
  go_wp2_with fail
  go_loopw [3, 7] (fun v t wq => ∃ (k L : Nat) (A' : Option Addr) (cc : Nat), k ≤ n ∧ L = 32 * k ∧ t = .int .i64 (k : Int) ∧ v = .slice A' L cc ∧ Hid (wq.ownsRow w.heap.size 5 1 (.slice A' L cc) L (Lib.byteCells (flatL (hs.take k)))) ∧ Hid (Below w.heap.size w wq)) (fun _ t _ => n - (intOf t).toNat)
  case atStart => exact ⟨0, 0, none, 0, Nat.zero_le _, rfl, rfl, rfl, Lib.hid (World.ownsRow_nil _ _ _ _), Lib.hid (Below.refl _ _)⟩
  case round =>
    obtain ⟨k, L, A', cc, hk, hLk, rfl, rfl, HO, HB⟩ := hrel
    by_cases hlt : k < n
    · have hki : (k : Int) < (n : Int) := by omega
      have hkl : k < hs.length := by rw [HN.out]; exact hlt
      have HST := Lib.hid (flatL_take hkl)
      obtain ⟨x, hx⟩ : ∃ x, hs[k] = x := ⟨_, rfl⟩
      have hxl : x.length = 32 := by rw [← hx]; exact HL.out _ (List.getElem_mem _)
      have hrq := HR.out.below HB.out (Nat.le_refl _)
      rcases hrq with h0 | ⟨b, off, rfl, hbs, hcs⟩
      · rw [h0] at hkl; simp at hkl
      have hra := hcs k hkl
      rw [hx] at hra HST
      have HRD := Lib.hid (show Rd wr wr.heap.size (some ⟨b, off + k * 32, none⟩) x from .inr ⟨b, off + k * 32, rfl, Nat.lt_of_lt_of_le hbs HB.out.size, fun j hj => hra j _ (by simp [Lib.byteCells, hj])⟩)
      have hsz := HB.out.size
      have hL : L ≤ 40000 := by omega
      have HLK := Lib.hid hLk
      have HXL := Lib.hid hxl
      clear hra hcs hx hLk hxl
      go_wp2_with (at_builtin; refine wpList_append_rd rfl _ _ 24 rfl w.heap.size 5 i0 Tryd.underlying24 hi hz0 hz1 hz2 _ L _ rfl HO.out _ (some ⟨b, off + k * 32, none⟩) 32 32 x rfl HXL.out HRD.out (by omega) hsz ?_)
      intro v5 w5 hown5 hg5
      rw [← Lib.byteCells_append, ← HST.out] at hown5
      obtain ⟨A5, c5, rfl, _⟩ := own_slice hown5
      have HB5 := Lib.hid (HB.out.grown hg5 hsz (fun q hq => (HO.out.lt q hq).1))
      have HO5 := Lib.hid hown5
      clear hown5 hg5 HO HB HRD
      go_wp2_with fail
      go_roundw
      case rel => exact ⟨k + 1, L + 32, A5, c5, hlt, by have := HLK.out; omega, by go_num, rfl, HO5, HB5⟩
      case measure => simp [intOf]; omega
    · obtain rfl : k = n := by omega
      have hni : ¬ (k : Int) < (k : Int) := by omega
      rw [List.take_of_length_le (by rw [HN.out]; exact Nat.le_refl _)] at HO
      rw [hLk] at HO ⊢
      clear hLk
      go_wp2_with fail
      go_ret
      exact ⟨A', cc, rfl, HO.out, HB.out⟩
/-- What a leaf signed, in memory: nil, or a slice that reads so. -/
def SgV (w : World) (v : Value) (l : List UInt8) : Prop := (l = [] ∧ v = .slice none 0 0) ∨ (l ≠ [] ∧ ∃ b o c, v = .slice (some ⟨b, o, none⟩) l.length c ∧ l.length ≤ c ∧ c ≤ maxLen ∧ Rd w w.heap.size (some ⟨b, o, none⟩) l)
set_option maxRecDepth 100000 in
set_option maxHeartbeats 8000000 in
theorem rsignedby_any (A : Option Addr) (n c : Nat) (rs : List (List UInt8)) (leaf : Int) (w : World) (hn : rs.length = n) (hl0 : -9223372036854775808 ≤ leaf) (hl1 : leaf ≤ 9223372036854775807) (hr : RdR w w.heap.size A rs) :
    Calls Tryd.prog 54 #[.slice A n c, .int .i64 leaf] w fun e w' => ∃ v, e = .returned v ∧ SgV w' v (signedV rs leaf) ∧ Below w.heap.size w w' := by
  have HN := Lib.hid hn
  by_cases h0 : leaf < 0
  · have HS := Lib.hid (show signedV rs leaf = [] by unfold signedV; rw [if_pos h0])
    rw [HS.out]
    go_enter Tryd.func54, Tryd.ntmps54
    go_wp2_with fail
    go_ret
    exact ⟨_, rfl, .inl ⟨rfl, rfl⟩, Below.refl _ _⟩
  · by_cases hge : leaf ≥ (n : Int)
    · have HS := Lib.hid (show signedV rs leaf = [] by
        unfold signedV
        rw [if_neg h0, List.getD_eq_getElem?_getD, List.getElem?_eq_none (by rw [HN.out]; omega)]
        rfl)
      rw [HS.out]
      clear hn
      go_enter Tryd.func54, Tryd.ntmps54
      go_wp2_with fail
      go_ret
      exact ⟨_, rfl, .inl ⟨rfl, rfl⟩, Below.refl _ _⟩
    · obtain ⟨i, hi⟩ : ∃ i : Nat, leaf = (i : Int) := ⟨leaf.toNat, by omega⟩
      subst hi
      have hin : i < rs.length := by rw [HN.out]; omega
      have hii : (i : Int) < (n : Int) := by omega
      have hi0 : (0 : Int) ≤ (i : Int) := by omega
      obtain ⟨b, off, A', c', rfl, hbl, hcell, hc1, hc2, hrd⟩ := hr.at_ i hin
      have HS := Lib.hid (show signedV rs (i : Int) = rs[i] by
        unfold signedV
        rw [if_neg h0, Int.toNat_natCast, List.getD_eq_getElem?_getD, List.getElem?_eq_getElem hin]
        rfl)
      rw [HS.out]
      obtain ⟨x, hx⟩ : ∃ x, rs[i] = x := ⟨_, rfl⟩
      rw [hx] at hcell hc1 hrd ⊢
      obtain ⟨L, hL⟩ : ∃ L, x.length = L := ⟨_, rfl⟩
      rw [hL] at hcell hc1
      have HRD := Lib.hid hrd
      have HLX := Lib.hid hL
      have HC := Lib.hid hc1
      have HCM := Lib.hid hc2
      clear hn hx hrd HS hL hc1 hc2
      by_cases hz : L = 0
      · subst hz
        go_enter Tryd.func54, Tryd.ntmps54
        go_wp2_with fail
        go_ret
        exact ⟨_, rfl, .inl ⟨List.eq_nil_of_length_eq_zero HLX.out, rfl⟩, Below.refl _ _⟩
      · have hzi : ¬ (L : Int) = 0 := by omega
        go_enter Tryd.func54, Tryd.ntmps54
        go_wp2_with fail
        go_ret
        have hne : x ≠ [] := fun e => hz (by rw [← HLX.out, e]; rfl)
        refine ⟨_, rfl, .inr ⟨hne, ?_⟩, Below.refl _ _⟩
        rcases HRD.out with h | ⟨b2, o2, rfl, h1, h2⟩
        · exact absurd h hne
        · exact ⟨b2, o2, c', by rw [HLX.out]; rfl, by rw [HLX.out]; exact HC.out, HCM.out, HRD.out⟩
end Go.Proofs.YtfgieebccjoboaaDoor
namespace Go.Proofs.YtfgieebccjoboaaDoor
open Go.RowKit

def put2 (n : Int) : List UInt8 := putL (putN n) 2
theorem put2_len (n : Int) : (put2 n).length = 2 := putL_length _ _
def packL (s : SigV) : List UInt8 := put1 s.h ++ put2 s.l ++ flatL s.vs ++ flatL s.ps
theorem rput2 (n : Int) (w : World) (hn : n ≤ 9223372036854775807) : Calls Tryd.prog 70 #[.int .i64 n, .int .i64 2] w fun e w' => ∃ A c, e = .returned (.slice A 2 c) ∧ 2 ≤ c ∧ c ≤ maxLen ∧ Rd w' w'.heap.size A (put2 n) ∧ Below w.heap.size w w' :=
  (rput_any n 2 w hn).mono fun _ _ ⟨A, c, he, ho, hb⟩ => by
    have e4 : putW 2 = 2 := rfl
    rw [e4] at he ho
    obtain ⟨A', c', e, h1, h2⟩ := own_caps ho
    injection e with e1 e2 e3
    subst e1 e3
    exact ⟨A, c, he, h1, h2, Rd.of_own ho, hb⟩
theorem rput1o (n : Int) (w : World) (hn : n ≤ 9223372036854775807) : Calls Tryd.prog 70 #[.int .i64 n, .int .i64 1] w fun e w' => ∃ A c, e = .returned (.slice A 1 c) ∧ 1 ≤ c ∧ w'.ownsRow w.heap.size 5 1 (.slice A 1 c) 1 (Lib.byteCells (put1 n)) ∧ Below w.heap.size w w' :=
  (rput_any n 1 w hn).mono fun _ _ ⟨A, c, he, ho, hb⟩ => by
    have e4 : putW 1 = 1 := rfl
    rw [e4] at he ho
    obtain ⟨A', c', e, h1, h2⟩ := own_caps ho
    injection e with e1 e2 e3
    subst e1 e3
    exact ⟨A, c, he, h1, ho, hb⟩
set_option maxRecDepth 100000 in
set_option maxHeartbeats 8000000 in
theorem rpack9_any (sh sl : Int) (vs ps : List (List UInt8)) (V P : Option Addr) (nv cv np cp : Nat) (w : World) (hh : sh ≤ 9223372036854775807) (hl : sl ≤ 9223372036854775807) (hv : HV w (.slice V nv cv) vs) (hvl : vs.length = nv) (hp : HV w (.slice P np cp) ps) (hpl : ps.length = np) (hnv : nv ≤ 1000) (hnp : np ≤ 1000) :
    Calls Tryd.prog 34 #[.agg #[.int .i64 sh, .int .i64 sl, .slice V nv cv, .slice P np cp]] w fun e w' => ∃ A c, e = .returned (.slice A (3 + 32 * nv + 32 * np) c) ∧ w'.ownsRow w.heap.size 5 1 (.slice A (3 + 32 * nv + 32 * np) c) (3 + 32 * nv + 32 * np) (Lib.byteCells (packL ⟨sh, sl, vs, ps⟩)) ∧ Below w.heap.size w w' := by
  obtain ⟨i0, hi, hz0, hz1, hz2⟩ := info_parts info5
  unfold packL
  simp only
  obtain ⟨pa, hpa⟩ : ∃ x, put1 sh = x := ⟨_, rfl⟩
  obtain ⟨pb, hpb⟩ : ∃ x, put2 sl = x := ⟨_, rfl⟩
  have HCAT := Lib.hid (show put1 sh ++ put2 sl ++ flatL vs ++ flatL ps = pa ++ (pb ++ flatL vs) ++ flatL ps by rw [hpa, hpb, List.append_assoc, List.append_assoc, List.append_assoc, List.append_assoc])
  have HPL := Lib.hid (show pb.length = 2 by rw [← hpb]; exact put2_len _)
  have HFV := Lib.hid (show (flatL vs).length = 32 * nv by rw [flatL_len vs hv.1, hvl])
  have HFP := Lib.hid (show (flatL ps).length = 32 * np by rw [flatL_len ps hp.1, hpl])
  go_enter Tryd.func34, Tryd.ntmps34
  go_upto_region 1 with fail
  generalize hw1 : World.alloc _ _ = w1
  obtain ⟨g1, hg1⟩ : ∃ g, w.heap.size = g := ⟨_, rfl⟩
  have hf : Blk w1 g1 #[.int .i64 sh, .int .i64 sl, .slice V nv cv, .slice P np cp] 35 ∧ Below w.heap.size w w1 := by
    rw [← hw1, ← hg1]
    exact ⟨Blk.new w _ _, (Below.refl _ _).alloc (Nat.le_refl _) _⟩
  have HBS := Lib.hid hf.1
  have HLT := Lib.hid hf.1.lt
  have HAL := Lib.hid hf.2
  have HBW := Lib.hid (Below.refl w1.heap.size w1)
  have HC0 := Lib.hid (fun W (hW : Below w1.heap.size w1 W) => (show W.cell? ⟨g1, 0, none⟩ = some (.int .i64 sh) by rw [(HBS.out.below hW HBS.out.lt).cell 0]; rfl))
  have HC1 := Lib.hid (fun W (hW : Below w1.heap.size w1 W) => (show W.cell? ⟨g1, 1, none⟩ = some (.int .i64 sl) by rw [(HBS.out.below hW HBS.out.lt).cell 1]; rfl))
  have HPA := Lib.hid (fun W (hW : Below w1.heap.size w1 W) => (show Calls Tryd.prog 70 #[.int .i64 sh, .int .i64 1] W fun e w' => ∃ A c, e = .returned (.slice A 1 c) ∧ 1 ≤ c ∧ w'.ownsRow w1.heap.size 5 1 (.slice A 1 c) 1 (Lib.byteCells pa) ∧ Below W.heap.size W w' from by
    rw [← hpa]
    refine (rput1o sh W hh).mono ?_
    rintro e w' ⟨A, c, he, hc, ho, hb⟩
    exact ⟨A, c, he, hc, own_baseK ho hW.size, hb⟩))
  have HPB := Lib.hid (fun W => (show Calls Tryd.prog 70 #[.int .i64 sl, .int .i64 2] W fun e w' => ∃ A c, e = .returned (.slice A 2 c) ∧ 2 ≤ c ∧ c ≤ maxLen ∧ Rd w' w'.heap.size A pb ∧ Below W.heap.size W w' from by rw [← hpb]; exact rput2 sl W hl))
  have HHV := Lib.hid (fun W (hW : Below w1.heap.size w1 W) => rhashes9_any V nv cv vs W hvl hnv hv.1 (hv.on (HAL.out.trans (hW.mono HAL.out.size))).rd8)
  have HHP := Lib.hid (fun W (hW : Below w1.heap.size w1 W) => rhashes9_any P np cp ps W hpl hnp hp.1 (hp.on (HAL.out.trans (hW.mono HAL.out.size))).rd8)
  clear hf hw1 hpa hpb hv hp hvl hpl
  rw [hg1]
  clear hg1
  refine wp_region_loose 6 2 (fun i => false) (promises [.is (.pointer (some ⟨g1, 0, none⟩)), .is (.int .i64 sh), .ob w1.heap.size 1 pa, .is (.pointer (some ⟨g1, 1, none⟩)), .is (.int .i64 sl), .byc 2 pb]) (by kernel_rfl) rfl (by kernel_rfl) (fun i v w w' h hb => Spec.keep h hb) ⟨?_, ?_, ?_, ?_, ?_, ?_, trivial⟩ ?_
  · refine StepOKl.of ?_
    intro ac w hb hu hk
    refine ⟨wanted_none rfl, ?_⟩
    have e1 : ac.eval (.tmp 1) = .pointer (some ⟨g1, 0, none⟩) := hu.is (t := 1) (by kernel_rfl)
    refine step_value (w' := w) (v := (.pointer (some ⟨g1, 0, none⟩))) ?_ (Below.refl _ _) rfl
    generalize ac.eval = ρ at e1 ⊢
    go_simp
  · refine StepOKl.of ?_
    intro ac w hb hu hk
    refine ⟨wanted_none rfl, ?_⟩
    have e4 : ac.eval (.tmp 4) = (.pointer (some ⟨g1, 0, none⟩)) := (hk ⟨0, .data⟩ (by simp) rfl).is rfl rfl
    have hc := HC0.out w hb
    refine step_value (w' := w) (v := .int .i64 sh) ?_ (Below.refl _ _) rfl
    generalize ac.eval = ρ at e4 ⊢
    go_simp
  · refine StepOKl.of ?_
    intro ac w hb hu hk
    refine ⟨wanted_none rfl, ?_⟩
    have e5 : ac.eval (.tmp 5) = (.int .i64 sh) := (hk ⟨1, .data⟩ (by simp) rfl).is rfl rfl
    have ef : ac.eval (.func 70) = .func (.func 70) #[] #[] := rfl
    have ec : ac.eval (.const (.int .i64 1)) = .int .i64 1 := rfl
    refine step_enter (f := 70) (args := #[.int .i64 sh, .int .i64 1]) ?_ ?_
    · generalize ac.eval = ρ at e5 ec ef ⊢
      go_simp
    · exact (HPA.out w hb).mono fun e w' ⟨A, c, he, hc, ho, hq⟩ => ⟨_, he, ⟨A, c, rfl, hc, ho⟩, hq⟩
  · refine StepOKl.of ?_
    intro ac w hb hu hk
    refine ⟨wanted_none rfl, ?_⟩
    have e1 : ac.eval (.tmp 1) = .pointer (some ⟨g1, 0, none⟩) := hu.is (t := 1) (by kernel_rfl)
    refine step_value (w' := w) (v := (.pointer (some ⟨g1, 1, none⟩))) ?_ (Below.refl _ _) rfl
    generalize ac.eval = ρ at e1 ⊢
    go_simp
  · refine StepOKl.of ?_
    intro ac w hb hu hk
    refine ⟨wanted_none rfl, ?_⟩
    have e7 : ac.eval (.tmp 7) = (.pointer (some ⟨g1, 1, none⟩)) := (hk ⟨3, .data⟩ (by simp) rfl).is rfl rfl
    have hc := HC1.out w hb
    refine step_value (w' := w) (v := .int .i64 sl) ?_ (Below.refl _ _) rfl
    generalize ac.eval = ρ at e7 ⊢
    go_simp
  · refine StepOKl.of ?_
    intro ac w hb hu hk
    refine ⟨wanted_none rfl, ?_⟩
    have e8 : ac.eval (.tmp 8) = (.int .i64 sl) := (hk ⟨4, .data⟩ (by simp) rfl).is rfl rfl
    have ef : ac.eval (.func 70) = .func (.func 70) #[] #[] := rfl
    have ec : ac.eval (.const (.int .i64 2)) = .int .i64 2 := rfl
    refine step_enter (f := 70) (args := #[.int .i64 sl, .int .i64 2]) ?_ ?_
    · generalize ac.eval = ρ at e8 ec ef ⊢
      go_simp
    · exact (HPB.out w).mono fun e w' ⟨A, c, he, hc, hm, hr, hq⟩ => ⟨_, he, ⟨A, c, rfl, hc, hm, hr⟩, hq⟩
  · intro ac w' hb hu hk hap
    obtain ⟨_, h4, rfl⟩ := (hk 0 (by decide)).put rfl rfl
    obtain ⟨_, h5, rfl⟩ := (hk 1 (by decide)).put rfl rfl
    obtain ⟨_, h6, ⟨X6, xc6, rfl, hxc6, hX6⟩⟩ := (hk 2 (by decide)).put rfl rfl
    obtain ⟨_, h7, rfl⟩ := (hk 3 (by decide)).put rfl rfl
    obtain ⟨_, h8, rfl⟩ := (hk 4 (by decide)).put rfl rfl
    obtain ⟨_, h9, ⟨X9, xc9, rfl, hxc9, hX9⟩⟩ := (hk 5 (by decide)).put rfl rfl
    clear hap
    have hF : AllPuts ac.tmps ((4, _) :: (5, _) :: (6, _) :: (7, _) :: (8, _) :: (9, _) :: []) := ⟨h4, h5, h6, h7, h8, h9, trivial⟩
    obtain rfl := frame_puts hu (by kernel_rfl) hF
    simp only [puts, Act.put, List.setIfInBounds_toArray, List.set_cons_zero, List.set_cons_succ, List.drop_succ_cons, List.drop_zero]
    clear hk hu hF h4 h5 h6 h7 h8 h9
    have hcs := HBS.out.below hb HBS.out.lt
    replace HBS := Lib.hid hcs
    replace HBW := Lib.hid (hb)
    have HO5 := Lib.hid hX6
    have HR5 := Lib.hid hX9
    have hs2 := HBS.out.cell 2
    simp at hs2
    clear hb hcs hX6 hX9 HPA HPB HC0 HC1
    go_wp2_with (at_builtin; refine wpList_append_rd rfl _ _ 24 rfl w1.heap.size 5 i0 Tryd.underlying24 hi hz0 hz1 hz2 _ 1 _ rfl HO5.out _ X9 2 xc9 pb rfl HPL.out HR5.out.2 (by omega) HBW.out.size ?_)
    intro v5 w5 hown5 hg5
    rw [← Lib.byteCells_append] at hown5
    obtain ⟨A5, c5, rfl, _⟩ := own_slice hown5
    have hbn := (Below.refl w1.heap.size w').grown hg5 HBW.out.size (fun q hq => (HO5.out.lt q hq).1)
    replace HBS := Lib.hid (HBS.out.below hbn HLT.out)
    replace HBW := Lib.hid (HBW.out.trans hbn)
    have HO := Lib.hid hown5
    have HHC := Lib.hid (HHV.out w5 HBW.out)
    have hs2 := HBS.out.cell 2
    simp at hs2
    clear hown5 hg5 hbn HO5 HR5 HHV
    go_wp2_with fail
    with_reducible refine (HHC.out).mono ?_
    rintro e w6 ⟨A6, c6, rfl, hown6, hbn⟩
    replace HO := Lib.hid (own_keepK HO.out hbn)
    replace HBS := Lib.hid (HBS.out.below hbn HBS.out.lt)
    replace HBW := Lib.hid (HBW.out.trans (hbn.mono HBW.out.size))
    have HR6 := Lib.hid (Rd.of_own hown6)
    clear hown6 hbn HHC hs2
    go_wp2_with (at_builtin; refine wpList_append_rd rfl _ _ 24 rfl w1.heap.size 5 i0 Tryd.underlying24 hi hz0 hz1 hz2 _ 3 _ rfl HO.out _ A6 (32 * nv) c6 (flatL vs) rfl HFV.out HR6.out (by omega) HBW.out.size ?_)
    intro v7 w7 hown7 hg7
    rw [← Lib.byteCells_append] at hown7
    obtain ⟨A7, c7, rfl, _⟩ := own_slice hown7
    have hbn := (Below.refl w1.heap.size w6).grown hg7 HBW.out.size (fun q hq => (HO.out.lt q hq).1)
    replace HBS := Lib.hid (HBS.out.below hbn HLT.out)
    replace HBW := Lib.hid (HBW.out.trans hbn)
    replace HO := Lib.hid hown7
    have HHC := Lib.hid (HHP.out w7 HBW.out)
    have hs3 := HBS.out.cell 3
    simp at hs3
    clear hown7 hg7 hbn HR6 HHP
    go_wp2_with fail
    with_reducible refine (HHC.out).mono ?_
    rintro e w8 ⟨A8, c8, rfl, hown8, hbn⟩
    replace HO := Lib.hid (own_keepK HO.out hbn)
    replace HBW := Lib.hid (HBW.out.trans (hbn.mono HBW.out.size))
    have HR8 := Lib.hid (Rd.of_own hown8)
    clear hown8 hbn HHC hs3 HBS
    go_wp2_with (at_builtin; refine wpList_append_rd rfl _ _ 24 rfl w1.heap.size 5 i0 Tryd.underlying24 hi hz0 hz1 hz2 _ (3 + 32 * nv) _ rfl HO.out _ A8 (32 * np) c8 (flatL ps) rfl HFP.out HR8.out (by omega) HBW.out.size ?_)
    intro v9 w9 hown9 hg9
    rw [← Lib.byteCells_append] at hown9
    obtain ⟨A9, c9, rfl, _⟩ := own_slice hown9
    have HBE := Lib.hid (HAL.out.trans ((HBW.out.trans ((Below.refl w1.heap.size w8).grown hg9 HBW.out.size (fun q hq => (HO.out.lt q hq).1))).mono HAL.out.size))
    have HOE := Lib.hid (own_baseK hown9 HAL.out.size)
    clear hown9 hg9 HO HR8 HBW
    go_wp2_with fail
    go_ret
    exact ⟨A9, c9, rfl, by rw [HCAT.out]; exact HOE.out, HBE.out⟩
end Go.Proofs.YtfgieebccjoboaaDoor
