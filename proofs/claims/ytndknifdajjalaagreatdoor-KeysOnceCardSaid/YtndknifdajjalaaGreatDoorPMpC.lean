/- The program's many signatures: a leaf's signature. -/
import Derived.RegionTactic
import Derived.Test.YtndknifdajjalaaGreatDoorPMpB
import Derived.Test.YtndknifdajjalaaGreatDoorPRTMay
import Derived.Test.YtndknifdajjalaaGreatDoorPWotsD
import Derived.Test.YtndknifdajjalaaGreatDoorPRTClimb
import Derived.Test.YtndknifdajjalaaGreatDoorPHashD
namespace Go.Proofs.YtndknifdajjalaaGreatDoor
open Go.RowKit

set_option maxRecDepth 100000 in
set_option maxHeartbeats 8000000 in
theorem pproof_yes (A : Option Addr) (n c i : Nat) (hs : List (List UInt8)) (w : World) (hn : hs.length = n) (h1 : n ≤ 1024) (hi : i < n) (hl : ∀ r ∈ hs, r.length = 32) (hr : RdH w w.heap.size A hs) (htab : Pow10 w.heap.size w) :
    Calls Tryz.prog 97 #[.int .i64 (i : Int), .slice A n c] w fun e w' => ∃ v, e = .returned (.tuple #[v, .int .i64 0]) ∧ OwnH w' w.heap.size v (proofV hs i) ∧ Below w.heap.size w w' := by
  obtain ⟨K, hK⟩ : ∃ K, tree.high n = K := ⟨_, rfl⟩
  have hk10 : K ≤ 10 := by rw [← hK]; exact tree.high_least 10 n (by simpa using h1)
  have HLV := Lib.hid (show Calls Tryz.prog 109 #[.func (.func 110) #[] #[], .slice A n c] w fun e w' => ∃ v, e = .returned v ∧ RL w' w.heap.size v (levL K (rowH hs)) ∧ Below w.heap.size w w' by
    rw [← hK]
    exact plevels_any A n c hs w hn h1 hl hr htab)
  have hp1 : 2 ^ K ≤ 1024 := by rw [← hK]; exact high_small h1
  have HIK := Lib.hid (show i < 2 ^ K by
    have := tree.high_le n
    rw [hK] at this
    omega)
  have HRL := Lib.hid (show (rowH hs).length = 2 ^ K by rw [rowH_len, hn, hK])
  have HPV := Lib.hid (show proofV hs i = proofH K i (rowH hs) by unfold proofV; rw [hn, hK])
  rw [HPV.out]
  generalize rowH hs = R at *
  have hi0 : ¬ (i : Int) < 0 := by omega
  have hin : (i : Int) < (n : Int) := by omega
  clear hn hl hr htab hK HPV
  go_enter Tryz.func97, Tryz.ntmps97
  go_wp2_with fail
  with_reducible refine (HLV.out).mono ?_
  rintro e w2 ⟨v2, rfl, hrl2, hb2⟩
  obtain ⟨A2, c2, rfl, hc2, hcm2⟩ := hrl2.form (levL_len K R)
  obtain ⟨b2, rfl⟩ := RL.some hrl2 (by rw [levL_len]; omega)
  have HR2 := Lib.hid hrl2
  have HB2 := Lib.hid hb2
  have hw02 := hb2.size
  obtain ⟨N, hN⟩ : ∃ N, K + 1 = N := ⟨_, rfl⟩
  have hNK : (N : Int) - 1 = (K : Int) := by omega
  have hKc : (K : Int) ≤ (c2 : Int) := by omega
  have hK0 : (0 : Int) ≤ (K : Int) := by omega
  have hcm3 : (c2 : Int) ≤ 9223372036854775807 := by unfold maxLen at hcm2; omega
  rw [hN] at HR2 ⊢
  clear hrl2 hb2 HLV hN hc2
  go_wp2_with fail
  go_loopw [0, 7, 26] (fun t o v wr => ∃ j p : Nat, j ≤ K ∧ Hid (p = i / 2 ^ j) ∧ Hid (OwnH wr w2.heap.size o (proofH j i R)) ∧ t = .int .i64 (p : Int) ∧ v = .int .i64 (j : Int) ∧ Hid (Below w2.heap.size w2 wr)) (fun _ _ v _ => K - (intOf v).toNat)
  case atStart => exact ⟨0, i, Nat.zero_le _, Lib.hid (by simp), Lib.hid (OwnH.nil _ _), rfl, rfl, Lib.hid (Below.refl _ _)⟩
  case round =>
    obtain ⟨j, p, hjk, HP, HO, rfl, rfl, HBW⟩ := hrel
    by_cases hlt : j < K
    · have hji : (j : Int) < (K : Int) := by omega
      have HR3 := HR2.out.on HBW.out
      have hjl : j < (levL K R).length := by rw [levL_len]; omega
      obtain ⟨_, X, d, hcell, hv⟩ := HR3.at_ hjl
      rw [levL_at R hjl] at hcell hv
      obtain ⟨m, hm⟩ : ∃ m, (upNH j R).length = m := ⟨_, rfl⟩
      have HM := Lib.hid (show m = 2 ^ (K - j) by rw [← hm, upNH_len, HRL.out, Nat.pow_div hjk (by omega)])
      rw [hm] at hcell hv
      rw [Nat.zero_add] at hcell
      have hm1 : m ≤ 1024 := by
        rw [HM.out]
        exact Nat.le_trans (Nat.pow_le_pow_right (by omega) (Nat.sub_le K j)) hp1
      have HME := Lib.hid (show m % 2 = 0 by rw [HM.out, show K - j = K - (j + 1) + 1 by omega, Nat.pow_succ]; omega)
      have hpm : p < m := by
        rw [HP.out, HM.out, Nat.div_lt_iff_lt_mul (Nat.pow_pos (by omega)), ← Nat.pow_add, show K - j + j = K by omega]
        exact HIK.out
      obtain ⟨q, hq⟩ : ∃ q, tree.beside p = q := ⟨_, rfl⟩
      have hqm : q < m := by rw [← hq]; exact beside_lt hpm HME.out
      obtain ⟨b, off, rfl, hbw, hra, hl0⟩ := hv.at_ (i := q) hqm
      have HSN := Lib.hid (proofH_snoc j i R)
      rw [← HP.out, hq] at HSN
      obtain ⟨O3, d3, rfl, _, _⟩ := HO.out.form (proofH_len j i R)
      obtain ⟨wo, rfl⟩ : ∃ y : World, y = wr := ⟨_, rfl⟩
      have hp0 : (0 : Int) ≤ (p : Int) := by omega
      have hpi : (p : Int) < (m : Int) := by omega
      have hqi : (q : Int) < (m : Int) := by omega
      have hxor : bits BinOp.xor IntKind.i64 (p : Int) 1 = (q : Int) := by rw [xor_one (by omega), hq]
      have HP2 := Lib.hid (show p / 2 = i / 2 ^ (j + 1) by rw [HP.out, Nat.pow_succ, Nat.div_div_eq_div_mul])
      have hjl2 : (proofH j i R).length ≤ 1000000 := by rw [proofH_len]; omega
      generalize (upNH j R).getD q [] = x at *
      obtain ⟨Z, hZ⟩ : ∃ Z, u8A x = Z := ⟨_, rfl⟩
      have hzz : Z.size = 32 := by rw [← hZ, u8A_size, hl0]
      have HZZ := Lib.hid hZ
      have HRA := Lib.hid hra
      have HL0 := Lib.hid hl0
      have hal : Below wo.heap.size wo (wo.alloc (.cells Z 44)) := (Below.refl _ _).alloc (Nat.le_refl _) _
      have HOW := Lib.hid (HO.out.on hal)
      have HBZ := Lib.hid (show Blk (wo.alloc (.cells Z 44)) wo.heap.size (u8A x) 44 by
        rw [hZ]
        exact Blk.new _ _ _)
      have HBAL := Lib.hid (HBW.out.trans (hal.mono HBW.out.size))
      have hle2 : w2.heap.size ≤ (wo.alloc (.cells Z 44)).heap.size := HBAL.out.size
      clear hZ hra hl0 hq hal HO hbw hm HM HME HBW hv HR3 hjl hpm hqm
      go_wp2_with (first
        | (with_reducible refine wpList_load_hash rfl (.tmp 34) rfl b (off + q * 32) rfl x HL0.out HRA.out Z HZZ.out ?_)
        | (with_reducible refine wpList_build_hash rfl (.tmp 35) rfl Z rfl hzz ?_)
        | (at_builtin; refine wpList_append_hashG rfl _ _ rfl w2.heap.size _ (proofH j i R) rfl HOW.out wo.heap.size x HL0.out HBZ.out rfl hjl2 hle2 ?_))
      intro v7 w7 hown7 hg7
      rw [← HSN.out] at hown7
      have HB7 := Lib.hid (HBAL.out.grown hg7 hle2 (fun k hk => HOW.out.lt k hk))
      obtain ⟨O7, d7, hv7, _⟩ := hown7.form (proofH_len (j + 1) i R)
      subst hv7
      have HO7 := Lib.hid hown7
      clear hown7 hg7 HOW HBZ HBAL hle2 HRA
      go_wp2_with fail
      go_roundw
      case rel => exact ⟨j + 1, p / 2, hlt, HP2, HO7, by go_num, by go_num, HB7⟩
      case measure => simp [intOf]; omega
    · obtain rfl : j = K := by omega
      have hji : ¬ (j : Int) < (j : Int) := by omega
      obtain ⟨O3, d3, rfl, _, _⟩ := HO.out.form (proofH_len j i R)
      have HOB := Lib.hid (show OwnH wr w.heap.size (.slice O3 j d3) (proofH j i R) from ⟨HO.out.1, own_baseK HO.out.2 hw02⟩)
      have HBE := Lib.hid (HB2.out.trans (HBW.out.mono hw02))
      clear HO HBW
      go_wp2_with fail
      go_ret2
      exact ⟨_, rfl, HOB.out, HBE.out⟩

/-- A row of rows, all from block B on. -/
def RB (w : World) (B : Nat) (v : Value) (ls : List (List (List UInt8))) : Prop := ∃ vs, w.ownsRow B 37 1 v ls.length vs ∧ vs.length = ls.length ∧ ∀ i (h : i < ls.length), ∃ u, vs[i]? = some u ∧ OwnH w B u ls[i]
theorem RB.rl {w : World} {B : Nat} {v : Value} {ls : List (List (List UInt8))} (h : RB w B v ls) : RL w B v ls := by
  obtain ⟨vs, h1, h2, h3⟩ := h
  exact ⟨vs, h1, h2, fun i hi => by
    obtain ⟨u, h4, h5⟩ := h3 i hi
    exact ⟨u, h4, HxV.of h5⟩⟩
theorem RB.nil (w : World) (B : Nat) : RB w B (.slice none 0 0) [] := ⟨[], World.ownsRow_nil _ _ _ _, rfl, fun i h => by simp at h⟩
theorem RB.on {w w' : World} {B : Nat} {v : Value} {ls : List (List (List UInt8))} (h : RB w B v ls) (hb : Below w.heap.size w w') : RB w' B v ls := by
  obtain ⟨vs, h1, h2, h3⟩ := h
  exact ⟨vs, own_keepK h1 hb, h2, fun i hi => by
    obtain ⟨u, h4, h5⟩ := h3 i hi
    exact ⟨u, h4, h5.on hb⟩⟩
theorem RB.form {w : World} {B n : Nat} {v : Value} {ls : List (List (List UInt8))} (h : RB w B v ls) (hn : ls.length = n) : ∃ A c, v = .slice A n c ∧ n ≤ c ∧ c ≤ maxLen := h.rl.form hn
/-- A block ahead of all of them has changed. -/
theorem RB.far {w w' : World} {B g : Nat} {v : Value} {ls : List (List (List UInt8))} (h : RB w B v ls) (hg : w.grownBy w' (some g)) (hgB : g < B) : RB w' B v ls := by
  obtain ⟨vs, h1, h2, h3⟩ := h
  refine ⟨vs, ⟨h1.1, ?_⟩, h2, fun i hi => ?_⟩
  · rcases h1.2 with h0 | ⟨b, cap, cur, rfl, q1, q2, q3⟩
    · exact .inl h0
    · exact .inr ⟨b, cap, cur, rfl, q1, (hg.block b (Array.getElem?_eq_some_iff.1 q2).1 (fun e => by injection e with e; omega)).trans q2, q3⟩
  · obtain ⟨u, h4, h5⟩ := h3 i hi
    exact ⟨u, h4, h5.apart hg fun b hb e => by
      injection e with e
      have := h5.lt b hb
      omega⟩

theorem own_row {w : World} {B g : Nat} {v : Value} {hs : List (List UInt8)} (h : OwnH w B v hs) (hg : g < B) (cs : Array Value) : OwnH (w.setRow g cs) B v hs :=
  h.apart (setRow_grown w g cs) (fun q hq e => by have := h.lt q hq; have e2 := Option.some.inj e; omega)
/-- A signature's cells. -/
abbrev sigA (h l : Int) (V P : Option Addr) (nv cv np cp : Nat) : Array Value := #[.int .i64 h, .int .i64 l, .slice V nv cv, .slice P np cp]
abbrev sig0 : Array Value := sigA 0 0 none none 0 0 0 0
theorem sigA_size (h l : Int) (V P : Option Addr) (nv cv np cp : Nat) : (sigA h l V P nv cv np cp).size = 4 := rfl
theorem sigA_info (h l : Int) (V P : Option Addr) (nv cv np cp : Nat) : (Tryz.prog.info? 39 ).map (·.size) = some (sigA h l V P nv cv np cp).size := by rw [sigA_size]; kernel_rfl
theorem sigA_one (h l : Int) (V P : Option Addr) (nv cv np cp : Nat) : (sigA h l V P nv cv np cp).all (·.oneCell') = true := by simp [sigA, Value.oneCell']
theorem built_sig9 : Tryz.prog.built 39 [] = some sig0 := by kernel_rfl
theorem wpList_build_sig9 {w : World} {ops : Array Oper} {rest : List Oper} {o : Oper} {a : Act} {Q : Exit → Act → World → Prop} (hgd : o.guard = none) (ho : o.op = .build 39 #[])
    (hk : wpList Tryz.prog ops Q rest (a.put o.dst (.agg sig0)) w) : wpList Tryz.prog ops Q (o :: rest) a w := by
  have hb : Tryz.prog.built 39 ((#[] : Array (Nat × Operand)).map fun (i, x) => (i, a.eval x)).toList = some sig0 := by
    have h := built_sig9
    simp only [List.map_toArray, List.map_nil]
    exact h
  refine wpList_build (P := Tryz.prog) hgd 39 #[] ho (by rw [hb]; rfl) ?_
  rw [hb]
  exact hk
/-- The value is a signature of the call's own, told without an error. -/
def Spec.sg (B : Nat) (h l : Int) (K : Nat) (sg pv : List (List UInt8)) : Spec := .any (fun v w => ∃ V cv P cp, v = .tuple #[.agg (sigA h l V P 67 cv K cp), .int .i64 0] ∧ OwnH w B (.slice V 67 cv) sg ∧ OwnH w B (.slice P K cp) pv) (fun _ _ _ h hb => by
  obtain ⟨V, cv, P, cp, h1, h2, h3⟩ := h
  exact ⟨V, cv, P, cp, h1, h2.on hb, h3.on hb⟩)
/-- The value is a signature of the call's own. -/
def Spec.sa (B : Nat) (h l : Int) (K : Nat) (sg pv : List (List UInt8)) : Spec := .any (fun v w => ∃ V cv P cp, v = .agg (sigA h l V P 67 cv K cp) ∧ OwnH w B (.slice V 67 cv) sg ∧ OwnH w B (.slice P K cp) pv) (fun _ _ _ h hb => by
  obtain ⟨V, cv, P, cp, h1, h2, h3⟩ := h
  exact ⟨V, cv, P, cp, h1, h2.on hb, h3.on hb⟩)
set_option maxRecDepth 100000 in
set_option maxHeartbeats 8000000 in
theorem pundersign9_yes (A : Option Addr) (n c : Nat) (lv : List (List UInt8)) (sd : List UInt8) (h : Int) (i : Nat) (B : Option Addr) (nb cb : Nat) (m : List UInt8) (w : World) (hln : lv.length = n) (hn1 : n ≤ 1024) (hi : i < n) (hl32 : ∀ r ∈ lv, r.length = 32) (hr : RdH w w.heap.size A lv) (hs : sd.length = 16) (hm : m.length = nb) (h1 : nb ≤ 1000) (hc : nb ≤ cb) (hcm : cb ≤ maxLen) (hrm : Rd w w.heap.size B m) (htab : Pow10 w.heap.size w) :
    Calls Tryz.prog 66 #[.slice A n c, .agg (u8A sd), .int .i64 h, .int .i64 (i : Int), .slice B nb cb] w fun e w' => ∃ V cv P cp, e = .returned (.tuple #[.agg (sigA h (i : Int) V P 67 cv (proofV lv i).length cp), .int .i64 0]) ∧ OwnH w' w.heap.size (.slice V 67 cv) (atL (signF sd (i : Int) (digH (msgH m))) 67) ∧ OwnH w' w.heap.size (.slice P (proofV lv i).length cp) (proofV lv i) ∧ Below w.heap.size w w' := by
  obtain ⟨X, hX⟩ : ∃ x, u8A sd = x := ⟨_, rfl⟩
  have HEX := Lib.hid hX
  have HZX := Lib.hid (show X.size = 16 by rw [← hX, u8A_size]; exact hs)
  have HOX := Lib.hid (show X.all (·.oneCell') = true by rw [← hX]; exact u8A_one _)
  have HTAB := Lib.hid htab
  have HPF := Lib.hid (fun W (hW : Below w.heap.size w W) => pproof_yes A n c i lv W hln hn1 hi hl32 ((hr.below hW (Nat.le_refl _)).more hW.size) (tab_on htab hW hW.size))
  have HSG := Lib.hid (fun W (hW : Below w.heap.size w W) => (show Calls Tryz.prog 98 #[.agg X, .int .i64 (i : Int), .slice B nb cb] W _ from by
    rw [← hX]
    exact psign_any sd (i : Int) B nb cb m W hs (by omega) hm h1 hc hcm (hrm.on hW) (tab_on htab hW hW.size)))
  have HPL := Lib.hid (show (proofV lv i).length = (proofV lv i).length from rfl)
  have HSL := Lib.hid (atL_len (signF sd (i : Int) (digH (msgH m))) 67)
  generalize atL (signF sd (i : Int) (digH (msgH m))) 67 = sg at *
  generalize proofV lv i = pv at *
  obtain ⟨K, hK⟩ : ∃ K, pv.length = K := ⟨_, rfl⟩
  have HKL := Lib.hid hK
  rw [hX, hK]
  clear hX htab hr hrm hK HPL
  go_enter Tryz.func66, Tryz.ntmps66
  go_upto_region 1 with fail
  generalize hw1 : World.alloc _ _ = w3
  obtain ⟨g6, hg6⟩ : ∃ g, w.heap.size = g := ⟨_, rfl⟩
  obtain ⟨g10, hg10⟩ : ∃ g, w.heap.size + 1 = g := ⟨_, rfl⟩
  have hf : Blk w3 g6 X 23 ∧ (∃ rs, Blk w3 g10 rs 39 ∧ rs.size = 4) ∧ Below w.heap.size w w3 := by
    obtain ⟨Y10, hw, hY10⟩ : ∃ Y10, w3 = ((w.alloc (.cells X 23)).alloc (.cells Y10 39)) ∧ Y10.size = 4 := ⟨_, hw1.symm, rfl⟩
    have e1 : (w.alloc (.cells X 23)).heap.size = w.heap.size + 1 := by simp
    rw [hw, ← hg6, ← hg10]
    exact ⟨by exact (Blk.new _ _ _).alloc _, ⟨Y10, by rw [← e1]; exact Blk.new _ _ _, hY10⟩, (((Below.refl _ _).alloc (Nat.le_refl _) _).alloc (by simp) _)⟩
  have HB6 := Lib.hid hf.1
  obtain ⟨rs10, hrs10, hrz10⟩ := hf.2.1
  have HB10 := Lib.hid hrs10
  have HRZ10 := Lib.hid hrz10
  have HBW := Lib.hid hf.2.2
  have HG6 := Lib.hid (show w.heap.size ≤ g6 by omega)
  have HG10 := Lib.hid (show w.heap.size ≤ g10 by omega)
  clear hf hw1 hrs10 hrz10
  rw [hg10, hg6]
  clear hg6 hg10
  go_wp2_with fail
  with_reducible refine (HPF.out w3 HBW.out).mono ?_
  rintro e w4 ⟨v4, rfl, hown, hb⟩
  obtain ⟨P, cp, rfl, _, _⟩ := hown.form HKL.out
  have HGP := Lib.hid HBW.out.size
  have HOB := Lib.hid hown
  have HGL := Lib.hid (show g10 < w3.heap.size from HB10.out.lt)
  replace HB6 := Lib.hid (HB6.out.below hb HB6.out.lt)
  replace HB10 := Lib.hid (HB10.out.below hb HB10.out.lt)
  replace HBW := Lib.hid (HBW.out.trans (hb.mono HBW.out.size))
  clear hown hb HPF
  go_wp2_with (with_reducible refine wpList_load_blk rfl 23 (.tmp 6) rfl g6 rfl 23 X _ HB6.out Tryz.underlying23 rfl (by rw [HZX.out]; kernel_rfl) ?_)
  with_reducible refine (HSG.out w4 HBW.out).mono ?_
  rintro e w5 ⟨v5, rfl, hown, hb⟩
  obtain ⟨V, cv, rfl, _, _⟩ := hown.form HSL.out
  have HGV := Lib.hid (show g10 < w4.heap.size from HB10.out.lt)
  have HGQ := Lib.hid HBW.out.size
  have HOV := Lib.hid hown
  replace HOB := Lib.hid (HOB.out.on hb)
  replace HB10 := Lib.hid (HB10.out.below hb HB10.out.lt)
  replace HBW := Lib.hid (HBW.out.trans (hb.mono HBW.out.size))
  clear hown hb HSG HB6
  go_wp2_with (with_reducible refine wpList_store_blk rfl 39 (.tmp 10) (.tmp 31) rfl g10 (sigA h (i : Int) V P 67 cv K cp) rfl rfl 39 rs10 HB10.out (sigA_info _ _ _ _ _ _ _ _) (by rw [sigA_size, HRZ10.out]) (sigA_one _ _ _ _ _ _ _ _) ?_)
  refine bodyPost_ret (v := .tuple #[.agg (sigA h (i : Int) V P 67 cv K cp), .int .i64 0]) (results_cell_tmp (p := 10) (q := 11) (ty := 39) (by kernel_rfl) _ _ g10 39 _ (0, 0) _ (.int .i64 0) rfl rfl (HB10.out.row (sigA h (i : Int) V P 67 cv K cp)) Tryz.underlying39 rfl (sigA_info _ _ _ _ _ _ _ _)) rfl ⟨V, cv, P, cp, rfl, own_from (own_row HOV.out HGV.out _) HGQ.out, own_from (own_row HOB.out HGL.out _) HGP.out, below_row HBW.out HBW.out.size HG10.out _⟩
set_option maxRecDepth 100000 in
set_option maxHeartbeats 8000000 in
theorem psig9_yes (sd : List UInt8) (h : Int) (i : Nat) (B : Option Addr) (nb cb : Nat) (m : List UInt8) (w : World) (hi : i < cntN h) (hs : sd.length = 16) (hm : m.length = nb) (h1 : nb ≤ 1000) (hc : nb ≤ cb) (hcm : cb ≤ maxLen) (hrm : Rd w w.heap.size B m) (htab : Pow10 w.heap.size w) :
    Calls Tryz.prog 34 #[.agg (u8A sd), .int .i64 h, .int .i64 (i : Int), .slice B nb cb] w fun e w' => ∃ V cv P cp, e = .returned (.tuple #[.agg (sigA h (i : Int) V P 67 cv (proofV (pubsL sd (cntN h)) i).length cp), .int .i64 0]) ∧ OwnH w' w.heap.size (.slice V 67 cv) (atL (signF sd (i : Int) (digH (msgH m))) 67) ∧ OwnH w' w.heap.size (.slice P (proofV (pubsL sd (cntN h)) i).length cp) (proofV (pubsL sd (cntN h)) i) ∧ Below w.heap.size w w' := by
  obtain ⟨X, hX⟩ : ∃ x, u8A sd = x := ⟨_, rfl⟩
  have HEX := Lib.hid hX
  have HZX := Lib.hid (show X.size = 16 by rw [← hX, u8A_size]; exact hs)
  have HOX := Lib.hid (show X.all (·.oneCell') = true by rw [← hX]; exact u8A_one _)
  have hN16 := cntN_le h
  have HTAB := Lib.hid htab
  have HLV := Lib.hid (fun W (hW : Below w.heap.size w W) => (show Calls Tryz.prog 67 #[.agg X, .int .i64 h] W fun e w' => ∃ A c, e = .returned (.slice A (cntN h) c) ∧ cntN h ≤ c ∧ HV w' (.slice A (cntN h) c) (pubsL sd (cntN h)) ∧ Below W.heap.size W w' from by
    rw [← hX]
    refine (pleaves9_any sd h W hs (tab_on htab hW hW.size)).mono ?_
    rintro e w' ⟨v, rfl, ho, hb⟩
    obtain ⟨A, c, rfl, hc, _⟩ := ho.form (pubsL_len _ _)
    exact ⟨A, c, rfl, hc, ho.hv, hb⟩))
  have HSU := Lib.hid (fun A c W (hW : Below w.heap.size w W) (hv : HV W (.slice A (cntN h) c) (pubsL sd (cntN h))) => (show Calls Tryz.prog 66 #[.slice A (cntN h) c, .agg X, .int .i64 h, .int .i64 (i : Int), .slice B nb cb] W _ from by
    rw [← hX]
    exact pundersign9_yes A (cntN h) c (pubsL sd (cntN h)) sd h i B nb cb m W (pubsL_len _ _) (by omega) hi (pubsL_32 _ _) hv.rd8 hs hm h1 hc hcm (hrm.on hW) (tab_on htab hW hW.size)))
  generalize atL (signF sd (i : Int) (digH (msgH m))) 67 = sg at *
  generalize proofV (pubsL sd (cntN h)) i = pv at *
  obtain ⟨lv, hlv⟩ : ∃ lv, pubsL sd (cntN h) = lv := ⟨_, rfl⟩
  rw [hlv] at HLV HSU
  obtain ⟨N, hN⟩ : ∃ N, cntN h = N := ⟨_, rfl⟩
  rw [hN] at HLV HSU
  obtain ⟨K, hK⟩ : ∃ K, pv.length = K := ⟨_, rfl⟩
  rw [hK] at HSU
  rw [hX, hK]
  clear hX htab hrm hK hlv hN hi hN16
  go_enter Tryz.func34, Tryz.ntmps34
  go_upto_region 1 with fail
  generalize hw1 : World.alloc _ _ = w3
  obtain ⟨g4, hg4⟩ : ∃ g, w.heap.size = g := ⟨_, rfl⟩
  obtain ⟨g8, hg8⟩ : ∃ g, w.heap.size + 1 = g := ⟨_, rfl⟩
  have hf : Blk w3 g4 X 23 ∧ (∃ rs, Blk w3 g8 rs 39 ∧ rs.size = 4) ∧ Below w.heap.size w w3 := by
    obtain ⟨Y8, hw, hY8⟩ : ∃ Y8, w3 = ((w.alloc (.cells X 23)).alloc (.cells Y8 39)) ∧ Y8.size = 4 := ⟨_, hw1.symm, rfl⟩
    have e1 : (w.alloc (.cells X 23)).heap.size = w.heap.size + 1 := by simp
    rw [hw, ← hg4, ← hg8]
    exact ⟨by exact (Blk.new _ _ _).alloc _, ⟨Y8, by rw [← e1]; exact Blk.new _ _ _, hY8⟩, (((Below.refl _ _).alloc (Nat.le_refl _) _).alloc (by simp) _)⟩
  have HB4 := Lib.hid hf.1
  obtain ⟨rs8, hrs8, hrz8⟩ := hf.2.1
  have HB8 := Lib.hid hrs8
  have HRZ8 := Lib.hid hrz8
  have HBW := Lib.hid hf.2.2
  have HG4 := Lib.hid (show w.heap.size ≤ g4 by omega)
  have HG8 := Lib.hid (show w.heap.size ≤ g8 by omega)
  clear hf hw1 hrs8 hrz8
  rw [hg8, hg4]
  clear hg4 hg8
  have HBX := Lib.hid (fun W (hW : Below w3.heap.size w3 W) => HB4.out.below hW HB4.out.lt)
  refine wp_region_loose 10 2 (fun i => false) (promises [.is (.agg X), .is (.int .i64 h), .hv N lv, .is (.agg X), .is (.int .i64 h), .is (.int .i64 (i : Int)), .is (.slice B nb cb), .sg w3.heap.size h (i : Int) K sg pv, .sa w3.heap.size h (i : Int) K sg pv, .is (.int .i64 0)]) (by kernel_rfl) rfl (by kernel_rfl) (fun i v w w' h hb => Spec.keep h hb) ⟨?_, ?_, ?_, ?_, ?_, ?_, ?_, ?_, ?_, ?_, trivial⟩ ?_
  · refine StepOKl.of ?_
    intro ac w hb hu hk
    refine ⟨wanted_none rfl, ?_⟩
    have e4 : ac.eval (.tmp 4) = .pointer (some ⟨g4, 0, none⟩) := hu.is (t := 4) (by kernel_rfl)
    exact wp_load_row 23 (.tmp 4) rfl g4 e4 23 X (0, 0) _ (HBX.out w hb) Tryz.underlying23 rfl (by rw [HZX.out]; kernel_rfl) ⟨_, rfl, rfl, Below.refl _ _⟩
  · refine StepOKl.of ?_
    intro ac w hb hu hk
    refine ⟨wanted_none rfl, ?_⟩
    have e1 : ac.eval (.tmp 1) = .int .i64 h := hu.is (t := 1) (by kernel_rfl)
    exact step_value (BigFrame.run_move (.tmp 1) rfl w) (Below.refl _ _) e1
  · refine StepOKl.of ?_
    intro ac w hb hu hk
    refine ⟨wanted_none rfl, ?_⟩
    have e10 : ac.eval (.tmp 10) = (.agg X) := (hk ⟨0, .data⟩ (by simp) rfl).is rfl rfl
    have e11 : ac.eval (.tmp 11) = (.int .i64 h) := (hk ⟨1, .data⟩ (by simp) rfl).is rfl rfl
    have ef : ac.eval (.func 67) = .func (.func 67) #[] #[] := rfl
    refine step_enter (f := 67) (args := #[.agg X, .int .i64 h]) ?_ ?_
    · generalize ac.eval = ρ at e10 e11 ef ⊢
      go_simp
    · exact (HLV.out w (HBW.out.trans (hb.mono HBW.out.size))).mono fun e w' ⟨A, c, he, hc, hv, hq⟩ => ⟨_, he, ⟨A, c, rfl, hc, hv⟩, hq⟩
  · refine StepOKl.of ?_
    intro ac w hb hu hk
    refine ⟨wanted_none rfl, ?_⟩
    have e4 : ac.eval (.tmp 4) = .pointer (some ⟨g4, 0, none⟩) := hu.is (t := 4) (by kernel_rfl)
    exact wp_load_row 23 (.tmp 4) rfl g4 e4 23 X (0, 0) _ (HBX.out w hb) Tryz.underlying23 rfl (by rw [HZX.out]; kernel_rfl) ⟨_, rfl, rfl, Below.refl _ _⟩
  · refine StepOKl.of ?_
    intro ac w hb hu hk
    refine ⟨wanted_none rfl, ?_⟩
    have e1 : ac.eval (.tmp 1) = .int .i64 h := hu.is (t := 1) (by kernel_rfl)
    exact step_value (BigFrame.run_move (.tmp 1) rfl w) (Below.refl _ _) e1
  · refine StepOKl.of ?_
    intro ac w hb hu hk
    refine ⟨wanted_none rfl, ?_⟩
    have e2 : ac.eval (.tmp 2) = .int .i64 (i : Int) := hu.is (t := 2) (by kernel_rfl)
    exact step_value (BigFrame.run_move (.tmp 2) rfl w) (Below.refl _ _) e2
  · refine StepOKl.of ?_
    intro ac w hb hu hk
    refine ⟨wanted_none rfl, ?_⟩
    have e3 : ac.eval (.tmp 3) = .slice B nb cb := hu.is (t := 3) (by kernel_rfl)
    exact step_value (BigFrame.run_move (.tmp 3) rfl w) (Below.refl _ _) e3
  · refine StepOKl.of ?_
    intro ac w hb hu hk
    refine ⟨wanted_none rfl, ?_⟩
    have e12 : ∃ X c, ac.eval (.tmp 12) = .slice X N c ∧ N ≤ c ∧ HV w (.slice X N c) lv := (hk ⟨2, .data⟩ (by simp) rfl).is rfl rfl
    have e13 : ac.eval (.tmp 13) = (.agg X) := (hk ⟨3, .data⟩ (by simp) rfl).is rfl rfl
    have e14 : ac.eval (.tmp 14) = (.int .i64 h) := (hk ⟨4, .data⟩ (by simp) rfl).is rfl rfl
    have e15 : ac.eval (.tmp 15) = (.int .i64 (i : Int)) := (hk ⟨5, .data⟩ (by simp) rfl).is rfl rfl
    have e16 : ac.eval (.tmp 16) = (.slice B nb cb) := (hk ⟨6, .data⟩ (by simp) rfl).is rfl rfl
    obtain ⟨X12, x12, eX12, hx12, hR12⟩ := e12
    have ef : ac.eval (.func 66) = .func (.func 66) #[] #[] := rfl
    refine step_enter (f := 66) (args := #[.slice X12 N x12, .agg X, .int .i64 h, .int .i64 (i : Int), .slice B nb cb]) ?_ ?_
    · generalize ac.eval = ρ at eX12 e13 e14 e15 e16 ef ⊢
      go_simp
    · exact (HSU.out X12 x12 w (HBW.out.trans (hb.mono HBW.out.size)) hR12).mono fun e w' ⟨V, cv, P, cp, he, hv, hp, hq⟩ => ⟨_, he, ⟨V, cv, P, cp, rfl, own_from hv hb.size, own_from hp hb.size⟩, hq⟩
  · refine StepOKl.of ?_
    intro ac w hb hu hk
    refine ⟨wanted_none rfl, ?_⟩
    have e17 : ∃ V cv P cp, ac.eval (.tmp 17) = .tuple #[.agg (sigA h (i : Int) V P 67 cv K cp), .int .i64 0] ∧ OwnH w w3.heap.size (.slice V 67 cv) sg ∧ OwnH w w3.heap.size (.slice P K cp) pv := (hk ⟨7, .data⟩ (by simp) rfl).is rfl rfl
    obtain ⟨V, cv, P, cp, eX, hv, hp⟩ := e17
    refine step_value (w' := w) (v := .agg (sigA h (i : Int) V P 67 cv K cp)) ?_ (Below.refl _ _) ⟨V, cv, P, cp, rfl, hv, hp⟩
    generalize ac.eval = ρ at eX ⊢
    go_simp
  · refine StepOKl.of ?_
    intro ac w hb hu hk
    refine ⟨wanted_none rfl, ?_⟩
    have e17 : ∃ V cv P cp, ac.eval (.tmp 17) = .tuple #[.agg (sigA h (i : Int) V P 67 cv K cp), .int .i64 0] ∧ OwnH w w3.heap.size (.slice V 67 cv) sg ∧ OwnH w w3.heap.size (.slice P K cp) pv := (hk ⟨7, .data⟩ (by simp) rfl).is rfl rfl
    obtain ⟨V, cv, P, cp, eX, hv, hp⟩ := e17
    refine step_value (w' := w) (v := .int .i64 0) ?_ (Below.refl _ _) rfl
    generalize ac.eval = ρ at eX ⊢
    go_simp
  · intro ac w' hb hu hk hap
    obtain ⟨_, h10, rfl⟩ := (hk 0 (by decide)).put rfl rfl
    obtain ⟨_, h11, rfl⟩ := (hk 1 (by decide)).put rfl rfl
    obtain ⟨_, h12, ⟨X12, xc12, rfl, hxc12, hX12⟩⟩ := (hk 2 (by decide)).put rfl rfl
    obtain ⟨_, h13, rfl⟩ := (hk 3 (by decide)).put rfl rfl
    obtain ⟨_, h14, rfl⟩ := (hk 4 (by decide)).put rfl rfl
    obtain ⟨_, h15, rfl⟩ := (hk 5 (by decide)).put rfl rfl
    obtain ⟨_, h16, rfl⟩ := (hk 6 (by decide)).put rfl rfl
    obtain ⟨_, h17, ⟨V17, cv17, P17, cp17, rfl, hV17, hP17⟩⟩ := (hk 7 (by decide)).put rfl rfl
    obtain ⟨_, h18, ⟨V18, cv18, P18, cp18, rfl, hV18, hP18⟩⟩ := (hk 8 (by decide)).put rfl rfl
    obtain ⟨_, h19, rfl⟩ := (hk 9 (by decide)).put rfl rfl
    clear hap
    have hF : AllPuts ac.tmps ((10, _) :: (11, _) :: (12, _) :: (13, _) :: (14, _) :: (15, _) :: (16, _) :: (17, _) :: (18, _) :: (19, _) :: []) := ⟨h10, h11, h12, h13, h14, h15, h16, h17, h18, h19, trivial⟩
    obtain rfl := frame_puts hu (by kernel_rfl) hF
    simp only [puts, Act.put, List.setIfInBounds_toArray, List.set_cons_zero, List.set_cons_succ, List.drop_succ_cons, List.drop_zero]
    clear hk hu hF h10 h11 h12 h13 h14 h15 h16 h17 h18 h19
    obtain ⟨V, hVE⟩ : ∃ V, V18 = V := ⟨_, rfl⟩
    obtain ⟨cv, hcE⟩ : ∃ V, cv18 = V := ⟨_, rfl⟩
    obtain ⟨P, hPE⟩ : ∃ V, P18 = V := ⟨_, rfl⟩
    obtain ⟨cp, hdE⟩ : ∃ V, cp18 = V := ⟨_, rfl⟩
    rw [hVE, hcE, hPE, hdE]
    rw [hVE, hcE] at hV18
    rw [hPE, hdE] at hP18
    have hbw := HBW.out.trans (hb.mono HBW.out.size)
    have HV1 := Lib.hid hV18
    have HV2 := Lib.hid hP18
    have HGL := Lib.hid (show g8 < w3.heap.size from HB8.out.lt)
    have HGP := Lib.hid HBW.out.size
    replace HB8 := Lib.hid (HB8.out.below hb HB8.out.lt)
    replace HBW := Lib.hid hbw
    clear hb hbw hV18 hP18 hVE hcE hPE hdE HBX HB4 HLV HSU
    go_wp2_with (with_reducible refine wpList_store_blk rfl 39 (.tmp 8) (.tmp 18) rfl g8 (sigA h (i : Int) V P 67 cv K cp) rfl rfl 39 rs8 HB8.out (sigA_info _ _ _ _ _ _ _ _) (by rw [sigA_size, HRZ8.out]) (sigA_one _ _ _ _ _ _ _ _) ?_)
    refine bodyPost_ret (v := .tuple #[.agg (sigA h (i : Int) V P 67 cv K cp), .int .i64 0]) (results_cell_tmp (p := 8) (q := 9) (ty := 39) (by kernel_rfl) _ _ g8 39 _ (0, 0) _ (.int .i64 0) rfl rfl (HB8.out.row (sigA h (i : Int) V P 67 cv K cp)) Tryz.underlying39 rfl (sigA_info _ _ _ _ _ _ _ _)) rfl ⟨V, cv, P, cp, rfl, own_from (own_row HV1.out HGL.out _) HGP.out, own_from (own_row HV2.out HGL.out _) HGP.out, below_row HBW.out HBW.out.size HG8.out _⟩
end Go.Proofs.YtndknifdajjalaaGreatDoor
