/- The program's tree of hashes: the hashes beside a leaf's way. Two hashes turned round where they lie. Rows of rows of hashes, all from a block of the call's own on; two hashes in a slice; a way as pairs. The program's tree of hashes: the way from a leaf up. The first unlike pair of two trees, or of two ways, from above: the mathematics. The program's tree of hashes: Climb. The program's tree of hashes: Check. The library's Equal of two rows of hashes. The program's tree of hashes: where two trees, or two ways, are unlike. The program's tree of hashes: Break. The program's tree of hashes: Unlike. -/
import Derived.RegionTactic
import Derived.Test.YtndknifdajjalaaDoorPMpB
import Derived.Test.YtndknifdajjalaaDoorPRTMay
import Derived.Test.YtndknifdajjalaaDoorPWotsD
import Derived.Test.YtndknifdajjalaaDoorPRTClimb
import Derived.Test.YtndknifdajjalaaDoorPHashD
namespace Go.Proofs.YtndknifdajjalaaDoor
open Go.RowKit

set_option maxRecDepth 100000 in
set_option maxHeartbeats 8000000 in
theorem pproof_yes (A : Option Addr) (n c i : Nat) (hs : List (List UInt8)) (w : World) (hn : hs.length = n) (h1 : n ≤ 1024) (hi : i < n) (hl : ∀ r ∈ hs, r.length = 32) (hr : RdH w w.heap.size A hs) (htab : Pow10 w.heap.size w) :
    Calls Tryd.prog 44 #[.int .i64 (i : Int), .slice A n c] w fun e w' => ∃ v, e = .returned (.tuple #[v, .int .i64 0]) ∧ OwnH w' w.heap.size v (proofV hs i) ∧ Below w.heap.size w w' := by
  obtain ⟨K, hK⟩ : ∃ K, tree.high n = K := ⟨_, rfl⟩
  have hk10 : K ≤ 10 := by rw [← hK]; exact tree.high_least 10 n (by simpa using h1)
  have HLV := Lib.hid (show Calls Tryd.prog 52 #[.func (.func 53) #[] #[], .slice A n c] w fun e w' => ∃ v, e = .returned v ∧ RL w' w.heap.size v (levL K (rowH hs)) ∧ Below w.heap.size w w' by
    rw [← hK]
    exact plevels_any A n c hs w hn h1 hl hr htab)
  have hp1 : 2 ^ K ≤ 1024 := by rw [← hK]; exact high_small h1
  have HIK := Lib.hid (show i < 2 ^ K by
    have := tree.high_le n
    rw [hK] at this
    omega)
  have HRL := Lib.hid (show (rowH hs).length = 2 ^ K by rw [rowH_len, hn, hK])
  have HPV := Lib.hid (show proofV hs i = proofH K i (rowH hs) by unfold proofV; rw [hn, hK])
  rw [HPV.out]
  generalize rowH hs = R at *
  have hi0 : ¬ (i : Int) < 0 := by omega
  have hin : (i : Int) < (n : Int) := by omega
  clear hn hl hr htab hK HPV
  go_enter Tryd.func44, Tryd.ntmps44
  go_wp2_with fail
  with_reducible refine (HLV.out).mono ?_
  rintro e w2 ⟨v2, rfl, hrl2, hb2⟩
  obtain ⟨A2, c2, rfl, hc2, hcm2⟩ := hrl2.form (levL_len K R)
  obtain ⟨b2, rfl⟩ := RL.some hrl2 (by rw [levL_len]; omega)
  have HR2 := Lib.hid hrl2
  have HB2 := Lib.hid hb2
  have hw02 := hb2.size
  obtain ⟨N, hN⟩ : ∃ N, K + 1 = N := ⟨_, rfl⟩
  have hNK : (N : Int) - 1 = (K : Int) := by omega
  have hKc : (K : Int) ≤ (c2 : Int) := by omega
  have hK0 : (0 : Int) ≤ (K : Int) := by omega
  have hcm3 : (c2 : Int) ≤ 9223372036854775807 := by unfold maxLen at hcm2; omega
  rw [hN] at HR2 ⊢
  clear hrl2 hb2 HLV hN hc2
  go_wp2_with fail
  go_loopw [0, 7, 26] (fun t o v wr => ∃ j p : Nat, j ≤ K ∧ Hid (p = i / 2 ^ j) ∧ Hid (OwnH wr w2.heap.size o (proofH j i R)) ∧ t = .int .i64 (p : Int) ∧ v = .int .i64 (j : Int) ∧ Hid (Below w2.heap.size w2 wr)) (fun _ _ v _ => K - (intOf v).toNat)
  case atStart => exact ⟨0, i, Nat.zero_le _, Lib.hid (by simp), Lib.hid (OwnH.nil _ _), rfl, rfl, Lib.hid (Below.refl _ _)⟩
  case round =>
    obtain ⟨j, p, hjk, HP, HO, rfl, rfl, HBW⟩ := hrel
    by_cases hlt : j < K
    · have hji : (j : Int) < (K : Int) := by omega
      have HR3 := HR2.out.on HBW.out
      have hjl : j < (levL K R).length := by rw [levL_len]; omega
      obtain ⟨_, X, d, hcell, hv⟩ := HR3.at_ hjl
      rw [levL_at R hjl] at hcell hv
      obtain ⟨m, hm⟩ : ∃ m, (upNH j R).length = m := ⟨_, rfl⟩
      have HM := Lib.hid (show m = 2 ^ (K - j) by rw [← hm, upNH_len, HRL.out, Nat.pow_div hjk (by omega)])
      rw [hm] at hcell hv
      rw [Nat.zero_add] at hcell
      have hm1 : m ≤ 1024 := by
        rw [HM.out]
        exact Nat.le_trans (Nat.pow_le_pow_right (by omega) (Nat.sub_le K j)) hp1
      have HME := Lib.hid (show m % 2 = 0 by rw [HM.out, show K - j = K - (j + 1) + 1 by omega, Nat.pow_succ]; omega)
      have hpm : p < m := by
        rw [HP.out, HM.out, Nat.div_lt_iff_lt_mul (Nat.pow_pos (by omega)), ← Nat.pow_add, show K - j + j = K by omega]
        exact HIK.out
      obtain ⟨q, hq⟩ : ∃ q, tree.beside p = q := ⟨_, rfl⟩
      have hqm : q < m := by rw [← hq]; exact beside_lt hpm HME.out
      obtain ⟨b, off, rfl, hbw, hra, hl0⟩ := hv.at_ (i := q) hqm
      have HSN := Lib.hid (proofH_snoc j i R)
      rw [← HP.out, hq] at HSN
      obtain ⟨O3, d3, rfl, _, _⟩ := HO.out.form (proofH_len j i R)
      obtain ⟨wo, rfl⟩ : ∃ y : World, y = wr := ⟨_, rfl⟩
      have hp0 : (0 : Int) ≤ (p : Int) := by omega
      have hpi : (p : Int) < (m : Int) := by omega
      have hqi : (q : Int) < (m : Int) := by omega
      have hxor : bits BinOp.xor IntKind.i64 (p : Int) 1 = (q : Int) := by rw [xor_one (by omega), hq]
      have HP2 := Lib.hid (show p / 2 = i / 2 ^ (j + 1) by rw [HP.out, Nat.pow_succ, Nat.div_div_eq_div_mul])
      have hjl2 : (proofH j i R).length ≤ 1000000 := by rw [proofH_len]; omega
      generalize (upNH j R).getD q [] = x at *
      obtain ⟨Z, hZ⟩ : ∃ Z, u8A x = Z := ⟨_, rfl⟩
      have hzz : Z.size = 32 := by rw [← hZ, u8A_size, hl0]
      have HZZ := Lib.hid hZ
      have HRA := Lib.hid hra
      have HL0 := Lib.hid hl0
      have hal : Below wo.heap.size wo (wo.alloc (.cells Z 95)) := (Below.refl _ _).alloc (Nat.le_refl _) _
      have HOW := Lib.hid (HO.out.on hal)
      have HBZ := Lib.hid (show Blk (wo.alloc (.cells Z 95)) wo.heap.size (u8A x) 95 by
        rw [hZ]
        exact Blk.new _ _ _)
      have HBAL := Lib.hid (HBW.out.trans (hal.mono HBW.out.size))
      have hle2 : w2.heap.size ≤ (wo.alloc (.cells Z 95)).heap.size := HBAL.out.size
      clear hZ hra hl0 hq hal HO hbw hm HM HME HBW hv HR3 hjl hpm hqm
      go_wp2_with (first
        | (with_reducible refine wpList_load_hash rfl (.tmp 34) rfl b (off + q * 32) rfl x HL0.out HRA.out Z HZZ.out ?_)
        | (with_reducible refine wpList_build_hash rfl (.tmp 35) rfl Z rfl hzz ?_)
        | (at_builtin; refine wpList_append_hashG rfl _ _ rfl w2.heap.size _ (proofH j i R) rfl HOW.out wo.heap.size x HL0.out HBZ.out rfl hjl2 hle2 ?_))
      intro v7 w7 hown7 hg7
      rw [← HSN.out] at hown7
      have HB7 := Lib.hid (HBAL.out.grown hg7 hle2 (fun k hk => HOW.out.lt k hk))
      obtain ⟨O7, d7, hv7, _⟩ := hown7.form (proofH_len (j + 1) i R)
      subst hv7
      have HO7 := Lib.hid hown7
      clear hown7 hg7 HOW HBZ HBAL hle2 HRA
      go_wp2_with fail
      go_roundw
      case rel => exact ⟨j + 1, p / 2, hlt, HP2, HO7, by go_num, by go_num, HB7⟩
      case measure => simp [intOf]; omega
    · obtain rfl : j = K := by omega
      have hji : ¬ (j : Int) < (j : Int) := by omega
      obtain ⟨O3, d3, rfl, _, _⟩ := HO.out.form (proofH_len j i R)
      have HOB := Lib.hid (show OwnH wr w.heap.size (.slice O3 j d3) (proofH j i R) from ⟨HO.out.1, own_baseK HO.out.2 hw02⟩)
      have HBE := Lib.hid (HB2.out.trans (HBW.out.mono hw02))
      clear HO HBW
      go_wp2_with fail
      go_ret2
      exact ⟨_, rfl, HOB.out, HBE.out⟩

/-- A row of rows, all from block B on. -/
def RB (w : World) (B : Nat) (v : Value) (ls : List (List (List UInt8))) : Prop := ∃ vs, w.ownsRow B 36 1 v ls.length vs ∧ vs.length = ls.length ∧ ∀ i (h : i < ls.length), ∃ u, vs[i]? = some u ∧ OwnH w B u ls[i]
theorem RB.rl {w : World} {B : Nat} {v : Value} {ls : List (List (List UInt8))} (h : RB w B v ls) : RL w B v ls := by
  obtain ⟨vs, h1, h2, h3⟩ := h
  exact ⟨vs, h1, h2, fun i hi => by
    obtain ⟨u, h4, h5⟩ := h3 i hi
    exact ⟨u, h4, HxV.of h5⟩⟩
theorem RB.nil (w : World) (B : Nat) : RB w B (.slice none 0 0) [] := ⟨[], World.ownsRow_nil _ _ _ _, rfl, fun i h => by simp at h⟩
theorem RB.on {w w' : World} {B : Nat} {v : Value} {ls : List (List (List UInt8))} (h : RB w B v ls) (hb : Below w.heap.size w w') : RB w' B v ls := by
  obtain ⟨vs, h1, h2, h3⟩ := h
  exact ⟨vs, own_keepK h1 hb, h2, fun i hi => by
    obtain ⟨u, h4, h5⟩ := h3 i hi
    exact ⟨u, h4, h5.on hb⟩⟩
theorem RB.form {w : World} {B n : Nat} {v : Value} {ls : List (List (List UInt8))} (h : RB w B v ls) (hn : ls.length = n) : ∃ A c, v = .slice A n c ∧ n ≤ c ∧ c ≤ maxLen := h.rl.form hn
/-- A block ahead of all of them has changed. -/
theorem RB.far {w w' : World} {B g : Nat} {v : Value} {ls : List (List (List UInt8))} (h : RB w B v ls) (hg : w.grownBy w' (some g)) (hgB : g < B) : RB w' B v ls := by
  obtain ⟨vs, h1, h2, h3⟩ := h
  refine ⟨vs, ⟨h1.1, ?_⟩, h2, fun i hi => ?_⟩
  · rcases h1.2 with h0 | ⟨b, cap, cur, rfl, q1, q2, q3⟩
    · exact .inl h0
    · exact .inr ⟨b, cap, cur, rfl, q1, (hg.block b (Array.getElem?_eq_some_iff.1 q2).1 (fun e => by injection e with e; omega)).trans q2, q3⟩
  · obtain ⟨u, h4, h5⟩ := h3 i hi
    exact ⟨u, h4, h5.apart hg fun b hb e => by
      injection e with e
      have := h5.lt b hb
      omega⟩

end Go.Proofs.YtndknifdajjalaaDoor
