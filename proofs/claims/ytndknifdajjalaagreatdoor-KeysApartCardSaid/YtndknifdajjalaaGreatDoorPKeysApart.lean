/- KeysApart: keystores of unlike names on one store do not know of each other; what is signed verifies under its own print. For all seeds and messages. -/
import Derived.Deep.CutRange
import Derived.Test.YtndknifdajjalaaGreatDoorPLaw
import Derived.Test.YtndknifdajjalaaGreatDoorPKeyV
import Derived.Test.YtndknifdajjalaaGreatDoorPKeep
namespace Go.Proofs.YtndknifdajjalaaGreatDoor.keysApart
open Go.ChangeShapes Go.WideShapes Go.ChangeAt Go.RowKit

/-- What the first keystore has put. -/
def Put1 (L : List (Rec11 × Nat)) (j : Nat) : Prop := (j = 0 → Sto.get ⟨L, false⟩ [97] = none) ∧ (1 ≤ j → Sto.get ⟨L, false⟩ [97] = some (putL j 4))
theorem Put1.short {L : List (Rec11 × Nat)} {j : Nat} (h : Put1 L j) : ShortIn ⟨L, false⟩ [97] := by
  rcases Nat.eq_zero_or_pos j with h0 | h0
  · exact short_none (h.1 h0)
  · exact short_four (h.2 h0)
theorem Put1.next {L : List (Rec11 × Nat)} {j : Nat} (h : Put1 L j) (hj : j < 4294967296) : nextOf ⟨L, false⟩ [97] j = j := by
  rcases Nat.eq_zero_or_pos j with h0 | h0
  · exact next_none (h.1 h0) j
  · rw [next_four hj (h.2 h0)]; omega
set_option maxRecDepth 100000 in
set_option maxHeartbeats 16000000 in
theorem walk (sa sb : List UInt8) (A : Option Addr) (nA cA : Nat) (la : List (List UInt8)) (w : World) (hsa : sa.length = 16) (hsb : sb.length = 16) (hla : la.length = nA) (hca : nA ≤ cA) (hcma : cA ≤ maxLen) (hra : RdR w w.heap.size A la) (htab : Pow10 w.heap.size w) :
    Calls Tryz.prog 3 #[.agg (u8A sa), .agg (u8A sb), .slice A nA cA] w fun e w' => e = .returned (.bool true) ∧ Below w.heap.size w w' := by
  have HT := Lib.hid htab
  have HRA := Lib.hid hra
  have HNA := Lib.hid hla
  have hma : nA ≤ maxLen := by omega
  unfold maxLen at hma
  obtain ⟨X, hX⟩ : ∃ x, u8A sa = x := ⟨_, rfl⟩
  have HX := Lib.hid hX
  have HZX := Lib.hid (show X.size = 16 by rw [← hX, u8A_size]; exact hsa)
  have HSA := Lib.hid hsa
  obtain ⟨Y, hY⟩ : ∃ x, u8A sb = x := ⟨_, rfl⟩
  have HY := Lib.hid hY
  have HZY := Lib.hid (show Y.size = 16 by rw [← hY, u8A_size]; exact hsb)
  have HSB := Lib.hid hsb
  rw [hX, hY]
  clear htab hra hla hsa hsb hX hY hca hcma
  go_enter Tryz.func3, Tryz.ntmps3
  go_upto_region 1 with fail
  generalize hw1 : World.alloc _ _ = w3
  have hf : Blk w3 w.heap.size X 23 ∧ Blk w3 (w.heap.size + 1) Y 23 ∧ Below w.heap.size w w3 := by
    have hw : w3 = ((w.alloc (.cells X 23)).alloc (.cells Y 23)) := hw1.symm
    have e1 : (w.alloc (.cells X 23)).heap.size = w.heap.size + 1 := by simp
    rw [hw]
    exact ⟨(Blk.new _ _ _).alloc _, by rw [← e1]; exact Blk.new _ _ _, ((Below.refl _ _).alloc (Nat.le_refl _) _).alloc (by simp) _⟩
  have HB3 := Lib.hid hf.1
  have HB4 := Lib.hid hf.2.1
  have HBW := Lib.hid hf.2.2
  clear hf hw1
  go_wp2_with fail
  with_reducible refine (pnew_at 24 24 rfl w3 (by omega) (by omega)).mono ?_
  rintro e w1 ⟨p, rfl, hp, g, hg, D1, hb1⟩
  have HD1 := Lib.hid (show DP w1 p g (6 * (3 + 1)) 24 (newD (6 * (3 + 1))) from D1)
  clear D1
  go_wp2_with fail
  with_reducible refine (open_re HD1.out (by omega) (by omega) (new_re 3 6) rfl (i := 6) (j := 3) rfl rfl).mono ?_
  rintro e w2 ⟨q, b, rfl, hq, hb, S2, L2, C2⟩
  rw [new_same] at S2 L2
  have HS2 := Lib.hid S2
  have HL2 := Lib.hid L2
  have hb12 := hb1.trans (C2.below hb1.size (two_ge hp hg))
  have HGE := Lib.hid (fun j hj => Nat.le_trans HBW.out.size (fourS_ge (Nat.le_trans hb1.size hq) hp hg (Nat.le_trans hb1.size hb) j hj))
  have HB2 := Lib.hid (HBW.out.trans (hb12.mono HBW.out.size))
  replace HB3 := Lib.hid (HB3.out.below hb12 HB3.out.lt)
  replace HB4 := Lib.hid (HB4.out.below hb12 HB4.out.lt)
  have H4 := Lib.hid S2.four_lt
  clear S2 L2 C2 HD1 hb1 hb12 hq hb hp hg HBW
  have hga : Sto.get ⟨[], false⟩ [97] = none := rfl
  have hgb : Sto.get ⟨[], false⟩ [98] = none := rfl
  have HO := Lib.hid (popenk_any (name := [97]) (sd := sa) (h := 1) HS2.out (short_none hga) HSA.out (by omega) (by simp) (i := 1) rfl (nb := ⟨#[97]⟩) rfl)
  rw [HX.out, next_none hga] at HO
  go_wp2_with (with_reducible refine wpList_load_blk rfl 23 (.tmp 3) rfl w.heap.size rfl 23 X _ HB3.out Tryz.underlying23 rfl (by rw [HZX.out]; kernel_rfl) ?_)
  with_reducible refine HO.out.mono ?_
  rintro e w4 ⟨k, rfl, hk, K4, hb4⟩
  have HK4 := Lib.hid K4
  have HS4 := Lib.hid (HS2.out.below hb4)
  have HBB := Lib.hid (HB2.out.trans (hb4.mono HB2.out.size))
  have HAP := Lib.hid (Apart5.of_lt (k := k) fun j hj => Nat.lt_of_lt_of_le (H4.out j hj) hk)
  have HG5 := Lib.hid (fiveS_ge (Nat.le_trans HB2.out.size hk) HGE.out)
  replace HB4 := Lib.hid (HB4.out.below hb4 HB4.out.lt)
  clear K4 hb4 HO HS2 HB2 HB3 hk
  have HO := Lib.hid (popenk_any (name := [98]) (sd := sb) (h := 1) HS4.out (short_none hgb) HSB.out (by omega) (by simp) (i := 1) rfl (nb := ⟨#[98]⟩) rfl)
  rw [HY.out, next_none hgb] at HO
  go_wp2_with (with_reducible refine wpList_load_blk rfl 23 (.tmp 4) rfl (w.heap.size + 1) rfl 23 Y _ HB4.out Tryz.underlying23 rfl (by rw [HZY.out]; kernel_rfl) ?_)
  with_reducible refine HO.out.mono ?_
  rintro e w5 ⟨l, rfl, hl, K5, hb5⟩
  have HL5 := Lib.hid K5
  have HK5 := Lib.hid (HK4.out.below hb5)
  have HS5 := Lib.hid (HS4.out.below hb5)
  have HB5 := Lib.hid (HBB.out.trans (hb5.mono HBB.out.size))
  have HAL := Lib.hid (Apart5.of_lt (k := l) fun j hj => Nat.lt_of_lt_of_le (HS4.out.four_lt j hj) hl)
  have HG6 := Lib.hid (fiveS_ge (Nat.le_trans HBB.out.size hl) HGE.out)
  have HKL := Lib.hid (show k ≠ l by have := HK4.out.lt; omega)
  clear K5 hb5 HO HS4 HBB HB4 HK4 H4 hl
  go_wp2_with fail
  go_loopw [15] (fun t wr => ∃ (j : Nat) (s : Dsk) (L : List (Rec11 × Nat)), j ≤ 2 ∧ t = .int .i64 j ∧ Hid (KS wr k q ⟨#[97]⟩ sa 1 j) ∧ Hid (KS wr l q ⟨#[98]⟩ sb 1 0) ∧ Hid (ST wr q p g b 24 s 3 6 j ⟨L, false⟩) ∧ Hid (Live ⟨L, false⟩ s 3 6 j) ∧ Hid (Put1 L j) ∧ Hid (others L [97] = []) ∧ Hid (Below w.heap.size w wr)) (fun t _ => 2 - (intOf t).toNat)
  case atStart => exact ⟨0, _, [], by omega, rfl, HK5, HL5, HS5, HL2, Lib.hid ⟨fun _ => rfl, fun h => absurd h (by omega)⟩, Lib.hid rfl, HB5⟩
  case round =>
    obtain ⟨j, s, L, hj, rfl, HK, HL, HS, HV, HP, HO, HB⟩ := hrel
    clear HK5 HL5 HS5 HL2 HB5
    by_cases hlt : j < 2
    · have hlt1 : (j : Int) < 2 := by omega
      have hw8 : ((UInt8.ofNat j).toNat : Int) = (j : Int) := by
        match j, hlt with
        | 0, _ => rfl
        | 1, _ => rfl
      have HW8 := Lib.hid hw8
      clear hw8
      have hb := (Below.refl wr.heap.size wr).alloc (Nat.le_refl _) (.cells #[.int .u8 ((UInt8.ofNat j).toNat : Int)] 5)
      have hB7 := Blk.new wr #[.int .u8 ((UInt8.ofNat j).toNat : Int)] 5
      go_upto_region 15 with fail
      first
        | rw [show (Value.int .u8 ((j : Int) % 256)) = .int .u8 ((UInt8.ofNat j).toNat : Int) by rw [HW8.out, Int.emod_eq_of_lt (by omega) (by omega)]]
        | rw [show (Value.int .u8 (j : Int)) = .int .u8 ((UInt8.ofNat j).toNat : Int) by rw [HW8.out]]
      have HBA := Lib.hid (HB.out.trans (hb.mono HB.out.size))
      have HKA := Lib.hid (HK.out.below hb)
      have HLA := Lib.hid (HL.out.below hb)
      have HSA7 := Lib.hid (HS.out.below hb)
      have hN5 : ¬ fiveS k q p g b wr.heap.size := not_five (fun e => by have := HK.out.lt; omega) HS.out.four_lt
      have HRB := Lib.hid (rd_five (l := [UInt8.ofNat j]) hB7 hN5)
      generalize wr.alloc (.cells #[.int .u8 ((UInt8.ofNat j).toNat : Int)] 5) = w7 at *
      clear hb hB7 hN5 HW8 HK HL HS HB
      go_upto_if 72 with fail
      go_cut [16] from 72 to 78 (fun v wx => ∃ (B : Option Addr) (nb cb : Nat) (msg : List UInt8), v = .slice B nb cb ∧ Hid (msg.length = nb ∧ nb ≤ 20 ∧ nb ≤ cb ∧ cb ≤ maxLen) ∧ wx = w7 ∧ Hid (∀ W, Chg (fiveS k q p g b) w7 W → Rd W W.heap.size B msg))
      case first =>
        by_cases hln : j < nA
        · have hln1 : (j : Int) < (nA : Int) := by omega
          have hlL : j < la.length := by rw [HNA.out]; exact hln
          obtain ⟨b1, o1, A', c, hA, hbb, hcell, hlen, hcc, hrd⟩ := HRA.out.at_ j hlL
          subst hA
          obtain ⟨M, hM⟩ : ∃ M, la[j].length = M := ⟨_, rfl⟩
          rw [hM] at hcell hlen
          have hc7 : w7.cell? ⟨b1, o1 + j, none⟩ = some (.slice A' M c) := (HBA.out.cell (p := ⟨b1, o1 + j, none⟩) hbb).trans hcell
          obtain ⟨x, hx⟩ : ∃ x, min M 20 = x := ⟨_, rfl⟩
          have HCB := Lib.hid (fun W => (show Calls Tryz.prog 9 #[.slice A' M c, .int .i64 20] W fun e w' => e = .returned (.slice A' x c) ∧ W = w' from by rw [← hx]; exact cut_any A' M c 20 W hlen))
          have HME := Lib.hid (show (la[j].take x).length = x by rw [List.length_take]; omega)
          have HRW := Lib.hid (hrd.take x)
          have hx2 : x ≤ 20 := by omega
          have hx3 : x ≤ c := by omega
          generalize la[j].take x = msg at *
          clear hcell hlen hrd hx hM
          go_wp2_with fail
          with_reducible refine (HCB.out _).mono ?_
          rintro e w8 ⟨rfl, rfl⟩
          go_wp2_with fail
          go_meet
          case rel => exact ⟨A', x, c, msg, rfl, Lib.hid ⟨HME.out, hx2, hx3, hcc⟩, rfl, Lib.hid fun W hc => HRW.out.on (HBA.out.trans (hc.below HBA.out.size HG5.out))⟩
        · have hln1 : ¬ (j : Int) < (nA : Int) := by omega
          go_wp2_with fail
          go_meet
          case rel => exact ⟨some ⟨wr.heap.size, 0, none⟩, 1, 1, [UInt8.ofNat j], rfl, Lib.hid ⟨rfl, by omega, by omega, by unfold maxLen; omega⟩, rfl, HRB⟩
      case rest =>
        obtain ⟨B, nb, cb, msg, rfl, HM, rfl, HR⟩ := hcut
        have HSG := Lib.hid (ksign_live (X := j) HKA.out HSA7.out HV.out HP.out.short (HP.out.next (by omega)) (by omega) (by omega) (by simp) HAP.out (by simp) (by show L.length < 6; have h1 : L.length ≤ 1 := only_len HV.out.rising HO.out; omega) B nb cb msg HM.out.1 (by have := HM.out.2.1; omega) HM.out.2.2.1 HM.out.2.2.2 HR.out (tab_five HT.out HBA.out HG5.out))
        go_wp2_with fail
        with_reducible refine HSG.out.mono ?_
        rintro e w10 ⟨s10, j10, V, cv, P, cp, rfl, hov, hop, K10, S10, L10, C10⟩
        have HK10 := Lib.hid K10
        have HS10 := Lib.hid S10
        have HV10 := Lib.hid L10
        have HL10 := Lib.hid (HLA.out.chg C10 (fun e => by rcases e with e | e; exact HKL.out e.symm; exact HAL.out.four e))
        have HB10 := Lib.hid (HBA.out.trans (C10.below HBA.out.size HG5.out))
        have HOV := Lib.hid hov
        have HOP := Lib.hid hop
        have HP10 := Lib.hid (show Put1 (putE L (Sto.newR ⟨L, false⟩ [97] (putL (j + 1) 4), j10)) (j + 1) from ⟨fun h => absurd h (by omega), fun _ => get_new HV.out [97] (putL (j + 1) 4) j10⟩)
        have HO10 := Lib.hid (only_put HV.out.rising HO.out (putL (j + 1) 4) j10)
        have HR10 := Lib.hid (fun W (hb : Below w10.heap.size w10 W) => HR.out W (C10.trans (.of_below hb)))
        have hS10 : Rising (putE L (Sto.newR ⟨L, false⟩ [97] (putL (j + 1) 4), j10)) := L10.rising
        obtain ⟨L2, hL2⟩ : ∃ x, putE L (Sto.newR ⟨L, false⟩ [97] (putL (j + 1) 4), j10) = x := ⟨_, rfl⟩
        have hL2' : putE (Sto.l ⟨L, false⟩) (Sto.newR ⟨L, false⟩ [97] (putL (j + 1) 4), j10) = L2 := hL2
        rw [hL2] at HP10 HO10 hS10
        rw [hL2'] at HS10 HV10
        clear K10 S10 L10 C10 hov hop HSG HR HV HP HO HKA HLA HSA7 HBA hL2 hL2'
        obtain ⟨KK, hKK⟩ : ∃ x, (proofV (pubsL sa (2 ^ 1)) j).length = x := ⟨_, rfl⟩
        obtain ⟨c0, hc0⟩ : ∃ x, Value.int .i64 ((1 : Nat) : Int) = x := ⟨_, rfl⟩
        have HSE := Lib.hid (show sigA ((1 : Nat) : Int) (j : Int) V P 67 cv (proofV (pubsL sa (2 ^ 1)) j).length cp = #[c0, .int .i64 (j : Int), .slice V 67 cv, .slice P KK cp] by rw [← hKK, ← hc0])
        obtain ⟨Z, hZ⟩ : ∃ x, u8A (printH ((1 : Nat) : Int) (keyRoot sa 1)) = x := ⟨_, rfl⟩
        have HVF := Lib.hid (fun W (hb : Below w10.heap.size w10 W) => kverify_yes sa msg (h := 1) (X := j) (by omega) (by omega) B nb cb HM.out.1 (by have := HM.out.2.1; omega) HM.out.2.2.1 HM.out.2.2.2 (HR10.out W hb) (HOV.out.on hb) (HOP.out.on hb))
        have HPR0 := Lib.hid (fun W (hb : Below w10.heap.size w10 W) => pkprint_any (HK10.out.below hb) (tab_on HT.out (HB10.out.trans (hb.mono HB10.out.size)) (HB10.out.trans (hb.mono HB10.out.size)).size))
        rw [hZ] at HVF HPR0
        rw [HSE.out] at HVF
        rw [HSE.out]
        obtain ⟨SG, hSG⟩ : ∃ x, (#[c0, .int .i64 (j : Int), .slice V 67 cv, .slice P KK cp] : Array Value) = x := ⟨_, rfl⟩
        have HZS := Lib.hid (show SG.size = 4 by rw [← hSG]; rfl)
        have HOS := Lib.hid (show SG.all (·.oneCell') = true by rw [← hSG, ← HSE.out]; exact sigA_one _ _ _ _ _ _ _ _)
        have HSGE := Lib.hid hSG
        rw [hSG]
        clear hSG hKK hc0 hZ HOV HOP HR10 HSE
        go_upto_region 18 with (with_reducible refine wpList_store_blk rfl 39 (.tmp 17) (.tmp 82) rfl w10.heap.size SG rfl rfl 39 _ (Blk.new _ _ _) (by rw [HZS.out]; kernel_rfl) (by rw [HZS.out]; kernel_rfl) HOS.out ?_)
        generalize hwn : World.setRow _ _ _ = w11
        have hal11 : Below w10.heap.size w10 w11 := by
          rw [← hwn]
          exact below_row ((Below.refl _ _).alloc (Nat.le_refl _) _) (by simp) (Nat.le_refl _) _
        have HBG := Lib.hid (show Blk w11 w10.heap.size SG 39 by
          rw [← hwn]
          exact (Blk.new _ _ _).row _)
        have HK11 := Lib.hid (HK10.out.below hal11)
        have HL11 := Lib.hid (HL10.out.below hal11)
        have HS11 := Lib.hid (HS10.out.below hal11)
        have HB11 := Lib.hid (HB10.out.trans (hal11.mono HB10.out.size))
        have HVG := Lib.hid (fun W (hb : Below w11.heap.size w11 W) => HVF.out W (hal11.trans (hb.mono hal11.size)))
        have hcd : Below w11.heap.size w11 w11.drew := (Below.refl _ _).drew
        have HPR := Lib.hid (HPR0.out _ (hal11.trans (hcd.mono hal11.size)))
        have hgk : w10.heap.size ≠ k := fun e => by have := HK10.out.lt; omega
        have hgl : w10.heap.size ≠ l := fun e => by have := HL10.out.lt; omega
        obtain ⟨g17, hg17⟩ : ∃ g, w10.heap.size = g := ⟨_, rfl⟩
        rw [hg17] at HBG hgk hgl ⊢
        clear hal11 hwn hg17 HK10 HL10 HS10 HB10 HZS HOS HVF HPR0
        have HLK := Lib.hid (fun W (hb : Below w11.heap.size w11 W) => (show Calls Tryz.prog 13 #[.pointer (some ⟨k, 0, none⟩)] W fun e w' => e = .returned (.int .i64 (1 - (j : Int))) ∧ KS w' k q ⟨#[97]⟩ sa 1 (j + 1) ∧ Chg (fun i => i = k) W w' from by
          have h1 := pleft_any (HK11.out.below hb) (HS11.out.below hb) HP10.out.short (by rw [HP10.out.next (by omega)]; omega)
          rw [HP10.out.next (by omega), show ((2 ^ 1 - (j + 1) : Nat) : Int) = 1 - (j : Int) by omega] at h1
          exact h1))
        have HLL := Lib.hid (fun W (hk : KS W l q ⟨#[98]⟩ sb 1 0) (hs : ST W q p g b 24 s10 3 6 (j + 1) ⟨L2, false⟩) => (show Calls Tryz.prog 13 #[.pointer (some ⟨l, 0, none⟩)] W fun e w' => e = .returned (.int .i64 2) ∧ KS w' l q ⟨#[98]⟩ sb 1 0 ∧ Chg (fun i => i = l) W w' from by
          have hg := only_get (nm := [98]) HO10.out (by decide)
          have h1 := pleft_any (name := [98]) hk hs (short_none hg) (by rw [next_none hg]; omega)
          rw [next_none hg] at h1
          exact h1))
        have HKEEP := Lib.hid (fun (W : World) (hc : Chg (fun i => i = k ∨ i = l) w11 W) => (show (W.cell? ⟨g17, 0, none⟩ = some c0 ∧ W.cell? ⟨g17, 1, none⟩ = some (.int .i64 (j : Int)) ∧ W.cell? ⟨g17, 2, none⟩ = some (.slice V 67 cv) ∧ W.cell? ⟨g17, 3, none⟩ = some (.slice P KK cp)) ∧ Chg (fun i => i = k ∨ i = l) w11 W from by
          have hB := hc.blk HBG.out (fun e => by rcases e with e | e; exact hgk e; exact hgl e)
          rw [← HSGE.out] at hB
          exact ⟨⟨hB.cell 0, hB.cell 1, hB.cell 2, hB.cell 3⟩, hc⟩))
        have hj1 : IntKind.i64.wrap (1 - (j : Int)) = 1 - (j : Int) := IntWalk.i64_in _ (by omega)
        have HCK := Lib.hid (fun (Wa Wb : World) (h : KS Wa l q ⟨#[98]⟩ sb 1 0) (c : Chg (fun i => i = k) Wa Wb) => (show KS Wb l q ⟨#[98]⟩ sb 1 0 from h.chg c (fun e => HKL.out e.symm)))
        have HCL := Lib.hid (fun (Wa Wb : World) (h : KS Wa k q ⟨#[97]⟩ sa 1 (j + 1)) (c : Chg (fun i => i = l) Wa Wb) => (show KS Wb k q ⟨#[97]⟩ sa 1 (j + 1) from h.chg c (fun e => HKL.out e)))
        clear HSGE hgk hgl
        go_wp2_with fail
        go_region_held3 (fun W => (W.cell? ⟨g17, 0, none⟩ = some c0 ∧ W.cell? ⟨g17, 1, none⟩ = some (.int .i64 (j : Int)) ∧ W.cell? ⟨g17, 2, none⟩ = some (.slice V 67 cv) ∧ W.cell? ⟨g17, 3, none⟩ = some (.slice P KK cp)) ∧ Chg (fun i => i = k ∨ i = l) w11 W)
          ((first | exact HKEEP.out _ ‹_› | exact HKEEP.out _ (Chg.drew ‹_›) | exact HKEEP.out _ (Chg.drewN ‹_› _) | exact HKEEP.out _ (.of_below hcd)))
          ((first
            | (go_at_call 12; with_reducible refine HPR.out.mono ?_; rintro e w12 ⟨rfl, hb12⟩; have hbel12 : Below w11.heap.size w11 w12 := hcd.trans (hb12.mono hcd.size); have hch12 : Chg (fun i => i = k ∨ i = l) w11 w12 := .of_below hbel12)
            | (go_at_call 11; with_reducible refine (HVG.out w12 hbel12).mono ?_; rintro e w13 ⟨rfl, hb13⟩; have hbel13 : Below w11.heap.size w11 w13 := hbel12.trans (hb13.mono hbel12.size); have hch13 : Chg (fun i => i = k ∨ i = l) w11 w13 := .of_below hbel13)
            | (go_at_call 13; with_reducible refine (HLK.out w13 hbel13).mono ?_; rintro e w14 ⟨rfl, K14, C14⟩; have hch14 : Chg (fun i => i = k ∨ i = l) w11 w14 := hch13.trans (C14.more fun i e => .inl e); have HK14 := Lib.hid K14; have HS14 := Lib.hid ((HS11.out.below hbel13).apart5 C14 HAP.out); have HL14 := Lib.hid (HCK.out w13 w14 (HL11.out.below hbel13) C14); clear K14 C14)
            | (go_at_call 13; with_reducible refine (HLL.out w14 HL14.out HS14.out).mono ?_; rintro e w15 ⟨rfl, K15, C15⟩; have hch15 : Chg (fun i => i = k ∨ i = l) w11 w15 := hch14.trans (C15.more fun i e => .inr e); have HL15 := Lib.hid K15; have HK15 := Lib.hid (HCL.out w14 w15 HK14.out C15); have HS15 := Lib.hid (HS14.out.apart5 C15 HAL.out); clear K15 C15)
            | fail "none"))
        all_goals
          have HB15 := Lib.hid (HB11.out.trans (hch15.below HB11.out.size (fun i e => by rcases e with e | e; rw [e]; exact HG5.out k (.inl rfl); rw [e]; exact HG6.out l (.inl rfl))))
          clear HKEEP HLK HLL HVG HPR HCK HCL hch12 hch13 hch14 hch15 hbel12 hbel13 hb12 hb13 HK14 HS14 HL14 HK11 HL11 HS11 HB11 hj1 hcd HBG
          go_wp2_with fail
          go_roundw
          case rel => exact ⟨j + 1, s10, L2, by omega, by go_num, HK15, HL15, HS15, HV10, HP10, HO10, HB15⟩
          case measure => simp [intOf]; omega
    · have hge : ¬ (j : Int) < 2 := by omega
      obtain rfl : j = 2 := by omega
      clear hlt hj
      go_wp2_with fail
      have hnx := HP.out.next (by omega)
      have HN := Lib.hid (psignk_none HK.out HS.out HP.out.short (by rw [hnx]; omega) (by rw [hnx]; exact Nat.le_refl 2) none 0 0)
      rw [hnx] at HN
      with_reducible refine HN.out.mono ?_
      rintro e w6 ⟨rfl, K6, C6⟩
      have HS6 := Lib.hid (HS.out.apart5 C6 HAP.out)
      have HL6 := Lib.hid (HL.out.chg C6 (fun e => HKL.out e.symm))
      have HB6 := Lib.hid (HB.out.trans ((C6.more one_five).below HB.out.size HG5.out))
      clear K6 C6 HN hnx HK HS HL HB HP
      obtain ⟨SZ, hSZ⟩ : ∃ x, sig0 = x := ⟨_, rfl⟩
      have HZS := Lib.hid (show SZ.size = 4 by rw [← hSZ]; rfl)
      have HOS := Lib.hid (show SZ.all (·.oneCell') = true by rw [← hSZ]; exact sigA_one _ _ _ _ _ _ _ _)
      rw [hSZ]
      clear hSZ
      go_upto_region 21 with (with_reducible refine wpList_store_blk rfl 39 (.tmp 19) (.tmp 115) rfl w6.heap.size SZ rfl rfl 39 _ (Blk.new _ _ _) (by rw [HZS.out]; kernel_rfl) (by rw [HZS.out]; kernel_rfl) HOS.out ?_)
      generalize hwn : World.setRow _ _ _ = w7
      have hal7 : Below w6.heap.size w6 w7 := by
        rw [← hwn]
        exact below_row ((Below.refl _ _).alloc (Nat.le_refl _) _) (by simp) (Nat.le_refl _) _
      have HL7 := Lib.hid (HL6.out.below hal7)
      have HS7 := Lib.hid (HS6.out.below hal7)
      have HB7 := Lib.hid (HB6.out.trans (hal7.mono HB6.out.size))
      generalize w6.heap.size = g19
      clear hal7 hwn HL6 HS6 HB6 HZS HOS
      go_wp2_with fail
      have hg98 := only_get (nm := [98]) HO.out (by decide)
      have hle : L.length ≤ 1 := only_len HV.out.rising HO.out
      have hal := (Below.refl w7.heap.size w7).alloc (Nat.le_refl _) (.cells #[.int .u8 5] 5)
      have hN5 : ¬ fiveS l q p g b w7.heap.size := not_five (fun e => by have := HL7.out.lt; omega) HS7.out.four_lt
      have hba := HB7.out.trans (hal.mono HB7.out.size)
      with_reducible refine (ksign_live (X := 0) (HL7.out.below hal) (HS7.out.below hal) HV.out (short_none hg98) (next_none hg98 0) (by omega) (by omega) (by simp) HAL.out (by simp) (by show L.length < 6; omega) (some ⟨w7.heap.size, 0, none⟩) 1 1 [5] rfl (by omega) (by omega) (by unfold maxLen; omega) (rd_five (l := [5]) (Blk.new w7 _ 5) hN5) (tab_five HT.out hba HG6.out)).mono ?_
      rintro e w10 ⟨s10, j10, V, cv, P, cp, rfl, hov, hop, K10, S10, L10, C10⟩
      have HL10 := Lib.hid K10
      have HS10 := Lib.hid S10
      have HB10 := Lib.hid (hba.trans (C10.below hba.size HG6.out))
      have HGN := Lib.hid (get_new HV.out [98] (putL (0 + 1) 4) j10)
      have HOV := Lib.hid hov
      have HOP := Lib.hid hop
      obtain ⟨L2, hL2⟩ : ∃ x, putE (Sto.l ⟨L, false⟩) (Sto.newR ⟨L, false⟩ [98] (putL (0 + 1) 4), j10) = x := ⟨_, rfl⟩
      rw [hL2] at HGN HS10
      clear K10 S10 L10 C10 hov hop hal hN5 hba HL7 HS7 HB7 hL2 hle hg98 HO HV
      obtain ⟨KK, hKK⟩ : ∃ x, (proofV (pubsL sb (2 ^ 1)) 0).length = x := ⟨_, rfl⟩
      obtain ⟨c0, hc0⟩ : ∃ x, Value.int .i64 ((1 : Nat) : Int) = x := ⟨_, rfl⟩
      have HSE := Lib.hid (show sigA ((1 : Nat) : Int) ((0 : Nat) : Int) V P 67 cv (proofV (pubsL sb (2 ^ 1)) 0).length cp = #[c0, .int .i64 0, .slice V 67 cv, .slice P KK cp] by rw [← hKK, ← hc0]; rfl)
      obtain ⟨Z, hZ⟩ : ∃ x, u8A (printH ((1 : Nat) : Int) (keyRoot sb 1)) = x := ⟨_, rfl⟩
      have HVF := Lib.hid (fun W a (hb : Below w10.heap.size w10 W) (hr : Rd W W.heap.size (some a) [5]) => kverify_yes sb [5] (h := 1) (X := 0) (by omega) (by omega) (some a) 1 1 rfl (by omega) (by omega) (by unfold maxLen; omega) hr (HOV.out.on hb) (HOP.out.on hb))
      have HPR0 := Lib.hid (fun W (hb : Below w10.heap.size w10 W) => pkprint_any (HL10.out.below hb) (tab_on HT.out (HB10.out.trans (hb.mono HB10.out.size)) (HB10.out.trans (hb.mono HB10.out.size)).size))
      rw [hZ] at HVF HPR0
      rw [HSE.out] at HVF
      rw [HSE.out]
      obtain ⟨SG, hSG⟩ : ∃ x, (#[c0, .int .i64 0, .slice V 67 cv, .slice P KK cp] : Array Value) = x := ⟨_, rfl⟩
      have HZS := Lib.hid (show SG.size = 4 by rw [← hSG]; rfl)
      have HOS := Lib.hid (show SG.all (·.oneCell') = true by rw [← hSG, ← HSE.out]; exact sigA_one _ _ _ _ _ _ _ _)
      have HSGE := Lib.hid hSG
      rw [hSG]
      clear hSG hKK hc0 hZ HOV HOP HSE
      go_upto_region 22 with (with_reducible refine wpList_store_blk rfl 39 (.tmp 21) (.tmp 121) rfl w10.heap.size SG rfl rfl 39 _ (Blk.new _ _ _) (by rw [HZS.out]; kernel_rfl) (by rw [HZS.out]; kernel_rfl) HOS.out ?_)
      generalize hwn : World.setRow _ _ _ = w11
      have hal11 : Below w10.heap.size w10 w11 := by
        rw [← hwn]
        exact below_row ((Below.refl _ _).alloc (Nat.le_refl _) _) (by simp) (Nat.le_refl _) _
      have HBG := Lib.hid (show Blk w11 w10.heap.size SG 39 by
        rw [← hwn]
        exact (Blk.new _ _ _).row _)
      have HL11 := Lib.hid (HL10.out.below hal11)
      have HS11 := Lib.hid (HS10.out.below hal11)
      have HB11 := Lib.hid (HB10.out.trans (hal11.mono HB10.out.size))
      have HVG := Lib.hid (fun W a (hb : Below w11.heap.size w11 W) hr => HVF.out W a (hal11.trans (hb.mono hal11.size)) hr)
      have hcd : Below w11.heap.size w11 w11.drew := (Below.refl _ _).drew
      have hcda : Below w11.heap.size w11 (w11.alloc (.cells #[.int .u8 5] 5)).drew := ((Below.refl _ _).alloc (Nat.le_refl _) _).drew
      have HPR := Lib.hid (fun W (hb : Below w11.heap.size w11 W) => HPR0.out W (hal11.trans (hb.mono hal11.size)))
      have hbk : Blk (w11.alloc (.cells #[.int .u8 5] 5)).drew w11.heap.size (u8A [5]) 5 := Blk.new w11 _ _
      have hgl : w10.heap.size ≠ l := fun e => by have := HL10.out.lt; omega
      obtain ⟨g21, hg21⟩ : ∃ g, w10.heap.size = g := ⟨_, rfl⟩
      rw [hg21] at HBG hgl ⊢
      clear hal11 hwn hg21 HL10 HS10 HB10 HZS HOS HVF HPR0
      have hnx := next_four (x := 0 + 1) (by omega) HGN.out (0 + 1)
      rw [show max (0 + 1) (0 + 1) = 1 from rfl] at hnx
      have HLL := Lib.hid (fun W (hb : Below w11.heap.size w11 W) => (show Calls Tryz.prog 13 #[.pointer (some ⟨l, 0, none⟩)] W fun e w' => e = .returned (.int .i64 1) ∧ KS w' l q ⟨#[98]⟩ sb 1 1 ∧ Chg (fun i => i = l) W w' from by
        have h1 := pleft_any (name := [98]) (HL11.out.below hb) (HS11.out.below hb) (short_four HGN.out) (by rw [hnx]; omega)
        rw [hnx] at h1
        exact h1))
      have HKEEP := Lib.hid (fun (W : World) (hc : Chg (fun i => i = l) w11 W) => (show (W.cell? ⟨g21, 0, none⟩ = some c0 ∧ W.cell? ⟨g21, 1, none⟩ = some (.int .i64 0) ∧ W.cell? ⟨g21, 2, none⟩ = some (.slice V 67 cv) ∧ W.cell? ⟨g21, 3, none⟩ = some (.slice P KK cp)) ∧ Chg (fun i => i = l) w11 W from by
        have hB := hc.blk HBG.out hgl
        rw [← HSGE.out] at hB
        exact ⟨⟨hB.cell 0, hB.cell 1, hB.cell 2, hB.cell 3⟩, hc⟩))
      have HWK := Lib.hid (fun W (hc : Chg (fun i => i = l) w11 W) => by
        have hb := HB11.out.trans ((hc.more one_five).below HB11.out.size HG6.out)
        exact wakes12_any W (tab_on HT.out hb hb.size))
      clear HSGE hnx hgl
      go_wp2_with fail
      go_region_held3 (fun W => (W.cell? ⟨g21, 0, none⟩ = some c0 ∧ W.cell? ⟨g21, 1, none⟩ = some (.int .i64 0) ∧ W.cell? ⟨g21, 2, none⟩ = some (.slice V 67 cv) ∧ W.cell? ⟨g21, 3, none⟩ = some (.slice P KK cp)) ∧ Chg (fun i => i = l) w11 W)
        ((first | exact HKEEP.out _ ‹_› | exact HKEEP.out _ (Chg.drew ‹_›) | exact HKEEP.out _ (Chg.drewN ‹_› _) | exact HKEEP.out _ (Chg.alloc ‹_› _) | exact HKEEP.out _ (.of_below hcd) | exact HKEEP.out _ (.of_below hcda)))
        ((first
          | (go_at_call 12; with_reducible refine (HPR.out _ hcd).mono ?_; rintro e w12 ⟨rfl, hb12⟩; have hbel12 : Below w11.heap.size w11 w12 := hcd.trans (hb12.mono hcd.size); have hch12 : Chg (fun i => i = l) w11 w12 := .of_below hbel12; have HRD := Lib.hid (show Rd (w12.alloc (.cells #[.int .u8 5] 5)) (w12.alloc (.cells #[.int .u8 5] 5)).heap.size (some ⟨w12.heap.size, 0, none⟩) [5] from Rd.of_blk (bs := [5]) (Blk.new w12 _ 5)); have hbel13 : Below w11.heap.size w11 (w12.alloc (.cells #[.int .u8 5] 5)) := hbel12.alloc hbel12.size _)
          | (go_at_call 12; with_reducible refine (HPR.out _ hcda).mono ?_; rintro e w12 ⟨rfl, hb12⟩; have hbel13 : Below w11.heap.size w11 w12 := hcda.trans (hb12.mono hcda.size); have hch12 : Chg (fun i => i = l) w11 w12 := .of_below hbel13; have HRD := Lib.hid (Rd.of_blk (hbk.below hb12 hbk.lt)))
          | (go_at_call 11; with_reducible refine (HVG.out _ _ hbel13 HRD.out).mono ?_; rintro e w13 ⟨rfl, hb13⟩; have hbel14 : Below w11.heap.size w11 w13 := hbel13.trans (hb13.mono hbel13.size); have hch13 : Chg (fun i => i = l) w11 w13 := .of_below hbel14)
          | (go_at_call 13; with_reducible refine (HLL.out w13 hbel14).mono ?_; rintro e w14 ⟨rfl, K14, C14⟩; have hch14 : Chg (fun i => i = l) w11 w14 := hch13.trans C14; clear K14)
          | (go_at_call 14; with_reducible refine (HWK.out w14 hch14).mono ?_; rintro e w15 ⟨rfl, hb15⟩; have hch15 : Chg (fun i => i = l) w11 w15 := hch14.trans (.of_below hb15))
          | fail "none"))
      all_goals
        have HB15 := Lib.hid (HB11.out.trans ((hch15.more one_five).below HB11.out.size HG6.out))
        clear hch15 hch14 hch13 hch12
        go_wp2_with fail
        go_ret
        exact ⟨rfl, HB15.out⟩

set_option maxRecDepth 100000 in
theorem contract (H : Type) (enc : TypeId × Value → H) (W : World) (base : Nat) (args : Array Value) (ds gs : List (DataW H)) (before : List MemPlace)
    (hval : ∀ (j : Nat) t v, Tryz.f3.params[j]? = some t → args[j]? = some v → Value.okWide Tryz.prog W .any base t v)
    (hW : DataW.Whole enc Tryz.prog Tryz.f3.params.toList Rows.keysApartSpec.vars false W args.toList ds gs before) (hL : laidMetH Tryz.prog Rows.keysApartRow.laid W) :
    Calls Tryz.prog 3 args W fun e W' => ∃ v, e = .returned v ∧ Rows.keysApartSpec.post enc Tryz.prog Tryz.f3 false true false false W args v W' := by
  have hW' := hW
  obtain ⟨p, q, hA0, hV, rfl, hfz, hnd⟩ := hW
  have hA : DataW.TrodAll enc Tryz.prog W 0 (fun _ => true) true Tryz.f3.params.toList args.toList ds p := hA0
  rw [Tryz.params3] at hA hval
  obtain ⟨v0, v1, v2, d0, d1, d2, p0, p1, p2, rfl, rfl, rfl, h0, h1, h2⟩ := trodAll_three hA
  obtain ⟨rfl, rfl⟩ := trodVars_none hV
  obtain ⟨k0, rfl, hk0⟩ := open_array Tryz.underlying23 (by kernel_rfl) (hval 0 23 v0 rfl rfl) h0
  obtain ⟨k1, rfl, hk1⟩ := open_array Tryz.underlying23 (by kernel_rfl) (hval 1 23 v1 rfl rfl) h1
  obtain ⟨A2, m2, c2, l2, rfl, hl2, hc2, hm2, hr2⟩ := open_rows (hval 2 24 v2 rfl rfl) h2
  clear hA0
  refine (walk k0 k1 A2 m2 c2 l2 W hk0 hk1 hl2 hc2 hm2 hr2  (pow10 hL)).mono fun e W' ⟨he, hb⟩ => ?_
  exact ⟨_, he, law_post hW' rfl (by kernel_rfl) rfl (by kernel_rfl) hb⟩

theorem laid_met (os : Os) : laidMet Tryz.prog Rows.keysApartRow.laid ((laidWorld os).forCall (fun _ _ => 0) ⟨#[], #[.agg #[.int .u8 0, .int .u8 0, .int .u8 0, .int .u8 0, .int .u8 0, .int .u8 0, .int .u8 0, .int .u8 0, .int .u8 0, .int .u8 0, .int .u8 0, .int .u8 0, .int .u8 0, .int .u8 0, .int .u8 0, .int .u8 0], .agg #[.int .u8 0, .int .u8 0, .int .u8 0, .int .u8 0, .int .u8 0, .int .u8 0, .int .u8 0, .int .u8 0, .int .u8 0, .int .u8 0, .int .u8 0, .int .u8 0, .int .u8 0, .int .u8 0, .int .u8 0, .int .u8 0], .slice none 0 0], []⟩).memory :=
  laidMet_of_run' 8 (by kernel_rfl) (by kernel_rfl)
theorem reads (os : Os) {H : Type} (enc : TypeId × Value → H) : ∃ places, DataW.whole enc Tryz.prog ((laidWorld os).forCall (fun _ _ => 0) ⟨#[], #[.agg #[.int .u8 0, .int .u8 0, .int .u8 0, .int .u8 0, .int .u8 0, .int .u8 0, .int .u8 0, .int .u8 0, .int .u8 0, .int .u8 0, .int .u8 0, .int .u8 0, .int .u8 0, .int .u8 0, .int .u8 0, .int .u8 0], .agg #[.int .u8 0, .int .u8 0, .int .u8 0, .int .u8 0, .int .u8 0, .int .u8 0, .int .u8 0, .int .u8 0, .int .u8 0, .int .u8 0, .int .u8 0, .int .u8 0, .int .u8 0, .int .u8 0, .int .u8 0, .int .u8 0], .slice none 0 0], []⟩).memory Tryz.f3.params.toList Rows.keysApartSpec.vars false #[Value.agg #[.int .u8 0, .int .u8 0, .int .u8 0, .int .u8 0, .int .u8 0, .int .u8 0, .int .u8 0, .int .u8 0, .int .u8 0, .int .u8 0, .int .u8 0, .int .u8 0, .int .u8 0, .int .u8 0, .int .u8 0, .int .u8 0], Value.agg #[.int .u8 0, .int .u8 0, .int .u8 0, .int .u8 0, .int .u8 0, .int .u8 0, .int .u8 0, .int .u8 0, .int .u8 0, .int .u8 0, .int .u8 0, .int .u8 0, .int .u8 0, .int .u8 0, .int .u8 0, .int .u8 0], Value.slice none 0 0].toList 8 = some ([.agg [.lit (.int .u8 0), .lit (.int .u8 0), .lit (.int .u8 0), .lit (.int .u8 0), .lit (.int .u8 0), .lit (.int .u8 0), .lit (.int .u8 0), .lit (.int .u8 0), .lit (.int .u8 0), .lit (.int .u8 0), .lit (.int .u8 0), .lit (.int .u8 0), .lit (.int .u8 0), .lit (.int .u8 0), .lit (.int .u8 0), .lit (.int .u8 0)], .agg [.lit (.int .u8 0), .lit (.int .u8 0), .lit (.int .u8 0), .lit (.int .u8 0), .lit (.int .u8 0), .lit (.int .u8 0), .lit (.int .u8 0), .lit (.int .u8 0), .lit (.int .u8 0), .lit (.int .u8 0), .lit (.int .u8 0), .lit (.int .u8 0), .lit (.int .u8 0), .lit (.int .u8 0), .lit (.int .u8 0), .lit (.int .u8 0)], .nil], [], places) :=
  ⟨[], by kernel_rfl⟩

set_option maxRecDepth 100000 in
theorem lifted (os : Os) (started : os.Started) (H : Type) (enc : TypeId × Value → H) (F : Stop.Interp) :
    ReturnsInHanded {} Tryz.checked os 3 .any ((OpenSpec.ofChange Rows.keysApartSpec).preRow enc Tryz.prog Tryz.f3 Rows.keysApartRow.domain false Rows.keysApartRow.laid) (((OpenSpec.ofChange Rows.keysApartSpec).at F).post enc Tryz.prog Tryz.f3 false true false false) := by
  obtain ⟨places, hx⟩ := reads os enc
  refine returnsInHanded_of_row (C := Tryz.checked) (s := OpenSpec.ofChange Rows.keysApartSpec) own started (by kernel_rfl) Tryz.func3
    (witness_row_at (enc := enc) (C := Tryz.checked) false (laidWorld os) #[.agg #[.int .u8 0, .int .u8 0, .int .u8 0, .int .u8 0, .int .u8 0, .int .u8 0, .int .u8 0, .int .u8 0, .int .u8 0, .int .u8 0, .int .u8 0, .int .u8 0, .int .u8 0, .int .u8 0, .int .u8 0, .int .u8 0], .agg #[.int .u8 0, .int .u8 0, .int .u8 0, .int .u8 0, .int .u8 0, .int .u8 0, .int .u8 0, .int .u8 0, .int .u8 0, .int .u8 0, .int .u8 0, .int .u8 0, .int .u8 0, .int .u8 0, .int .u8 0, .int .u8 0], .slice none 0 0] rfl (by kernel_rfl) (by kernel_rfl) (by kernel_rfl)
      (OpenSpec.preRow_of_cond 8 hx (by kernel_rfl) (fun k hk => by cases hk) (by kernel_rfl) (laid_met os))) ?_
  intro W base args ds gs before hval hW _ _ _ hL _ _
  exact contract H enc W base args ds gs before hval hW hL

theorem said : Rows.KeysApartSaid :=
  OpenClaim.holds_of_cond 3 Tryz.f3 rfl rfl rfl rfl rfl rfl rfl ⟨rfl, rfl, rfl, rfl, rfl⟩ rfl rfl rfl rfl rfl (by kernel_rfl) Tryz.func3 (by kernel_rfl)
    (of_decide_eq_true (by kernel_rfl)) (by unfold Func.isWrapper; first | (rw [if_pos (by decide +kernel)]; kernel_rfl) | (rw [if_neg (by decide +kernel)]; exact ⟨rfl, rfl⟩))
    (fun os started H enc _ F => by rw [OpenClaim.pre_eq_preRow]; exact lifted os started H enc F)

theorem plain (f : FuncId) (fn : Func) (hf : Tryz.pinned.checked.prog.funcNamed "aumbry/aumbrylaw12.KeysApart" = some f) (hfn : Tryz.pinned.checked.prog.funcs[f]? = some fn) :
    false = Tryz.pinned.checked.prog.looks [] ∧ ∀ (j : Nat) t, fn.params[j]? = some t → Tryz.pinned.checked.prog.wantsStandIn t = false := by
  obtain rfl : f = 3 := Option.some.inj ((show Tryz.prog.funcNamed "aumbry/aumbrylaw12.KeysApart" = some 3 by kernel_rfl).symm.trans hf) |>.symm
  obtain rfl : fn = Tryz.f3 := (Option.some.inj (Tryz.func3.symm.trans hfn)).symm
  refine ⟨by kernel_rfl, fun j t ht => ?_⟩
  exact wants_none (by kernel_rfl) (Array.mem_of_getElem? ht)

/-- The card: the statement holds, its listed tables tied to the program's text. -/
theorem card : Rows.KeysApartCardSaid :=
  Claim7.holds_tied_plain_at .later [] _ _ _ _ said (fun _ h => by cases h) (by kernel_rfl) (fun _ h => by cases h) keysApart_row_tie rfl ⟨rfl, rfl⟩ (by kernel_rfl) rfl plain (by kernel_rfl)
end Go.Proofs.YtndknifdajjalaaGreatDoor.keysApart
