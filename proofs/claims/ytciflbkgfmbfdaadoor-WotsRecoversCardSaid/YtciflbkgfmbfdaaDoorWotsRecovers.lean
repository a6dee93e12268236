/- WotsRecovers: what any values make of a message; of another number of values nothing. For all messages and values. -/
import Derived.Test.YtciflbkgfmbfdaaDoorLaw
import Derived.Test.YtciflbkgfmbfdaaDoorKeep
import Derived.Test.YtciflbkgfmbfdaaDoorWakes8
import Derived.Test.YtciflbkgfmbfdaaDoorWotsD
import Derived.Test.YtciflbkgfmbfdaaDoorRTSame
import Derived.Test.YtciflbkgfmbfdaaDoorHashC
import Derived.Test.YtciflbkgfmbfdaaDoorHashD
namespace Go.Proofs.YtciflbkgfmbfdaaDoor.wotsRecovers
open Go.ChangeShapes Go.WideShapes Go.ChangeAt Go.RowKit

set_option maxRecDepth 100000 in
set_option maxHeartbeats 16000000 in
def lenS : Value → Nat
  | .slice _ n _ => n
  | _ => 0
theorem wpList_load_when8 {P : Program} {w : World} {ops : Array Oper} {rest : List Oper} {o : Oper} {a : Act} {Q : Exit → Act → World → Prop} (hw : Region.wanted o (yielded ops a.tmps) = true) (ty : TypeId) (x : Operand) (ho : o.op = .load ty x)
    (g : Nat) (hx : a.eval x = .pointer (some ⟨g, 0, none⟩)) (t : TypeId) (cs : Array Value) (d : TypeDesc) (hg : Blk w g cs t) (hu : P.underlying ty = some d) (hd : (match d with | .struct _ | .array _ _ => true | _ => false) = true) (hi : (P.info? ty).map (·.size) = some cs.size)
    (hk : wpList P ops Q rest (a.put o.dst (.agg cs)) w) : wpList P ops Q (o :: rest) a w :=
  wpList_step fun K hK => by
    rw [if_pos hw]
    exact wp_load_row ty x ho g hx t cs (0, 0) d hg hu hd hi (hK _ _ hk)
theorem wpList_load_w8 {w : World} {ops : Array Oper} {rest : List Oper} {o : Oper} {a : Act} {Q : Exit → Act → World → Prop} (x : Operand) (ho : o.op = .load 34 x)
    (g : Nat) (hx : a.eval x = .pointer (some ⟨g, 0, none⟩)) (cs : Array Value) (hg : Blk w g cs 34) (hz : cs.size = 32)
    (hw : Region.wanted o (yielded ops a.tmps) = true) (hk : wpList Tryd.prog ops Q rest (a.put o.dst (.agg cs)) w) : wpList Tryd.prog ops Q (o :: rest) a w :=
  wpList_load_when8 hw 34 x ho g hx 34 cs _ hg Tryd.underlying34 rfl (by rw [hz]; kernel_rfl) hk
theorem built_first (x : UInt8) : Tryd.prog.built 34 [(0, .int .u8 ((x.toNat : Nat) : Int))] = some (u8A (x :: List.replicate 31 0)) := by kernel_rfl
theorem wpList_build_first8 {w : World} {ops : Array Oper} {rest : List Oper} {o : Oper} {a : Act} {Q : Exit → Act → World → Prop} (hgd : o.guard = none) (x : Operand) (ho : o.op = .build 34 #[(0, x)]) (k : Nat) (Z : Array Value) (hx : a.eval x = .int .u8 (k : Int))
    (hZ : Tryd.prog.built 34 [(0, .int .u8 ((k : Nat) : Int))] = some Z)
    (hk : wpList Tryd.prog ops Q rest (a.put o.dst (.agg Z)) w) : wpList Tryd.prog ops Q (o :: rest) a w := by
  have hb : Tryd.prog.built 34 ((#[(0, x)] : Array (Nat × Operand)).map fun (i, x) => (i, a.eval x)).toList = some Z := by
    simp only [List.map_toArray, List.map_cons, List.map_nil, hx]
    exact hZ
  refine wpList_build (P := Tryd.prog) hgd 34 #[(0, x)] ho (by rw [hb]; rfl) ?_
  rw [hb]
  exact hk
set_option maxRecDepth 100000 in
theorem run_cut_hash (A : Option Addr) (n c : Nat) (W : World) (h : 67 ≤ c) :
    (Instr.slice 27 (.slice A n c) none (some (.int .i64 67)) none).run Tryd.prog W = .ok (.slice A 67 c) W := by
  obtain ⟨j, z, hj, _, _, hsz, _⟩ := hash_parts
  rw [run_slice_h W 27 A n c Tryd.underlying27 .i64 67 (by omega) (by omega)]
  rw [show Tryd.prog.elem 27 = 34 from by kernel_rfl]
  simp [sizeOf, typeInfo, hj, hsz, sliced, Addr.add]
set_option maxRecDepth 100000 in
set_option maxHeartbeats 16000000 in
theorem walk (A : Option Addr) (n c : Nat) (m : List UInt8) (B : Option Addr) (n2 c2 : Nat) (l : List (List UInt8)) (whole : Bool) (w : World) (hn0 : m.length = n) (hc0 : n ≤ c) (hcm : c ≤ maxLen) (hr0 : Rd w w.heap.size A m) (hl : l.length = n2) (hc2 : n2 ≤ c2) (hz : ∀ r ∈ l, r.length = 32) (hr : RdH w w.heap.size B l) (htab : Pow10 w.heap.size w) :
    Calls Tryd.prog 7 #[.slice A n c, .slice B n2 c2, .bool whole] w fun e w' => e = .returned (.bool true) ∧ Below w.heap.size w w' := by
  obtain ⟨M0, hM0⟩ : ∃ M, min n 60 = M := ⟨_, rfl⟩
  have HCB0 := Lib.hid (fun W => (show Calls Tryd.prog 11 #[.slice A n c, .int .i64 60] W fun e W' => e = .returned (.slice A M0 c) ∧ W = W' from by
    rw [← hM0]
    exact cut_any A n c 60 W hc0))
  have hMk0 : M0 ≤ 60 := by omega
  have hMc0 : M0 ≤ c := by omega
  obtain ⟨bl0, hbl0⟩ : ∃ x, m.take 60 = x := ⟨_, rfl⟩
  have hbn0 : bl0.length = M0 := by rw [← hbl0, List.length_take, hn0]; omega
  have hbr0 : Rd w w.heap.size A bl0 := by rw [← hbl0]; exact hr0.take 60
  have HCUT := Lib.hid (fun W => (show Calls Tryd.prog 29 #[.slice B n2 c2, .int .i64 70] W fun e W' => e = .returned (.slice B (min n2 70) c2) ∧ W = W' from cutH_any B n2 c2 70 W hc2))
  obtain ⟨z, hzz⟩ : ∃ z, min n2 70 = z := ⟨_, rfl⟩
  rw [hzz] at HCUT
  have hz70 : z ≤ 70 := by omega
  have hkl : (l.take 70).length = z := by rw [List.length_take, hl]; omega
  have HCP := Lib.hid (copyH_any B z c2 w.heap.size (l.take 70) w hkl (by omega) (fun r hr => hz r (List.mem_of_mem_take hr)) (hr.take 70))
  have HKL := Lib.hid hkl
  generalize l.take 70 = ks at *
  have HTAB := Lib.hid htab
  clear hM0 hbl0 hn0 hr0 htab hzz hl hz hr hkl
  cases whole with
  | false =>
    go_enter Tryd.func7, Tryd.ntmps7
    go_wp2_with fail
    with_reducible refine (HCB0.out _).mono ?_
    rintro e wx ⟨rfl, rfl⟩
    go_wp2_with fail
    with_reducible refine (HCUT.out _).mono ?_
    rintro e wx ⟨rfl, rfl⟩
    go_wp2_with fail
    with_reducible refine (HCP.out).mono ?_
    rintro e w1 ⟨v1, rfl, hown, hb1⟩
    obtain ⟨V, cv, rfl, _, _⟩ := hown.form HKL.out
    have HO := Lib.hid hown
    have HBL := Lib.hid hb1
    clear hown hb1 HCP HCB0 HCUT
    go_wp2_with fail
    go_loopw [7] (fun v wq => v = .slice V z cv ∧ w1 = wq) (fun _ _ => 0)
    case atStart => exact ⟨rfl, rfl⟩
    case round =>
      obtain ⟨rfl, rfl⟩ := hrel
      go_wp2_with fail
      by_cases hk67 : z = 67
      · subst hk67
        have HVV := Lib.hid HO.out.hv
        have HBQ := HBL
        obtain ⟨vs, hvs⟩ : ∃ v, ks = v := ⟨_, rfl⟩
        rw [hvs] at HVV
        obtain ⟨wr, hwr⟩ : ∃ y : World, y = w1 := ⟨_, rfl⟩
        rw [← hwr] at HVV HBQ ⊢
        clear hwr hvs
        obtain ⟨wq, hwq⟩ : ∃ y : World, y = wr := ⟨_, rfl⟩
        rw [← hwq] at HBQ HVV ⊢
        clear hwq
        have HB0 := HBQ
        obtain ⟨E, hE⟩ : ∃ E, atL (endF (digH (msgH bl0)) vs) 67 = E := ⟨_, rfl⟩
        have HEL := Lib.hid (show E.length = 67 by rw [← hE]; exact atL_len _ _)
        obtain ⟨P, hP⟩ : ∃ X, u8A (pubH E) = X := ⟨_, rfl⟩
        have HEP := Lib.hid hP
        have HPS := Lib.hid (show P.size = 32 by rw [← hP, u8A_size]; exact pubH_len _)
        have HPO := Lib.hid (show P.all (·.oneCell') = true by rw [← hP]; exact u8A_one _)
        have HQP := Lib.hid (fun W => (show (Op.equalIn 10000 34 (.agg P) (.agg P)).run Tryd.prog W = .ok true W by rw [← hP, run_hash_eq W _ _ (pubH_len _) (pubH_len _), decide_eq_true rfl]))
        have HR1 := Lib.hid (fun W (hW : Below wq.heap.size wq W) => (show Calls Tryd.prog 30 #[.slice A M0 c, .slice V 67 cv] W fun e w' => e = .returned (.tuple #[.agg P, .bool true]) ∧ Below W.heap.size W w' from by
          rw [← hP, ← hE]
          have hb2 := HB0.out.trans (hW.mono HB0.out.size)
          exact prec_yes A M0 c bl0 V cv vs W hbn0 (by omega) hMc0 hcm (hbr0.on hb2) (HVV.out.on hW) (tab_on HTAB.out hb2 hb2.size)))
        have HR2 := Lib.hid (fun W (hW : Below wq.heap.size wq W) => (show Calls Tryd.prog 31 #[.slice A M0 c, .slice V 67 cv] W fun e w' => e = .returned (.tuple #[.agg P, .bool true]) ∧ Below W.heap.size W w' from by
          rw [← hP, ← hE]
          have hb2 := HB0.out.trans (hW.mono HB0.out.size)
          exact rrec8_yes A M0 c bl0 V cv vs W hbn0 (by omega) hMc0 hcm (hbr0.on hb2) (HVV.out.on hW)))
        have HE1 := Lib.hid (fun W (hW : Below wq.heap.size wq W) => (show Calls Tryd.prog 13 #[.slice A M0 c, .slice V 67 cv] W fun e w' => ∃ Y y, e = .returned (.tuple #[.slice Y 67 y, .bool true]) ∧ 67 ≤ y ∧ HV w' (.slice Y 67 y) E ∧ Below W.heap.size W w' from by
          have hb2 := HB0.out.trans (hW.mono HB0.out.size)
          rw [← hE]
          refine (pends_yes A M0 c bl0 V cv vs W hbn0 (by omega) hMc0 hcm (hbr0.on hb2) (HVV.out.on hW) (tab_on HTAB.out hb2 hb2.size)).mono ?_
          rintro e w' ⟨v, rfl, ho, hb⟩
          obtain ⟨Y, y, rfl, hy, _⟩ := ho.form (atL_len _ _)
          exact ⟨Y, y, rfl, hy, ho.hv, hb⟩))
        have HE2 := Lib.hid (fun W (hW : Below wq.heap.size wq W) => (show Calls Tryd.prog 32 #[.slice A M0 c, .slice V 67 cv] W fun e w' => ∃ Y y, e = .returned (.tuple #[.slice Y 67 y, .bool true]) ∧ 67 ≤ y ∧ HV w' (.slice Y 67 y) E ∧ Below W.heap.size W w' from by
          have hb2 := HB0.out.trans (hW.mono HB0.out.size)
          rw [← hE]
          refine (rends8_yes A M0 c bl0 V cv vs W hbn0 (by omega) hMc0 hcm (hbr0.on hb2) (HVV.out.on hW)).mono ?_
          rintro e w' ⟨v, rfl, ho, hb⟩
          obtain ⟨Y, y, rfl, hy, _⟩ := ho.form (atL_len _ _)
          exact ⟨Y, y, rfl, hy, ho.hv, hb⟩))
        have HBR := Lib.hid (Below.refl wq.heap.size wq)
        clear hP hE HBQ
        go_wp2_with fail
        with_reducible refine (HR1.out wq (Below.refl _ _)).mono ?_
        rintro e w5 ⟨rfl, hbn⟩
        replace HBR := Lib.hid (HBR.out.trans (hbn.mono HBR.out.size))
        clear hbn
        go_upto_region 8 with (with_reducible refine wpList_store_blk rfl 34 (.tmp 8) (.tmp 41) rfl w5.heap.size P rfl rfl 34 _ (Blk.new _ _ _) (by rw [HPS.out]; kernel_rfl) (by rw [HPS.out]; kernel_rfl) HPO.out ?_)
        generalize hwn : World.setRow _ _ _ = w6
        have hal : Below w5.heap.size w5 w6 := by
          rw [← hwn]
          exact below_row ((Below.refl _ _).alloc (Nat.le_refl _) _) (by simp) (Nat.le_refl _) _
        have HB8 := Lib.hid (show Blk w6 w5.heap.size P 34 by
          rw [← hwn]
          exact (Blk.new _ _ _).row _)
        obtain ⟨g8, hgn⟩ : ∃ g, w5.heap.size = g := ⟨_, rfl⟩
        replace HBR := Lib.hid (HBR.out.trans (hal.mono HBR.out.size))

        rw [hgn] at HB8 ⊢
        clear hal hwn hgn
        go_wp2_with fail
        with_reducible refine (HR2.out w6 HBR.out).mono ?_
        rintro e w7 ⟨rfl, hbn⟩
        replace HB8 := Lib.hid (HB8.out.below hbn HB8.out.lt)
        replace HBR := Lib.hid (HBR.out.trans (hbn.mono HBR.out.size))
        clear hbn
        go_upto_region 9 with (with_reducible refine wpList_store_blk rfl 34 (.tmp 10) (.tmp 47) rfl w7.heap.size P rfl rfl 34 _ (Blk.new _ _ _) (by rw [HPS.out]; kernel_rfl) (by rw [HPS.out]; kernel_rfl) HPO.out ?_)
        generalize hwn : World.setRow _ _ _ = w8
        have hal : Below w7.heap.size w7 w8 := by
          rw [← hwn]
          exact below_row ((Below.refl _ _).alloc (Nat.le_refl _) _) (by simp) (Nat.le_refl _) _
        have HB10 := Lib.hid (show Blk w8 w7.heap.size P 34 by
          rw [← hwn]
          exact (Blk.new _ _ _).row _)
        obtain ⟨g10, hgn⟩ : ∃ g, w7.heap.size = g := ⟨_, rfl⟩
        replace HBR := Lib.hid (HBR.out.trans (hal.mono HBR.out.size))
        replace HB8 := Lib.hid (HB8.out.below hal HB8.out.lt)
        rw [hgn] at HB10 ⊢
        clear hal hwn hgn
        go_wp2_with fail
        with_reducible refine (HE1.out w8 HBR.out).mono ?_
        rintro e w9 ⟨Y1, y1, rfl, hy1, hv1, hbn⟩
        replace HB8 := Lib.hid (HB8.out.below hbn HB8.out.lt)
        replace HB10 := Lib.hid (HB10.out.below hbn HB10.out.lt)
        replace HBR := Lib.hid (HBR.out.trans (hbn.mono HBR.out.size))
        have HV1 := Lib.hid hv1
        clear hbn hv1
        go_wp2_with fail
        with_reducible refine (HE2.out w9 HBR.out).mono ?_
        rintro e w10 ⟨Y2, y2, rfl, hy2, hv2, hbn⟩
        replace HB8 := Lib.hid (HB8.out.below hbn HB8.out.lt)
        replace HB10 := Lib.hid (HB10.out.below hbn HB10.out.lt)
        replace HV1 := Lib.hid (HV1.out.on hbn)
        replace HBR := Lib.hid (HBR.out.trans (hbn.mono HBR.out.size))
        have HV2 := Lib.hid hv2
        clear hbn hv2
        have HSM := Lib.hid (show Calls Tryd.prog 26 #[.slice Y1 67 y1, .slice Y2 67 y2] w10 fun e w' => e = .returned (.bool true) ∧ Below w10.heap.size w10 w' from by
          have := ksame7_any HV1.out HV2.out (by rw [HEL.out]; omega)
          rwa [decide_eq_true rfl] at this)
        clear HR1 HR2 HE1 HE2 HV1 HV2
        have hqp := HQP.out
        go_wp2_with (first
          | (refine wpList_load_w8 (.tmp 8) rfl g8 rfl P HB8.out HPS.out ?_ ?_; · rfl)
          | (refine wpList_load_w8 (.tmp 10) rfl g10 rfl P HB10.out HPS.out ?_ ?_; · rfl))
        with_reducible refine (HSM.out).mono ?_
        rintro e w11 ⟨rfl, hbn⟩
        replace HBR := Lib.hid (HBR.out.trans (hbn.mono HBR.out.size))
        have HBT := Lib.hid (HB0.out.trans (HBR.out.mono HB0.out.size))
        clear hbn hqp HSM
        go_wp2_with fail
        with_reducible refine (wakes8_any w11 (tab_on HTAB.out HBT.out HBT.out.size)).mono ?_
        rintro e w12 ⟨rfl, hbn⟩
        have HBU := Lib.hid (HBT.out.trans (hbn.mono HBT.out.size))
        clear hbn
        go_wp2_with fail
        go_ret
        exact ⟨by first | rfl | kernel_rfl, HBU.out⟩
      · have HBQ := HBL
        obtain ⟨k, hkz⟩ : ∃ y, z = y := ⟨_, rfl⟩
        rw [hkz] at hk67 ⊢
        clear hkz
        obtain ⟨wr, hwr⟩ : ∃ y : World, y = w1 := ⟨_, rfl⟩
        rw [← hwr] at HBQ ⊢
        clear hwr
        obtain ⟨wq, hwq⟩ : ∃ y : World, y = wr := ⟨_, rfl⟩
        rw [← hwq] at HBQ ⊢
        clear hwq
        have HB0 := HBQ
        obtain ⟨P, hP⟩ : ∃ X, u8A zeroH = X := ⟨_, rfl⟩
        have HEP := Lib.hid hP
        have HPS := Lib.hid (show P.size = 32 by rw [← hP, u8A_size]; rfl)
        have HPO := Lib.hid (show P.all (·.oneCell') = true by rw [← hP]; exact u8A_one _)
        have HQP := Lib.hid (fun W => (show (Op.equalIn 10000 34 (.agg P) (.agg P)).run Tryd.prog W = .ok true W by rw [← hP, run_hash_eq W _ _ (rfl) (rfl), decide_eq_true rfl]))
        have HR1 := Lib.hid (fun W (hW : Below wq.heap.size wq W) => (show Calls Tryd.prog 30 #[.slice A M0 c, .slice V k cv] W fun e w' => e = .returned (.tuple #[.agg P, .bool false]) ∧ Below W.heap.size W w' from by
          rw [← hP]
          have hb2 := HB0.out.trans (hW.mono HB0.out.size)
          exact prec_no A M0 c V k cv W hk67))
        have HR2 := Lib.hid (fun W (hW : Below wq.heap.size wq W) => (show Calls Tryd.prog 31 #[.slice A M0 c, .slice V k cv] W fun e w' => e = .returned (.tuple #[.agg P, .bool false]) ∧ Below W.heap.size W w' from by
          rw [← hP]
          have hb2 := HB0.out.trans (hW.mono HB0.out.size)
          exact rrec8_no A M0 c V k cv W hk67))
        have HE1 := Lib.hid (fun W (hW : Below wq.heap.size wq W) => (show Calls Tryd.prog 13 #[.slice A M0 c, .slice V k cv] W fun e w' => e = .returned (.tuple #[.slice none 0 0, .bool false]) ∧ Below W.heap.size W w' from by
          have hb2 := HB0.out.trans (hW.mono HB0.out.size)
          exact pends_no A M0 c V k cv W hk67))
        have HE2 := Lib.hid (fun W (hW : Below wq.heap.size wq W) => (show Calls Tryd.prog 32 #[.slice A M0 c, .slice V k cv] W fun e w' => e = .returned (.tuple #[.slice none 0 0, .bool false]) ∧ Below W.heap.size W w' from by
          have hb2 := HB0.out.trans (hW.mono HB0.out.size)
          exact rends8_no A M0 c V k cv W hk67))
        have HBR := Lib.hid (Below.refl wq.heap.size wq)
        clear hP HBQ
        go_wp2_with fail
        with_reducible refine (HR1.out wq (Below.refl _ _)).mono ?_
        rintro e w5 ⟨rfl, hbn⟩
        replace HBR := Lib.hid (HBR.out.trans (hbn.mono HBR.out.size))
        clear hbn
        go_upto_region 8 with (with_reducible refine wpList_store_blk rfl 34 (.tmp 8) (.tmp 41) rfl w5.heap.size P rfl rfl 34 _ (Blk.new _ _ _) (by rw [HPS.out]; kernel_rfl) (by rw [HPS.out]; kernel_rfl) HPO.out ?_)
        generalize hwn : World.setRow _ _ _ = w6
        have hal : Below w5.heap.size w5 w6 := by
          rw [← hwn]
          exact below_row ((Below.refl _ _).alloc (Nat.le_refl _) _) (by simp) (Nat.le_refl _) _
        have HB8 := Lib.hid (show Blk w6 w5.heap.size P 34 by
          rw [← hwn]
          exact (Blk.new _ _ _).row _)
        obtain ⟨g8, hgn⟩ : ∃ g, w5.heap.size = g := ⟨_, rfl⟩
        replace HBR := Lib.hid (HBR.out.trans (hal.mono HBR.out.size))

        rw [hgn] at HB8 ⊢
        clear hal hwn hgn
        go_wp2_with fail
        with_reducible refine (HR2.out w6 HBR.out).mono ?_
        rintro e w7 ⟨rfl, hbn⟩
        replace HB8 := Lib.hid (HB8.out.below hbn HB8.out.lt)
        replace HBR := Lib.hid (HBR.out.trans (hbn.mono HBR.out.size))
        clear hbn
        go_upto_region 9 with (with_reducible refine wpList_store_blk rfl 34 (.tmp 10) (.tmp 47) rfl w7.heap.size P rfl rfl 34 _ (Blk.new _ _ _) (by rw [HPS.out]; kernel_rfl) (by rw [HPS.out]; kernel_rfl) HPO.out ?_)
        generalize hwn : World.setRow _ _ _ = w8
        have hal : Below w7.heap.size w7 w8 := by
          rw [← hwn]
          exact below_row ((Below.refl _ _).alloc (Nat.le_refl _) _) (by simp) (Nat.le_refl _) _
        have HB10 := Lib.hid (show Blk w8 w7.heap.size P 34 by
          rw [← hwn]
          exact (Blk.new _ _ _).row _)
        obtain ⟨g10, hgn⟩ : ∃ g, w7.heap.size = g := ⟨_, rfl⟩
        replace HBR := Lib.hid (HBR.out.trans (hal.mono HBR.out.size))
        replace HB8 := Lib.hid (HB8.out.below hal HB8.out.lt)
        rw [hgn] at HB10 ⊢
        clear hal hwn hgn
        go_wp2_with fail
        with_reducible refine (HE1.out w8 HBR.out).mono ?_
        rintro e w9 ⟨rfl, hbn⟩
        replace HB8 := Lib.hid (HB8.out.below hbn HB8.out.lt)
        replace HB10 := Lib.hid (HB10.out.below hbn HB10.out.lt)
        replace HBR := Lib.hid (HBR.out.trans (hbn.mono HBR.out.size))
        clear hbn
        go_wp2_with fail
        with_reducible refine (HE2.out w9 HBR.out).mono ?_
        rintro e w10 ⟨rfl, hbn⟩
        replace HB8 := Lib.hid (HB8.out.below hbn HB8.out.lt)
        replace HB10 := Lib.hid (HB10.out.below hbn HB10.out.lt)
        replace HBR := Lib.hid (HBR.out.trans (hbn.mono HBR.out.size))
        clear hbn
        have HSM := Lib.hid (show Calls Tryd.prog 26 #[.slice none 0 0, .slice none 0 0] w10 fun e w' => e = .returned (.bool true) ∧ Below w10.heap.size w10 w' from by
          have := ksame7_any (hs := []) (ks := []) (OwnH.nil w10 0).hv (OwnH.nil w10 0).hv (Nat.zero_le _)
          rwa [decide_eq_true rfl] at this)
        clear HR1 HR2 HE1 HE2
        have hqp := HQP.out
        go_wp2_with (first
          | (refine wpList_load_w8 (.tmp 8) rfl g8 rfl P HB8.out HPS.out ?_ ?_; · rfl)
          | (refine wpList_load_w8 (.tmp 10) rfl g10 rfl P HB10.out HPS.out ?_ ?_; · rfl))
        with_reducible refine (HSM.out).mono ?_
        rintro e w11 ⟨rfl, hbn⟩
        replace HBR := Lib.hid (HBR.out.trans (hbn.mono HBR.out.size))
        have HBT := Lib.hid (HB0.out.trans (HBR.out.mono HB0.out.size))
        clear hbn hqp HSM
        go_wp2_with fail
        with_reducible refine (wakes8_any w11 (tab_on HTAB.out HBT.out HBT.out.size)).mono ?_
        rintro e w12 ⟨rfl, hbn⟩
        have HBU := Lib.hid (HBT.out.trans (hbn.mono HBT.out.size))
        clear hbn
        go_wp2_with fail
        go_ret
        exact ⟨by first | rfl | kernel_rfl, HBU.out⟩
  | true =>
    go_enter Tryd.func7, Tryd.ntmps7
    go_wp2_with fail
    with_reducible refine (HCB0.out _).mono ?_
    rintro e wx ⟨rfl, rfl⟩
    go_wp2_with fail
    with_reducible refine (HCUT.out _).mono ?_
    rintro e wx ⟨rfl, rfl⟩
    go_wp2_with fail
    with_reducible refine (HCP.out).mono ?_
    rintro e w1 ⟨v1, rfl, hown, hb1⟩
    obtain ⟨V0, cv0, rfl, _, _⟩ := hown.form HKL.out
    have HO := Lib.hid hown
    have HBL := Lib.hid hb1
    clear hown hb1 HCP HCB0 HCUT
    go_wp2_with fail
    go_loopw [7] (fun v wq => ∃ (V : Option Addr) (k cv : Nat) (vs : List (List UInt8)), k ≤ 70 ∧ v = .slice V k cv ∧ Hid (vs.length = k) ∧ Hid (OwnH wq w.heap.size (.slice V k cv) vs) ∧ Hid (Below w.heap.size w wq)) (fun v _ => 67 - lenS v)
    case atStart => exact ⟨V0, z, cv0, ks, hz70, rfl, HKL, HO, HBL⟩
    case round =>
      clear HO HBL HKL
      obtain ⟨V, k, cv, vs, hk, rfl, HKL, HO, HBL⟩ := hrel
      by_cases hlt : k < 67
      · have hki : (k : Int) < 67 := by omega
        obtain ⟨x, hx⟩ : ∃ x : UInt8, UInt8.ofNat k = x := ⟨_, rfl⟩
        have hxk : x.toNat = k := by rw [← hx, UInt8.toNat_ofNat']; omega
        have HXK := Lib.hid hxk
        have HY := Lib.hid (built_first x)
        rw [hxk] at HY
        obtain ⟨y, hy⟩ : ∃ y, x :: List.replicate 31 0 = y := ⟨_, rfl⟩
        have hyl : y.length = 32 := by rw [← hy]; rfl
        rw [hy] at HY
        obtain ⟨Y, hY⟩ : ∃ Y, u8A y = Y := ⟨_, rfl⟩
        have HYE := Lib.hid hY
        rw [hY] at HY
        have HYS := Lib.hid (show Y.size = 32 by rw [← hY, u8A_size]; exact hyl)
        have hwk : IntKind.u8.wrap (k : Int) = (k : Int) := by rw [IntKind.wrap_u8]; omega
        have hal : Below wr.heap.size wr (wr.alloc (.cells Y 34)) := (Below.refl _ _).alloc (Nat.le_refl _) _
        have HO2 := Lib.hid (HO.out.on hal)
        have HB2 := Lib.hid (HBL.out.trans (hal.mono HBL.out.size))
        have HNB := Lib.hid (show Blk (wr.alloc (.cells Y 34)) wr.heap.size (u8A y) 34 by rw [HYE.out]; exact Blk.new _ _ _)
        have HLM := Lib.hid (show vs.length ≤ 1000000 by rw [HKL.out]; omega)
        have HL1 := Lib.hid (show (vs ++ [y]).length = k + 1 by rw [List.length_append, HKL.out]; rfl)
        have hsz2 : w.heap.size ≤ (wr.alloc (.cells Y 34)).heap.size := HB2.out.size
        clear hx hxk hy hY hal HO HBL
        go_wp2_with (first
          | (with_reducible refine wpList_build_first8 rfl (.tmp 30) rfl k Y rfl HY.out ?_)
          | (with_reducible refine wpList_build_hash rfl (.tmp 31) rfl Y rfl HYS.out ?_)
          | (at_builtin; refine wpList_append_hashG rfl _ _ rfl w.heap.size _ vs rfl HO2.out wr.heap.size y hyl HNB.out rfl HLM.out hsz2 ?_))
        intro v7 w7 hown7 hg7
        obtain ⟨A7, c7, rfl, _, _⟩ := hown7.form HL1.out
        have HO7 := Lib.hid hown7
        have HB7 := Lib.hid (HB2.out.grown hg7 hsz2 (fun q hq => HO2.out.lt q hq))
        clear hown7 hg7 HO2 HB2 HNB hsz2
        go_wp2_with fail
        go_roundw
        case rel => exact ⟨A7, k + 1, c7, _, by omega, rfl, HL1, HO7, HB7⟩
        case measure => simp [lenS]; omega
      · have hni : ¬ (k : Int) < 67 := by omega
        have hk67 : 67 ≤ k := by omega
        have hvv : HV wr (.slice V 67 cv) (vs.take 67) := by
          have := cutHV (k := 67) HO.out.hv HKL.out
          rwa [Nat.min_eq_right hk67] at this
        have hcv : 67 ≤ cv := by
          obtain ⟨_, _, e, hkc, _⟩ := HO.out.form HKL.out
          injection e with _ _ e3
          omega
        have hsl := fun W => run_cut_hash V k cv W (by omega)
        have HVV := Lib.hid hvv
        have HBQ := HBL
        generalize vs.take 67 = ws at *
        clear hvv HO HBL
        go_wp2_with fail
        obtain ⟨vs, hvs⟩ : ∃ v, ws = v := ⟨_, rfl⟩
        rw [hvs] at HVV
        clear hvs
        obtain ⟨wq, hwq⟩ : ∃ y : World, y = wr := ⟨_, rfl⟩
        rw [← hwq] at HBQ HVV ⊢
        clear hwq
        have HB0 := HBQ
        obtain ⟨E, hE⟩ : ∃ E, atL (endF (digH (msgH bl0)) vs) 67 = E := ⟨_, rfl⟩
        have HEL := Lib.hid (show E.length = 67 by rw [← hE]; exact atL_len _ _)
        obtain ⟨P, hP⟩ : ∃ X, u8A (pubH E) = X := ⟨_, rfl⟩
        have HEP := Lib.hid hP
        have HPS := Lib.hid (show P.size = 32 by rw [← hP, u8A_size]; exact pubH_len _)
        have HPO := Lib.hid (show P.all (·.oneCell') = true by rw [← hP]; exact u8A_one _)
        have HQP := Lib.hid (fun W => (show (Op.equalIn 10000 34 (.agg P) (.agg P)).run Tryd.prog W = .ok true W by rw [← hP, run_hash_eq W _ _ (pubH_len _) (pubH_len _), decide_eq_true rfl]))
        have HR1 := Lib.hid (fun W (hW : Below wq.heap.size wq W) => (show Calls Tryd.prog 30 #[.slice A M0 c, .slice V 67 cv] W fun e w' => e = .returned (.tuple #[.agg P, .bool true]) ∧ Below W.heap.size W w' from by
          rw [← hP, ← hE]
          have hb2 := HB0.out.trans (hW.mono HB0.out.size)
          exact prec_yes A M0 c bl0 V cv vs W hbn0 (by omega) hMc0 hcm (hbr0.on hb2) (HVV.out.on hW) (tab_on HTAB.out hb2 hb2.size)))
        have HR2 := Lib.hid (fun W (hW : Below wq.heap.size wq W) => (show Calls Tryd.prog 31 #[.slice A M0 c, .slice V 67 cv] W fun e w' => e = .returned (.tuple #[.agg P, .bool true]) ∧ Below W.heap.size W w' from by
          rw [← hP, ← hE]
          have hb2 := HB0.out.trans (hW.mono HB0.out.size)
          exact rrec8_yes A M0 c bl0 V cv vs W hbn0 (by omega) hMc0 hcm (hbr0.on hb2) (HVV.out.on hW)))
        have HE1 := Lib.hid (fun W (hW : Below wq.heap.size wq W) => (show Calls Tryd.prog 13 #[.slice A M0 c, .slice V 67 cv] W fun e w' => ∃ Y y, e = .returned (.tuple #[.slice Y 67 y, .bool true]) ∧ 67 ≤ y ∧ HV w' (.slice Y 67 y) E ∧ Below W.heap.size W w' from by
          have hb2 := HB0.out.trans (hW.mono HB0.out.size)
          rw [← hE]
          refine (pends_yes A M0 c bl0 V cv vs W hbn0 (by omega) hMc0 hcm (hbr0.on hb2) (HVV.out.on hW) (tab_on HTAB.out hb2 hb2.size)).mono ?_
          rintro e w' ⟨v, rfl, ho, hb⟩
          obtain ⟨Y, y, rfl, hy, _⟩ := ho.form (atL_len _ _)
          exact ⟨Y, y, rfl, hy, ho.hv, hb⟩))
        have HE2 := Lib.hid (fun W (hW : Below wq.heap.size wq W) => (show Calls Tryd.prog 32 #[.slice A M0 c, .slice V 67 cv] W fun e w' => ∃ Y y, e = .returned (.tuple #[.slice Y 67 y, .bool true]) ∧ 67 ≤ y ∧ HV w' (.slice Y 67 y) E ∧ Below W.heap.size W w' from by
          have hb2 := HB0.out.trans (hW.mono HB0.out.size)
          rw [← hE]
          refine (rends8_yes A M0 c bl0 V cv vs W hbn0 (by omega) hMc0 hcm (hbr0.on hb2) (HVV.out.on hW)).mono ?_
          rintro e w' ⟨v, rfl, ho, hb⟩
          obtain ⟨Y, y, rfl, hy, _⟩ := ho.form (atL_len _ _)
          exact ⟨Y, y, rfl, hy, ho.hv, hb⟩))
        have HBR := Lib.hid (Below.refl wq.heap.size wq)
        clear hP hE HBQ
        go_wp2_with fail
        with_reducible refine (HR1.out wq (Below.refl _ _)).mono ?_
        rintro e w5 ⟨rfl, hbn⟩
        replace HBR := Lib.hid (HBR.out.trans (hbn.mono HBR.out.size))
        clear hbn
        go_upto_region 8 with (with_reducible refine wpList_store_blk rfl 34 (.tmp 8) (.tmp 41) rfl w5.heap.size P rfl rfl 34 _ (Blk.new _ _ _) (by rw [HPS.out]; kernel_rfl) (by rw [HPS.out]; kernel_rfl) HPO.out ?_)
        generalize hwn : World.setRow _ _ _ = w6
        have hal : Below w5.heap.size w5 w6 := by
          rw [← hwn]
          exact below_row ((Below.refl _ _).alloc (Nat.le_refl _) _) (by simp) (Nat.le_refl _) _
        have HB8 := Lib.hid (show Blk w6 w5.heap.size P 34 by
          rw [← hwn]
          exact (Blk.new _ _ _).row _)
        obtain ⟨g8, hgn⟩ : ∃ g, w5.heap.size = g := ⟨_, rfl⟩
        replace HBR := Lib.hid (HBR.out.trans (hal.mono HBR.out.size))

        rw [hgn] at HB8 ⊢
        clear hal hwn hgn
        go_wp2_with fail
        with_reducible refine (HR2.out w6 HBR.out).mono ?_
        rintro e w7 ⟨rfl, hbn⟩
        replace HB8 := Lib.hid (HB8.out.below hbn HB8.out.lt)
        replace HBR := Lib.hid (HBR.out.trans (hbn.mono HBR.out.size))
        clear hbn
        go_upto_region 9 with (with_reducible refine wpList_store_blk rfl 34 (.tmp 10) (.tmp 47) rfl w7.heap.size P rfl rfl 34 _ (Blk.new _ _ _) (by rw [HPS.out]; kernel_rfl) (by rw [HPS.out]; kernel_rfl) HPO.out ?_)
        generalize hwn : World.setRow _ _ _ = w8
        have hal : Below w7.heap.size w7 w8 := by
          rw [← hwn]
          exact below_row ((Below.refl _ _).alloc (Nat.le_refl _) _) (by simp) (Nat.le_refl _) _
        have HB10 := Lib.hid (show Blk w8 w7.heap.size P 34 by
          rw [← hwn]
          exact (Blk.new _ _ _).row _)
        obtain ⟨g10, hgn⟩ : ∃ g, w7.heap.size = g := ⟨_, rfl⟩
        replace HBR := Lib.hid (HBR.out.trans (hal.mono HBR.out.size))
        replace HB8 := Lib.hid (HB8.out.below hal HB8.out.lt)
        rw [hgn] at HB10 ⊢
        clear hal hwn hgn
        go_wp2_with fail
        with_reducible refine (HE1.out w8 HBR.out).mono ?_
        rintro e w9 ⟨Y1, y1, rfl, hy1, hv1, hbn⟩
        replace HB8 := Lib.hid (HB8.out.below hbn HB8.out.lt)
        replace HB10 := Lib.hid (HB10.out.below hbn HB10.out.lt)
        replace HBR := Lib.hid (HBR.out.trans (hbn.mono HBR.out.size))
        have HV1 := Lib.hid hv1
        clear hbn hv1
        go_wp2_with fail
        with_reducible refine (HE2.out w9 HBR.out).mono ?_
        rintro e w10 ⟨Y2, y2, rfl, hy2, hv2, hbn⟩
        replace HB8 := Lib.hid (HB8.out.below hbn HB8.out.lt)
        replace HB10 := Lib.hid (HB10.out.below hbn HB10.out.lt)
        replace HV1 := Lib.hid (HV1.out.on hbn)
        replace HBR := Lib.hid (HBR.out.trans (hbn.mono HBR.out.size))
        have HV2 := Lib.hid hv2
        clear hbn hv2
        have HSM := Lib.hid (show Calls Tryd.prog 26 #[.slice Y1 67 y1, .slice Y2 67 y2] w10 fun e w' => e = .returned (.bool true) ∧ Below w10.heap.size w10 w' from by
          have := ksame7_any HV1.out HV2.out (by rw [HEL.out]; omega)
          rwa [decide_eq_true rfl] at this)
        clear HR1 HR2 HE1 HE2 HV1 HV2
        have hqp := HQP.out
        go_wp2_with (first
          | (refine wpList_load_w8 (.tmp 8) rfl g8 rfl P HB8.out HPS.out ?_ ?_; · rfl)
          | (refine wpList_load_w8 (.tmp 10) rfl g10 rfl P HB10.out HPS.out ?_ ?_; · rfl))
        with_reducible refine (HSM.out).mono ?_
        rintro e w11 ⟨rfl, hbn⟩
        replace HBR := Lib.hid (HBR.out.trans (hbn.mono HBR.out.size))
        have HBT := Lib.hid (HB0.out.trans (HBR.out.mono HB0.out.size))
        clear hbn hqp HSM
        go_wp2_with fail
        with_reducible refine (wakes8_any w11 (tab_on HTAB.out HBT.out HBT.out.size)).mono ?_
        rintro e w12 ⟨rfl, hbn⟩
        have HBU := Lib.hid (HBT.out.trans (hbn.mono HBT.out.size))
        clear hbn
        go_wp2_with fail
        go_ret
        exact ⟨by first | rfl | kernel_rfl, HBU.out⟩

set_option maxRecDepth 100000 in
theorem contract (H : Type) (enc : TypeId × Value → H) (W : World) (base : Nat) (args : Array Value) (ds gs : List (DataW H)) (before : List MemPlace)
    (hval : ∀ (j : Nat) t v, Tryd.f7.params[j]? = some t → args[j]? = some v → Value.okWide Tryd.prog W .any base t v)
    (hW : DataW.Whole enc Tryd.prog Tryd.f7.params.toList Rows.wotsRecoversSpec.vars false W args.toList ds gs before) (hL : laidMetH Tryd.prog Rows.wotsRecoversRow.laid W) :
    Calls Tryd.prog 7 args W fun e W' => ∃ v, e = .returned v ∧ Rows.wotsRecoversSpec.post enc Tryd.prog Tryd.f7 false true false false W args v W' := by
  have hW' := hW
  obtain ⟨p, q, hA0, hV, rfl, hfz, hnd⟩ := hW
  have hA : DataW.TrodAll enc Tryd.prog W 0 (fun _ => true) true Tryd.f7.params.toList args.toList ds p := hA0
  rw [Tryd.params7] at hA hval
  obtain ⟨v0, v1, v2, d0, d1, d2, p0, p1, p2, rfl, rfl, rfl, h0, h1, h2⟩ := trodAll_three hA
  obtain ⟨rfl, rfl⟩ := trodVars_none hV
  obtain ⟨A0, m0, c0, l0, rfl, hl0, hc0, hm0, hr0⟩ := open_bytes (hval 0 24 v0 rfl rfl) h0
  obtain ⟨A1, m1, c1, l1, rfl, hl1, hc1, hm1, hz1, hr1⟩ := open_hashes (hval 1 27 v1 rfl rfl) h1
  obtain ⟨t2, rfl, rfl, rfl⟩ := open_bool Tryd.underlying4 (hval 2 4 v2 rfl rfl) h2
  clear hA0
  refine (walk A0 m0 c0 l0 A1 m1 c1 l1 t2 W hl0 hc0 hm0 hr0 hl1 hc1 hz1 hr1 (pow10 hL)).mono fun e W' ⟨he, hb⟩ => ?_
  exact ⟨_, he, law_post hW' rfl (by kernel_rfl) rfl (by kernel_rfl) hb⟩

theorem laid_met (os : Os) : laidMet Tryd.prog Rows.wotsRecoversRow.laid ((laidWorld os).forCall (fun _ _ => 0) ⟨#[], #[.slice none 0 0, .slice none 0 0, .bool false], []⟩).memory :=
  laidMet_of_run' 8 (by kernel_rfl) (by kernel_rfl)
theorem reads (os : Os) {H : Type} (enc : TypeId × Value → H) : ∃ places, DataW.whole enc Tryd.prog ((laidWorld os).forCall (fun _ _ => 0) ⟨#[], #[.slice none 0 0, .slice none 0 0, .bool false], []⟩).memory Tryd.f7.params.toList Rows.wotsRecoversSpec.vars false #[Value.slice none 0 0, Value.slice none 0 0, Value.bool false].toList 8 = some ([.nil, .nil, .lit (.bool false)], [], places) :=
  ⟨[], by kernel_rfl⟩

set_option maxRecDepth 100000 in
theorem lifted (os : Os) (started : os.Started) (H : Type) (enc : TypeId × Value → H) (F : Stop.Interp) :
    ReturnsInHanded {} Tryd.checked os 7 .any ((OpenSpec.ofChange Rows.wotsRecoversSpec).preRow enc Tryd.prog Tryd.f7 Rows.wotsRecoversRow.domain false Rows.wotsRecoversRow.laid) (((OpenSpec.ofChange Rows.wotsRecoversSpec).at F).post enc Tryd.prog Tryd.f7 false true false false) := by
  obtain ⟨places, hx⟩ := reads os enc
  refine returnsInHanded_of_row (C := Tryd.checked) (s := OpenSpec.ofChange Rows.wotsRecoversSpec) own started (by kernel_rfl) Tryd.func7
    (witness_row_at (enc := enc) (C := Tryd.checked) false (laidWorld os) #[.slice none 0 0, .slice none 0 0, .bool false] rfl (by kernel_rfl) (by kernel_rfl) (by kernel_rfl)
      (OpenSpec.preRow_of_cond 8 hx (by kernel_rfl) (fun k hk => by cases hk) (by kernel_rfl) (laid_met os))) ?_
  intro W base args ds gs before hval hW _ _ _ hL _ _
  exact contract H enc W base args ds gs before hval hW hL

theorem said : Rows.WotsRecoversSaid :=
  OpenClaim.holds_of_cond 7 Tryd.f7 rfl rfl rfl rfl rfl rfl rfl ⟨rfl, rfl, rfl, rfl, rfl⟩ rfl rfl rfl rfl rfl (by kernel_rfl) Tryd.func7 (by kernel_rfl)
    (of_decide_eq_true (by kernel_rfl)) (by unfold Func.isWrapper; first | (rw [if_pos (by decide +kernel)]; kernel_rfl) | (rw [if_neg (by decide +kernel)]; exact ⟨rfl, rfl⟩))
    (fun os started H enc _ F => by rw [OpenClaim.pre_eq_preRow]; exact lifted os started H enc F)

theorem plain (f : FuncId) (fn : Func) (hf : Tryd.pinned.checked.prog.funcNamed "aumbry/aumbrylaw08.WotsRecovers" = some f) (hfn : Tryd.pinned.checked.prog.funcs[f]? = some fn) :
    false = Tryd.pinned.checked.prog.looks [] ∧ ∀ (j : Nat) t, fn.params[j]? = some t → Tryd.pinned.checked.prog.wantsStandIn t = false := by
  obtain rfl : f = 7 := Option.some.inj ((show Tryd.prog.funcNamed "aumbry/aumbrylaw08.WotsRecovers" = some 7 by kernel_rfl).symm.trans hf) |>.symm
  obtain rfl : fn = Tryd.f7 := (Option.some.inj (Tryd.func7.symm.trans hfn)).symm
  refine ⟨by kernel_rfl, fun j t ht => ?_⟩
  exact wants_none (by kernel_rfl) (Array.mem_of_getElem? ht)

/-- The card: the statement holds, its listed tables tied to the program's text. -/
theorem card : Rows.WotsRecoversCardSaid :=
  Claim7.holds_tied_plain_at .later [] _ _ _ _ said (fun _ h => by cases h) (by kernel_rfl) (fun _ h => by cases h) wotsRecovers_row_tie rfl ⟨rfl, rfl⟩ (by kernel_rfl) rfl plain (by kernel_rfl)
end Go.Proofs.YtciflbkgfmbfdaaDoor.wotsRecovers
