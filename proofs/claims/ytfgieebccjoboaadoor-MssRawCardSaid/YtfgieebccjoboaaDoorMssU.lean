/- Bytes as hashes, as the document takes them. A signature out of its bytes, as the document takes it. -/
import Derived.Test.YtfgieebccjoboaaDoorMssB
import Derived.Test.YtfgieebccjoboaaDoorWotsD
import Derived.Test.YtfgieebccjoboaaDoorRTClimb
namespace Go.Proofs.YtfgieebccjoboaaDoor
open Go.RowKit

def chunkL (l : List UInt8) (i : Nat) : List UInt8 := (l.drop (32 * i)).take 32
theorem chunkL_len {l : List UInt8} {i K : Nat} (h : l.length = 32 * K) (hi : i < K) : (chunkL l i).length = 32 := by
  unfold chunkL
  rw [List.length_take, List.length_drop]
  omega
theorem chunkL_at {l : List UInt8} {i K j : Nat} (h : l.length = 32 * K) (hi : i < K) (hj : j < 32) : (chunkL l i).take (j + 1) = (chunkL l i).take j ++ [l.getD (32 * i + j) 0] := by
  have hl : j < (chunkL l i).length := by rw [chunkL_len h hi]; exact hj
  rw [List.take_succ_eq_append_getElem hl]
  congr 1
  have e : (chunkL l i)[j]? = l[32 * i + j]? := by
    unfold chunkL
    rw [List.getElem?_take, if_pos hj, List.getElem?_drop]
  rw [List.getD_eq_getElem?_getD, ← e, List.getElem?_eq_getElem hl]
  rfl
set_option maxRecDepth 100000 in
set_option maxHeartbeats 8000000 in
theorem rtake9_any (A : Option Addr) (n c K : Nat) (l : List UInt8) (w : World) (hn : l.length = n) (h1 : n ≤ 100000) (hK : n = 32 * K) (hr : Rd w w.heap.size A l) :
    Calls Tryd.prog 67 #[.slice A n c] w fun e w' => ∃ v, e = .returned (.tuple #[v, .bool true]) ∧ OwnH w' w.heap.size v (atL (chunkL l) K) ∧ Below w.heap.size w w' := by
  have HN := Lib.hid (show l.length = 32 * K by rw [hn, hK])
  have HR := Lib.hid hr
  have HKN := Lib.hid hK
  have hmod : (n : Int).tmod 32 = 0 := by rw [Int.tmod_eq_emod_of_nonneg (by omega)]; omega
  clear hn hr hK
  go_enter Tryd.func67, Tryd.ntmps67
  go_wp2_with fail
  go_loopw [4, 5] (fun v t wq => ∃ (k q : Nat) (A5 : Option Addr) (c5 : Nat), k ≤ K ∧ q = 32 * k ∧ t = .int .i64 (q : Int) ∧ v = .slice A5 k c5 ∧ Hid (OwnH wq w.heap.size (.slice A5 k c5) (atL (chunkL l) k)) ∧ Hid (Below w.heap.size w wq)) (fun _ t _ => n - (intOf t).toNat)
  case atStart => exact ⟨0, 0, none, 0, Nat.zero_le _, rfl, rfl, rfl, Lib.hid (OwnH.nil _ _), Lib.hid (Below.refl _ _)⟩
  case round =>
    obtain ⟨k, q, A5, c5, hk, hq, rfl, rfl, HO, HBL⟩ := hrel
    have hKn := HKN.out
    have hqb : q ≤ 100000 := by omega
    by_cases hlt : k < K
    · have hle : (q : Int) + 32 ≤ (n : Int) := by omega
      have HQ := Lib.hid hq
      obtain ⟨x, hx⟩ : ∃ x, chunkL l k = x := ⟨_, rfl⟩
      have HXL := Lib.hid (show x.length = 32 by rw [← hx]; exact chunkL_len HN.out hlt)
      have HXT := Lib.hid (fun j (hj : j < 32) => (show x.take (j + 1) = x.take j ++ [l.getD (q + j) 0] by rw [← hx, hq]; exact chunkL_at HN.out hlt hj))
      have HSN := Lib.hid (show atL (chunkL l) k ++ [x] = atL (chunkL l) (k + 1) by rw [atL_snoc, hx])
      have hqn : (q : Int) ≤ (n : Int) := by omega
      clear hx hq hlt hKn
      have hlk : k < K := by have := HQ.out; have := HKN.out; omega
      obtain ⟨wo, rfl⟩ : ∃ y : World, y = wr := ⟨_, rfl⟩
      go_upto_region 8 with fail
      generalize hw4 : World.alloc _ _ = w4
      have hal : Below wo.heap.size wo w4 := by
        rw [← hw4]
        exact (Below.refl _ _).alloc (Nat.le_refl _) _
      have HB6 := Lib.hid (show Blk w4 wo.heap.size (u8A (padB 32 (x.take 0))) 29 by
        rw [← hw4]
        exact Blk.new _ _ _)
      have HAL := Lib.hid hal
      obtain ⟨gh, hgh⟩ : ∃ g, wo.heap.size = g := ⟨_, rfl⟩
      have HGH := Lib.hid hgh
      rw [hgh] at HB6 ⊢
      clear hal hw4 hgh
      go_wp2_with fail
      go_loopw [19] (fun t wq => ∃ j : Nat, j ≤ 32 ∧ t = .int .i64 (j : Int) ∧ Hid (Blk wq gh (u8A (padB 32 (x.take j))) 29) ∧ Hid (Below gh w4 wq)) (fun t _ => 32 - (intOf t).toNat)
      case atStart => exact ⟨0, Nat.zero_le _, rfl, HB6, Lib.hid (Below.refl _ _)⟩
      case round =>
        clear HB6
        obtain ⟨j, hj, rfl, HB6, HB4⟩ := hrel
        have hbo : Below wo.heap.size wo wr := HAL.out.trans (HB4.out.mono (by rw [HGH.out]; exact Nat.le_refl _))
        by_cases hlt : j < 32
        · have hji : (j : Int) < 32 := by omega
          have hql : q + j < l.length := by have := HQ.out; have := HN.out; omega
          have hrw := HR.out.below (HBL.out.trans (hbo.mono HBL.out.size)) (Nat.le_refl _)
          obtain ⟨b, off, rfl, hbs, hcell⟩ := hrw.at_ (q + j) hql
          have hg : l.getD (q + j) 0 = l[q + j] := by simp [List.getD_eq_getElem?_getD, hql]
          have hst := HXT.out j hlt
          rw [hg] at hst
          have HST := Lib.hid hst
          generalize l[q + j] = y at *
          have hqj : (q : Int) + (j : Int) = ((q + j : Nat) : Int) := by omega
          obtain ⟨p, hp⟩ : ∃ p, q + j = p := ⟨_, rfl⟩
          rw [hp] at hcell hqj
          have hpn : (p : Int) < (n : Int) := by have := HQ.out; have := HKN.out; omega
          have htl := HXL.out
          have hf1 := HB6.out.frozen j
          obtain ⟨o1, ho1⟩ : ∃ old, wr.cell? ⟨gh, j, none⟩ = some old := ⟨_, HB6.out.byteAt (i := j) (by rw [padB_len (by rw [List.length_take]; omega)]; exact hlt)⟩
          have hgl := HB6.out.lt
          clear hg hst hp hql hrw htl
          go_wp2_with fail
          go_roundw
          case rel =>
            refine ⟨j + 1, hlt, by go_num, Lib.hid ?_, Lib.hid (HB4.out.setCell (by simp) _)⟩
            rw [HST.out]
            exact HB6.out.byte (by rw [List.length_take, HXL.out]; omega) hlt rfl
          case measure => simp [intOf]; omega
        · obtain rfl : j = 32 := by omega
          have hx32 : padB 32 (x.take 32) = x := by rw [List.take_of_length_le (by rw [HXL.out]; exact Nat.le_refl _)]; exact padB_full HXL.out
          rw [hx32] at HB6
          obtain ⟨Y, hY⟩ : ∃ Y, u8A x = Y := ⟨_, rfl⟩
          have HYE := Lib.hid hY
          have HYZ := Lib.hid (show Y.size = 32 by rw [← hY, u8A_size]; exact HXL.out)
          rw [hY] at HB6
          have hal5 : Below wr.heap.size wr (wr.alloc (.cells Y 29)) := (Below.refl _ _).alloc (Nat.le_refl _) _
          have hb5 := hbo.trans (hal5.mono hbo.size)
          have HOW := Lib.hid (HO.out.on hb5)
          have HBZ := Lib.hid (show Blk (wr.alloc (.cells Y 29)) wr.heap.size (u8A x) 29 by
            rw [HYE.out]
            exact Blk.new _ _ _)
          have HBAL := Lib.hid (HBL.out.trans (hb5.mono HBL.out.size))
          have hle2 : w.heap.size ≤ (wr.alloc (.cells Y 29)).heap.size := HBAL.out.size
          have HLM := Lib.hid (show (atL (chunkL l) k).length ≤ 1000000 by rw [atL_len]; have := HQ.out; omega)
          clear hx32 hY hal5 hb5 hbo HO HBL
          go_wp2_with (first
            | (with_reducible refine wpList_load_blk rfl 29 (.tmp 6) rfl gh rfl 29 Y _ HB6.out Tryd.underlying29 rfl (by rw [HYZ.out]; kernel_rfl) ?_)
            | (with_reducible refine wpList_build_hash rfl (.tmp 32) rfl Y rfl HYZ.out ?_)
            | (at_builtin; refine wpList_append_hashG rfl _ _ rfl w.heap.size _ (atL (chunkL l) k) rfl HOW.out wr.heap.size x HXL.out HBZ.out rfl HLM.out hle2 ?_))
          intro v7 w7 hown7 hg7
          rw [HSN.out] at hown7
          obtain ⟨A7, c7, rfl, _, _⟩ := hown7.form (atL_len _ _)
          have HB7 := Lib.hid (HBAL.out.grown hg7 hle2 (fun q hq => HOW.out.lt q hq))
          have HO7 := Lib.hid hown7
          clear hown7 hg7 HOW HBZ HBAL hle2
          go_wp2_with fail
          go_roundw
          case rel => exact ⟨k + 1, q + 32, A7, c7, hlk, by have := HQ.out; omega, by go_num, rfl, HO7, HB7⟩
          case measure => simp [intOf]; omega
    · obtain rfl : k = K := by omega
      have hle : ¬ (q : Int) + 32 ≤ (n : Int) := by omega
      clear hq hKn
      go_wp2_with fail
      go_ret2
      exact ⟨_, rfl, HO.out, HBL.out⟩
end Go.Proofs.YtfgieebccjoboaaDoor
namespace Go.Proofs.YtfgieebccjoboaaDoor
open Go.RowKit

/-- Are bytes a signature's? Which one? -/
def unpOK (b : List UInt8) : Prop := 3 ≤ b.length ∧ (b.getD 0 0).toNat ≤ 4 ∧ b.length = 3 + 32 * (67 + (b.getD 0 0).toNat)
instance (b : List UInt8) : Decidable (unpOK b) := by unfold unpOK; infer_instance
def unpV (b : List UInt8) : SigV := ⟨((b.getD 0 0).toNat : Int), ((256 * (b.getD 1 0).toNat + (b.getD 2 0).toNat : Nat) : Int), (atL (chunkL (b.drop 3)) (67 + (b.getD 0 0).toNat)).take 67, (atL (chunkL (b.drop 3)) (67 + (b.getD 0 0).toNat)).drop 67⟩
set_option maxRecDepth 100000 in
theorem run_first_hash (A : Option Addr) (n c : Nat) (W : World) (h : 67 ≤ c) :
    (Instr.slice 33 (.slice A n c) none (some (.int .i64 67)) none).run Tryd.prog W = .ok (.slice A 67 c) W := by
  obtain ⟨j, z, hj, _, _, hsz, _⟩ := hash_parts
  rw [run_slice_h W 33 A n c Tryd.underlying33 .i64 67 (by omega) (by omega)]
  rw [show Tryd.prog.elem 33 = 29 from by kernel_rfl]
  simp [sizeOf, typeInfo, hj, hsz, sliced, Addr.add]
set_option maxRecDepth 100000 in
theorem run_rest_hash (g n c : Nat) (W : World) (h : 67 ≤ n) (_h2 : n ≤ c) :
    (Instr.slice 33 (.slice (some ⟨g, 0, none⟩) n c) (some (.int .i64 67)) none none).run Tryd.prog W = .ok (.slice (if c = 67 then some ⟨g, 0, none⟩ else some ⟨g, 67 * 32, none⟩) (n - 67) (c - 67)) W := by
  obtain ⟨j, z, hj, _, _, hsz, _⟩ := hash_parts
  rw [run_slice_l W 33 (some ⟨g, 0, none⟩) n c Tryd.underlying33 .i64 67 (by omega) (by omega)]
  rw [show Tryd.prog.elem 33 = 29 from by kernel_rfl]
  simp [sizeOf, typeInfo, hj, hsz, sliced, Addr.add]
set_option maxRecDepth 100000 in
theorem run_sub3 (b o n c : Nat) (W : World) (h1 : 3 < c) (h2 : 3 ≤ n) :
    (Instr.slice 24 (.slice (some ⟨b, o, none⟩) n c) (some (.int .i64 3)) none none).run Tryd.prog W = .ok (.slice (some ⟨b, o + 3, none⟩) (n - 3) (c - 3)) W := by
  obtain ⟨j, hj, hsz⟩ := infoByte
  rw [run_slice_l W 24 (some ⟨b, o, none⟩) n c Tryd.underlying24 .i64 3 (by omega) (by omega)]
  rw [show Tryd.prog.elem 24 = 5 from by kernel_rfl]
  have hne : ¬ c = 3 := by omega
  simp [sizeOf, typeInfo, hj, hsz, sliced, Addr.add, hne]
theorem hv_first {w : World} {A : Option Addr} {n c : Nat} {hs : List (List UInt8)} (h : HV w (.slice A n c) hs) (h2 : 67 ≤ n) : HV w (.slice A 67 c) (hs.take 67) := by
  obtain ⟨hl, X, d, e, h3, h4⟩ := h
  injection e with e1 e2 e3
  subst e1 e2 e3
  exact ⟨fun r hr => hl r (List.mem_of_mem_take hr), A, c, by rw [List.length_take, Nat.min_eq_left h2], by rw [List.length_take]; omega, h4.take 67⟩
theorem hv_last {w : World} {g n c : Nat} {hs : List (List UInt8)} (h : HV w (.slice (some ⟨g, 0, none⟩) n c) hs) (h2 : 67 ≤ n) : HV w (.slice (if c = 67 then some ⟨g, 0, none⟩ else some ⟨g, 67 * 32, none⟩) (n - 67) (c - 67)) (hs.drop 67) := by
  obtain ⟨hl, X, d, e, h3, h4⟩ := h
  injection e with e1 e2 e3
  subst e1 e2 e3
  refine ⟨fun r hr => hl r (List.mem_of_mem_drop hr), _, c - 67, by rw [List.length_drop], by rw [List.length_drop]; omega, ?_⟩
  by_cases hc : c = 67
  · exact .inl (List.drop_of_length_le (by omega))
  · rw [if_neg hc]
    rcases h4 with rfl | ⟨b, off, e, hb, hx⟩
    · exact .inl (by simp)
    · injection e with e
      injection e with e1 e2
      subst e1 e2
      refine .inr ⟨g, 67 * 32, rfl, hb, fun i hi => ?_⟩
      have hi2 : 67 + i < hs.length := by rw [List.length_drop] at hi; omega
      have := hx (67 + i) hi2
      rw [List.getElem_drop]
      rwa [show 0 + (67 + i) * 32 = 67 * 32 + i * 32 by omega] at this
set_option maxRecDepth 100000 in
set_option maxHeartbeats 16000000 in
theorem runpack9_yes (A : Option Addr) (n c : Nat) (bs : List UInt8) (w : World) (hn : bs.length = n) (hc : n ≤ c) (hr : Rd w w.heap.size A bs) (hok : unpOK bs) :
    Calls Tryd.prog 31 #[.slice A n c] w fun e w' => ∃ V cv P cp, e = .returned (.tuple #[.agg #[.int .i64 (unpV bs).h, .int .i64 (unpV bs).l, .slice V 67 cv, .slice P (bs.getD 0 0).toNat cp], .bool true]) ∧ HV w' (.slice V 67 cv) (unpV bs).vs ∧ HV w' (.slice P (bs.getD 0 0).toNat cp) (unpV bs).ps ∧ Below w.heap.size w w' := by
  obtain ⟨k3, k4, k5⟩ := hok
  rw [hn] at k3 k5
  have HK5 := Lib.hid k5
  clear k5
  have c0 := hr.at_ 0 (by omega)
  obtain ⟨b, off, rfl, hb, c0⟩ := c0
  have c1 := hr.at_ 1 (by omega)
  obtain ⟨b', off', e, _, c1⟩ := c1
  injection e with e
  injection e with e1 e2
  subst e1 e2
  have c2 := hr.at_ 2 (by omega)
  obtain ⟨b', off', e, _, c2⟩ := c2
  injection e with e
  injection e with e1 e2
  subst e1 e2
  have g0 : bs.getD 0 0 = bs[0] := by simp [List.getD_eq_getElem?_getD, show 0 < bs.length by omega]
  have g1' : bs.getD 1 0 = bs[1] := by simp [List.getD_eq_getElem?_getD, show 1 < bs.length by omega]
  have g2' : bs.getD 2 0 = bs[2] := by simp [List.getD_eq_getElem?_getD, show 2 < bs.length by omega]
  rw [← g0] at c0
  rw [← g1'] at c1
  rw [← g2'] at c2
  have k5 := HK5.out
  unfold unpV
  simp only
  have hb1 := (bs.getD 1 0).toNat_lt
  have hb2 := (bs.getD 2 0).toNat_lt
  have HRD := Lib.hid (show Rd w w.heap.size (some ⟨b, off + 3, none⟩) (bs.drop 3) from hr.drop 3)
  have hdl : (bs.drop 3).length = 32 * (67 + (bs.getD 0 0).toNat) := by rw [List.length_drop]; omega
  obtain ⟨h, hh⟩ : ∃ h, (bs.getD 0 0).toNat = h := ⟨_, rfl⟩
  obtain ⟨x1, hx1⟩ : ∃ h, (bs.getD 1 0).toNat = h := ⟨_, rfl⟩
  obtain ⟨x2, hx2⟩ : ∃ h, (bs.getD 2 0).toNat = h := ⟨_, rfl⟩
  rw [hh] at k4 k5 c0 hdl ⊢
  rw [hx1] at c1 hb1 ⊢
  rw [hx2] at c2 hb2 ⊢
  rw [Nat.add_zero] at c0
  obtain ⟨z, hz⟩ : ∃ z, 67 + h = z := ⟨_, rfl⟩
  have HTK := Lib.hid (fun W (hW : Below w.heap.size w W) => rtake9_any (some ⟨b, off + 3, none⟩) (n - 3) (c - 3) z (bs.drop 3) W (by rw [List.length_drop, hn]) (by omega) (by omega) (HRD.out.on hW))
  obtain ⟨ch, hch⟩ : ∃ x, atL (chunkL (bs.drop 3)) z = x := ⟨_, rfl⟩
  have HCL := Lib.hid (show ch.length = z by rw [← hch]; exact atL_len _ _)
  rw [hz, hch]
  rw [hch] at HTK
  obtain ⟨vs, hvs⟩ : ∃ x, ch.take 67 = x := ⟨_, rfl⟩
  obtain ⟨ps, hps⟩ : ∃ x, ch.drop 67 = x := ⟨_, rfl⟩
  have HVE := Lib.hid hvs.symm
  have HPE := Lib.hid hps.symm
  obtain ⟨y1, hy1⟩ : ∃ y, 256 * x1 = y := ⟨_, rfl⟩
  obtain ⟨y2, hy2⟩ : ∃ y, y1 + x2 = y := ⟨_, rfl⟩
  rw [hy1, hy2]
  have HW0 := Lib.hid (show IntKind.i64.wrap (h : Int) = (h : Int) from IntWalk.i64_in _ (by omega))
  have HW1 := Lib.hid (show IntKind.i64.wrap (x1 : Int) = (x1 : Int) from IntWalk.i64_in _ (by omega))
  have HW2 := Lib.hid (show IntKind.i64.wrap (x2 : Int) = (x2 : Int) from IntWalk.i64_in _ (by omega))
  have HW3 := Lib.hid (show IntKind.i64.wrap (256 * (x1 : Int)) = (y1 : Int) by rw [IntWalk.i64_in _ (by omega)]; omega)
  have HW4 := Lib.hid (show IntKind.i64.wrap ((y1 : Int) + (x2 : Int)) = (y2 : Int) by rw [IntWalk.i64_in _ (by omega)]; omega)
  have HZ := Lib.hid hz
  have hsub := fun W => run_sub3 b off n c W (by omega) (by omega)
  have hn3 : ¬ (n : Int) < 3 := by omega
  have hh4 : ¬ (h : Int) > 4 := by omega
  have hn0 : (0 : Int) < (n : Int) := by omega
  have hmul : (32 : Int) * (67 + (h : Int)) = ((32 * z : Nat) : Int) := by omega
  have hz67 : (67 : Int) + (h : Int) = (z : Int) := by omega
  have hz32 : (32 : Int) * (z : Int) = ((n - 3 : Nat) : Int) := by omega
  have hn33 : (3 : Int) + ((n - 3 : Nat) : Int) = (n : Int) := by omega
  have hzb : z ≤ 71 := by omega
  have HNB := Lib.hid (show n ≤ 3000 by omega)
  have HC0B := Lib.hid c0
  have HC1B := Lib.hid c1
  have HC2B := Lib.hid c2
  have HBB := Lib.hid hb
  have hz68 : 68 ≤ n := by omega
  clear hr hn k3 k5 g0 g1' g2' hdl hh hx1 hx2 hch hvs hps hy1 hy2 hmul hz c1 c2
  go_enter Tryd.func31, Tryd.ntmps31
  go_upto_region 1 with fail
  generalize hw1 : World.alloc _ _ = w1
  obtain ⟨g2, hg2⟩ : ∃ g, w.heap.size = g := ⟨_, rfl⟩
  have hf : (∃ rs, Blk w1 g2 rs 35 ∧ rs.size = 4) ∧ Below w.heap.size w w1 := by
    obtain ⟨Y, hw, hY⟩ : ∃ Y, w1 = w.alloc (.cells Y 35) ∧ Y.size = 4 := ⟨_, hw1.symm, rfl⟩
    rw [hw, ← hg2]
    exact ⟨⟨Y, Blk.new w _ _, hY⟩, (Below.refl _ _).alloc (Nat.le_refl _) _⟩
  obtain ⟨rs, hrs, hrz⟩ := hf.1
  have HR := Lib.hid hrs
  have HRZ := Lib.hid hrz
  have HB := Lib.hid hf.2
  have HG := Lib.hid (show w.heap.size ≤ g2 by omega)
  have d0 := (hf.2.cell (p := ⟨b, off, none⟩) hb).trans c0
  clear hf hw1 hrs hrz c0
  rw [hg2]
  clear hg2
  go_wp2_with fail
  with_reducible refine (HTK.out w1 HB.out).mono ?_
  rintro e w2 ⟨v, rfl, hown, hbn⟩
  obtain ⟨g, c5, rfl⟩ : ∃ g c5, v = .slice (some ⟨g, 0, none⟩) z c5 := by
    rcases hown.2.2 with ⟨_, e0⟩ | ⟨g, cap, cur, e0, _⟩
    · rw [HCL.out] at e0; have := HZ.out; omega
    · exact ⟨g, cap, by rw [e0, HCL.out]⟩
  have hzc : z ≤ c5 := by
    obtain ⟨_, _, e0, h5, _⟩ := hown.form HCL.out
    injection e0 with _ _ e5
    omega
  have HGN := Lib.hid (show g2 < g by
    have h6 := hown.lt g rfl
    have h7 := HR.out.lt
    omega)
  replace HR := Lib.hid (HR.out.below hbn HR.out.lt)
  replace HB := Lib.hid (HB.out.trans (hbn.mono HB.out.size))
  have HO := Lib.hid hown
  have HC0 := Lib.hid (fun W (hW : Below w2.heap.size w2 W) => ((HB.out.trans (hW.mono HB.out.size)).cell (p := ⟨b, off, none⟩) HBB.out).trans HC0B.out)
  have HC1 := Lib.hid (fun W (hW : Below w2.heap.size w2 W) => ((HB.out.trans (hW.mono HB.out.size)).cell (p := ⟨b, off + 1, none⟩) HBB.out).trans HC1B.out)
  have HC2 := Lib.hid (fun W (hW : Below w2.heap.size w2 W) => ((HB.out.trans (hW.mono HB.out.size)).cell (p := ⟨b, off + 2, none⟩) HBB.out).trans HC2B.out)
  have HS1 := Lib.hid (fun W => run_first_hash (some ⟨g, 0, none⟩) z c5 W (by have := HZ.out; omega))
  have HS2 := Lib.hid (fun W => run_rest_hash g z c5 W (by have := HZ.out; omega) hzc)
  have HPV := Lib.hid (fun W (hv : HV W (.slice (some ⟨g, 0, none⟩) z c5) ch) => hv_first hv (by have := HZ.out; omega))
  have HPP := Lib.hid (fun W (hv : HV W (.slice (some ⟨g, 0, none⟩) z c5) ch) => hv_last hv (by have := HZ.out; omega))
  rw [show z - 67 = h by have := HZ.out; omega] at HS2 HPP
  generalize (if c5 = 67 then some (⟨g, 0, none⟩ : Addr) else some ⟨g, 67 * 32, none⟩) = AP at HS2 HPP
  obtain ⟨cp, hcp⟩ : ∃ x, c5 - 67 = x := ⟨_, rfl⟩
  rw [hcp] at HS2 HPP
  have HLN := Lib.hid hzc
  clear hown hbn hcp hzc HTK d0 hsub
  have hn1 : (1 : Int) < (n : Int) := by omega
  have hn2 : (2 : Int) < (n : Int) := by omega
  go_wp2_with fail
  refine wp_region_loose 18 3 (fun i => false) (promises [.is (.slice (some ⟨b, off, none⟩) n c), .is (.pointer (some ⟨b, off, none⟩)), .is (.int .u8 (h : Int)), .is (.int .i64 (h : Int)), .is (.slice (some ⟨b, off, none⟩) n c), .is (.pointer (some ⟨b, off + 1, none⟩)), .is (.int .u8 (x1 : Int)), .is (.int .i64 (x1 : Int)), .is (.int .i64 (y1 : Int)), .is (.slice (some ⟨b, off, none⟩) n c), .is (.pointer (some ⟨b, off + 2, none⟩)), .is (.int .u8 (x2 : Int)), .is (.int .i64 (x2 : Int)), .is (.int .i64 (y2 : Int)), .is (.slice (some ⟨g, 0, none⟩) z c5), .is (.slice (some ⟨g, 0, none⟩) 67 c5), .is (.slice (some ⟨g, 0, none⟩) z c5), .is (.slice AP h cp)]) (by kernel_rfl) rfl (by kernel_rfl) (fun i v w w' h hb => Spec.keep h hb) ⟨?_, ?_, ?_, ?_, ?_, ?_, ?_, ?_, ?_, ?_, ?_, ?_, ?_, ?_, ?_, ?_, ?_, ?_, trivial⟩ ?_
  · refine StepOKl.of ?_
    intro ac w hb hu hk
    refine ⟨wanted_none rfl, ?_⟩
    have e0 : ac.eval (.tmp 0) = .slice (some ⟨b, off, none⟩) n c := hu.is (t := 0) (by kernel_rfl)
    exact step_value (BigFrame.run_move (.tmp 0) rfl w) (Below.refl _ _) e0
  · refine StepOKl.of ?_
    intro ac w hb hu hk
    refine ⟨wanted_none rfl, ?_⟩
    have e34 : ac.eval (.tmp 34) = (.slice (some ⟨b, off, none⟩) n c) := (hk ⟨0, .data⟩ (by simp) rfl).is rfl rfl
    refine step_value (w' := w) (v := .pointer (some ⟨b, off, none⟩)) ?_ (Below.refl _ _) rfl
    have ec0 : ac.eval (.const (.int .i64 0)) = .int .i64 0 := rfl
    generalize ac.eval = ρ at e34 ec0 ⊢
    go_simp
    exact fun h => absurd h (by omega)
  · refine StepOKl.of ?_
    intro ac w hb hu hk
    refine ⟨wanted_none rfl, ?_⟩
    have e35 : ac.eval (.tmp 35) = (.pointer (some ⟨b, off, none⟩)) := (hk ⟨1, .data⟩ (by simp) rfl).is rfl rfl
    have hc := HC0.out w hb
    refine step_value (w' := w) (v := .int .u8 (h : Int)) ?_ (Below.refl _ _) rfl
    generalize ac.eval = ρ at e35 ⊢
    go_simp
  · refine StepOKl.of ?_
    intro ac w hb hu hk
    refine ⟨wanted_none rfl, ?_⟩
    have e36 : ac.eval (.tmp 36) = (.int .u8 (h : Int)) := (hk ⟨2, .data⟩ (by simp) rfl).is rfl rfl
    have hq := HW0.out
    refine step_value (w' := w) (v := .int .i64 (h : Int)) ?_ (Below.refl _ _) rfl
    generalize ac.eval = ρ at e36 ⊢
    go_simp
  · refine StepOKl.of ?_
    intro ac w hb hu hk
    refine ⟨wanted_none rfl, ?_⟩
    have e0 : ac.eval (.tmp 0) = .slice (some ⟨b, off, none⟩) n c := hu.is (t := 0) (by kernel_rfl)
    exact step_value (BigFrame.run_move (.tmp 0) rfl w) (Below.refl _ _) e0
  · refine StepOKl.of ?_
    intro ac w hb hu hk
    refine ⟨wanted_none rfl, ?_⟩
    have e38 : ac.eval (.tmp 38) = (.slice (some ⟨b, off, none⟩) n c) := (hk ⟨4, .data⟩ (by simp) rfl).is rfl rfl
    refine step_value (w' := w) (v := (.pointer (some ⟨b, off + 1, none⟩))) ?_ (Below.refl _ _) rfl
    have ec0 : ac.eval (.const (Value.int IntKind.i64 1)) = Value.int IntKind.i64 1 := rfl
    generalize ac.eval = ρ at e38 ec0 ⊢
    go_simp
  · refine StepOKl.of ?_
    intro ac w hb hu hk
    refine ⟨wanted_none rfl, ?_⟩
    have e39 : ac.eval (.tmp 39) = (.pointer (some ⟨b, off + 1, none⟩)) := (hk ⟨5, .data⟩ (by simp) rfl).is rfl rfl
    have hc := HC1.out w hb
    refine step_value (w' := w) (v := .int .u8 (x1 : Int)) ?_ (Below.refl _ _) rfl
    generalize ac.eval = ρ at e39 ⊢
    go_simp
  · refine StepOKl.of ?_
    intro ac w hb hu hk
    refine ⟨wanted_none rfl, ?_⟩
    have e40 : ac.eval (.tmp 40) = (.int .u8 (x1 : Int)) := (hk ⟨6, .data⟩ (by simp) rfl).is rfl rfl
    have hq := HW1.out
    refine step_value (w' := w) (v := .int .i64 (x1 : Int)) ?_ (Below.refl _ _) rfl
    generalize ac.eval = ρ at e40 ⊢
    go_simp
  · refine StepOKl.of ?_
    intro ac w hb hu hk
    refine ⟨wanted_none rfl, ?_⟩
    have e41 : ac.eval (.tmp 41) = (.int .i64 (x1 : Int)) := (hk ⟨7, .data⟩ (by simp) rfl).is rfl rfl
    have hq := HW3.out
    refine step_value (w' := w) (v := .int .i64 (y1 : Int)) ?_ (Below.refl _ _) rfl
    have ec : ac.eval (.const (.int .i64 256)) = .int .i64 256 := rfl
    generalize ac.eval = ρ at e41 ec ⊢
    go_simp
  · refine StepOKl.of ?_
    intro ac w hb hu hk
    refine ⟨wanted_none rfl, ?_⟩
    have e0 : ac.eval (.tmp 0) = .slice (some ⟨b, off, none⟩) n c := hu.is (t := 0) (by kernel_rfl)
    exact step_value (BigFrame.run_move (.tmp 0) rfl w) (Below.refl _ _) e0
  · refine StepOKl.of ?_
    intro ac w hb hu hk
    refine ⟨wanted_none rfl, ?_⟩
    have e43 : ac.eval (.tmp 43) = (.slice (some ⟨b, off, none⟩) n c) := (hk ⟨9, .data⟩ (by simp) rfl).is rfl rfl
    refine step_value (w' := w) (v := (.pointer (some ⟨b, off + 2, none⟩))) ?_ (Below.refl _ _) rfl
    have ec0 : ac.eval (.const (Value.int IntKind.i64 2)) = Value.int IntKind.i64 2 := rfl
    generalize ac.eval = ρ at e43 ec0 ⊢
    go_simp
  · refine StepOKl.of ?_
    intro ac w hb hu hk
    refine ⟨wanted_none rfl, ?_⟩
    have e44 : ac.eval (.tmp 44) = (.pointer (some ⟨b, off + 2, none⟩)) := (hk ⟨10, .data⟩ (by simp) rfl).is rfl rfl
    have hc := HC2.out w hb
    refine step_value (w' := w) (v := .int .u8 (x2 : Int)) ?_ (Below.refl _ _) rfl
    generalize ac.eval = ρ at e44 ⊢
    go_simp
  · refine StepOKl.of ?_
    intro ac w hb hu hk
    refine ⟨wanted_none rfl, ?_⟩
    have e45 : ac.eval (.tmp 45) = (.int .u8 (x2 : Int)) := (hk ⟨11, .data⟩ (by simp) rfl).is rfl rfl
    have hq := HW2.out
    refine step_value (w' := w) (v := .int .i64 (x2 : Int)) ?_ (Below.refl _ _) rfl
    generalize ac.eval = ρ at e45 ⊢
    go_simp
  · refine StepOKl.of ?_
    intro ac w hb hu hk
    refine ⟨wanted_none rfl, ?_⟩
    have e42 : ac.eval (.tmp 42) = (.int .i64 (y1 : Int)) := (hk ⟨8, .data⟩ (by simp) rfl).is rfl rfl
    have e46 : ac.eval (.tmp 46) = (.int .i64 (x2 : Int)) := (hk ⟨12, .data⟩ (by simp) rfl).is rfl rfl
    have hq := HW4.out
    refine step_value (w' := w) (v := .int .i64 (y2 : Int)) ?_ (Below.refl _ _) rfl
    generalize ac.eval = ρ at e42 e46 ⊢
    go_simp
  · refine StepOKl.of ?_
    intro ac w hb hu hk
    refine ⟨wanted_none rfl, ?_⟩
    have e4 : ac.eval (.tmp 4) = .slice (some ⟨g, 0, none⟩) z c5 := hu.is (t := 4) (by kernel_rfl)
    exact step_value (BigFrame.run_move (.tmp 4) rfl w) (Below.refl _ _) e4
  · refine StepOKl.of ?_
    intro ac w hb hu hk
    refine ⟨wanted_none rfl, ?_⟩
    have e48 : ac.eval (.tmp 48) = (.slice (some ⟨g, 0, none⟩) z c5) := (hk ⟨14, .data⟩ (by simp) rfl).is rfl rfl
    have hq := HS1.out w
    refine step_value (w' := w) (v := .slice (some ⟨g, 0, none⟩) 67 c5) ?_ (Below.refl _ _) rfl
    have ec : ac.eval (.const (.int .i64 67)) = .int .i64 67 := rfl
    generalize ac.eval = ρ at e48 ec ⊢
    go_simp
  · refine StepOKl.of ?_
    intro ac w hb hu hk
    refine ⟨wanted_none rfl, ?_⟩
    have e4 : ac.eval (.tmp 4) = .slice (some ⟨g, 0, none⟩) z c5 := hu.is (t := 4) (by kernel_rfl)
    exact step_value (BigFrame.run_move (.tmp 4) rfl w) (Below.refl _ _) e4
  · refine StepOKl.of ?_
    intro ac w hb hu hk
    refine ⟨wanted_none rfl, ?_⟩
    have e50 : ac.eval (.tmp 50) = (.slice (some ⟨g, 0, none⟩) z c5) := (hk ⟨16, .data⟩ (by simp) rfl).is rfl rfl
    have hq := HS2.out w
    refine step_value (w' := w) (v := .slice AP h cp) ?_ (Below.refl _ _) rfl
    have ec : ac.eval (.const (.int .i64 67)) = .int .i64 67 := rfl
    generalize ac.eval = ρ at e50 ec ⊢
    go_simp
  · intro ac w' hb hu hk hap
    obtain ⟨_, h34, rfl⟩ := (hk 0 (by decide)).put rfl rfl
    obtain ⟨_, h35, rfl⟩ := (hk 1 (by decide)).put rfl rfl
    obtain ⟨_, h36, rfl⟩ := (hk 2 (by decide)).put rfl rfl
    obtain ⟨_, h37, rfl⟩ := (hk 3 (by decide)).put rfl rfl
    obtain ⟨_, h38, rfl⟩ := (hk 4 (by decide)).put rfl rfl
    obtain ⟨_, h39, rfl⟩ := (hk 5 (by decide)).put rfl rfl
    obtain ⟨_, h40, rfl⟩ := (hk 6 (by decide)).put rfl rfl
    obtain ⟨_, h41, rfl⟩ := (hk 7 (by decide)).put rfl rfl
    obtain ⟨_, h42, rfl⟩ := (hk 8 (by decide)).put rfl rfl
    obtain ⟨_, h43, rfl⟩ := (hk 9 (by decide)).put rfl rfl
    obtain ⟨_, h44, rfl⟩ := (hk 10 (by decide)).put rfl rfl
    obtain ⟨_, h45, rfl⟩ := (hk 11 (by decide)).put rfl rfl
    obtain ⟨_, h46, rfl⟩ := (hk 12 (by decide)).put rfl rfl
    obtain ⟨_, h47, rfl⟩ := (hk 13 (by decide)).put rfl rfl
    obtain ⟨_, h48, rfl⟩ := (hk 14 (by decide)).put rfl rfl
    obtain ⟨_, h49, rfl⟩ := (hk 15 (by decide)).put rfl rfl
    obtain ⟨_, h50, rfl⟩ := (hk 16 (by decide)).put rfl rfl
    obtain ⟨_, h51, rfl⟩ := (hk 17 (by decide)).put rfl rfl
    clear hap
    have hF : AllPuts ac.tmps ((34, _) :: (35, _) :: (36, _) :: (37, _) :: (38, _) :: (39, _) :: (40, _) :: (41, _) :: (42, _) :: (43, _) :: (44, _) :: (45, _) :: (46, _) :: (47, _) :: (48, _) :: (49, _) :: (50, _) :: (51, _) :: []) := ⟨h34, h35, h36, h37, h38, h39, h40, h41, h42, h43, h44, h45, h46, h47, h48, h49, h50, h51, trivial⟩
    obtain rfl := frame_puts hu (by kernel_rfl) hF
    simp only [puts, Act.put, List.setIfInBounds_toArray, List.set_cons_zero, List.set_cons_succ, List.drop_succ_cons, List.drop_zero]
    clear hk hu hF h34 h35 h36 h37 h38 h39 h40 h41 h42 h43 h44 h45 h46 h47 h48 h49 h50 h51
    have HR8 := Lib.hid (HR.out.below hb HR.out.lt)
    have HBE := Lib.hid (HB.out.trans (hb.mono HB.out.size))
    have HO8 := Lib.hid (HO.out.on hb)
    have HI4 := Lib.hid (show (Tryd.prog.info? 35 ).map (·.size) = some (#[.int .i64 (h : Int), .int .i64 (y2 : Int), .slice (some ⟨g, 0, none⟩) 67 c5, .slice AP h cp] : Array Value).size from by kernel_rfl)
    have HS4 := Lib.hid (show rs.size = (#[.int .i64 (h : Int), .int .i64 (y2 : Int), .slice (some ⟨g, 0, none⟩) 67 c5, .slice AP h cp] : Array Value).size from by rw [HRZ.out]; rfl)
    have HO4 := Lib.hid (show (#[.int .i64 (h : Int), .int .i64 (y2 : Int), .slice (some ⟨g, 0, none⟩) 67 c5, .slice AP h cp] : Array Value).all (·.oneCell') = true from by simp [Value.oneCell'])
    clear hb HC0 HC1 HC2 HW0 HW1 HW2 HW3 HW4 HS1 HS2 HR HB HO
    go_wp2_with (with_reducible refine wpList_store_blk rfl 35 (.tmp 2) (.tmp 52) rfl g2 #[.int .i64 (h : Int), .int .i64 (y2 : Int), .slice (some ⟨g, 0, none⟩) 67 c5, .slice AP h cp] rfl rfl 35 rs HR8.out HI4.out HS4.out HO4.out ?_)
    have hof := HO8.out.apart (setRow_grown w' g2 #[.int .i64 (h : Int), .int .i64 (y2 : Int), .slice (some ⟨g, 0, none⟩) 67 c5, .slice AP h cp]) (fun q hq e => by have := HGN.out; have hq2 : g = q := Option.some.inj hq; have e2 : g2 = q := Option.some.inj e; omega)
    refine bodyPost_ret (v := .tuple #[.agg #[.int .i64 (h : Int), .int .i64 (y2 : Int), .slice (some ⟨g, 0, none⟩) 67 c5, .slice AP h cp], .bool true]) (results_cell_tmp (p := 2) (q := 3) (ty := 35) (by kernel_rfl) _ _ g2 35 _ (0, 0) _ (.bool true) rfl rfl (HR8.out.row #[.int .i64 (h : Int), .int .i64 (y2 : Int), .slice (some ⟨g, 0, none⟩) 67 c5, .slice AP h cp]) Tryd.underlying35 rfl (by kernel_rfl)) rfl ⟨_, c5, AP, cp, rfl, HPV.out _ hof.hv, HPP.out _ hof.hv, below_row HBE.out HBE.out.size HG.out _⟩
theorem built_sig0 : Tryd.prog.built 35 [] = some #[.int .i64 0, .int .i64 0, .slice none 0 0, .slice none 0 0] := by kernel_rfl
theorem wpList_build_sig0 {w : World} {ops : Array Oper} {rest : List Oper} {o : Oper} {a : Act} {Q : Exit → Act → World → Prop} (hgd : o.guard = none) (ho : o.op = .build 35 #[])
    (hk : wpList Tryd.prog ops Q rest (a.put o.dst (.agg #[.int .i64 0, .int .i64 0, .slice none 0 0, .slice none 0 0])) w) : wpList Tryd.prog ops Q (o :: rest) a w := by
  have hb : Tryd.prog.built 35 ((#[] : Array (Nat × Operand)).map fun (i, x) => (i, a.eval x)).toList = some #[.int .i64 0, .int .i64 0, .slice none 0 0, .slice none 0 0] := by
    have h := built_sig0
    simp only [List.map_toArray, List.map_nil]
    exact h
  refine wpList_build (P := Tryd.prog) hgd 35 #[] ho (by rw [hb]; rfl) ?_
  rw [hb]
  exact hk
set_option maxRecDepth 100000 in
set_option maxHeartbeats 16000000 in
theorem runpack9_no (A : Option Addr) (n c : Nat) (bs : List UInt8) (w : World) (hn : bs.length = n) (h1 : n ≤ 100000) (hr : Rd w w.heap.size A bs) (hno : ¬ unpOK bs) :
    Calls Tryd.prog 31 #[.slice A n c] w fun e w' => e = .returned (.tuple #[.agg #[.int .i64 0, .int .i64 0, .slice none 0 0, .slice none 0 0], .bool false]) ∧ Below w.heap.size w w' := by
  have HI4 := Lib.hid (show (Tryd.prog.info? 35 ).map (·.size) = some (#[.int .i64 0, .int .i64 0, .slice none 0 0, .slice none 0 0] : Array Value).size from by kernel_rfl)
  have HO4 := Lib.hid (show (#[.int .i64 0, .int .i64 0, .slice none 0 0, .slice none 0 0] : Array Value).all (·.oneCell') = true from by simp [Value.oneCell'])
  have HNO := Lib.hid (show ¬ (3 ≤ n ∧ (bs.getD 0 0).toNat ≤ 4 ∧ n = 3 + 32 * (67 + (bs.getD 0 0).toNat)) by
    rw [← hn]
    exact hno)
  have HAT := Lib.hid (fun (h0 : 0 < n) => (show ∃ b off, A = some ⟨b, off, none⟩ ∧ b < w.heap.size ∧ w.cell? ⟨b, off, none⟩ = some (.int .u8 ((bs.getD 0 0).toNat : Int)) by
    obtain ⟨b, off, hA, hb, hcell⟩ := hr.at_ 0 (by omega)
    have g0 : bs.getD 0 0 = bs[0] := by simp [List.getD_eq_getElem?_getD, show 0 < bs.length by omega]
    rw [← g0, Nat.add_zero] at hcell
    exact ⟨b, off, hA, hb, hcell⟩))
  have hb8 := (bs.getD 0 0).toNat_lt
  obtain ⟨h, hh⟩ : ∃ h, (bs.getD 0 0).toNat = h := ⟨_, rfl⟩
  rw [hh] at HNO HAT hb8
  clear hn hr hno hh
  by_cases h3 : n < 3
  · have h3i : (n : Int) < 3 := by omega
    go_enter Tryd.func31, Tryd.ntmps31
    go_upto_region 1 with fail
    generalize hw1 : World.alloc _ _ = w1
    obtain ⟨g2, hg2⟩ : ∃ g, w.heap.size = g := ⟨_, rfl⟩
    have hf : (∃ rs, Blk w1 g2 rs 35 ∧ rs.size = 4) ∧ Below w.heap.size w w1 := by
      obtain ⟨Y, hw, hY⟩ : ∃ Y, w1 = w.alloc (.cells Y 35) ∧ Y.size = 4 := ⟨_, hw1.symm, rfl⟩
      rw [hw, ← hg2]
      exact ⟨⟨Y, Blk.new w _ _, hY⟩, (Below.refl _ _).alloc (Nat.le_refl _) _⟩
    obtain ⟨rs, hrs, hrz⟩ := hf.1
    have HR := Lib.hid hrs
    have HS4 := Lib.hid (show rs.size = (#[.int .i64 0, .int .i64 0, .slice none 0 0, .slice none 0 0] : Array Value).size from by rw [hrz]; rfl)
    have HB := Lib.hid hf.2
    have HG := Lib.hid (show w.heap.size ≤ g2 by omega)
    clear hf hw1 hrs hrz
    rw [hg2]
    clear hg2
    go_wp2_with (first
      | (with_reducible refine wpList_build_sig0 rfl rfl ?_)
      | (with_reducible refine wpList_store_blk rfl 35 (.tmp 2) (.tmp 27) rfl g2 #[.int .i64 0, .int .i64 0, .slice none 0 0, .slice none 0 0] rfl rfl 35 rs HR.out HI4.out HS4.out HO4.out ?_))
    refine bodyPost_ret (v := .tuple #[.agg #[.int .i64 0, .int .i64 0, .slice none 0 0, .slice none 0 0], .bool false]) (results_cell_tmp (p := 2) (q := 3) (ty := 35) (by kernel_rfl) _ _ g2 35 _ (0, 0) _ (.bool false) rfl rfl (HR.out.row _) Tryd.underlying35 rfl (by kernel_rfl)) rfl ⟨rfl, below_row HB.out HB.out.size HG.out _⟩
  · have h3i : ¬ (n : Int) < 3 := by omega
    obtain ⟨b, off, rfl, hb, c0⟩ := HAT.out (by omega)
    have hn0 : (0 : Int) < (n : Int) := by omega
    have hnz : ¬ n = 0 := by omega
    by_cases h4 : h > 4
    · have h4i : (h : Int) > 4 := by omega
      go_enter Tryd.func31, Tryd.ntmps31
      go_upto_region 1 with fail
      generalize hw1 : World.alloc _ _ = w1
      obtain ⟨g2, hg2⟩ : ∃ g, w.heap.size = g := ⟨_, rfl⟩
      have hf : (∃ rs, Blk w1 g2 rs 35 ∧ rs.size = 4) ∧ Below w.heap.size w w1 := by
        obtain ⟨Y, hw, hY⟩ : ∃ Y, w1 = w.alloc (.cells Y 35) ∧ Y.size = 4 := ⟨_, hw1.symm, rfl⟩
        rw [hw, ← hg2]
        exact ⟨⟨Y, Blk.new w _ _, hY⟩, (Below.refl _ _).alloc (Nat.le_refl _) _⟩
      obtain ⟨rs, hrs, hrz⟩ := hf.1
      have HR := Lib.hid hrs
      have HS4 := Lib.hid (show rs.size = (#[.int .i64 0, .int .i64 0, .slice none 0 0, .slice none 0 0] : Array Value).size from by rw [hrz]; rfl)
      have HB := Lib.hid hf.2
      have HG := Lib.hid (show w.heap.size ≤ g2 by omega)
      have d0 := (hf.2.cell (p := ⟨b, off, none⟩) hb).trans c0
      clear hf hw1 hrs hrz
      rw [hg2]
      clear hg2
      go_wp2_with (first
        | (with_reducible refine wpList_build_sig0 rfl rfl ?_)
        | (with_reducible refine wpList_store_blk rfl 35 (.tmp 2) (.tmp 27) rfl g2 #[.int .i64 0, .int .i64 0, .slice none 0 0, .slice none 0 0] rfl rfl 35 rs HR.out HI4.out HS4.out HO4.out ?_))
      refine bodyPost_ret (v := .tuple #[.agg #[.int .i64 0, .int .i64 0, .slice none 0 0, .slice none 0 0], .bool false]) (results_cell_tmp (p := 2) (q := 3) (ty := 35) (by kernel_rfl) _ _ g2 35 _ (0, 0) _ (.bool false) rfl rfl (HR.out.row _) Tryd.underlying35 rfl (by kernel_rfl)) rfl ⟨rfl, below_row HB.out HB.out.size HG.out _⟩
    · have h4i : ¬ (h : Int) > 4 := by omega
      obtain ⟨z, hz⟩ : ∃ z, 67 + h = z := ⟨_, rfl⟩
      have hz67 : (67 : Int) + (h : Int) = (z : Int) := by omega
      obtain ⟨y, hy⟩ : ∃ y, 32 * z = y := ⟨_, rfl⟩
      have hzy : (32 : Int) * (z : Int) = (y : Int) := by omega
      obtain ⟨x, hx⟩ : ∃ x, 3 + y = x := ⟨_, rfl⟩
      have hyx : (3 : Int) + (y : Int) = (x : Int) := by omega
      have hxb : x ≤ 3000 := by omega
      have hyb : y ≤ 3000 := by omega
      have hzb : z ≤ 100 := by omega
      have hne : ((n : Int) != (x : Int)) = true := by
        have := HNO.out
        simp
        omega
      clear hx hy hz
      go_enter Tryd.func31, Tryd.ntmps31
      go_upto_region 1 with fail
      generalize hw1 : World.alloc _ _ = w1
      obtain ⟨g2, hg2⟩ : ∃ g, w.heap.size = g := ⟨_, rfl⟩
      have hf : (∃ rs, Blk w1 g2 rs 35 ∧ rs.size = 4) ∧ Below w.heap.size w w1 := by
        obtain ⟨Y, hw, hY⟩ : ∃ Y, w1 = w.alloc (.cells Y 35) ∧ Y.size = 4 := ⟨_, hw1.symm, rfl⟩
        rw [hw, ← hg2]
        exact ⟨⟨Y, Blk.new w _ _, hY⟩, (Below.refl _ _).alloc (Nat.le_refl _) _⟩
      obtain ⟨rs, hrs, hrz⟩ := hf.1
      have HR := Lib.hid hrs
      have HS4 := Lib.hid (show rs.size = (#[.int .i64 0, .int .i64 0, .slice none 0 0, .slice none 0 0] : Array Value).size from by rw [hrz]; rfl)
      have HB := Lib.hid hf.2
      have HG := Lib.hid (show w.heap.size ≤ g2 by omega)
      have d0 := (hf.2.cell (p := ⟨b, off, none⟩) hb).trans c0
      clear hf hw1 hrs hrz
      rw [hg2]
      clear hg2
      go_wp2_with (first
        | (with_reducible refine wpList_build_sig0 rfl rfl ?_)
        | (with_reducible refine wpList_store_blk rfl 35 (.tmp 2) (.tmp 27) rfl g2 #[.int .i64 0, .int .i64 0, .slice none 0 0, .slice none 0 0] rfl rfl 35 rs HR.out HI4.out HS4.out HO4.out ?_))
      refine bodyPost_ret (v := .tuple #[.agg #[.int .i64 0, .int .i64 0, .slice none 0 0, .slice none 0 0], .bool false]) (results_cell_tmp (p := 2) (q := 3) (ty := 35) (by kernel_rfl) _ _ g2 35 _ (0, 0) _ (.bool false) rfl rfl (HR.out.row _) Tryd.underlying35 rfl (by kernel_rfl)) rfl ⟨rfl, below_row HB.out HB.out.size HG.out _⟩
end Go.Proofs.YtfgieebccjoboaaDoor
