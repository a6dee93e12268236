/- play of the law: both disks answer alike, whatever is called, and stay alike. -/
import Derived.Test.YtclmnpfmodlnjaaDskG
import Derived.Test.YtclmnpfmodlnjaaIntact
import Derived.Test.YtclmnpfmodlnjaaCopyB
import Derived.Test.YtclmnpfmodlnjaaKeep
import Derived.Deep.RegionHeld3
import Derived.Deep.QuietTactic
namespace Go.Proofs.Ytclmnpfmodlnjaa
open Go.RowKit

theorem infoAct : (Try.prog.info? 59).map (·.size) = some 5 := by kernel_rfl
theorem RdAc.at_ {w : World} {B : Nat} {A : Option Addr} {l : List Act5} (h : RdAc w B A l) {j : Nat} (hj : j < l.length) : ∃ b off, A = some ⟨b, off, none⟩ ∧ b < B ∧ ActAt w B b (off + j * 5) l[j] := by
  rcases h with rfl | ⟨b, off, rfl, hb, hc⟩
  · simp at hj
  · exact ⟨b, off, rfl, hb, hc j hj⟩
theorem five_range {w : World} {b o : Nat} {c0 c1 c2 c3 c4 : Value} (h0 : w.cell? ⟨b, o, none⟩ = some c0) (h1 : w.cell? ⟨b, o + 1, none⟩ = some c1) (h2 : w.cell? ⟨b, o + 2, none⟩ = some c2) (h3 : w.cell? ⟨b, o + 3, none⟩ = some c3) (h4 : w.cell? ⟨b, o + 4, none⟩ = some c4) : w.rangeAt b o [c0, c1, c2, c3, c4] := fun j v hv => by
  match j, hv with
  | 0, hv => simp at hv; subst hv; exact h0
  | 1, hv => simp at hv; subst hv; exact h1
  | 2, hv => simp at hv; subst hv; exact h2
  | 3, hv => simp at hv; subst hv; exact h3
  | 4, hv => simp at hv; subst hv; exact h4
  | j + 5, hv => simp at hv

theorem act_cells {w : World} {Y : Nat} {v0 v1 v2 v3 v4 : Value} {T : TypeId} (h : Blk w Y #[v0, v1, v2, v3, v4] T) : w.cell? ⟨Y, 0, none⟩ = some v0 ∧ w.cell? ⟨Y, 1, none⟩ = some v1 ∧ w.cell? ⟨Y, 2, none⟩ = some v2 ∧ w.cell? ⟨Y, 3, none⟩ = some v3 ∧ w.cell? ⟨Y, 4, none⟩ = some v4 :=
  ⟨h.cell 0, h.cell 1, h.cell 2, h.cell 3, h.cell 4⟩
theorem quiet_at0 {P : Program} {f : FuncId} {args : Array Value} {w : World} {n : Nat} {v : Value}
    (h : ∀ m, Calls P f args (w.drewN m) fun e w' => e = .returned v ∧ ∃ q, w' = (w.drewN m).drewN q) :
    Calls P f args (w.drewN n) fun e w'' => e = .returned v ∧ ∃ m, w'' = w.drewN m :=
  (h n).mono fun _ _ ⟨he, m, hm⟩ => ⟨he, n + m, by rw [hm, World.drewN_drewN]⟩
theorem wpList_load_to {w : World} {ops : Array Oper} {rest : List Oper} {o : Oper} {a : Act} {Q : Exit → Act → World → Prop} (hgd : o.guard = none) (x : Operand) (ho : o.op = .load 59 x)
    (b off : Nat) (hx : a.eval x = .pointer (some ⟨b, off, none⟩)) (cs : List Value) (hc : w.rangeAt b off cs) (h5 : cs.length = 5) (X : Array Value) (hX : cs.toArray = X)
    (hk : wpList Try.prog ops Q rest (a.put o.dst (.agg X)) w) : wpList Try.prog ops Q (o :: rest) a w := by
  subst hX
  exact wpList_load_mid (P := Try.prog) hgd 59 x ho b off hx cs _ hc Try.underlying59 rfl (by rw [h5]; exact infoAct) hk

set_option maxRecDepth 100000 in
set_option maxHeartbeats 4000000 in
theorem play_any (p g q h n c d Bd : Nat) (A : Option Addr) (N C : Nat) (l : List Act5) (s0 r0 : Dsk) (w : World) (hap : Apart4 p g q h) (hD : DP w p g n c s0) (hR : RP w q h n d r0) (hL : Like s0 r0)
    (hBd : Bd ≤ w.heap.size) (h1 : Bd ≤ p) (h2 : Bd ≤ g) (h3 : Bd ≤ q) (h4 : Bd ≤ h) (hl : l.length = N) (hok : ∀ a ∈ l, a.ok) (hA : RdAc w Bd A l) :
    Calls Try.prog 16 #[.pointer (some ⟨p, 0, none⟩), .pointer (some ⟨q, 0, none⟩), .slice A N C] w (PlayPost w p g q h n c d) := by
  have HD0 := Lib.hid hD
  have HR0 := Lib.hid hR
  have HL0 := Lib.hid hL
  have HAC := Lib.hid hA
  have HLN := Lib.hid hl
  have HOK := Lib.hid hok
  have HAP := Lib.hid hap
  have HFG := Lib.hid (four_ge h1 h2 h3 h4)
  clear hD hR hL hA hl hok hap
  go_enter Try.func16, Try.ntmps16
  go_wp2_with fail
  go_loopw [7] (fun t wr => ∃ (j : Nat) (s r : Dsk), j ≤ N ∧ t = .int .i64 j ∧ Hid (DP wr p g n c s) ∧ Hid (RP wr q h n d r) ∧ Hid (Like s r) ∧ Hid (Chg (four p g q h) w wr)) (fun t _ => N - (intOf t).toNat)
  case atStart => exact ⟨0, s0, r0, Nat.zero_le _, rfl, HD0, HR0, HL0, Lib.hid (Chg.refl _ _)⟩
  case round =>
    obtain ⟨j, s, r, hj, rfl, HD, HR, HL, HC⟩ := hrel
    by_cases hlt : j < N ∧ j < 40
    · obtain ⟨hlt, hj40⟩ := hlt
      have hlt' : (j : Int) < (N : Int) := by omega
      have hj40' : (j : Int) < 40 := by omega
      have hj0 : (0 : Int) ≤ (j : Int) := by omega
      have hbw := HC.out.below hBd HFG.out
      have hjl : j < l.length := by rw [HLN.out]; exact hlt
      obtain ⟨b, off, hAe, hbB, a0, a1, a2, a3, A', cB, a4, hcB, hcM, hrd⟩ := (HAC.out.keep fun x hx => hbw.cell hx).at_ hjl
      have hac := HOK.out l[j] (List.getElem_mem _)
      obtain ⟨a, hae⟩ : ∃ a, l[j] = a := ⟨_, rfl⟩
      rw [hae] at a0 a1 a2 a3 a4 hcB hrd hac
      have HAE := Lib.hid hAe
      have HRG := Lib.hid (five_range a0 a1 a2 a3 a4)
      obtain ⟨X, hX⟩ : ∃ X : Array Value, #[.int .i64 a.what, .int .i64 a.i, .int .i64 a.at_, .int .i64 a.keep, .slice A' a.B.length cB] = X := ⟨_, rfl⟩
      have HXE := Lib.hid hX
      have HXZ := Lib.hid (show X.size = 5 by rw [← hX]; rfl)
      have HXI := Lib.hid (show (Try.prog.info? 59).map (·.size) = some X.size by rw [HXZ.out]; exact infoAct)
      have HXO := Lib.hid (show X.all (·.oneCell') = true by rw [← hX]; simp [Value.oneCell'])
      have HX5 := Lib.hid (show (#[.int .i64 0, .int .i64 0, .int .i64 0, .int .i64 0, .slice none 0 0] : Array Value).size = X.size by rw [HXZ.out]; rfl)
      have HXL := Lib.hid (show [.int .i64 a.what, .int .i64 a.i, .int .i64 a.at_, .int .i64 a.keep, .slice A' a.B.length cB].toArray = X from hX)
      have HX6 := Lib.hid (show [Value.int .i64 a.what, .int .i64 a.i, .int .i64 a.at_, .int .i64 a.keep, .slice A' a.B.length cB].length = 5 from rfl)
      have HRD := Lib.hid hrd
      have HAK := Lib.hid hac
      have hat2 : a.at_ ≤ 9223372036854775807 := hac.2
      rw [HAE.out]
      clear hAe a0 a1 a2 a3 a4 hae hjl hX hrd hac hbw
      go_wp2_with (first
        | (with_reducible refine wpList_load_to rfl (.tmp 26) rfl b (off + j * 5) rfl _ HRG.out HX6.out X HXL.out ?_)
        | (with_reducible refine wpList_store_blkTo rfl 59 (.tmp 8) (.tmp 27) rfl rfl wr.heap.size X rfl rfl 59 #[.int .i64 0, .int .i64 0, .int .i64 0, .int .i64 0, .slice none 0 0] (Blk.new _ _ _) HXI.out HX5.out HXO.out ?_
           generalize hw1 : World.setRow _ _ _ = w1
           obtain ⟨k1, k2⟩ := store_new hw1 (Below.refl _ _)
           rw [← HXE.out] at k1
           obtain ⟨e0, e1, e2, e3, e4⟩ := act_cells k1
           have f4 := k1.frozen 4
           have hY1 := k1.lt
           have K1 := Lib.hid k1
           have K2 := Lib.hid k2
           clear hw1 k1 k2))
      obtain ⟨M, hM⟩ : ∃ M, min a.B.length 40 = M := ⟨_, rfl⟩
      have HCU := Lib.hid (show Calls Try.prog 7 #[.slice A' a.B.length cB, .int .i64 40] w1 fun e w' => e = .returned (.slice A' M cB) ∧ w1 = w' by rw [← hM]; exact cut_any A' a.B.length cB 40 w1 hcB)
      obtain ⟨B, hB⟩ : ∃ B, a.B.take 40 = B := ⟨_, rfl⟩
      have HBL := Lib.hid (show B.length = M by rw [← hB, List.length_take, ← hM]; exact Nat.min_comm _ _)
      have HRB := Lib.hid (show Rd wr Bd A' B by rw [← hB]; exact HRD.out.take 40)
      have hM40 : M ≤ 40 := by omega
      clear hM hB
      with_reducible refine HCU.out.mono ?_
      rintro e w' ⟨rfl, rfl⟩
      go_wp2_with fail
      obtain ⟨Y, hY⟩ : ∃ Y, wr.heap.size = Y := ⟨_, rfl⟩
      have HYE := Lib.hid hY
      rw [hY] at e0 e1 e2 e3 e4 f4 hY1 K1 ⊢
      have hYr : Bd ≤ Y := by have := HC.out.size; omega
      clear hY
      have k1 : Blk (w1.setCell ⟨Y, 4, none⟩ (.slice A' M cB)) Y #[.int .i64 a.what, .int .i64 a.i, .int .i64 a.at_, .int .i64 a.keep, .slice A' M cB] 59 := K1.out.set 4 _
      have k2 : Below wr.heap.size wr (w1.setCell ⟨Y, 4, none⟩ (.slice A' M cB)) := K2.out.setCell (Nat.le_of_eq HYE.out) _
      generalize w1.setCell ⟨Y, 4, none⟩ (.slice A' M cB) = w2 at k1 k2 ⊢
      clear e0 e1 e2 e3 e4 f4 hY1 K1 K2 HCU
      obtain ⟨t, ht, ht8⟩ : ∃ t : Nat, withinI a.what 8 = (t : Int) ∧ t < 8 := by
        have := withinI_range a.what 8 (by omega)
        exact ⟨(withinI a.what 8).toNat, by omega, by omega⟩
      have HWI := Lib.hid (show Calls Try.prog 6 #[.int .i64 a.what, .int .i64 8] w2 fun e w' => e = .returned (.int .i64 (t : Int)) ∧ w2 = w' by rw [← ht]; exact within_any a.what 8 w2 HAK.out.1.1 HAK.out.1.2 (by omega))
      have HD2 := Lib.hid (HD.out.below k2)
      have HR2 := Lib.hid (HR.out.below k2)
      have HC2 := Lib.hid (HC.out.trans (.of_below k2))
      have HB2 := Lib.hid (RdA.of_rd (HRB.out.below k2 (by have := HC.out.size; omega)) (by have := HC.out.size; have := k2.size; omega) HFG.out)
      have HYN := Lib.hid (show ¬ four p g q h Y from fun hk => by
        have e1 := HD.out.head.lt
        have e2 := HD.out.body.lt
        have e3 := HR.out.head.lt
        have e4 := HR.out.body.lt
        rw [HYE.out] at e1 e2 e3 e4
        rcases hk with hk | hk | hk | hk <;> omega)
      obtain ⟨e0, e1, e2, e3, e4⟩ := act_cells k1
      have HK1 := Lib.hid k1
      clear k1 k2 ht HRB HRD HRG HXE HXZ HXI HXO HX5 HXL HX6 HD HR HC
      go_wp2_with fail
      with_reducible refine HWI.out.mono ?_
      rintro e w' ⟨rfl, rfl⟩
      clear HWI
      by_cases t5 : t = 5
      · have x5 : ((t : Int) == 5) = true := by rw [t5]; rfl
        obtain ⟨E, hE⟩ : ∃ E, s.rcode n a.i = E := ⟨_, rfl⟩
        obtain ⟨lb, hlb⟩ : ∃ lb, s.rbytes n a.i = lb := ⟨_, rfl⟩
        have HP := Lib.hid (show Calls Try.prog 10 #[.pointer (some ⟨p, 0, none⟩), .int .i64 a.i] w2 (ReadPost w2 E lb) by rw [← hE, ← hlb]; exact preadA HD2.out a.i)
        have HQ := Lib.hid (fun W (hW : Below w2.heap.size w2 W) => (show Calls Try.prog 25 #[.pointer (some ⟨q, 0, none⟩), .int .i64 a.i] W (ReadPost W E lb) by rw [← hE, ← hlb, ← HL.out.rcode, ← HL.out.rbytes]; exact rdreadA (HR2.out.below hW) a.i))
        clear t5 hE hlb
        go_wp2_with fail
        with_reducible refine HP.out.mono ?_
        rintro e w3 ⟨A1, c1, rfl, O3, hl32, hb3⟩
        have q1 := (hb3.cell (World.block_lt_of_cell? w2 _ e1)).trans e1
        have HO3 := Lib.hid O3
        have HB3 := Lib.hid hb3
        clear HP e0 e1 e2 e3 e4 O3 hb3
        obtain ⟨L, hL⟩ : ∃ L, lb.length = L := ⟨_, rfl⟩
        rw [hL] at HO3 hl32 ⊢
        have HLL := Lib.hid hL
        clear hL
        go_wp2_with fail
        with_reducible refine (HQ.out _ HB3.out).mono ?_
        rintro e w4 ⟨A2, c2, rfl, O4, _, hb4⟩
        rw [HLL.out] at O4 ⊢
        have hEE : (E != E) = false := by simp
        have HSA := Lib.hid (same_any A1 A2 L L c1 c2 _ _ lb lb w4 HLL.out HLL.out (by unfold maxLen; omega) (HO3.out.rd.on hb4) O4.rd)
        have HB4 := Lib.hid (HB3.out.trans (hb4.mono HB3.out.size))
        have HO4 := Lib.hid (HO3.out.on hb4)
        clear HQ O4 hb4 HO3 HB3 q1
        go_wp2_with fail
        with_reducible refine HSA.out.mono ?_
        rintro e w5 ⟨rfl, m5, rfl⟩
        go_wp2_with fail
        with_reducible refine (spoilB_any A1 L c1 w2.heap.size lb _ (HO4.out.on (below_drewN (Below.refl _ _) _))).mono ?_
        rintro e wz ⟨rfl, hb6⟩
        have k6 : Below w2.heap.size w2 wz := (below_drewN HB4.out m5).trans hb6
        have HRz := Lib.hid (HR2.out.below k6)
        have HDz := Lib.hid (HD2.out.below k6)
        have HLz := Lib.hid HL.out
        have HCz := Lib.hid (HC2.out.trans (.of_below k6))
        clear k6 hb6 HO4 HB4 HSA HD2 HR2 HC2 HB2 HK1 HL
        obtain ⟨dd, hdd⟩ : ∃ x, s.dead = x := ⟨_, rfl⟩
        obtain ⟨ww, hww⟩ : ∃ x, s.writes = x := ⟨_, rfl⟩
        obtain ⟨_, z1, _, _, _, z5⟩ := HRz.out.cells
        rw [← HLz.out.dead, hdd] at z1
        rw [← HLz.out.writes, hww] at z5
        have HDe := Lib.hid (fun m => (show Calls Try.prog 21 #[.pointer (some ⟨p, 0, none⟩)] (wz.drewN m) fun e w' => e = .returned (.bool dd) ∧ ∃ q, w' = (wz.drewN m).drewN q by
          rw [← hdd]
          exact (pdead_any (HDz.out.below (below_drewN (Below.refl _ _) m))).mono fun _ _ ⟨h1, h2⟩ => ⟨h1, 0, h2 ▸ rfl⟩))
        have HWe := Lib.hid (fun m => (show Calls Try.prog 12 #[.pointer (some ⟨p, 0, none⟩)] (wz.drewN m) fun e w' => e = .returned (.int .i64 ww) ∧ ∃ q, w' = (wz.drewN m).drewN q by
          rw [← hww]
          exact (pwrites_any (HDz.out.below (below_drewN (Below.refl _ _) m))).mono fun _ _ ⟨h1, h2⟩ => ⟨h1, 0, h2 ▸ rfl⟩))
        have HLe := Lib.hid (fun m => (show Calls Try.prog 13 #[.pointer (some ⟨p, 0, none⟩)] (wz.drewN m) fun e w' => e = .returned (.int .i64 (n : Int)) ∧ ∃ q, w' = (wz.drewN m).drewN q from
          (plen_any (HDz.out.below (below_drewN (Below.refl _ _) m))).mono fun _ _ ⟨h1, h2⟩ => ⟨h1, 0, h2 ▸ rfl⟩))
        have HRe := Lib.hid (fun m => (show Calls Try.prog 32 #[.pointer (some ⟨q, 0, none⟩)] (wz.drewN m) fun e w' => e = .returned (.int .i64 (n : Int)) ∧ ∃ q, w' = (wz.drewN m).drewN q from
          (rdlen_any (HRz.out.below (below_drewN (Below.refl _ _) m))).mono fun _ _ ⟨h1, h2⟩ => ⟨h1, 0, h2 ▸ rfl⟩))
        have y1 : (dd != dd) = false := by simp
        have y2 : (ww != ww) = false := by simp
        have y3 : ((n : Int) != (n : Int)) = false := by simp
        clear hdd hww
        go_wp2_with fail
        go_quiet ((first
          | (go_at_call 21; first | exact quiet_at0 HDe.out | exact quiet_at HDe.out)
          | (go_at_call 12; first | exact quiet_at0 HWe.out | exact quiet_at HWe.out)
          | (go_at_call 13; first | exact quiet_at0 HLe.out | exact quiet_at HLe.out)
          | (go_at_call 32; first | exact quiet_at0 HRe.out | exact quiet_at HRe.out)))
        all_goals
          go_wp2_with fail
          go_roundw
          case rel => exact ⟨j + 1, _, _, by omega, by go_num, Lib.hid (HDz.out.below (below_drewN (Below.refl _ _) _)), Lib.hid (HRz.out.below (below_drewN (Below.refl _ _) _)), HLz, Lib.hid (HCz.out.drewN _)⟩
          case measure => simp [intOf]; omega
      · by_cases t6 : t = 6
        · have x5 : ((t : Int) == 5) = false := by simp; omega
          have x6 : ((t : Int) == 6) = true := by rw [t6]; rfl
          clear t5 t6
          go_wp2_with fail
          with_reducible refine (pstop_any HD2.out a.at_ a.keep hat2).mono ?_
          rintro e w3 ⟨rfl, D3, C3⟩
          have hk3 := C3.blk HK1.out (fun hk => HYN.out (two_four1 _ hk))
          have HR3 := Lib.hid (HAP.out.rp HR2.out C3)
          have HD3 := Lib.hid D3
          have HC3 := Lib.hid (HC2.out.trans (C3.more two_four1))
          obtain ⟨q0, q1, q2, q3, q4⟩ := act_cells hk3
          clear D3 C3 hk3 e0 e1 e2 e3 e4 HD2 HR2 HC2 HB2
          go_wp2_with fail
          with_reducible refine (rdstop_any HR3.out a.at_ a.keep).mono ?_
          rintro e wz ⟨rfl, R4, C4⟩
          have HRz := Lib.hid R4
          have HDz := Lib.hid (HAP.out.dp HD3.out C4)
          have HLz := Lib.hid (HL.out.stop a.at_ a.keep)
          have HCz := Lib.hid (HC3.out.trans (C4.more two_four2))
          clear R4 C4 q0 q1 q2 q3 q4 HR3 HD3 HC3 HK1 HL
          obtain ⟨dd, hdd⟩ : ∃ x, (s.stop a.at_ a.keep).dead = x := ⟨_, rfl⟩
          obtain ⟨ww, hww⟩ : ∃ x, (s.stop a.at_ a.keep).writes = x := ⟨_, rfl⟩
          obtain ⟨_, z1, _, _, _, z5⟩ := HRz.out.cells
          rw [← HLz.out.dead, hdd] at z1
          rw [← HLz.out.writes, hww] at z5
          have HDe := Lib.hid (fun m => (show Calls Try.prog 21 #[.pointer (some ⟨p, 0, none⟩)] (wz.drewN m) fun e w' => e = .returned (.bool dd) ∧ ∃ q, w' = (wz.drewN m).drewN q by
            rw [← hdd]
            exact (pdead_any (HDz.out.below (below_drewN (Below.refl _ _) m))).mono fun _ _ ⟨h1, h2⟩ => ⟨h1, 0, h2 ▸ rfl⟩))
          have HWe := Lib.hid (fun m => (show Calls Try.prog 12 #[.pointer (some ⟨p, 0, none⟩)] (wz.drewN m) fun e w' => e = .returned (.int .i64 ww) ∧ ∃ q, w' = (wz.drewN m).drewN q by
            rw [← hww]
            exact (pwrites_any (HDz.out.below (below_drewN (Below.refl _ _) m))).mono fun _ _ ⟨h1, h2⟩ => ⟨h1, 0, h2 ▸ rfl⟩))
          have HLe := Lib.hid (fun m => (show Calls Try.prog 13 #[.pointer (some ⟨p, 0, none⟩)] (wz.drewN m) fun e w' => e = .returned (.int .i64 (n : Int)) ∧ ∃ q, w' = (wz.drewN m).drewN q from
            (plen_any (HDz.out.below (below_drewN (Below.refl _ _) m))).mono fun _ _ ⟨h1, h2⟩ => ⟨h1, 0, h2 ▸ rfl⟩))
          have HRe := Lib.hid (fun m => (show Calls Try.prog 32 #[.pointer (some ⟨q, 0, none⟩)] (wz.drewN m) fun e w' => e = .returned (.int .i64 (n : Int)) ∧ ∃ q, w' = (wz.drewN m).drewN q from
            (rdlen_any (HRz.out.below (below_drewN (Below.refl _ _) m))).mono fun _ _ ⟨h1, h2⟩ => ⟨h1, 0, h2 ▸ rfl⟩))
          have y1 : (dd != dd) = false := by simp
          have y2 : (ww != ww) = false := by simp
          have y3 : ((n : Int) != (n : Int)) = false := by simp
          clear hdd hww
          go_wp2_with fail
          go_quiet ((first
            | (go_at_call 21; first | exact quiet_at0 HDe.out | exact quiet_at HDe.out)
            | (go_at_call 12; first | exact quiet_at0 HWe.out | exact quiet_at HWe.out)
            | (go_at_call 13; first | exact quiet_at0 HLe.out | exact quiet_at HLe.out)
            | (go_at_call 32; first | exact quiet_at0 HRe.out | exact quiet_at HRe.out)))
          all_goals
            go_wp2_with fail
            go_roundw
            case rel => exact ⟨j + 1, _, _, by omega, by go_num, Lib.hid (HDz.out.below (below_drewN (Below.refl _ _) _)), Lib.hid (HRz.out.below (below_drewN (Below.refl _ _) _)), HLz, Lib.hid (HCz.out.drewN _)⟩
            case measure => simp [intOf]; omega
        · by_cases t7 : t = 7
          · have x5 : ((t : Int) == 5) = false := by simp; omega
            have x6 : ((t : Int) == 6) = false := by simp; omega
            have x7 : ((t : Int) == 7) = true := by rw [t7]; rfl
            clear t5 t6 t7 e0 e1 e2 e3 e4
            go_wp2_with fail
            with_reducible refine (pstart_any HD2.out).mono ?_
            rintro e w3 ⟨rfl, D3, C3⟩
            have HR3 := Lib.hid (HAP.out.rp HR2.out C3)
            have HD3 := Lib.hid D3
            have HC3 := Lib.hid (HC2.out.trans (C3.more two_four1))
            clear D3 C3 HD2 HR2 HC2 HB2
            go_wp2_with fail
            with_reducible refine (rdstart_any HR3.out).mono ?_
            rintro e wz ⟨rfl, R4, C4⟩
            have HRz := Lib.hid R4
            have HDz := Lib.hid (HAP.out.dp HD3.out C4)
            have HLz := Lib.hid HL.out.start
            have HCz := Lib.hid (HC3.out.trans (C4.more two_four2))
            clear R4 C4 HR3 HD3 HC3 HK1 HL
            obtain ⟨dd, hdd⟩ : ∃ x, s.start.dead = x := ⟨_, rfl⟩
            obtain ⟨ww, hww⟩ : ∃ x, s.start.writes = x := ⟨_, rfl⟩
            obtain ⟨_, z1, _, _, _, z5⟩ := HRz.out.cells
            rw [← HLz.out.dead, hdd] at z1
            rw [← HLz.out.writes, hww] at z5
            have HDe := Lib.hid (fun m => (show Calls Try.prog 21 #[.pointer (some ⟨p, 0, none⟩)] (wz.drewN m) fun e w' => e = .returned (.bool dd) ∧ ∃ q, w' = (wz.drewN m).drewN q by
              rw [← hdd]
              exact (pdead_any (HDz.out.below (below_drewN (Below.refl _ _) m))).mono fun _ _ ⟨h1, h2⟩ => ⟨h1, 0, h2 ▸ rfl⟩))
            have HWe := Lib.hid (fun m => (show Calls Try.prog 12 #[.pointer (some ⟨p, 0, none⟩)] (wz.drewN m) fun e w' => e = .returned (.int .i64 ww) ∧ ∃ q, w' = (wz.drewN m).drewN q by
              rw [← hww]
              exact (pwrites_any (HDz.out.below (below_drewN (Below.refl _ _) m))).mono fun _ _ ⟨h1, h2⟩ => ⟨h1, 0, h2 ▸ rfl⟩))
            have HLe := Lib.hid (fun m => (show Calls Try.prog 13 #[.pointer (some ⟨p, 0, none⟩)] (wz.drewN m) fun e w' => e = .returned (.int .i64 (n : Int)) ∧ ∃ q, w' = (wz.drewN m).drewN q from
              (plen_any (HDz.out.below (below_drewN (Below.refl _ _) m))).mono fun _ _ ⟨h1, h2⟩ => ⟨h1, 0, h2 ▸ rfl⟩))
            have HRe := Lib.hid (fun m => (show Calls Try.prog 32 #[.pointer (some ⟨q, 0, none⟩)] (wz.drewN m) fun e w' => e = .returned (.int .i64 (n : Int)) ∧ ∃ q, w' = (wz.drewN m).drewN q from
              (rdlen_any (HRz.out.below (below_drewN (Below.refl _ _) m))).mono fun _ _ ⟨h1, h2⟩ => ⟨h1, 0, h2 ▸ rfl⟩))
            have y1 : (dd != dd) = false := by simp
            have y2 : (ww != ww) = false := by simp
            have y3 : ((n : Int) != (n : Int)) = false := by simp
            clear hdd hww
            go_wp2_with fail
            go_quiet ((first
              | (go_at_call 21; first | exact quiet_at0 HDe.out | exact quiet_at HDe.out)
              | (go_at_call 12; first | exact quiet_at0 HWe.out | exact quiet_at HWe.out)
              | (go_at_call 13; first | exact quiet_at0 HLe.out | exact quiet_at HLe.out)
              | (go_at_call 32; first | exact quiet_at0 HRe.out | exact quiet_at HRe.out)))
            all_goals
              go_wp2_with fail
              go_roundw
              case rel => exact ⟨j + 1, _, _, by omega, by go_num, Lib.hid (HDz.out.below (below_drewN (Below.refl _ _) _)), Lib.hid (HRz.out.below (below_drewN (Below.refl _ _) _)), HLz, Lib.hid (HCz.out.drewN _)⟩
              case measure => simp [intOf]; omega
          · have x5 : ((t : Int) == 5) = false := by simp; omega
            have x6 : ((t : Int) == 6) = false := by simp; omega
            have x7 : ((t : Int) == 7) = false := by simp; omega
            clear t5 t6 t7
            go_wp2_with fail
            with_reducible refine (lendA_any A' M cB B w2 HBL.out (by omega) HB2.out.rd).mono ?_
            rintro e w3 ⟨rfl, hr3, hb3⟩
            obtain ⟨Z, hZ⟩ : ∃ Z, w2.heap.size = Z := ⟨_, rfl⟩
            have HZE := Lib.hid hZ
            have HZN := Lib.hid (show ¬ four p g q h Z from fun hk => by
              have e1 := HD2.out.head.lt
              have e2 := HD2.out.body.lt
              have e3 := HR2.out.head.lt
              have e4 := HR2.out.body.lt
              rcases hk with hk | hk | hk | hk <;> omega)
            rw [hZ] at hr3 ⊢
            have HX3 := Lib.hid (RdA.of_rd_at hr3 (Nat.le_refl _) HZN.out)
            have HD3 := Lib.hid (HD2.out.below hb3)
            have HR3 := Lib.hid (HR2.out.below hb3)
            have HC3 := Lib.hid (HC2.out.trans (.of_below hb3))
            have HB3 := Lib.hid (HB2.out.chg (.of_below hb3))
            have hk3 := HK1.out.below hb3 HK1.out.lt
            obtain ⟨q0, q1, q2, q3, q4⟩ := act_cells hk3
            have HK3 := Lib.hid hk3
            have HKEEP := Lib.hid (fun W (hW : Chg (four p g q h) w3 W) => (⟨(hW.blk HK3.out HYN.out).cell 1, (hW.blk HK3.out HYN.out).cell 4, hW⟩ : W.cell? ⟨Y, 1, none⟩ = some (.int .i64 a.i) ∧ W.cell? ⟨Y, 4, none⟩ = some (.slice A' M cB) ∧ Chg (four p g q h) w3 W))
            clear hZ hr3 hb3 hk3 e0 e1 e2 e3 e4 q0 q2 q3 HD2 HR2 HC2 HB2 HK1
            obtain ⟨E, hE⟩ : ∃ E, s.code n a.i M = E := ⟨_, rfl⟩
            obtain ⟨s', hs'⟩ : ∃ x, s.next n a.i B = x := ⟨_, rfl⟩
            obtain ⟨r', hr'⟩ : ∃ x, r.rnext n a.i B = x := ⟨_, rfl⟩
            have hdd : Below w3.heap.size w3 w3.drew := (Below.refl _ _).drew
            have hcd : Chg (four p g q h) w3 w3.drew := (Chg.refl _ _).drew
            have HX4 := Lib.hid (show RdA (four p g q h) w3 (some ⟨Z, 0, none⟩) B from by
              have := HX3.out.take M
              rwa [List.take_left' HBL.out] at this)
            have HP := Lib.hid (show Calls Try.prog 9 #[.pointer (some ⟨p, 0, none⟩), .int .i64 a.i, .slice (some ⟨Z, 0, none⟩) M (M + 3)] w3.drew fun e w' => e = .returned (.int .i64 E) ∧ DP w' p g n c s' ∧ Chg (two p g) w3.drew w' by
              rw [← hE, ← hs']
              exact pwrite_any (HD3.out.below hdd) a.i _ M (M + 3) B HBL.out (HX4.out.chg hcd).rd)
            have HQ := Lib.hid (fun W (hW : Chg (two p g) w3.drew W) => (show Calls Try.prog 30 #[.pointer (some ⟨q, 0, none⟩), .int .i64 a.i, .slice (some ⟨Z, 0, none⟩) M (M + 3)] W fun e w' => e = .returned (.int .i64 E) ∧ RP w' q h n d r' ∧ Chg (two q h) W w' by
              rw [← hE, ← hr', HL.out.code]
              exact rdwrite_any (HAP.out.rp (HR3.out.below hdd) hW) a.i _ M (M + 3) B HBL.out ((HX4.out.chg (hcd.trans (hW.more two_four1))).less two_four2)))
            have HI := Lib.hid (fun W (hW : Chg (four p g q h) w3 W) => (intact_any (some ⟨Z, 0, none⟩) A' M cB _ _ B W HBL.out (by omega) (HX3.out.chg hW).rd (HB3.out.chg hW).rd))
            have HL2 := Lib.hid (show Like s' r' by rw [← hs', ← hr']; exact HL.out.next HD3.out.ahead n a.i B)
            clear hE hs' hr' hdd
            have hEE : (E != E) = false := by simp
            go_wp2_with fail
            go_region_held3 (fun W => W.cell? ⟨Y, 1, none⟩ = some (.int .i64 a.i) ∧ W.cell? ⟨Y, 4, none⟩ = some (.slice A' M cB) ∧ Chg (four p g q h) w3 W)
              ((first | exact HKEEP.out _ ‹_› | exact HKEEP.out _ (Chg.drew ‹_›) | exact HKEEP.out _ (Chg.drewN ‹_› _)))
              ((first
                | (go_at_call 9; refine HP.out.mono ?_; rintro e w4 ⟨rfl, D4, C4⟩; have hch4 : Chg (four p g q h) w3 w4 := hcd.trans (C4.more two_four1); have HD4 := Lib.hid D4; clear D4)
                | (go_at_call 30; refine (HQ.out _ ‹_›).mono ?_; rintro e w5 ⟨rfl, R5, C5⟩; have hch5 : Chg (four p g q h) w3 w5 := Chg.trans ‹_› (C5.more two_four2); have HR5 := Lib.hid R5; clear R5)
                | (go_at_call 31; refine (HI.out _ ‹_›).mono ?_; rintro e w6 ⟨rfl, m6, rfl⟩)))
            have HDz := Lib.hid ((HAP.out.dp HD4.out C5).below (below_drewN (Below.refl _ _) m6))
            have HRz := Lib.hid (HR5.out.below (below_drewN (Below.refl _ _) m6))
            have HLz := HL2
            have HCz := Lib.hid ((HC3.out.trans hch5).drewN m6)
            generalize w5.drewN m6 = wz at *
            clear HL2 HKEEP HP HQ HI HX4 HX3 HD3 HR3 HC3 HB3 HK3 q1 q4 C4 C5 HD4 HR5 hch4 hch5 hcd HL
            obtain ⟨dd, hdd⟩ : ∃ x, s'.dead = x := ⟨_, rfl⟩
            obtain ⟨ww, hww⟩ : ∃ x, s'.writes = x := ⟨_, rfl⟩
            obtain ⟨_, z1, _, _, _, z5⟩ := HRz.out.cells
            rw [← HLz.out.dead, hdd] at z1
            rw [← HLz.out.writes, hww] at z5
            have HDe := Lib.hid (fun m => (show Calls Try.prog 21 #[.pointer (some ⟨p, 0, none⟩)] (wz.drewN m) fun e w' => e = .returned (.bool dd) ∧ ∃ q, w' = (wz.drewN m).drewN q by
              rw [← hdd]
              exact (pdead_any (HDz.out.below (below_drewN (Below.refl _ _) m))).mono fun _ _ ⟨h1, h2⟩ => ⟨h1, 0, h2 ▸ rfl⟩))
            have HWe := Lib.hid (fun m => (show Calls Try.prog 12 #[.pointer (some ⟨p, 0, none⟩)] (wz.drewN m) fun e w' => e = .returned (.int .i64 ww) ∧ ∃ q, w' = (wz.drewN m).drewN q by
              rw [← hww]
              exact (pwrites_any (HDz.out.below (below_drewN (Below.refl _ _) m))).mono fun _ _ ⟨h1, h2⟩ => ⟨h1, 0, h2 ▸ rfl⟩))
            have HLe := Lib.hid (fun m => (show Calls Try.prog 13 #[.pointer (some ⟨p, 0, none⟩)] (wz.drewN m) fun e w' => e = .returned (.int .i64 (n : Int)) ∧ ∃ q, w' = (wz.drewN m).drewN q from
              (plen_any (HDz.out.below (below_drewN (Below.refl _ _) m))).mono fun _ _ ⟨h1, h2⟩ => ⟨h1, 0, h2 ▸ rfl⟩))
            have HRe := Lib.hid (fun m => (show Calls Try.prog 32 #[.pointer (some ⟨q, 0, none⟩)] (wz.drewN m) fun e w' => e = .returned (.int .i64 (n : Int)) ∧ ∃ q, w' = (wz.drewN m).drewN q from
              (rdlen_any (HRz.out.below (below_drewN (Below.refl _ _) m))).mono fun _ _ ⟨h1, h2⟩ => ⟨h1, 0, h2 ▸ rfl⟩))
            have y1 : (dd != dd) = false := by simp
            have y2 : (ww != ww) = false := by simp
            have y3 : ((n : Int) != (n : Int)) = false := by simp
            clear hdd hww
            go_wp2_with fail
            go_quiet ((first
              | (go_at_call 21; first | exact quiet_at0 HDe.out | exact quiet_at HDe.out)
              | (go_at_call 12; first | exact quiet_at0 HWe.out | exact quiet_at HWe.out)
              | (go_at_call 13; first | exact quiet_at0 HLe.out | exact quiet_at HLe.out)
              | (go_at_call 32; first | exact quiet_at0 HRe.out | exact quiet_at HRe.out)))
            all_goals
              go_wp2_with fail
              go_roundw
              case rel => exact ⟨j + 1, _, _, by omega, by go_num, Lib.hid (HDz.out.below (below_drewN (Below.refl _ _) _)), Lib.hid (HRz.out.below (below_drewN (Below.refl _ _) _)), HLz, Lib.hid (HCz.out.drewN _)⟩
              case measure => simp [intOf]; omega
    · by_cases hjn : j < N
      · have hlt' : (j : Int) < (N : Int) := by omega
        have hj40 : ¬ (j : Int) < 40 := by omega
        have hd1 : decide (j < N) = true := decide_eq_true hjn
        have hd2 : decide ((j : Int) < 40) = false := decide_eq_false hj40
        clear hlt
        go_wp2_with fail
        go_ret
        exact ⟨rfl, s, r, HD.out, HR.out, HL.out, HC.out⟩
      · have hlt' : ¬ (j : Int) < (N : Int) := by omega
        have hd1 : decide (j < N) = false := decide_eq_false hjn
        clear hlt
        go_wp2_with fail
        go_ret
        exact ⟨rfl, s, r, HD.out, HR.out, HL.out, HC.out⟩
end Go.Proofs.Ytclmnpfmodlnjaa
