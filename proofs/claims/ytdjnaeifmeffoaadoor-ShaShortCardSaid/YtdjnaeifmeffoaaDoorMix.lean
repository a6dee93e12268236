/- One block, as the program mixes it in. -/
import Derived.Test.YtdjnaeifmeffoaaDoorSpread
namespace Go.Proofs.YtdjnaeifmeffoaaDoor
open Go.RowKit

theorem h8_cells {w : World} {b : Nat} {H : H8} {T : TypeId} (h : Blk w b (h8 H) T) : w.cell? ⟨b, 0, none⟩ = some (.int .u32 (H.a : Int)) ∧ w.cell? ⟨b, 1, none⟩ = some (.int .u32 (H.b : Int)) ∧ w.cell? ⟨b, 2, none⟩ = some (.int .u32 (H.c : Int)) ∧ w.cell? ⟨b, 3, none⟩ = some (.int .u32 (H.d : Int)) ∧ w.cell? ⟨b, 4, none⟩ = some (.int .u32 (H.e : Int)) ∧ w.cell? ⟨b, 5, none⟩ = some (.int .u32 (H.f : Int)) ∧ w.cell? ⟨b, 6, none⟩ = some (.int .u32 (H.g : Int)) ∧ w.cell? ⟨b, 7, none⟩ = some (.int .u32 (H.h : Int)) :=
  ⟨h.cell 0, h.cell 1, h.cell 2, h.cell 3, h.cell 4, h.cell 5, h.cell 6, h.cell 7⟩

/-- The first i words of the sum, behind them those of S. -/
def addTo (H S : H8) (i : Nat) : List Nat := (list8 (plus8 H S)).take i ++ (list8 S).drop i
theorem addTo_len (H S : H8) (i : Nat) : (addTo H S i).length = 8 := by simp [addTo, list8]; omega
theorem addTo_get (H S : H8) (i : Nat) (h : i < 8) : (addTo H S i).getD i 0 = (list8 S).getD i 0 := by
  match i, h with
  | 0, _ | 1, _ | 2, _ | 3, _ | 4, _ | 5, _ | 6, _ | 7, _ => rfl
theorem addTo_set (H S : H8) (i : Nat) (h : i < 8) : (addTo H S i).set i (((list8 S).getD i 0 + (list8 H).getD i 0) % 4294967296) = addTo H S (i + 1) := by
  match i, h with
  | 0, _ | 1, _ | 2, _ | 3, _ | 4, _ | 5, _ | 6, _ | 7, _ => simp [addTo, list8, plus8, Nat.add_comm]
theorem addTo_end (H S : H8) : addTo H S 8 = list8 (plus8 H S) := rfl
theorem list8_lt {H : H8} (h : H.ok) : ∀ x ∈ list8 H, x < 4294967296 := by
  obtain ⟨h1, h2, h3, h4, h5, h6, h7, h8⟩ := h
  intro x hx
  simp only [list8, List.mem_cons, List.not_mem_nil, or_false] at hx
  rcases hx with rfl | rfl | rfl | rfl | rfl | rfl | rfl | rfl <;> assumption

/-- What stands in memory while the rounds go. -/
def MixIn (w0 w : World) (bw br ka : Nat) (ws : List Nat) (H : H8) : Prop :=
  Blk w bw (u32A ws) 58 ∧ Blk w w0.heap.size (h8 H) 53 ∧ Blk w ka (u32Cells kL).toArray 59 ∧ (∃ cs, Blk w br cs 53 ∧ cs.size = 8) ∧ Below w0.heap.size w0 w ∧ bw < w.heap.size
theorem MixIn.drewN {w0 w : World} {bw br ka : Nat} {ws : List Nat} {H : H8} (h : MixIn w0 w bw br ka ws H) (n : Nat) : MixIn w0 (w.drewN n) bw br ka ws H :=
  ⟨h.1, h.2.1, h.2.2.1, h.2.2.2.1, below_drewN h.2.2.2.2.1 n, h.2.2.2.2.2⟩

/-- What stands in memory while the sum is made. -/
def AddIn (w0 w : World) (ba br : Nat) (H S : H8) (i : Nat) : Prop :=
  Blk w ba (u32A (addTo H S i)) 53 ∧ Blk w w0.heap.size (h8 H) 53 ∧ (∃ cs, Blk w br cs 53 ∧ cs.size = 8) ∧ Below w0.heap.size w0 w

set_option maxRecDepth 100000 in
set_option maxHeartbeats 1000000 in
theorem mix_any (H : H8) (g off ka : Nat) (p : List UInt8) (w : World) (hH : H.ok) (hp : p.length = 64) (hr : Rd w w.heap.size (some ⟨g, off, none⟩) p) (hk : Blk w ka (u32Cells kL).toArray 59) :
    Calls Tryd.prog 32 #[.agg (h8 H), .pointer (some ⟨g, off, none⟩), .pointer (some ⟨ka, 0, none⟩)] w fun e w' => e = .returned (.agg (h8 (comp H p))) ∧ Below w.heap.size w w' := by
  have HP := Lib.hid hp
  have HK := Lib.hid hk
  have hkl := hk.lt
  have HH := Lib.hid hH
  clear hp hk hH
  go_enter Tryd.func32, Tryd.ntmps32
  go_wp2_with fail
  generalize hwa : (w.alloc _).alloc _ = wa
  obtain ⟨br, hbr⟩ : ∃ x, w.heap.size + 1 = x := ⟨_, rfl⟩
  have hst : Below w.heap.size w wa ∧ Blk wa w.heap.size (h8 H) 53 ∧ (∃ cs, Blk wa br cs 53 ∧ cs.size = 8) := by
    subst hwa hbr
    refine ⟨((Below.refl _ _).alloc (Nat.le_refl _) _).alloc (by simp) _, (Blk.new _ _ _).alloc _, (List.replicate 8 (Value.int .u32 0)).toArray, ?_, rfl⟩
    have := Blk.new (w.alloc (.cells (h8 H) 53)) (List.replicate 8 (Value.int .u32 0)).toArray 53
    rw [World.size_alloc] at this
    exact this
  obtain ⟨hba, hBa, hRa⟩ := hst
  rw [hbr]
  clear hwa
  refine (spread_any g off p _ HP.out ((hr.below hba (Nat.le_refl _)).more hba.size)).mono ?_
  rintro e w1 ⟨rfl, hb1⟩
  have hbrl : br < wa.heap.size := by obtain ⟨_, h, _⟩ := hRa; exact h.lt
  have hbel1 := Below.then hba hb1
  have HB1 := Lib.hid (hBa.below hb1 hBa.lt)
  have HR1 := Lib.hid (show ∃ cs, Blk w1 br cs 53 ∧ cs.size = 8 by obtain ⟨cs, h, hz⟩ := hRa; exact ⟨cs, h.below hb1 hbrl, hz⟩)
  have hs1 := hb1.size
  have hwl : w.heap.size < br := by omega
  have HK1 := Lib.hid (HK.out.below hbel1 hkl)
  have HWL := Lib.hid (schedTo_len p 48)
  have hws := sched_lt p 48
  obtain ⟨ws, hwe⟩ : ∃ x, schedTo p 48 = x := ⟨_, rfl⟩
  have HWE := Lib.hid (show comp H p = plus8 H (rndsTo ws H 64) by unfold comp; rw [hwe])
  rw [hwe] at HWL hws ⊢
  have HWS := Lib.hid hws
  have HWZ := Lib.hid (show (u32A ws).size = 64 by rw [u32A_size, HWL.out])
  clear hbr hba hBa hRa hb1 hwe hws
  go_wp2_with (with_reducible refine wpList_store_blk rfl 58 (.tmp 7) (.tmp 24) rfl w1.heap.size (u32A ws) rfl rfl 58 _ (Blk.new w1 _ _) (by rw [HWZ.out]; kernel_rfl) (by rw [HWZ.out]; kernel_rfl) (u32A_one _) ?_)
  generalize hw2 : World.setRow _ _ _ = w2
  have hst : Below w1.heap.size w1 w2 ∧ Blk w2 w1.heap.size (u32A ws) 58 := by
    subst hw2
    exact ⟨below_row ((Below.refl _ _).alloc (Nat.le_refl _) _) (by simp) (Nat.le_refl _) _, (Blk.new w1 _ _).row _⟩
  obtain ⟨hb2, hW2⟩ := hst
  obtain ⟨c0, c1, c2, c3, c4, c5, c6, c7⟩ := h8_cells (HB1.out.below hb2 (by omega))
  have HB2 := Lib.hid (HB1.out.below hb2 (by omega))
  have HK2 := Lib.hid (HK1.out.below hb2 (by omega))
  have HR2 := Lib.hid (show ∃ cs, Blk w2 br cs 53 ∧ cs.size = 8 by obtain ⟨cs, h, hz⟩ := HR1.out; exact ⟨cs, h.below hb2 (by omega), hz⟩)
  have HW2 := Lib.hid hW2
  have hbel2 := hbel1.trans (hb2.mono (by omega))
  have hbw2 := hW2.lt
  obtain ⟨bw, hbw⟩ : ∃ x, w1.heap.size = x := ⟨_, rfl⟩
  have hbw1 : br < bw := by omega
  rw [hbw] at HW2 hbw2 ⊢
  clear hw2 hb2 hW2 HB1 HK1 HR1 hbel1 hs1 hbrl hbw
  go_wp2_with fail
  go_quiet (fail)
  clear c0 c1 c2 c3 c4 c5 c6 c7
  generalize hwq : w2.drewN nq = wq
  have hst : MixIn w wq bw br ka ws H := by
    subst hwq; exact ⟨HW2.out, HB2.out, HK2.out, HR2.out, below_drewN hbel2 _, hbw2⟩
  have HST := Lib.hid hst
  clear hst hwq HB2 HK2 HR2 HW2 hbel2 hbw2
  go_wp2_with fail
  go_loopw [8, 9, 10, 11, 12, 13, 14, 15, 41] (fun va vb vc vd ve vf vg vh t wr => ∃ (j : Nat) (S : H8), j ≤ 64 ∧ t = .int .i64 j ∧ Hid (S = rndsTo ws H j) ∧ va = .int .u32 S.a ∧ vb = .int .u32 S.b ∧ vc = .int .u32 S.c ∧ vd = .int .u32 S.d ∧ ve = .int .u32 S.e ∧ vf = .int .u32 S.f ∧ vg = .int .u32 S.g ∧ vh = .int .u32 S.h ∧ Hid S.ok ∧ Hid (MixIn w wr bw br ka ws H)) (fun _ _ _ _ _ _ _ _ t _ => 64 - (intOf t).toNat)
  case atStart => exact ⟨0, H, by omega, rfl, Lib.hid rfl, rfl, rfl, rfl, rfl, rfl, rfl, rfl, rfl, HH, HST⟩
  case round =>
    clear HST
    obtain ⟨j, S, hj, rfl, HS, rfl, rfl, rfl, rfl, rfl, rfl, rfl, rfl, HO, HST⟩ := hrel
    by_cases hlt : j < 64
    · have HN := Lib.hid (show rnd S ((kL.getD j 0).toNat) (ws.getD j 0) = rndsTo ws H (j + 1) by rw [HS.out]; rfl)
      have HON := Lib.hid (rnd_ok S ((kL.getD j 0).toNat) (ws.getD j 0) HO.out)
      obtain ⟨ck, hkl2⟩ := kL_get j hlt
      have cw := (HST.out.1.cell j).trans (u32A_get (ns := ws) (i := j) (by rw [HWL.out]; omega))
      have hwl2 := getD_lt HWS.out j
      have ck2 := (HST.out.2.2.1.cell j).trans ck
      obtain ⟨o1, o2, o3, o4, o5, o6, o7, o8⟩ := HO.out
      obtain ⟨s1, s2, s3, s4, s5, s6, s7, s8⟩ := S
      simp only at o1 o2 o3 o4 o5 o6 o7 o8 ⊢
      generalize (kL.getD j 0).toNat = kj at *
      generalize ws.getD j 0 = wj at *
      have HCH := Lib.hid (chs_val s5 s6 s7 o5 o6 o7)
      have HMJ := Lib.hid (maj_val s1 s2 s3 o1 o2 o3)
      have j64 : (j : Int) < 64 := by omega
      clear HS HO ck hj
      go_wp2_with fail
      go_quiet ((go_at_call 41; exact Calls.quiet_of_same (turns_bg1 _ _ o5)))
      have hstq := HST.out.drewN nq
      generalize wr.drewN nq = wz at *
      have HSTQ := Lib.hid hstq
      clear hstq HST ck2 cw
      go_wp2_with fail
      refine (turns_bg0 _ _ o1).mono ?_
      rintro e w' ⟨rfl, rfl⟩
      go_wp2_with fail
      go_roundw
      case rel =>
        refine ⟨j + 1, _, by omega, by go_num, HN, ?_, rfl, rfl, rfl, ?_, rfl, rfl, rfl, HON, HSTQ⟩
        · rw [HCH.out, HMJ.out]
          exact congrArg _ (by simp only [rnd]; omega)
        · rw [HCH.out]
          exact congrArg _ (by simp only [rnd]; omega)
      case measure => simp [intOf]; omega
    · have HE := Lib.hid (show comp H p = plus8 H S by obtain rfl : j = 64 := (by omega); rw [HWE.out, HS.out])
      have hbz := HST.out.2.2.2.2.2
      obtain ⟨w5, rfl⟩ : ∃ x : World, x = wr := ⟨_, rfl⟩
      clear HS hj HWE
      go_wp2_with (with_reducible refine wpList_store_blk rfl 53 (.tmp 21) (.tmp 104) rfl w5.heap.size #[.int .u32 S.a, .int .u32 S.b, .int .u32 S.c, .int .u32 S.d, .int .u32 S.e, .int .u32 S.f, .int .u32 S.g, .int .u32 S.h] rfl rfl 53 _ (Blk.new w5 _ _) (by kernel_rfl) (by kernel_rfl) (by kernel_rfl) ?_)
      generalize hw6 : World.setRow _ _ _ = w6
      obtain ⟨ba, hba⟩ : ∃ x, w5.heap.size = x := ⟨_, rfl⟩
      have hst : AddIn w w6 ba br H S 0 := by
        subst hw6
        obtain ⟨m1, m2, m3, ⟨cs, m4, m4z⟩, m5, m6⟩ := HST.out
        rw [hba]
        refine ⟨?_, ?_, ⟨cs, ?_, m4z⟩, ?_⟩
        · have := (Blk.new w5 #[.int .u32 0, .int .u32 0, .int .u32 0, .int .u32 0, .int .u32 0, .int .u32 0, .int .u32 0, .int .u32 0] 53).row (u32A (addTo H S 0))
          rw [hba] at this
          exact this
        · exact (m2.alloc _).rowOther (by omega) _
        · exact (m4.alloc _).rowOther (by omega) _
        · exact below_row (m5.alloc (by have := m5.size; omega) _) (by have := m5.size; simp; omega) (by have := m5.size; omega) _
      have hbr : br < ba := by omega
      have HA := Lib.hid hst
      rw [hba]
      clear hst hw6 HST hbz hba
      go_wp2_with fail
      go_loopw [105] (fun t wr => ∃ i : Nat, i ≤ 8 ∧ t = .int .i64 i ∧ Hid (AddIn w wr ba br H S i)) (fun t _ => 8 - (intOf t).toNat)
      case atStart => exact ⟨0, by omega, rfl, HA⟩
      case round =>
        clear HA
        obtain ⟨i, hi, rfl, HA⟩ := hrel
        by_cases hi8 : i < 8
        · obtain ⟨a1, a2, a3, a4⟩ := HA.out
          have ca := (a1.cell i).trans (u32A_get (by rw [addTo_len]; exact hi8))
          rw [addTo_get H S i hi8] at ca
          have cb := (a2.cell i).trans (u32A_get (by show i < 8; exact hi8))
          have fa := a1.frozen i
          have HSET := Lib.hid (addTo_set H S i hi8)
          have A1 := Lib.hid a1
          have A2 := Lib.hid a2
          have A3 := Lib.hid a3
          have la := getD_lt (list8_lt HO.out) i
          have lb := getD_lt (list8_lt HH.out) i
          generalize (list8 S).getD i 0 = x at *
          generalize (list8 H).getD i 0 = y at *
          have hi8' : (i : Int) < 8 := by omega
          clear a1 a2 a3 HA hi
          go_wp2_with fail
          go_still_tail 8, (by kernel_rfl)
          go_wp2
          go_roundw
          case rel =>
            refine ⟨i + 1, by omega, by go_num, Lib.hid ⟨?_, ?_, ?_, ?_⟩⟩
            · have hset := Blk.set (w := wr.drew) A1.out i (.int .u32 (((x + y) % 4294967296 : Nat) : Int))
              rw [u32A_set, HSET.out] at hset
              refine Eq.mp (congrArg (fun v => Blk (World.setCell wr.drew ⟨ba, i, none⟩ (.int .u32 v)) ba (u32A (addTo H S (i + 1))) 53) ?_) hset
              omega
            · exact Blk.other (w := wr.drew) A2.out (by simp; omega) _
            · obtain ⟨cs, h, hz⟩ := A3.out
              exact ⟨cs, Blk.other (w := wr.drew) h (by simp; omega) _, hz⟩
            · exact a4.drew.setCell (by simp; omega) _
          case measure => simp [intOf]; omega
        · obtain ⟨a1, a2, ⟨cs, a3, a3z⟩, a4⟩ := HA.out
          have hA : Blk wr ba (h8 (plus8 H S)) 53 := by obtain rfl : i = 8 := (by omega); exact a1
          rw [← HE.out] at hA
          obtain ⟨fin, hfe⟩ : ∃ x, h8 (comp H p) = x := ⟨_, rfl⟩
          have hsz := h8_size (comp H p)
          have hone := h8_one (comp H p)
          rw [hfe] at hA hsz hone
          have HFE := Lib.hid hfe
          have HZ := Lib.hid hsz
          have HONE := Lib.hid hone
          have HCZ := Lib.hid a3z
          have hin := a3.lt
          clear hfe hsz hone a3z a1 a2 HA hi
          go_wp2_with (first
            | (with_reducible refine wpList_load_blk rfl 53 (.tmp 21) rfl ba rfl 53 fin _ hA Tryd.underlying53 rfl (by rw [HZ.out]; kernel_rfl) ?_)
            | (with_reducible refine wpList_store_blk rfl 53 (.tmp 6) (.tmp 117) rfl br fin rfl rfl 53 cs a3 (by rw [HZ.out]; kernel_rfl) (by rw [HZ.out, HCZ.out]) HONE.out ?_))
          refine bodyPost_ret (v := .agg fin) (results_cell_row (p := 6) (ty := 53) (by kernel_rfl) _ _ br 53 _ (0, 0) _ rfl (a3.row fin) Tryd.underlying53 rfl (by rw [HZ.out]; kernel_rfl)) rfl ⟨by rw [HFE.out], below_row a4 (by have := a4.size; omega) (by omega) _⟩
end Go.Proofs.YtdjnaeifmeffoaaDoor
