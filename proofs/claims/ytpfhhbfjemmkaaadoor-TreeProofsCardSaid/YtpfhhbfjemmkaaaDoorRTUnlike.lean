/- The document's own tree: a break of two unlike rows of leaves with one root. -/
import Derived.Test.YtpfhhbfjemmkaaaDoorRTBrkA
import Derived.Test.YtpfhhbfjemmkaaaDoorRTSeekA
namespace Go.Proofs.YtpfhhbfjemmkaaaDoor
open Go.RowKit

set_option maxRecDepth 100000 in
set_option maxHeartbeats 8000000 in
theorem runlike7_any (A B : Option Addr) (n m c d : Nat) (l k : List (List UInt8)) (w : World) (hn : l.length = n) (hm : k.length = m) (h1 : n ≤ 1024) (h2 : m ≤ 1024) (hll : ∀ r ∈ l, r.length = 32) (hkl : ∀ r ∈ k, r.length = 32)
    (hnc : n ≤ c) (hmd : m ≤ d) (hl : RdH w w.heap.size A l) (hk : RdH w w.heap.size B k) :
    Calls Tryd.prog 37 #[.slice A n c, .slice B m d] w (BrkSaid w (unlV l k)) := by
  have HN := Lib.hid hn
  have HM := Lib.hid hm
  have HRL := Lib.hid (rootV_len hll)
  have HRK := Lib.hid (rootV_len hkl)
  go_enter Tryd.func37, Tryd.ntmps37
  go_upto_region 1 with fail
  generalize hw1 : World.alloc _ _ = w1
  obtain ⟨g4, hg4⟩ : ∃ g, w.heap.size = g := ⟨_, rfl⟩
  have hf : Blk w1 g4 #[Value.slice none 0 0, Value.slice none 0 0] 41 ∧ Below w.heap.size w w1 := by
    rw [← hw1, ← hg4]
    exact ⟨Blk.new _ _ _, (Below.refl _ _).alloc (Nat.le_refl _) _⟩
  have HB4 := Lib.hid hf.1
  have hw5 := hf.2
  clear hf hw1
  rw [hg4]
  have HG := Lib.hid hg4
  clear hg4
  have HLV := Lib.hid (show HV w1 (.slice A n c) l from ⟨hll, A, c, by rw [HN.out], by rw [HN.out]; exact hnc, (hl.below hw5 (Nat.le_refl _)).more hw5.size⟩)
  have HKV := Lib.hid (show HV w1 (.slice B m d) k from ⟨hkl, B, d, by rw [HM.out], by rw [HM.out]; exact hmd, (hk.below hw5 (Nat.le_refl _)).more hw5.size⟩)
  obtain ⟨X, hX⟩ : ∃ X, u8A (rootV l) = X := ⟨_, rfl⟩
  obtain ⟨Y, hY⟩ : ∃ Y, u8A (rootV k) = Y := ⟨_, rfl⟩
  have HX := Lib.hid hX
  have HY := Lib.hid hY
  have HRA := Lib.hid (fun W (h : Below w1.heap.size w1 W) => (show Calls Tryd.prog 25 #[.slice A n c] W fun e w' => e = .returned (.agg X) ∧ Below W.heap.size W w' from by
    have := rroot7_any A n c l W HN.out h1 hll ((hl.below (hw5.trans (h.mono hw5.size)) (Nat.le_refl _)).more (hw5.trans (h.mono hw5.size)).size)
    rw [← HN.out] at this ⊢
    rw [← HX.out]
    exact this))
  have HRB := Lib.hid (fun W (h : Below w1.heap.size w1 W) => (show Calls Tryd.prog 25 #[.slice B m d] W fun e w' => e = .returned (.agg Y) ∧ Below W.heap.size W w' from by
    have := rroot7_any B m d k W HM.out h2 hkl ((hk.below (hw5.trans (h.mono hw5.size)) (Nat.le_refl _)).more (hw5.trans (h.mono hw5.size)).size)
    rw [← HM.out] at this ⊢
    rw [← HY.out]
    exact this))
  clear hX hY
  go_cut [29] from 13 to 29 (fun r wx => r = .bool (!decide (unlOK l k)) ∧ Hid (Below w1.heap.size w1 wx))
  case first =>
    by_cases hnm : n = m
    · subst hnm
      have hne : ((n : Int) != (n : Int)) = false := by simp
      by_cases hlk : l = k
      · have HR := Lib.hid (show decide (unlOK l k) = false from decide_eq_false (fun h => h.2.1 hlk))
        have HLK := Lib.hid (decide_eq_true hlk)
        go_wp2_with fail
        with_reducible refine (rsame7_any HLV.out HKV.out (by rw [HN.out]; omega)).mono ?_
        rintro e w6 ⟨rfl, hb6⟩
        rw [HLK.out]
        go_wp2_with fail
        go_meet
        case rel => exact ⟨by rw [HR.out]; rfl, Lib.hid hb6⟩
      · have HLK := Lib.hid (decide_eq_false hlk)
        by_cases hrt : rootV l = rootV k
        · have HR := Lib.hid (show decide (unlOK l k) = true from decide_eq_true ⟨by rw [HN.out, HM.out], hlk, hrt⟩)
          have heq := fun W => (show (Op.equalIn 10000 25 (.agg X) (.agg Y)).run Tryd.prog W = .ok true W by
            rw [← HX.out, ← HY.out, run_hash_eq W _ _ HRL.out HRK.out, decide_eq_true hrt])
          go_wp2_with fail
          with_reducible refine (rsame7_any HLV.out HKV.out (by rw [HN.out]; omega)).mono ?_
          rintro e w6 ⟨rfl, hb6⟩
          rw [HLK.out]
          go_wp2_with fail
          with_reducible refine (HRA.out _ hb6).mono ?_
          rintro e w7 ⟨rfl, hb7⟩
          have hb67 := hb6.trans (hb7.mono hb6.size)
          go_wp2_with fail
          with_reducible refine (HRB.out _ hb67).mono ?_
          rintro e w8 ⟨rfl, hb8⟩
          have hb68 := hb67.trans (hb8.mono hb67.size)
          go_wp2_with fail
          go_meet
          case rel => exact ⟨by rw [HR.out]; rfl, Lib.hid hb68⟩
        · have HR := Lib.hid (show decide (unlOK l k) = false from decide_eq_false (fun h => hrt h.2.2))
          have heq := fun W => (show (Op.equalIn 10000 25 (.agg X) (.agg Y)).run Tryd.prog W = .ok false W by
            rw [← HX.out, ← HY.out, run_hash_eq W _ _ HRL.out HRK.out, decide_eq_false hrt])
          go_wp2_with fail
          with_reducible refine (rsame7_any HLV.out HKV.out (by rw [HN.out]; omega)).mono ?_
          rintro e w6 ⟨rfl, hb6⟩
          rw [HLK.out]
          go_wp2_with fail
          with_reducible refine (HRA.out _ hb6).mono ?_
          rintro e w7 ⟨rfl, hb7⟩
          have hb67 := hb6.trans (hb7.mono hb6.size)
          go_wp2_with fail
          with_reducible refine (HRB.out _ hb67).mono ?_
          rintro e w8 ⟨rfl, hb8⟩
          have hb68 := hb67.trans (hb8.mono hb67.size)
          go_wp2_with fail
          go_meet
          case rel => exact ⟨by rw [HR.out]; rfl, Lib.hid hb68⟩
    · have hne : ((n : Int) != (m : Int)) = true := by simp; omega
      have HR := Lib.hid (show decide (unlOK l k) = false from decide_eq_false (fun h => hnm (by rw [← HN.out, ← HM.out, h.1])))
      go_wp2_with fail
      go_meet
      case rel => exact ⟨by rw [HR.out]; rfl, Lib.hid (Below.refl _ _)⟩
  case rest =>
    obtain ⟨rfl, HBX⟩ := hcut
    have hbx := HBX.out
    have hwc : Below w.heap.size w wc := hw5.trans (hbx.mono hw5.size)
    have H4 := Lib.hid (HB4.out.below hbx HB4.out.lt)
    have HGC := Lib.hid (show g4 < wc.heap.size from H4.out.lt)
    clear HB4 HBX HX HY HRA HRB HLV HKV hbx hw5
    by_cases huo : unlOK l k
    · have HR := Lib.hid (show decide (unlOK l k) = true from decide_eq_true huo)
      rw [HR.out]
      simp only [Bool.not_true]
      obtain rfl : n = m := by have := huo.1; rw [HN.out, HM.out] at this; exact this
      obtain ⟨K, hK⟩ : ∃ K, tree.high n = K := ⟨_, rfl⟩
      have hK10 : K ≤ 10 := by rw [← hK]; exact tree.high_least 10 n (by simpa using h1)
      have HV1 := Lib.hid (show unlV l k = seekBr K (rowH l) (rowH k) by unfold unlV; rw [if_pos huo, HN.out, hK])
      have HRA := Lib.hid (fun W (h : Below w.heap.size w W) => rrow7_any A n c l W HN.out h1 hll ((hl.below h (Nat.le_refl _)).more h.size))
      have HRB := Lib.hid (fun W (h : Below w.heap.size w W) => rrow7_any B n d k W HM.out h1 hkl ((hk.below h (Nat.le_refl _)).more h.size))
      have HRL2 := Lib.hid (show (rowH l).length = 2 ^ K by rw [rowH_len, HN.out, hK])
      have HRK2 := Lib.hid (show (rowH k).length = 2 ^ K by rw [rowH_len, HM.out, hK])
      have HRLH := Lib.hid (rowH_hash hll)
      have HRKH := Lib.hid (rowH_hash hkl)
      generalize rowH l = R at *
      generalize rowH k = S at *
      clear HR huo HRL HRK hn hm hll hkl hl hk hK
      go_wp2_with fail
      with_reducible refine (HRA.out _ hwc).mono ?_
      rintro e w2 ⟨x2, rfl, hx2, hb2⟩
      obtain ⟨X2, xc2, rfl, _, _⟩ := hx2.form HRL2.out
      have hw2 : Below w.heap.size w w2 := hwc.trans (hb2.mono hwc.size)
      have H42 := Lib.hid (H4.out.below hb2 H4.out.lt)
      have HX2 := Lib.hid (HxV.of hx2)
      have hs2 := hb2.size
      clear hb2 hx2 H4 HRA
      go_wp2_with fail
      with_reducible refine (HRB.out _ hw2).mono ?_
      rintro e w3 ⟨y2, rfl, hy2, hb3⟩
      obtain ⟨Y2, yc2, rfl, _, _⟩ := hy2.form HRK2.out
      have hw3 : Below w.heap.size w w3 := hw2.trans (hb3.mono hw2.size)
      have H4 := Lib.hid (H42.out.below hb3 H42.out.lt)
      have HX3 := Lib.hid (HX2.out.on hb3)
      have HY3 := Lib.hid (HxV.of hy2)
      obtain ⟨C, hC⟩ : ∃ C, w3.heap.size = C := ⟨_, rfl⟩
      have HCC := Lib.hid hC
      have HGX := Lib.hid (show w.heap.size ≤ g4 ∧ g4 < C by rw [← hC]; exact ⟨by have := HG.out; omega, H4.out.lt⟩)
      have hwC : w.heap.size ≤ C := by rw [← hC]; exact hw3.size
      clear hb3 hy2 hw2 hwc hs2 HRB H42 HX2 HGC hC HG
      go_wp2_with fail
      go_loopw [6, 7, 8, 9] (fun sv tv xv yv wr => ∃ j q : Nat, j ≤ K ∧ Hid (q = 2 ^ (K - j)) ∧ lenW xv = q ∧ Hid (HxV wr xv (upNH j R)) ∧ Hid (HxV wr yv (upNH j S)) ∧ Hid (Blk wr g4 #[Value.slice none 0 0, Value.slice none 0 0] 41) ∧ Hid (RL wr C sv ((List.range j).map (upNH · R))) ∧ Hid (RL wr C tv ((List.range j).map (upNH · S))) ∧ Hid (∀ g, sv.ownBlock = some g → tv.ownBlock ≠ some g) ∧ Below w.heap.size w wr ∧ C ≤ wr.heap.size) (fun _ _ x _ _ => lenW x)
      case atStart => exact ⟨0, 2 ^ K, Nat.zero_le _, Lib.hid rfl, rfl, HX3, HY3, H4, Lib.hid (RL.nil _ _), Lib.hid (RL.nil _ _), Lib.hid (fun g hg => by simp [Value.ownBlock] at hg), hw3, by rw [HCC.out]; exact Nat.le_refl _⟩
      case round =>
        clear H4 HX3 HY3 hw3
        obtain ⟨j, q, hj, HQ, hlw, HXR, HYR, H4, HSL, HTL, HNE, hbel, hCw⟩ := hrel
        have HSLN := Lib.hid (show ((List.range j).map (upNH · R)).length = j by simp)
        have HTLN := Lib.hid (show ((List.range j).map (upNH · S)).length = j by simp)
        have hlx : (upNH j R).length = q := by rw [upNH_len, HRL2.out, HQ.out, Nat.pow_div hj (by omega)]
        have hly : (upNH j S).length = q := by rw [upNH_len, HRK2.out, HQ.out, Nat.pow_div hj (by omega)]
        obtain ⟨X3, c3, rfl, hc3, _⟩ := OwnH.form HXR.out hlx
        obtain ⟨Y3, d3, rfl, hd3, _⟩ := OwnH.form HYR.out hly
        obtain ⟨S1, sc, rfl, _, _⟩ := HSL.out.form HSLN.out
        obtain ⟨T1, tc, rfl, _, _⟩ := HTL.out.form HTLN.out
        clear hlw
        by_cases hjK : j < K
        · have hq1 : 1 < q := by rw [HQ.out]; exact Nat.one_lt_two_pow (by omega)
          have hqi : (1 : Int) < (q : Int) := by omega
          have hq10 : q ≤ 1024 := by rw [HQ.out]; exact Nat.le_trans (Nat.pow_le_pow_right (by omega) (Nat.sub_le K j)) (show 2 ^ K ≤ 2 ^ 10 from Nat.pow_le_pow_right (by omega) hK10)
          have HQ2 := Lib.hid (show q / 2 = 2 ^ (K - (j + 1)) by
            rw [HQ.out, show K - j = K - (j + 1) + 1 by omega, Nat.pow_succ]
            omega)
          have HLX := Lib.hid hlx
          have HLY := Lib.hid hly
          have HSS := Lib.hid (show (List.range (j + 1)).map (upNH · R) = (List.range j).map (upNH · R) ++ [upNH j R] by rw [List.range_succ, List.map_append]; rfl)
          have HTS := Lib.hid (show (List.range (j + 1)).map (upNH · S) = (List.range j).map (upNH · S) ++ [upNH j S] by rw [List.range_succ, List.map_append]; rfl)
          have HUX := Lib.hid (show upNH (j + 1) R = upH (upNH j R) from upNH_succ j R)
          have HUY := Lib.hid (show upNH (j + 1) S = upH (upNH j S) from upNH_succ j S)
          have HCW := Lib.hid hCw
          generalize (List.range j).map (upNH · R) = ssl at *
          generalize (List.range j).map (upNH · S) = tsl at *
          generalize upNH j R = xl at *
          generalize upNH j S = yl at *
          clear hlx hly HQ
          have H4O := Lib.hid H4.out
          have hal4 : Below wr.heap.size wr (wr.alloc (.cells #[.slice X3 q c3] 23)) := (Below.refl _ _).alloc (Nat.le_refl _) _
          have HS4 := Lib.hid (HSL.out.on hal4)
          have HT4 := Lib.hid (HTL.out.on hal4)
          have HX4 := Lib.hid (HXR.out.on hal4)
          have HY4 := Lib.hid (HYR.out.on hal4)
          have HLW4 := Lib.hid (show C ≤ (wr.alloc (.cells #[.slice X3 q c3] 23)).heap.size by simp; omega)
          have hb4 : Below w.heap.size w (wr.alloc (.cells #[.slice X3 q c3] 23)) := hbel.trans (hal4.mono hbel.size)
          have HBC4 := Lib.hid (H4.out.below hal4 H4.out.lt)
          clear HSL HTL HXR HYR H4 hal4
          go_wp2_with (at_builtin; refine wpList_append_row rfl _ _ rfl C _ ssl rfl HS4.out wr.heap.size _ xl HX4.out (heap_alloc_new _ _) rfl (by rw [HSLN.out]; omega) HLW4.out ?_)
          intro v5 w5x hsl5 hg5 hf5
          have hs5 := hg5.size
          obtain ⟨S5, sc5, rfl, _, _⟩ := hsl5.form (n := j + 1) (by rw [List.length_append, HSLN.out]; rfl)
          have HT5 := Lib.hid (HT4.out.apart HS4.out hg5 fun g hg e => HNE.out g e hg)
          have HS5 := Lib.hid hsl5
          have HX5 := Lib.hid (RL.hx HX4.out HS4.out hg5)
          have HY5 := Lib.hid (RL.hx HY4.out HS4.out hg5)
          have HF5 := Lib.hid (show ∀ g, (Value.slice S5 (j + 1) sc5).ownBlock = some g → (Value.slice T1 j tc).ownBlock ≠ some g from fun g hg e => by
            rcases hf5 g hg with h | h
            · exact HNE.out g h e
            · have := (HT4.out.inside g e).2
              simp at this
              omega)
          have hb5 : Below C wr w5x := ((Below.refl _ _).alloc hCw _).grown hg5 HLW4.out (fun k hk => (HS4.out.inside k hk).1)
          have hw5x : Below w.heap.size w w5x := hbel.trans (hb5.mono hwC)
          have HBC5 := Lib.hid (H4O.out.below hb5 HGX.out.2)
          have HC5 := Lib.hid hb5.size
          have HCC5 := Lib.hid (show C ≤ w5x.heap.size from Nat.le_trans hCw hb5.size)
          clear hsl5 hf5 hs5 HX4 HT4 HY4 HNE HBC4 hb4
          have hal6 : Below w5x.heap.size w5x (w5x.alloc (.cells #[.slice Y3 q d3] 23)) := (Below.refl _ _).alloc (Nat.le_refl _) _
          have HS6 := Lib.hid (HS5.out.on hal6)
          have HT6 := Lib.hid (HT5.out.on hal6)
          have HX6 := Lib.hid (HX5.out.on hal6)
          have HY6 := Lib.hid (HY5.out.on hal6)
          have HLW6 := Lib.hid (show C ≤ (w5x.alloc (.cells #[.slice Y3 q d3] 23)).heap.size by have := HCC5.out; simp; omega)
          clear HS5 HT5 HX5 HY5 hal6 hb5 hg5 HS4
          go_wp2_with (at_builtin; refine wpList_append_row rfl _ _ rfl C _ tsl rfl HT6.out w5x.heap.size _ yl HY6.out (heap_alloc_new _ _) rfl (by rw [HTLN.out]; omega) HLW6.out ?_)
          intro v7 w7 htl7 hg7 hf7
          have hs7 := hg7.size
          obtain ⟨T7, tc7, rfl, _, _⟩ := htl7.form (n := j + 1) (by rw [List.length_append, HTLN.out]; rfl)
          have HS7 := Lib.hid (HS6.out.apart HT6.out hg7 HF5.out)
          have HT7 := Lib.hid htl7
          have HX7 := Lib.hid (RL.hx HX6.out HT6.out hg7)
          have HY7 := Lib.hid (RL.hx HY6.out HT6.out hg7)
          have HNE7 := Lib.hid (show ∀ g, (Value.slice S5 (j + 1) sc5).ownBlock = some g → (Value.slice T7 (j + 1) tc7).ownBlock ≠ some g from fun g hg e => by
            rcases hf7 g e with h | h
            · exact HF5.out g hg h
            · have := (HS6.out.inside g hg).2
              simp at this
              omega)
          have hb7 : Below C w5x w7 := ((Below.refl _ _).alloc HCC5.out _).grown hg7 HLW6.out (fun k hk => (HT6.out.inside k hk).1)
          have hw7 : Below w.heap.size w w7 := hw5x.trans (hb7.mono hwC)
          have HB7 := Lib.hid (HBC5.out.below hb7 HGX.out.2)
          have hC7 : C ≤ w7.heap.size := Nat.le_trans HCC5.out hb7.size
          clear htl7 hf7 hs7 hg7 HX6 HY6 HT6 HS6 HF5 hb7 hw5x HBC5 HC5 HCC5 HLW6 HLW4 H4O hbel hCw HCW

          have HX8 := Lib.hid (OwnH.hv HX7.out)
          have HUX2 := Lib.hid (rup_any X3 q c3 xl w7 HLX.out (by omega) HX8.out.1 (by
            obtain ⟨_, Y, d, e, _, h⟩ := HX8.out
            injection e with e1 _ _
            rw [e1]; exact h))
          clear HX8 HX7
          go_wp2_with fail
          with_reducible refine (HUX2.out).mono ?_
          rintro e w8 ⟨x8, rfl, hx8, hb8⟩
          have HLX2 := Lib.hid (show (upH xl).length = q / 2 by rw [upH_len, HLX.out])
          have HLY2 := Lib.hid (show (upH yl).length = q / 2 by rw [upH_len, HLY.out])
          obtain ⟨X8, xc8, rfl, _, _⟩ := hx8.form HLX2.out
          have HX8 := Lib.hid (HxV.of hx8)
          have HY8 := Lib.hid (HY7.out.on hb8)
          have HS8 := Lib.hid (HS7.out.on hb8)
          have HT8 := Lib.hid (HT7.out.on hb8)
          have HB8 := Lib.hid (HB7.out.below hb8 HB7.out.lt)
          have hw8 : Below w.heap.size w w8 := hw7.trans (hb8.mono hw7.size)
          have hC8 : C ≤ w8.heap.size := Nat.le_trans hC7 hb8.size
          have HY9 := Lib.hid (OwnH.hv HY8.out)
          have HUY2 := Lib.hid (rup_any Y3 q d3 yl w8 HLY.out (by omega) HY9.out.1 (by
            obtain ⟨_, Y, d, e, _, h⟩ := HY9.out
            injection e with e1 _ _
            rw [e1]; exact h))
          clear HY9 HY8 HY7 HS7 HT7 HB7 hw7 hC7 hx8 hb8 HUX2
          go_wp2_with fail
          with_reducible refine (HUY2.out).mono ?_
          rintro e w9 ⟨y9, rfl, hy9, hb9⟩
          obtain ⟨Y9, yc9, rfl, _, _⟩ := hy9.form HLY2.out
          have HX9 := Lib.hid (show HxV w9 (.slice X8 (q / 2) xc8) (upNH (j + 1) R) by rw [HUX.out]; exact HX8.out.on hb9)
          have HY9 := Lib.hid (show HxV w9 (.slice Y9 (q / 2) yc9) (upNH (j + 1) S) by rw [HUY.out]; exact HxV.of hy9)
          have HS9 := Lib.hid (show RL w9 C (.slice S5 (j + 1) sc5) ((List.range (j + 1)).map (upNH · R)) by rw [HSS.out]; exact HS8.out.on hb9)
          have HT9 := Lib.hid (show RL w9 C (.slice T7 (j + 1) tc7) ((List.range (j + 1)).map (upNH · S)) by rw [HTS.out]; exact HT8.out.on hb9)
          have HB9 := Lib.hid (HB8.out.below hb9 HB8.out.lt)
          have hw9 : Below w.heap.size w w9 := hw8.trans (hb9.mono hw8.size)
          have hC9 : C ≤ w9.heap.size := Nat.le_trans hC8 hb9.size
          clear HX8 HS8 HT8 HB8 hw8 hC8 hy9 hb9 HUY2
          go_wp2_with fail
          go_roundw
          case rel => exact ⟨j + 1, q / 2, hjK, HQ2, rfl, HX9, HY9, HB9, HS9, HT9, HNE7, hw9, hC9⟩
          case measure => simp [lenW]; omega
        · obtain rfl : j = K := by omega
          obtain rfl : q = 1 := by rw [HQ.out, Nat.sub_self]
          have hqi : ¬ (1 : Int) < ((1 : Nat) : Int) := by omega
          clear HXR HYR HNE HQ
          obtain ⟨wo, rfl⟩ : ∃ y : World, y = wr := ⟨_, rfl⟩
          go_wp2_with fail
          go_loopw [10] (fun t wq => ∃ (z : Int) (e : Nat), t = .int .i64 z ∧ z + 1 = (e : Int) ∧ e ≤ j ∧ Hid (seekBr j R S = seekBr e R S) ∧ Below wo.heap.size wo wq) (fun t _ => (intOf t + 1).toNat)
          case atStart => exact ⟨_, j, rfl, by omega, Nat.le_refl _, Lib.hid rfl, Below.refl _ _⟩
          case round =>
            obtain ⟨z, e, rfl, hze, hej, HSK, hbq⟩ := hrel
            have H4q := Lib.hid (H4.out.below hbq (Nat.lt_of_lt_of_le HGX.out.2 hCw))
            have hbw : Below w.heap.size w wr := hbel.trans (hbq.mono hbel.size)
            rcases Nat.eq_zero_or_pos e with rfl | he
            · obtain rfl : z = -1 := by omega
              have HV2 := Lib.hid (show unlV l k = none by rw [HV1.out, HSK.out]; rfl)
              have hc0 := H4q.out.cell 0
              have hc1 := H4q.out.cell 1
              have hf0 := H4q.out.frozen 0
              have hf1 := H4q.out.frozen 1
              simp at hc0 hc1
              clear HSK hbq
              go_wp2_with fail
              refine bodyPost_ret (v := .tuple #[.agg #[.slice none 0 0, .slice none 0 0], .bool false]) (results_cell_tmp (p := 4) (q := 5) (ty := 41) (by kernel_rfl) _ _ g4 41 _ (0, 0) _ (.bool false) rfl rfl ((H4q.out.set 0 _).set 1 _) Tryd.underlying41 rfl (by kernel_rfl)) rfl
                ⟨.slice none 0 0, .slice none 0 0, by rw [HV2.out]; rfl, by rw [HV2.out]; exact TV.nil _, by rw [HV2.out]; exact TV.nil _, (hbw.setCell (p := ⟨g4, 0, none⟩) (show w.heap.size ≤ g4 from HGX.out.1) _).setCell (p := ⟨g4, 1, none⟩) (show w.heap.size ≤ g4 from HGX.out.1) _⟩
            · obtain ⟨v, rfl⟩ : ∃ v, e = v + 1 := ⟨e - 1, by omega⟩
              obtain rfl : z = (v : Int) := by omega
              have hvj : (v : Int) < (j : Int) := by omega
              have hv0 : (0 : Int) ≤ (v : Int) := by omega
              have HSK2 := Lib.hid (show unlV l k = (firstBr (textsH (upNH v R)) (textsH (upNH v S))).or (seekBr v R S) by rw [HV1.out, HSK.out]; rfl)
              have HSK3 := Lib.hid (show firstBr (textsH (upNH v R)) (textsH (upNH v S)) = none → seekBr j R S = seekBr v R S from fun h => by
                rw [HSK.out]
                show (firstBr (textsH (upNH v R)) (textsH (upNH v S))).or (seekBr v R S) = _
                rw [h]
                rfl)
              obtain ⟨gs, rfl⟩ := HSL.out.some (by rw [HSLN.out]; omega)
              obtain ⟨gt, rfl⟩ := HTL.out.some (by rw [HTLN.out]; omega)
              obtain ⟨hgs, A1, d1, hcs, hv1⟩ := (HSL.out.on hbq).at_ (i := v) (by rw [HSLN.out]; omega)
              obtain ⟨hgt, A2, d2, hct, hv2⟩ := (HTL.out.on hbq).at_ (i := v) (by rw [HTLN.out]; omega)
              simp only [List.getElem_map, List.getElem_range] at hcs hct hv1 hv2
              rw [Nat.zero_add] at hcs hct
              obtain ⟨hf, hhf⟩ : ∃ h, 2 ^ (j - v) = 2 * h := ⟨2 ^ (j - v - 1), by rw [show j - v = j - v - 1 + 1 by omega, Nat.pow_succ, show j - v - 1 + 1 - 1 = j - v - 1 by omega]; omega⟩
              obtain ⟨q, hq⟩ : ∃ q, 2 * hf = q := ⟨_, rfl⟩
              have hq10 : q ≤ 1024 := by rw [← hq, ← hhf]; exact Nat.le_trans (Nat.pow_le_pow_right (by omega) (Nat.sub_le j v)) (show 2 ^ j ≤ 2 ^ 10 from Nat.pow_le_pow_right (by omega) hK10)
              have HLX := Lib.hid (show (upNH v R).length = q by rw [upNH_len, HRL2.out, Nat.pow_div (by omega) (by omega), hhf, hq])
              have HLY := Lib.hid (show (upNH v S).length = q by rw [upNH_len, HRK2.out, Nat.pow_div (by omega) (by omega), hhf, hq])
              rw [HLX.out] at hcs hv1
              rw [HLY.out] at hct hv2
              have HTA := Lib.hid (fun i h => texts_at (upNH v R) i h)
              have HTB := Lib.hid (fun i h => texts_at (upNH v S) i h)
              have HZL := Lib.hid (show ((textsH (upNH v R)).zip (textsH (upNH v S))).length = hf by rw [List.length_zip, textsH_len, textsH_len, HLX.out, HLY.out]; omega)
              generalize textsH (upNH v R) = ta at *
              generalize textsH (upNH v S) = tb at *
              generalize upNH v R = xl at *
              generalize upNH v S = yl at *
              have HV1x := Lib.hid hv1
              have HV2x := Lib.hid hv2
              obtain ⟨wu, rfl⟩ : ∃ y : World, y = wr := ⟨_, rfl⟩
              have HQH := Lib.hid hq
              clear hv1 hv2 HSK hhf
              go_wp2_with fail
              go_loopw [11] (fun t wq => ∃ i p : Nat, i ≤ hf ∧ t = .int .i64 (p : Int) ∧ Hid (p = 2 * i) ∧ Hid (∀ x ∈ (ta.zip tb).take i, isBr x = false) ∧ Below wu.heap.size wu wq) (fun t _ => q - (intOf t).toNat)
              case atStart => exact ⟨0, 0, Nat.zero_le _, rfl, Lib.hid rfl, Lib.hid (fun x hx => by simp at hx), Below.refl _ _⟩
              case round =>
                obtain ⟨i, p, hif, rfl, HP, HNO, hbu⟩ := hrel
                obtain ⟨p1, hp1⟩ : ∃ q, p + 1 = q := ⟨_, rfl⟩
                have HP1 := Lib.hid hp1
                have hpi := HP.out
                have hqi : (p : Int) + 1 = (p1 : Int) := by omega
                have hwp : IntKind.i64.wrap (p1 : Int) = (p1 : Int) := IntWalk.i64_in _ (by omega)
                have hcs1 := (hbu.cell (p := ⟨gs, v, none⟩) hgs).trans hcs
                have hct1 := (hbu.cell (p := ⟨gt, v, none⟩) hgt).trans hct
                by_cases hlt : i < hf
                · have hpq : (p1 : Int) < (q : Int) := by omega
                  have hpq0 : (p : Int) < (q : Int) := by omega
                  have hpp : (0 : Int) ≤ (p : Int) := by omega
                  have hpp1 : (0 : Int) ≤ (p1 : Int) := by omega
                  obtain ⟨b1, o1, hA1, hb1, hxa, hxal⟩ := (HV1x.out.on hbu).at_ (i := p) (by omega)
                  obtain ⟨b1', o1', hA1', _, hxb, hxbl⟩ := (HV1x.out.on hbu).at_ (i := p1) (by omega)
                  obtain ⟨b2, o2, hA2, hb2, hya, hyal⟩ := (HV2x.out.on hbu).at_ (i := p) (by omega)
                  obtain ⟨b2', o2', hA2', _, hyb, hybl⟩ := (HV2x.out.on hbu).at_ (i := p1) (by omega)
                  subst hA1 hA2
                  injection hA1' with hA1'
                  injection hA1' with e1 e2
                  subst e1 e2
                  injection hA2' with hA2'
                  injection hA2' with e3 e4
                  subst e3 e4
                  have hta := HTA.out i (by rw [HLX.out]; omega)
                  have htb := HTB.out i (by rw [HLY.out]; omega)
                  rw [← hpi, hp1] at hta htb
                  generalize xl.getD p [] = xa at *
                  generalize xl.getD p1 [] = xb at *
                  generalize yl.getD p [] = ya at *
                  generalize yl.getD p1 [] = yb at *
                  have HL4 := Lib.hid (show xa.length = 32 ∧ xb.length = 32 ∧ ya.length = 32 ∧ yb.length = 32 from ⟨hxal, hxbl, hyal, hybl⟩)
                  have HNX := Lib.hid (fun h => firstBr_hit hta htb HNO.out h)
                  have HNZ := Lib.hid (fun (h : isBr (nodeT xa xb, nodeT ya yb) = false) => (show ∀ x ∈ (ta.zip tb).take (i + 1), isBr x = false from fun x hx => by
                    rw [zip_step hta htb] at hx
                    rcases List.mem_append.1 hx with hx | hx
                    · exact HNO.out x hx
                    · simp at hx
                      rw [hx]
                      exact h))
                  have HS32 := Lib.hid (show (nodeT xa xb).length ≤ 1000000 ∧ (nodeT ya yb).length ≤ 1000000 from ⟨nodeT_len xa xb hxal hxbl, nodeT_len ya yb hyal hybl⟩)
                  obtain ⟨wm, rfl⟩ : ∃ y : World, y = wr := ⟨_, rfl⟩
                  have HRG := Lib.hid (fun W (h : Below wm.heap.size wm W) => (⟨(h.cell (p := ⟨gs, v, none⟩) (Nat.lt_of_lt_of_le hgs hbu.size)).trans hcs1, (h.cell (p := ⟨gt, v, none⟩) (Nat.lt_of_lt_of_le hgt hbu.size)).trans hct1, rangeAt_keep hxa fun j => h.cell (p := ⟨b1, _, none⟩) hb1, rangeAt_keep hxb fun j => h.cell (p := ⟨b1, _, none⟩) hb1, rangeAt_keep hya fun j => h.cell (p := ⟨b2, _, none⟩) hb2, rangeAt_keep hyb fun j => h.cell (p := ⟨b2, _, none⟩) hb2⟩ :
                    W.cell? ⟨gs, v, none⟩ = some (.slice (some ⟨b1, o1, none⟩) q d1) ∧ W.cell? ⟨gt, v, none⟩ = some (.slice (some ⟨b2, o2, none⟩) q d2) ∧ W.rangeAt b1 (o1 + p * 32) (Lib.byteCells xa) ∧ W.rangeAt b1 (o1 + p1 * 32) (Lib.byteCells xb) ∧ W.rangeAt b2 (o2 + p * 32) (Lib.byteCells ya) ∧ W.rangeAt b2 (o2 + p1 * 32) (Lib.byteCells yb)))
                  obtain ⟨tx1, htx1⟩ : ∃ t, nodeT xa xb = t := ⟨_, rfl⟩
                  obtain ⟨tx2, htx2⟩ : ∃ t, nodeT ya yb = t := ⟨_, rfl⟩
                  obtain ⟨n1, hn1⟩ : ∃ k, tx1.length = k := ⟨_, rfl⟩
                  obtain ⟨n2, hn2⟩ : ∃ k, tx2.length = k := ⟨_, rfl⟩
                  obtain ⟨XA, hXA⟩ : ∃ X, u8A xa = X := ⟨_, rfl⟩
                  obtain ⟨XB, hXB⟩ : ∃ X, u8A xb = X := ⟨_, rfl⟩
                  obtain ⟨YA, hYA⟩ : ∃ X, u8A ya = X := ⟨_, rfl⟩
                  obtain ⟨YB, hYB⟩ : ∃ X, u8A yb = X := ⟨_, rfl⟩
                  have HXA := Lib.hid hXA
                  have HXB := Lib.hid hXB
                  have HYA := Lib.hid hYA
                  have HYB := Lib.hid hYB
                  have HT1 := Lib.hid (fun W => (show Calls Tryd.prog 50 #[.agg XA, .agg XB] W fun e W' => ∃ v, e = .returned v ∧ OwnM W' W.heap.size 5 v n1 tx1 ∧ Below W.heap.size W W' from by
                    rw [← HXA.out, ← HXB.out, ← hn1, ← htx1]
                    exact rnodetext_own xa xb W HL4.out.1 HL4.out.2.1))
                  have HT2 := Lib.hid (fun W => (show Calls Tryd.prog 50 #[.agg YA, .agg YB] W fun e W' => ∃ v, e = .returned v ∧ OwnM W' W.heap.size 5 v n2 tx2 ∧ Below W.heap.size W W' from by
                    rw [← HYA.out, ← HYB.out, ← hn2, ← htx2]
                    exact rnodetext_own ya yb W HL4.out.2.2.1 HL4.out.2.2.2))
                  rw [htx1, htx2] at HNX HNZ HS32
                  have HNN := Lib.hid (show tx1.length = n1 ∧ tx2.length = n2 from ⟨hn1, hn2⟩)
                  clear hXA hXB hYA hYB htx1 htx2 hn1 hn2 hxa hxb hya hyb hxal hxbl hyal hybl hta htb HNO hpi hp1
                  go_wp2_with fail
                  go_cut [12] from 67 to 99 (fun r wx => ∃ gb A4 c4 A6 c6, r = .pointer (some ⟨gb, 0, none⟩) ∧ wm.heap.size ≤ gb ∧ n1 ≤ c4 ∧ n2 ≤ c6 ∧ Hid (Blk wx gb #[.slice A4 n1 c4, .slice A6 n2 c6] 41) ∧ Hid (Rd wx wx.heap.size A4 tx1) ∧ Hid (Rd wx wx.heap.size A6 tx2) ∧ Below wm.heap.size wm wx)
                  case first =>
                    refine wp_region_held_drew (S := fun W => Below wm.heap.size wm W) (by kernel_rfl) ((Below.refl _ _).drew) (fun hHeld => ?_)
                    refine wpAnyH_takeL (i := 0) (v := .slice (some ⟨gs, 0, none⟩) j sc) rfl (by kernel_rfl) (by kernel_rfl) (by kernel_rfl) (fun _ _ _ h => h) (Or.inl ⟨by rfl, fun W hW => by go_simp⟩) hHeld ?_
                    simp only [Act.put, List.setIfInBounds_toArray, List.set_cons_zero, List.set_cons_succ]
                    refine wpAnyH_takeL (i := 1) (v := .int .i64 (v : Int)) rfl (by kernel_rfl) (by kernel_rfl) (by kernel_rfl) (fun _ _ _ h => h) (Or.inl ⟨by rfl, fun W hW => by go_simp⟩) hHeld ?_
                    simp only [Act.put, List.setIfInBounds_toArray, List.set_cons_zero, List.set_cons_succ]
                    refine wpAnyH_takeL (i := 2) (v := .pointer (some ⟨gs, v, none⟩)) rfl (by kernel_rfl) (by kernel_rfl) (by kernel_rfl) (fun _ _ _ h => h) (Or.inl ⟨by rfl, fun W hW => by go_simp⟩) hHeld ?_
                    simp only [Act.put, List.setIfInBounds_toArray, List.set_cons_zero, List.set_cons_succ]
                    refine wpAnyH_takeL (i := 3) (v := .slice (some ⟨b1, o1, none⟩) q d1) rfl (by kernel_rfl) (by kernel_rfl) (by kernel_rfl) (fun _ _ _ h => h) (Or.inl ⟨by rfl, fun W hW => by
                      have hc := (HRG.out W hW).1
                      go_simp⟩) hHeld ?_
                    simp only [Act.put, List.setIfInBounds_toArray, List.set_cons_zero, List.set_cons_succ]
                    refine wpAnyH_takeL (i := 4) (v := .int .i64 (p : Int)) rfl (by kernel_rfl) (by kernel_rfl) (by kernel_rfl) (fun _ _ _ h => h) (Or.inl ⟨by rfl, fun W hW => by go_simp⟩) hHeld ?_
                    simp only [Act.put, List.setIfInBounds_toArray, List.set_cons_zero, List.set_cons_succ]
                    refine wpAnyH_takeL (i := 5) (v := .pointer (some ⟨b1, o1 + p * 32, none⟩)) rfl (by kernel_rfl) (by kernel_rfl) (by kernel_rfl) (fun _ _ _ h => h) (Or.inl ⟨by rfl, fun W hW => by go_simp⟩) hHeld ?_
                    simp only [Act.put, List.setIfInBounds_toArray, List.set_cons_zero, List.set_cons_succ]
                    refine wpAnyH_takeL (i := 6) (v := .agg XA) rfl (by kernel_rfl) (by kernel_rfl) (by kernel_rfl) (fun _ _ _ h => h) ?_ hHeld ?_
                    · exact yieldsIf_load_hash (by rfl) (.tmp 72) rfl b1 (o1 + p * 32) (by kernel_rfl) xa HL4.out.1 (fun W hW => (HRG.out W hW).2.2.1) XA HXA.out
                    simp only [Act.put, List.setIfInBounds_toArray, List.set_cons_zero, List.set_cons_succ]
                    refine wpAnyH_takeL (i := 7) (v := .slice (some ⟨gs, 0, none⟩) j sc) rfl (by kernel_rfl) (by kernel_rfl) (by kernel_rfl) (fun _ _ _ h => h) (Or.inl ⟨by rfl, fun W hW => by go_simp⟩) hHeld ?_
                    simp only [Act.put, List.setIfInBounds_toArray, List.set_cons_zero, List.set_cons_succ]
                    refine wpAnyH_takeL (i := 8) (v := .int .i64 (v : Int)) rfl (by kernel_rfl) (by kernel_rfl) (by kernel_rfl) (fun _ _ _ h => h) (Or.inl ⟨by rfl, fun W hW => by go_simp⟩) hHeld ?_
                    simp only [Act.put, List.setIfInBounds_toArray, List.set_cons_zero, List.set_cons_succ]
                    refine wpAnyH_takeL (i := 9) (v := .pointer (some ⟨gs, v, none⟩)) rfl (by kernel_rfl) (by kernel_rfl) (by kernel_rfl) (fun _ _ _ h => h) (Or.inl ⟨by rfl, fun W hW => by go_simp⟩) hHeld ?_
                    simp only [Act.put, List.setIfInBounds_toArray, List.set_cons_zero, List.set_cons_succ]
                    refine wpAnyH_takeL (i := 10) (v := .slice (some ⟨b1, o1, none⟩) q d1) rfl (by kernel_rfl) (by kernel_rfl) (by kernel_rfl) (fun _ _ _ h => h) (Or.inl ⟨by rfl, fun W hW => by
                      have hc := (HRG.out W hW).1
                      go_simp⟩) hHeld ?_
                    simp only [Act.put, List.setIfInBounds_toArray, List.set_cons_zero, List.set_cons_succ]
                    refine wpAnyH_takeL (i := 11) (v := .int .i64 (p : Int)) rfl (by kernel_rfl) (by kernel_rfl) (by kernel_rfl) (fun _ _ _ h => h) (Or.inl ⟨by rfl, fun W hW => by go_simp⟩) hHeld ?_
                    simp only [Act.put, List.setIfInBounds_toArray, List.set_cons_zero, List.set_cons_succ]
                    refine wpAnyH_takeL (i := 12) (v := .int .i64 (p1 : Int)) rfl (by kernel_rfl) (by kernel_rfl) (by kernel_rfl) (fun _ _ _ h => h) (Or.inl ⟨by rfl, fun W hW => by go_simp⟩) hHeld ?_
                    simp only [Act.put, List.setIfInBounds_toArray, List.set_cons_zero, List.set_cons_succ]
                    refine wpAnyH_takeL (i := 13) (v := .pointer (some ⟨b1, o1 + p1 * 32, none⟩)) rfl (by kernel_rfl) (by kernel_rfl) (by kernel_rfl) (fun _ _ _ h => h) (Or.inl ⟨by rfl, fun W hW => by go_simp⟩) hHeld ?_
                    simp only [Act.put, List.setIfInBounds_toArray, List.set_cons_zero, List.set_cons_succ]
                    refine wpAnyH_takeL (i := 14) (v := .agg XB) rfl (by kernel_rfl) (by kernel_rfl) (by kernel_rfl) (fun _ _ _ h => h) ?_ hHeld ?_
                    · exact yieldsIf_load_hash (by rfl) (.tmp 80) rfl b1 (o1 + p1 * 32) (by kernel_rfl) xb HL4.out.2.1 (fun W hW => (HRG.out W hW).2.2.2.1) XB HXB.out
                    simp only [Act.put, List.setIfInBounds_toArray, List.set_cons_zero, List.set_cons_succ]
                    refine wpAnyH_takeL (i := 16) (v := .slice (some ⟨gt, 0, none⟩) j tc) rfl (by kernel_rfl) (by kernel_rfl) (by kernel_rfl) (fun _ _ _ h => h) (Or.inl ⟨by rfl, fun W hW => by go_simp⟩) hHeld ?_
                    simp only [Act.put, List.setIfInBounds_toArray, List.set_cons_zero, List.set_cons_succ]
                    refine wpAnyH_takeL (i := 17) (v := .int .i64 (v : Int)) rfl (by kernel_rfl) (by kernel_rfl) (by kernel_rfl) (fun _ _ _ h => h) (Or.inl ⟨by rfl, fun W hW => by go_simp⟩) hHeld ?_
                    simp only [Act.put, List.setIfInBounds_toArray, List.set_cons_zero, List.set_cons_succ]
                    refine wpAnyH_takeL (i := 18) (v := .pointer (some ⟨gt, v, none⟩)) rfl (by kernel_rfl) (by kernel_rfl) (by kernel_rfl) (fun _ _ _ h => h) (Or.inl ⟨by rfl, fun W hW => by go_simp⟩) hHeld ?_
                    simp only [Act.put, List.setIfInBounds_toArray, List.set_cons_zero, List.set_cons_succ]
                    refine wpAnyH_takeL (i := 19) (v := .slice (some ⟨b2, o2, none⟩) q d2) rfl (by kernel_rfl) (by kernel_rfl) (by kernel_rfl) (fun _ _ _ h => h) (Or.inl ⟨by rfl, fun W hW => by
                      have hc := (HRG.out W hW).2.1
                      go_simp⟩) hHeld ?_
                    simp only [Act.put, List.setIfInBounds_toArray, List.set_cons_zero, List.set_cons_succ]
                    refine wpAnyH_takeL (i := 20) (v := .int .i64 (p : Int)) rfl (by kernel_rfl) (by kernel_rfl) (by kernel_rfl) (fun _ _ _ h => h) (Or.inl ⟨by rfl, fun W hW => by go_simp⟩) hHeld ?_
                    simp only [Act.put, List.setIfInBounds_toArray, List.set_cons_zero, List.set_cons_succ]
                    refine wpAnyH_takeL (i := 21) (v := .pointer (some ⟨b2, o2 + p * 32, none⟩)) rfl (by kernel_rfl) (by kernel_rfl) (by kernel_rfl) (fun _ _ _ h => h) (Or.inl ⟨by rfl, fun W hW => by go_simp⟩) hHeld ?_
                    simp only [Act.put, List.setIfInBounds_toArray, List.set_cons_zero, List.set_cons_succ]
                    refine wpAnyH_takeL (i := 22) (v := .agg YA) rfl (by kernel_rfl) (by kernel_rfl) (by kernel_rfl) (fun _ _ _ h => h) ?_ hHeld ?_
                    · exact yieldsIf_load_hash (by rfl) (.tmp 88) rfl b2 (o2 + p * 32) (by kernel_rfl) ya HL4.out.2.2.1 (fun W hW => (HRG.out W hW).2.2.2.2.1) YA HYA.out
                    simp only [Act.put, List.setIfInBounds_toArray, List.set_cons_zero, List.set_cons_succ]
                    refine wpAnyH_takeL (i := 23) (v := .slice (some ⟨gt, 0, none⟩) j tc) rfl (by kernel_rfl) (by kernel_rfl) (by kernel_rfl) (fun _ _ _ h => h) (Or.inl ⟨by rfl, fun W hW => by go_simp⟩) hHeld ?_
                    simp only [Act.put, List.setIfInBounds_toArray, List.set_cons_zero, List.set_cons_succ]
                    refine wpAnyH_takeL (i := 24) (v := .int .i64 (v : Int)) rfl (by kernel_rfl) (by kernel_rfl) (by kernel_rfl) (fun _ _ _ h => h) (Or.inl ⟨by rfl, fun W hW => by go_simp⟩) hHeld ?_
                    simp only [Act.put, List.setIfInBounds_toArray, List.set_cons_zero, List.set_cons_succ]
                    refine wpAnyH_takeL (i := 25) (v := .pointer (some ⟨gt, v, none⟩)) rfl (by kernel_rfl) (by kernel_rfl) (by kernel_rfl) (fun _ _ _ h => h) (Or.inl ⟨by rfl, fun W hW => by go_simp⟩) hHeld ?_
                    simp only [Act.put, List.setIfInBounds_toArray, List.set_cons_zero, List.set_cons_succ]
                    refine wpAnyH_takeL (i := 26) (v := .slice (some ⟨b2, o2, none⟩) q d2) rfl (by kernel_rfl) (by kernel_rfl) (by kernel_rfl) (fun _ _ _ h => h) (Or.inl ⟨by rfl, fun W hW => by
                      have hc := (HRG.out W hW).2.1
                      go_simp⟩) hHeld ?_
                    simp only [Act.put, List.setIfInBounds_toArray, List.set_cons_zero, List.set_cons_succ]
                    refine wpAnyH_takeL (i := 27) (v := .int .i64 (p : Int)) rfl (by kernel_rfl) (by kernel_rfl) (by kernel_rfl) (fun _ _ _ h => h) (Or.inl ⟨by rfl, fun W hW => by go_simp⟩) hHeld ?_
                    simp only [Act.put, List.setIfInBounds_toArray, List.set_cons_zero, List.set_cons_succ]
                    refine wpAnyH_takeL (i := 28) (v := .int .i64 (p1 : Int)) rfl (by kernel_rfl) (by kernel_rfl) (by kernel_rfl) (fun _ _ _ h => h) (Or.inl ⟨by rfl, fun W hW => by go_simp⟩) hHeld ?_
                    simp only [Act.put, List.setIfInBounds_toArray, List.set_cons_zero, List.set_cons_succ]
                    refine wpAnyH_takeL (i := 29) (v := .pointer (some ⟨b2, o2 + p1 * 32, none⟩)) rfl (by kernel_rfl) (by kernel_rfl) (by kernel_rfl) (fun _ _ _ h => h) (Or.inl ⟨by rfl, fun W hW => by go_simp⟩) hHeld ?_
                    simp only [Act.put, List.setIfInBounds_toArray, List.set_cons_zero, List.set_cons_succ]
                    refine wpAnyH_takeL (i := 30) (v := .agg YB) rfl (by kernel_rfl) (by kernel_rfl) (by kernel_rfl) (fun _ _ _ h => h) ?_ hHeld ?_
                    · exact yieldsIf_load_hash (by rfl) (.tmp 96) rfl b2 (o2 + p1 * 32) (by kernel_rfl) yb HL4.out.2.2.2 (fun W hW => (HRG.out W hW).2.2.2.2.2) YB HYB.out
                    simp only [Act.put, List.setIfInBounds_toArray, List.set_cons_zero, List.set_cons_succ]
                    refine wpAnyH_ready (rs := [15, 33]) (by kernel_rfl) (by simp) ?_
                    refine allReadyH_two rfl rfl (fun K hK => ?_) (fun K hK => ?_)
                    · rw [if_pos (by rfl)]
                      go_simp
                      with_reducible refine (HT1.out _).mono ?_
                      rintro e w4 ⟨u4, rfl, hu4, hb4⟩
                      have HTX4 := Lib.hid (TxV.of hu4)
                      obtain ⟨gu4, cu4, rfl, hcu4, hmu4⟩ := ownM_form hu4
                      have HW4 := Lib.hid (show Below wm.heap.size wm w4 from hHeld.trans (hb4.mono hHeld.size))
                      go_wp2_with fail
                      refine hK.out _ _ (HW4.out) (fun hHeld => ?_)
                      clear hK K
                      try simp only [Act.put, List.setIfInBounds_toArray, List.set_cons_zero, List.set_cons_succ]
                      refine wpAnyH_ready (rs := [31, 33]) (by kernel_rfl) (by simp) ?_
                      refine allReadyH_two rfl rfl (fun K hK => ?_) (fun K hK => ?_)
                      · rw [if_pos (by rfl)]
                        go_simp
                        with_reducible refine (HT2.out _).mono ?_
                        rintro e w6 ⟨u6, rfl, hu6, hb6⟩
                        have HTX4b := Lib.hid (HTX4.out.on hb6)
                        have HTX6 := Lib.hid (TxV.of hu6)
                        obtain ⟨gu6, cu6, rfl, hcu6, hmu6⟩ := ownM_form hu6
                        have HW6 := Lib.hid (show Below wm.heap.size wm w6 from hHeld.trans (hb6.mono hHeld.size))
                        go_wp2_with fail
                        refine hK.out _ _ (HW6.out) (fun hHeld => ?_)
                        clear hK K
                        try simp only [Act.put, List.setIfInBounds_toArray, List.set_cons_zero, List.set_cons_succ]
                        refine wpAnyH_takeL (i := 32) (v := .agg #[.slice (some ⟨gu4, 0, none⟩) n1 cu4, .slice (some ⟨gu6, 0, none⟩) n2 cu6]) rfl (by kernel_rfl) (by kernel_rfl) (by kernel_rfl) (fun _ _ _ h => h) (Or.inl ⟨by rfl, fun W hW => by go_simp⟩) hHeld ?_
                        simp only [Act.put, List.setIfInBounds_toArray, List.set_cons_zero, List.set_cons_succ]
                        refine wpAnyH_ready (rs := [33]) (by kernel_rfl) (by simp) ?_
                        refine allReadyH_consL rfl fun K hK => ?_
                        rw [if_pos (by rfl)]
                        go_simp
                        have hal := (Below.refl w6.heap.size w6).alloc (Nat.le_refl _) (.cells #[.slice none 0 0, .slice none 0 0] 41)
                        have HAL := Lib.hid (show Below wm.heap.size wm (w6.alloc (.cells #[.slice none 0 0, .slice none 0 0] 41)) from hHeld.trans (hal.mono hHeld.size))
                        have HBB := Lib.hid (show Blk (w6.alloc (.cells #[.slice none 0 0, .slice none 0 0] 41)) w6.heap.size #[.slice none 0 0, .slice none 0 0] 41 from Blk.new _ _ _)
                        have HGB := Lib.hid (show wm.heap.size ≤ w6.heap.size from hHeld.size)
                        have HTX4d := Lib.hid (HTX4b.out.on hal)
                        have HTX6d := Lib.hid (HTX6.out.on hal)
                        refine hK.out _ _ (HAL.out) (fun hHeld => ?_)
                        clear hK K
                        try simp only [Act.put, List.setIfInBounds_toArray, List.set_cons_zero, List.set_cons_succ]
                        obtain ⟨gb, hgb⟩ : ∃ g, w6.heap.size = g := ⟨_, rfl⟩
                        rw [hgb] at HBB HGB ⊢
                        clear hgb hal
                        have hc0 := HBB.out.cell 0
                        have hc1 := HBB.out.cell 1
                        have hf0 := HBB.out.frozen 0
                        have hf1 := HBB.out.frozen 1
                        simp at hc0 hc1
                        refine wpAnyH_ready (rs := [34]) (by kernel_rfl) (by simp) ?_
                        refine allReadyH_consL rfl fun K hK => ?_
                        rw [if_pos (by rfl)]
                        go_simp
                        refine hK.out _ _ ((hHeld.setCell (p := ⟨gb, 0, none⟩) HGB.out _).setCell (p := ⟨gb, 1, none⟩) HGB.out _) (fun hHeld => ?_)
                        clear hK K
                        try simp only [Act.put, List.setIfInBounds_toArray, List.set_cons_zero, List.set_cons_succ]
                        refine wpAnyH_done (by kernel_rfl) ?_ _
                        have HF1 := Lib.hid (Rd.sizes ((HTX4d.out.rd.set_far HBB.out 0 (.slice (some ⟨gu4, 0, none⟩) n1 cu4)).set_far (HBB.out.set 0 (.slice (some ⟨gu4, 0, none⟩) n1 cu4)) 1 (.slice (some ⟨gu6, 0, none⟩) n2 cu6)))
                        have HF2 := Lib.hid (Rd.sizes ((HTX6d.out.rd.set_far HBB.out 0 (.slice (some ⟨gu4, 0, none⟩) n1 cu4)).set_far (HBB.out.set 0 (.slice (some ⟨gu4, 0, none⟩) n1 cu4)) 1 (.slice (some ⟨gu6, 0, none⟩) n2 cu6)))
                        have HF3 := Lib.hid (show Blk _ gb #[.slice (some ⟨gu4, 0, none⟩) n1 cu4, .slice (some ⟨gu6, 0, none⟩) n2 cu6] 41 from ((HBB.out.set 0 (.slice (some ⟨gu4, 0, none⟩) n1 cu4)).set 1 (.slice (some ⟨gu6, 0, none⟩) n2 cu6)))
                        go_wp2_with fail
                        go_meet
                        case rel => exact ⟨gb, _, _, _, _, rfl, HGB.out, hcu4, hcu6, HF3, HF1, HF2, hHeld⟩
                      · rw [if_pos (by rfl)]
                        go_simp
                        have hal := (Below.refl w4.heap.size w4).alloc (Nat.le_refl _) (.cells #[.slice none 0 0, .slice none 0 0] 41)
                        have HAL := Lib.hid (show Below wm.heap.size wm (w4.alloc (.cells #[.slice none 0 0, .slice none 0 0] 41)) from hHeld.trans (hal.mono hHeld.size))
                        have HBB := Lib.hid (show Blk (w4.alloc (.cells #[.slice none 0 0, .slice none 0 0] 41)) w4.heap.size #[.slice none 0 0, .slice none 0 0] 41 from Blk.new _ _ _)
                        have HGB := Lib.hid (show wm.heap.size ≤ w4.heap.size from hHeld.size)
                        have HTX4a := Lib.hid (HTX4.out.on hal)
                        refine hK.out _ _ (HAL.out) (fun hHeld => ?_)
                        clear hK K
                        try simp only [Act.put, List.setIfInBounds_toArray, List.set_cons_zero, List.set_cons_succ]
                        obtain ⟨gb, hgb⟩ : ∃ g, w4.heap.size = g := ⟨_, rfl⟩
                        rw [hgb] at HBB HGB ⊢
                        clear hgb hal
                        clear HTX4
                        have HTX4 := Lib.hid HTX4a.out
                        refine wpAnyH_ready (rs := [31]) (by kernel_rfl) (by simp) ?_
                        refine allReadyH_consL rfl fun K hK => ?_
                        rw [if_pos (by rfl)]
                        go_simp
                        with_reducible refine (HT2.out _).mono ?_
                        rintro e w6 ⟨u6, rfl, hu6, hb6⟩
                        have HTX4b := Lib.hid (HTX4.out.on hb6)
                        have HTX6 := Lib.hid (TxV.of hu6)
                        obtain ⟨gu6, cu6, rfl, hcu6, hmu6⟩ := ownM_form hu6
                        have HW6 := Lib.hid (show Below wm.heap.size wm w6 from hHeld.trans (hb6.mono hHeld.size))
                        have HBBz := Lib.hid (HBB.out.below hb6 HBB.out.lt)
                        go_wp2_with fail
                        refine hK.out _ _ (HW6.out) (fun hHeld => ?_)
                        clear hK K
                        try simp only [Act.put, List.setIfInBounds_toArray, List.set_cons_zero, List.set_cons_succ]
                        refine wpAnyH_takeL (i := 32) (v := .agg #[.slice (some ⟨gu4, 0, none⟩) n1 cu4, .slice (some ⟨gu6, 0, none⟩) n2 cu6]) rfl (by kernel_rfl) (by kernel_rfl) (by kernel_rfl) (fun _ _ _ h => h) (Or.inl ⟨by rfl, fun W hW => by go_simp⟩) hHeld ?_
                        simp only [Act.put, List.setIfInBounds_toArray, List.set_cons_zero, List.set_cons_succ]
                        have hc0 := HBBz.out.cell 0
                        have hc1 := HBBz.out.cell 1
                        have hf0 := HBBz.out.frozen 0
                        have hf1 := HBBz.out.frozen 1
                        simp at hc0 hc1
                        refine wpAnyH_ready (rs := [34]) (by kernel_rfl) (by simp) ?_
                        refine allReadyH_consL rfl fun K hK => ?_
                        rw [if_pos (by rfl)]
                        go_simp
                        refine hK.out _ _ ((hHeld.setCell (p := ⟨gb, 0, none⟩) HGB.out _).setCell (p := ⟨gb, 1, none⟩) HGB.out _) (fun hHeld => ?_)
                        clear hK K
                        try simp only [Act.put, List.setIfInBounds_toArray, List.set_cons_zero, List.set_cons_succ]
                        refine wpAnyH_done (by kernel_rfl) ?_ _
                        have HF1 := Lib.hid (Rd.sizes ((HTX4b.out.rd.set_far HBBz.out 0 (.slice (some ⟨gu4, 0, none⟩) n1 cu4)).set_far (HBBz.out.set 0 (.slice (some ⟨gu4, 0, none⟩) n1 cu4)) 1 (.slice (some ⟨gu6, 0, none⟩) n2 cu6)))
                        have HF2 := Lib.hid (Rd.sizes ((HTX6.out.rd.set_far HBBz.out 0 (.slice (some ⟨gu4, 0, none⟩) n1 cu4)).set_far (HBBz.out.set 0 (.slice (some ⟨gu4, 0, none⟩) n1 cu4)) 1 (.slice (some ⟨gu6, 0, none⟩) n2 cu6)))
                        have HF3 := Lib.hid (show Blk _ gb #[.slice (some ⟨gu4, 0, none⟩) n1 cu4, .slice (some ⟨gu6, 0, none⟩) n2 cu6] 41 from ((HBBz.out.set 0 (.slice (some ⟨gu4, 0, none⟩) n1 cu4)).set 1 (.slice (some ⟨gu6, 0, none⟩) n2 cu6)))
                        go_wp2_with fail
                        go_meet
                        case rel => exact ⟨gb, _, _, _, _, rfl, HGB.out, hcu4, hcu6, HF3, HF1, HF2, hHeld⟩
                    · rw [if_pos (by rfl)]
                      go_simp
                      have hal := (Below.refl wm.drew.heap.size wm.drew).alloc (Nat.le_refl _) (.cells #[.slice none 0 0, .slice none 0 0] 41)
                      have HAL := Lib.hid (show Below wm.heap.size wm (wm.drew.alloc (.cells #[.slice none 0 0, .slice none 0 0] 41)) from hHeld.trans (hal.mono hHeld.size))
                      have HBB := Lib.hid (show Blk (wm.drew.alloc (.cells #[.slice none 0 0, .slice none 0 0] 41)) wm.heap.size #[.slice none 0 0, .slice none 0 0] 41 from Blk.new _ _ _)
                      have HGB := Lib.hid (show wm.heap.size ≤ wm.heap.size from Nat.le_refl _)
                      refine hK.out _ _ (HAL.out) (fun hHeld => ?_)
                      clear hK K
                      try simp only [Act.put, List.setIfInBounds_toArray, List.set_cons_zero, List.set_cons_succ]
                      clear hal
                      refine wpAnyH_ready (rs := [15]) (by kernel_rfl) (by simp) ?_
                      refine allReadyH_consL rfl fun K hK => ?_
                      rw [if_pos (by rfl)]
                      go_simp
                      with_reducible refine (HT1.out _).mono ?_
                      rintro e w4 ⟨u4, rfl, hu4, hb4⟩
                      have HTX4 := Lib.hid (TxV.of hu4)
                      obtain ⟨gu4, cu4, rfl, hcu4, hmu4⟩ := ownM_form hu4
                      have HW4 := Lib.hid (show Below wm.heap.size wm w4 from hHeld.trans (hb4.mono hHeld.size))
                      have HBBy := Lib.hid (HBB.out.below hb4 HBB.out.lt)
                      go_wp2_with fail
                      refine hK.out _ _ (HW4.out) (fun hHeld => ?_)
                      clear hK K
                      try simp only [Act.put, List.setIfInBounds_toArray, List.set_cons_zero, List.set_cons_succ]
                      refine wpAnyH_ready (rs := [31]) (by kernel_rfl) (by simp) ?_
                      refine allReadyH_consL rfl fun K hK => ?_
                      rw [if_pos (by rfl)]
                      go_simp
                      with_reducible refine (HT2.out _).mono ?_
                      rintro e w6 ⟨u6, rfl, hu6, hb6⟩
                      have HTX4b := Lib.hid (HTX4.out.on hb6)
                      have HTX6 := Lib.hid (TxV.of hu6)
                      obtain ⟨gu6, cu6, rfl, hcu6, hmu6⟩ := ownM_form hu6
                      have HW6 := Lib.hid (show Below wm.heap.size wm w6 from hHeld.trans (hb6.mono hHeld.size))
                      have HBBz := Lib.hid (HBBy.out.below hb6 HBBy.out.lt)
                      go_wp2_with fail
                      refine hK.out _ _ (HW6.out) (fun hHeld => ?_)
                      clear hK K
                      try simp only [Act.put, List.setIfInBounds_toArray, List.set_cons_zero, List.set_cons_succ]
                      refine wpAnyH_takeL (i := 32) (v := .agg #[.slice (some ⟨gu4, 0, none⟩) n1 cu4, .slice (some ⟨gu6, 0, none⟩) n2 cu6]) rfl (by kernel_rfl) (by kernel_rfl) (by kernel_rfl) (fun _ _ _ h => h) (Or.inl ⟨by rfl, fun W hW => by go_simp⟩) hHeld ?_
                      simp only [Act.put, List.setIfInBounds_toArray, List.set_cons_zero, List.set_cons_succ]
                      have hc0 := HBBz.out.cell 0
                      have hc1 := HBBz.out.cell 1
                      have hf0 := HBBz.out.frozen 0
                      have hf1 := HBBz.out.frozen 1
                      simp at hc0 hc1
                      refine wpAnyH_ready (rs := [34]) (by kernel_rfl) (by simp) ?_
                      refine allReadyH_consL rfl fun K hK => ?_
                      rw [if_pos (by rfl)]
                      go_simp
                      refine hK.out _ _ ((hHeld.setCell (p := ⟨wm.heap.size, 0, none⟩) HGB.out _).setCell (p := ⟨wm.heap.size, 1, none⟩) HGB.out _) (fun hHeld => ?_)
                      clear hK K
                      try simp only [Act.put, List.setIfInBounds_toArray, List.set_cons_zero, List.set_cons_succ]
                      refine wpAnyH_done (by kernel_rfl) ?_ _
                      have HF1 := Lib.hid (Rd.sizes ((HTX4b.out.rd.set_far HBBz.out 0 (.slice (some ⟨gu4, 0, none⟩) n1 cu4)).set_far (HBBz.out.set 0 (.slice (some ⟨gu4, 0, none⟩) n1 cu4)) 1 (.slice (some ⟨gu6, 0, none⟩) n2 cu6)))
                      have HF2 := Lib.hid (Rd.sizes ((HTX6.out.rd.set_far HBBz.out 0 (.slice (some ⟨gu4, 0, none⟩) n1 cu4)).set_far (HBBz.out.set 0 (.slice (some ⟨gu4, 0, none⟩) n1 cu4)) 1 (.slice (some ⟨gu6, 0, none⟩) n2 cu6)))
                      have HF3 := Lib.hid (show Blk _ wm.heap.size #[.slice (some ⟨gu4, 0, none⟩) n1 cu4, .slice (some ⟨gu6, 0, none⟩) n2 cu6] 41 from ((HBBz.out.set 0 (.slice (some ⟨gu4, 0, none⟩) n1 cu4)).set 1 (.slice (some ⟨gu6, 0, none⟩) n2 cu6)))
                      go_wp2_with fail
                      go_meet
                      case rel => exact ⟨wm.heap.size, _, _, _, _, rfl, HGB.out, hcu4, hcu6, HF3, HF1, HF2, hHeld⟩
                  case rest =>
                    obtain ⟨gb, A4, c4, A6, c6, rfl, hgb, hc4, hc6, HBB, HR4, HR6, hbb⟩ := hcut
                    have HSM := Lib.hid (show Calls Tryd.prog 35 #[.agg #[.slice A4 n1 c4, .slice A6 n2 c6]] wc fun e w' => e = .returned (.bool (isBr (tx1, tx2))) ∧ Below wc.heap.size wc w' from
                      breakR A4 A6 n1 n2 c4 c6 tx1 tx2 wc HNN.out.1 HNN.out.2 (by rw [← HNN.out.1]; exact HS32.out.1) (by rw [← HNN.out.2]; exact HS32.out.2) HR4.out HR6.out)
                    have hcb0 := HBB.out.cell 0
                    have hcb1 := HBB.out.cell 1
                    simp at hcb0 hcb1
                    have hub : Below wu.heap.size wu wc := hbu.trans (hbb.mono hbu.size)
                    cases hbr : isBr (tx1, tx2)
                    · rw [hbr] at HSM
                      have HD2 := Lib.hid (HNZ.out hbr)
                      clear HNX HNZ hbr
                      go_wp2_with fail
                      with_reducible refine (HSM.out).mono ?_
                      rintro e w3 ⟨rfl, hb3⟩
                      have hb03 : Below wu.heap.size wu w3 := hub.trans (hb3.mono hub.size)
                      clear hcb0 hcb1 HSM hb3 hbb HBB hub HR4 HR6 HRG HT1 HT2 hbu hcs1 hct1
                      go_wp2_with fail
                      go_roundw
                      case rel => exact ⟨i + 1, p + 2, hlt, by go_num, Lib.hid (by rw [HP.out]; omega), HD2, hb03⟩
                      case measure => simp [intOf]; omega
                    · rw [hbr] at HSM
                      have HV3 := Lib.hid (show unlV l k = some (tx1, tx2) by rw [HSK2.out, HNX.out hbr]; rfl)
                      clear HNX HNZ hbr
                      go_wp2_with fail
                      with_reducible refine (HSM.out).mono ?_
                      rintro e w3 ⟨rfl, hb3⟩
                      have hqw : Below wu.heap.size wu w3 := hub.trans (hb3.mono hub.size)
                      have h43 := H4q.out.below hqw H4q.out.lt
                      have hB3 := HBB.out.below hb3 HBB.out.lt
                      have hq0 := hB3.cell 0
                      have hq1 := hB3.cell 1
                      have hc0 := h43.cell 0
                      have hc1 := h43.cell 1
                      have hf0 := h43.frozen 0
                      have hf1 := h43.frozen 1
                      simp at hq0 hq1 hc0 hc1
                      have HRS1 := Lib.hid ((HR4.out.below hb3 (Nat.le_refl _)).more hb3.size)
                      have HRS2 := Lib.hid ((HR6.out.below hb3 (Nat.le_refl _)).more hb3.size)
                      have hbw3 : Below w.heap.size w w3 := hbw.trans (hqw.mono hbw.size)
                      have H43 := Lib.hid h43
                      clear hcb0 hcb1 HSM hb3 hbb HBB hub hqw h43 hB3 HR4 HR6 HRG HT1 HT2 hbu hcs1 hct1
                      go_wp2_with fail
                      refine bodyPost_ret (v := .tuple #[.agg #[.slice A4 n1 c4, .slice A6 n2 c6], .bool true]) (results_cell_tmp (p := 4) (q := 5) (ty := 41) (by kernel_rfl) _ _ g4 41 _ (0, 0) _ (.bool true) rfl rfl ((H43.out.set 0 _).set 1 _) Tryd.underlying41 rfl (by kernel_rfl)) rfl
                        ⟨.slice A4 n1 c4, .slice A6 n2 c6, by rw [HV3.out]; rfl, ?_, ?_, (hbw3.setCell (p := ⟨g4, 0, none⟩) (show w.heap.size ≤ g4 from HGX.out.1) _).setCell (p := ⟨g4, 1, none⟩) (show w.heap.size ≤ g4 from HGX.out.1) _⟩
                      · rw [HV3.out]
                        exact ⟨A4, c4, by rw [show ((some (tx1, tx2)).getD ([], [])).1.length = n1 from HNN.out.1], by rw [show ((some (tx1, tx2)).getD ([], [])).1.length = n1 from HNN.out.1]; exact hc4, (Rd.sizes ((HRS1.out.set_far H43.out 0 _).set_far (H43.out.set 0 (.slice A4 n1 c4)) 1 _))⟩
                      · rw [HV3.out]
                        exact ⟨A6, c6, by rw [show ((some (tx1, tx2)).getD ([], [])).2.length = n2 from HNN.out.2], by rw [show ((some (tx1, tx2)).getD ([], [])).2.length = n2 from HNN.out.2]; exact hc6, (Rd.sizes ((HRS2.out.set_far H43.out 0 _).set_far (H43.out.set 0 (.slice A4 n1 c4)) 1 _))⟩
                · have hpq : ¬ (p1 : Int) < (q : Int) := by omega
                  have hie : i = hf := by omega
                  have HSK4 := Lib.hid (show seekBr j R S = seekBr v R S from HSK3.out (firstBr_none (fun x hx => HNO.out x (by rw [List.take_of_length_le (by rw [HZL.out]; omega)]; exact hx))))
                  have hbq2 : Below wo.heap.size wo wr := hbq.trans (hbu.mono hbq.size)
                  clear hpi hp1 hie HNO HSK3 HSK2 hq hbu hlt
                  go_wp2_with fail
                  go_roundw
                  case rel => exact ⟨_, v, rfl, by omega, by omega, HSK4, hbq2⟩
                  case measure => simp [intOf]
    · have HR := Lib.hid (show decide (unlOK l k) = false from decide_eq_false huo)
      rw [HR.out]
      simp only [Bool.not_false]
      have HV2 := Lib.hid (show unlV l k = none from if_neg huo)
      have hc0 := H4.out.cell 0
      have hc1 := H4.out.cell 1
      have hf0 := H4.out.frozen 0
      have hf1 := H4.out.frozen 1
      simp at hc0 hc1
      clear huo
      go_wp2_with fail
      refine bodyPost_ret (v := .tuple #[.agg #[.slice none 0 0, .slice none 0 0], .bool false]) (results_cell_tmp (p := 4) (q := 5) (ty := 41) (by kernel_rfl) _ _ g4 41 _ (0, 0) _ (.bool false) rfl rfl ((H4.out.set 0 _).set 1 _) Tryd.underlying41 rfl (by kernel_rfl)) rfl
        ⟨.slice none 0 0, .slice none 0 0, by rw [HV2.out]; rfl, by rw [HV2.out]; exact TV.nil _, by rw [HV2.out]; exact TV.nil _, (hwc.setCell (p := ⟨g4, 0, none⟩) (show w.heap.size ≤ g4 by have := HG.out; omega) _).setCell (p := ⟨g4, 1, none⟩) (show w.heap.size ≤ g4 by have := HG.out; omega) _⟩
end Go.Proofs.YtpfhhbfjemmkaaaDoor
