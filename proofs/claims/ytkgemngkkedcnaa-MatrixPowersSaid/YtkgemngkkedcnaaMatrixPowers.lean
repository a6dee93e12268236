/- MatrixPowers: any k rows of the matrix of powers have an inverse. For all sizes and picks. -/
import Derived.Test.YtkgemngkkedcnaaLaw
import Derived.Test.YtkgemngkkedcnaaOpen
import Derived.Test.YtkgemngkkedcnaaMxP
namespace Go.Proofs.Ytkgemngkkedcnaa.matrixPowers
open Go.ChangeShapes Go.WideShapes Go.ChangeAt Go.RowKit

set_option maxRecDepth 100000 in
set_option maxHeartbeats 16000000 in
theorem walk (a b : Int) (C : Option Addr) (p c : Nat) (ps : List Int) (w : World) (h0 : -9223372036854775808 ≤ a) (h1 : a ≤ 9223372036854775807) (h2 : -9223372036854775808 ≤ b) (h3 : b ≤ 9223372036854775807)
    (hps : ps.length = p) (hmp : p ≤ maxLen) (hC : RdI w w.heap.size C ps) (hpb : ∀ z ∈ ps, -9223372036854775808 ≤ z ∧ z ≤ 9223372036854775807) :
    Calls Try.prog 9 #[.int .i64 a, .int .i64 b, .slice C p c] w fun e w' => e = .returned (.bool true) ∧ Below w.heap.size w w' := by
  obtain ⟨i2, hi, hz0, hz1, hz2⟩ := info_parts infoNum
  have HW := Lib.hid (fun W => within_any a 12 W h0 h1 (by omega))
  obtain ⟨q1, q2⟩ := withinI_range a 12 (by omega)
  obtain ⟨M, hM⟩ : ∃ M : Nat, withinI a 12 = (M : Int) := ⟨(withinI a 12).toNat, by omega⟩
  rw [hM] at HW
  obtain ⟨N, hN⟩ : ∃ N : Nat, 1 + M = N := ⟨_, rfl⟩
  have hNi : (1 : Int) + (M : Int) = (N : Int) := by omega
  have n1 : 1 ≤ N := by omega
  have n16 : N ≤ 16 := by omega
  have HV := Lib.hid (fun W => within_any b (N : Int) W h2 h3 (by omega))
  obtain ⟨q3, q4⟩ := withinI_range b (N : Int) (by omega)
  obtain ⟨J, hJ⟩ : ∃ J : Nat, withinI b (N : Int) = (J : Int) := ⟨(withinI b (N : Int)).toNat, by omega⟩
  rw [hJ] at HV
  obtain ⟨K, hK⟩ : ∃ K : Nat, 1 + J = K := ⟨_, rfl⟩
  have hKi : (1 : Int) + (J : Int) = (K : Int) := by omega
  have k1 : 1 ≤ K := by omega
  have kN : K ≤ N := by omega
  have SV := Lib.hid (fun W => pvan_any (N : Int) (K : Int) W)
  rw [show vanL (N : Int) (K : Int) = rowsL vdM 0 K N by unfold vanL; rw [if_pos (by omega), Int.toNat_natCast, Int.toNat_natCast]] at SV
  have HPL := Lib.hid hps
  have HPB := Lib.hid hpb
  have HC := Lib.hid hC
  unfold maxLen at hmp
  clear hM hJ hN hK q1 q2 q3 q4 h0 h1 h2 h3 hC hps hpb
  go_enter Try.func9, Try.ntmps9
  go_wp2_with fail
  with_reducible refine (HW.out w).mono ?_
  rintro e wx ⟨rfl, rfl⟩
  go_wp2_with fail
  with_reducible refine (HV.out w).mono ?_
  rintro e wx ⟨rfl, rfl⟩
  go_wp2_with fail
  with_reducible refine (SV.out w).mono ?_
  rintro e w2 ⟨v, rfl, hv, hb0⟩
  have LV := Lib.hid hv
  have HB2 := Lib.hid hb0
  clear hv hb0 SV HW HV
  go_wp2_with fail
  go_loopw [8, 9] (fun u t wq => ∃ (i z cw : Nat) (Aw : Option Addr) (ws : List Nat), i ≤ N ∧ t = .int .i64 i ∧ u = .slice Aw z cw ∧ z ≤ K ∧ z ≤ cw ∧ Hid (ws.length = z ∧ Picked N K ws) ∧ Hid (wq.ownsRow w2.heap.size 3 1 (.slice Aw z cw) z (intCells (natInts ws))) ∧ Below w2.heap.size w2 wq) (fun _ t _ => N - (intOf t).toNat)
  case atStart => exact ⟨0, 0, 0, none, [], by omega, rfl, rfl, by omega, by omega, Lib.hid ⟨rfl, by simp [Picked]⟩, Lib.hid (World.ownsRow_nil _ _ _ _), Below.refl _ _⟩
  case round =>
    obtain ⟨i, z, cw, Aw, ws, hiN, rfl, rfl, hzk, hcw0, HP, HO, hbq⟩ := hrel
    by_cases hlt : i < N
    · have hii : (i : Int) < (N : Int) := by omega
      by_cases hzK : z < K
      · have hzi : (z : Int) < (K : Int) := by omega
        by_cases hip : i < p
        · have hipi : (i : Int) < (p : Int) := by omega
          have hpl : i < ps.length := by rw [HPL.out]; exact hip
          have hbw : Below w.heap.size w wr := HB2.out.trans (hbq.mono HB2.out.size)
          obtain ⟨bp, op, rfl, _, hcp⟩ := (HC.out.below hbw).at_ i hpl
          have hbd := HPB.out _ (List.getElem_mem hpl)
          generalize ps[i] = y at *
          have HY := Lib.hid (fun W => within_any y (N : Int) W hbd.1 hbd.2 (by omega))
          obtain ⟨q1, q2⟩ := withinI_range y (N : Int) (by omega)
          obtain ⟨j, hj⟩ : ∃ j : Nat, withinI y (N : Int) = (j : Int) := ⟨(withinI y (N : Int)).toNat, by omega⟩
          rw [hj] at HY
          have hjN : j < N := by omega
          clear hj q1 q2 hbd hpl hbw
          go_wp2_with fail
          with_reducible refine (HY.out _).mono ?_
          rintro e wx ⟨rfl, rfl⟩
          clear hcp
          go_wp2_with fail
          have HRI := Lib.hid (RdI.of_own HO.out (by rw [natInts_len]; exact HP.out.1))
          go_loopw [11, 54] (fun u t wq => ∃ m : Nat, m ≤ z ∧ t = .int .i64 m ∧ u = .bool (decide (j ∈ ws.take m)) ∧ wr = wq) (fun _ t _ => z - (intOf t).toNat)
          case atStart => exact ⟨0, by omega, rfl, by rw [List.take_zero, decide_eq_false List.not_mem_nil], rfl⟩
          case round =>
            obtain ⟨m, hm, rfl, rfl, rfl⟩ := hrel
            by_cases hmz : m < z
            · have hmi : (m : Int) < (z : Int) := by omega
              have hml : m < ws.length := by rw [HP.out.1]; exact hmz
              have HTK := Lib.hid (show ws.take (m + 1) = ws.take m ++ [ws[m]] from List.take_succ_eq_append_getElem hml)
              by_cases hin : j ∈ ws.take m
              · rw [decide_eq_true hin]
                have HD := Lib.hid (show decide (j ∈ ws.take (m + 1)) = true from decide_eq_true (by rw [HTK.out]; exact List.mem_append.2 (.inl hin)))
                clear hin hml HTK
                go_wp2_with fail
                go_roundw
                case rel => exact ⟨m + 1, by omega, by go_num, by rw [HD.out], trivial⟩
                case measure => simp [intOf]; omega
              · rw [decide_eq_false hin]
                obtain ⟨bw, ow, rfl, _, hcw⟩ := HRI.out.at_ m (by rw [natInts_len]; exact hml)
                rw [show (natInts ws)[m]'(by rw [natInts_len]; exact hml) = ((ws[m] : Nat) : Int) by simp [natInts]] at hcw
                by_cases hq : ws[m] = j
                · rw [hq] at hcw
                  have HD := Lib.hid (show decide (j ∈ ws.take (m + 1)) = true from decide_eq_true (by rw [HTK.out, hq]; simp))
                  clear hin hml HTK hq
                  go_wp2_with fail
                  go_roundw
                  case rel => exact ⟨m + 1, by omega, by go_num, by rw [HD.out], trivial⟩
                  case measure => simp [intOf]; omega
                · have HD := Lib.hid (show decide (j ∈ ws.take (m + 1)) = false from decide_eq_false (by
                    rw [HTK.out]
                    intro h
                    rcases List.mem_append.1 h with h | h
                    · exact hin h
                    · exact hq (List.mem_singleton.1 h).symm))
                  have hqe : ((ws[m] : Int) == (j : Int)) = false := beq_eq_false_iff_ne.2 (by omega)
                  generalize ws[m] = g at *
                  clear hin hml HTK hq
                  go_wp2_with fail
                  go_roundw
                  case rel => exact ⟨m + 1, by omega, by go_num, by rw [HD.out], trivial⟩
                  case measure => simp [intOf]; omega
            · obtain rfl : m = z := by omega
              rw [show ws.take m = ws from List.take_of_length_le (by rw [HP.out.1]; exact Nat.le_refl _)]
              by_cases hin : j ∈ ws
              · rw [decide_eq_true hin]
                clear hin HRI
                go_wp2_with fail
                go_roundw
                case rel => exact ⟨i + 1, m, cw, Aw, ws, by omega, by go_num, rfl, by omega, hcw0, HP, HO, hbq⟩
                case measure => simp [intOf]; omega
              · rw [decide_eq_false hin]
                have HP3 := Lib.hid (show (ws ++ [j]).length = m + 1 ∧ Picked N K (ws ++ [j]) from ⟨by rw [List.length_append, HP.out.1]; rfl, HP.out.2.snoc hjN (by rw [HP.out.1]; exact hzK) hin⟩)
                have hle := hbq.size
                clear hin HRI
                go_wp2_with (at_builtin; refine wpList_append_num rfl _ _ 41 rfl w2.heap.size 3 i2 Try.underlying41 hi hz0 hz1 hz2 _ m (natInts ws) rfl wr (j : Int) rfl HO.out rfl (by omega) hle ?_)
                intro v3 w3 hown3 hg3
                have hb3 : Below w2.heap.size w2 w3 := (hbq.alloc hle _).grown hg3 (by simp; omega) (fun k hk => (HO.out.lt k hk).1)
                rw [← natInts_snoc] at hown3
                obtain ⟨Av, cv, rfl, hcv, _⟩ := own_caps hown3
                have HO3 := Lib.hid hown3
                clear hown3 hg3 hbq HO
                go_wp2_with fail
                go_roundw
                case rel => exact ⟨i + 1, m + 1, _, _, ws ++ [j], by omega, by go_num, rfl, by omega, hcv, HP3, HO3, hb3⟩
                case measure => simp [intOf]; omega
        · have hipi : ¬ (i : Int) < (p : Int) := by omega
          obtain ⟨j, hj⟩ : ∃ j, i = j := ⟨_, rfl⟩
          have hji : (i : Int) = (j : Int) := by omega
          have hjN : j < N := by omega
          subst hj
          clear hji
          obtain ⟨j, hj⟩ : ∃ j, i = j := ⟨_, rfl⟩
          go_wp2_with fail
          subst hj
          have HRI := Lib.hid (RdI.of_own HO.out (by rw [natInts_len]; exact HP.out.1))
          go_loopw [11, 54] (fun u t wq => ∃ m : Nat, m ≤ z ∧ t = .int .i64 m ∧ u = .bool (decide (i ∈ ws.take m)) ∧ wr = wq) (fun _ t _ => z - (intOf t).toNat)
          case atStart => exact ⟨0, by omega, rfl, by rw [List.take_zero, decide_eq_false List.not_mem_nil], rfl⟩
          case round =>
            obtain ⟨m, hm, rfl, rfl, rfl⟩ := hrel
            by_cases hmz : m < z
            · have hmi : (m : Int) < (z : Int) := by omega
              have hml : m < ws.length := by rw [HP.out.1]; exact hmz
              have HTK := Lib.hid (show ws.take (m + 1) = ws.take m ++ [ws[m]] from List.take_succ_eq_append_getElem hml)
              by_cases hin : i ∈ ws.take m
              · rw [decide_eq_true hin]
                have HD := Lib.hid (show decide (i ∈ ws.take (m + 1)) = true from decide_eq_true (by rw [HTK.out]; exact List.mem_append.2 (.inl hin)))
                clear hin hml HTK
                go_wp2_with fail
                go_roundw
                case rel => exact ⟨m + 1, by omega, by go_num, by rw [HD.out], trivial⟩
                case measure => simp [intOf]; omega
              · rw [decide_eq_false hin]
                obtain ⟨bw, ow, rfl, _, hcw⟩ := HRI.out.at_ m (by rw [natInts_len]; exact hml)
                rw [show (natInts ws)[m]'(by rw [natInts_len]; exact hml) = ((ws[m] : Nat) : Int) by simp [natInts]] at hcw
                by_cases hq : ws[m] = i
                · rw [hq] at hcw
                  have HD := Lib.hid (show decide (i ∈ ws.take (m + 1)) = true from decide_eq_true (by rw [HTK.out, hq]; simp))
                  clear hin hml HTK hq
                  go_wp2_with fail
                  go_roundw
                  case rel => exact ⟨m + 1, by omega, by go_num, by rw [HD.out], trivial⟩
                  case measure => simp [intOf]; omega
                · have HD := Lib.hid (show decide (i ∈ ws.take (m + 1)) = false from decide_eq_false (by
                    rw [HTK.out]
                    intro h
                    rcases List.mem_append.1 h with h | h
                    · exact hin h
                    · exact hq (List.mem_singleton.1 h).symm))
                  have hqe : ((ws[m] : Int) == (i : Int)) = false := beq_eq_false_iff_ne.2 (by omega)
                  generalize ws[m] = g at *
                  clear hin hml HTK hq
                  go_wp2_with fail
                  go_roundw
                  case rel => exact ⟨m + 1, by omega, by go_num, by rw [HD.out], trivial⟩
                  case measure => simp [intOf]; omega
            · obtain rfl : m = z := by omega
              rw [show ws.take m = ws from List.take_of_length_le (by rw [HP.out.1]; exact Nat.le_refl _)]
              by_cases hin : i ∈ ws
              · rw [decide_eq_true hin]
                clear hin HRI
                go_wp2_with fail
                go_roundw
                case rel => exact ⟨i + 1, m, cw, Aw, ws, by omega, by go_num, rfl, by omega, hcw0, HP, HO, hbq⟩
                case measure => simp [intOf]; omega
              · rw [decide_eq_false hin]
                have HP3 := Lib.hid (show (ws ++ [i]).length = m + 1 ∧ Picked N K (ws ++ [i]) from ⟨by rw [List.length_append, HP.out.1]; rfl, HP.out.2.snoc hjN (by rw [HP.out.1]; exact hzK) hin⟩)
                have hle := hbq.size
                clear hin HRI
                go_wp2_with (at_builtin; refine wpList_append_num rfl _ _ 41 rfl w2.heap.size 3 i2 Try.underlying41 hi hz0 hz1 hz2 _ m (natInts ws) rfl wr (i : Int) rfl HO.out rfl (by omega) hle ?_)
                intro v3 w3 hown3 hg3
                have hb3 : Below w2.heap.size w2 w3 := (hbq.alloc hle _).grown hg3 (by simp; omega) (fun k hk => (HO.out.lt k hk).1)
                rw [← natInts_snoc] at hown3
                obtain ⟨Av, cv, rfl, hcv, _⟩ := own_caps hown3
                have HO3 := Lib.hid hown3
                clear hown3 hg3 hbq HO
                go_wp2_with fail
                go_roundw
                case rel => exact ⟨i + 1, m + 1, _, _, ws ++ [i], by omega, by go_num, rfl, by omega, hcv, HP3, HO3, hb3⟩
                case measure => simp [intOf]; omega
      · have hzi : ¬ (z : Int) < (K : Int) := by omega
        clear hlt
        go_wp2_with fail
        go_loopw [8, 13] (fun u t wq => ∃ (j z cw : Nat) (Aw : Option Addr) (ws : List Nat), t = .int .i64 j ∧ u = .slice Aw z cw ∧ z ≤ K ∧ z ≤ cw ∧ Hid (ws.length = z ∧ Picked N K ws) ∧ Hid (∀ x, x < j → x ∈ ws) ∧ Hid (wq.ownsRow w2.heap.size 3 1 (.slice Aw z cw) z (intCells (natInts ws))) ∧ Below w2.heap.size w2 wq) (fun _ t _ => N - (intOf t).toNat)
        case atStart => exact ⟨0, z, cw, Aw, ws, rfl, rfl, hzk, hcw0, HP, Lib.hid (fun x hx => by omega), HO, hbq⟩
        case round =>
          clear HP HO hbq hzk hcw0
          obtain ⟨j, z, cw, Aw, ws, rfl, rfl, hzk, hcw0, HP, HJJ, HO, hbq⟩ := hrel
          by_cases hzK : z < K
          · have hzi : (z : Int) < (K : Int) := by omega
            have hjN : j < N := by
              by_cases h : j < N
              · exact h
              · have := pigeon N ws (fun x hx => HJJ.out x (by omega))
                rw [HP.out.1] at this
                omega
            go_wp2_with fail
            have HRI := Lib.hid (RdI.of_own HO.out (by rw [natInts_len]; exact HP.out.1))
            go_loopw [14, 81] (fun u t wq => ∃ m : Nat, m ≤ z ∧ t = .int .i64 m ∧ u = .bool (decide (j ∈ ws.take m)) ∧ wr = wq) (fun _ t _ => z - (intOf t).toNat)
            case atStart => exact ⟨0, by omega, rfl, by rw [List.take_zero, decide_eq_false List.not_mem_nil], rfl⟩
            case round =>
              obtain ⟨m, hm, rfl, rfl, rfl⟩ := hrel
              by_cases hmz : m < z
              · have hmi : (m : Int) < (z : Int) := by omega
                have hml : m < ws.length := by rw [HP.out.1]; exact hmz
                have HTK := Lib.hid (show ws.take (m + 1) = ws.take m ++ [ws[m]] from List.take_succ_eq_append_getElem hml)
                by_cases hin : j ∈ ws.take m
                · rw [decide_eq_true hin]
                  have HD := Lib.hid (show decide (j ∈ ws.take (m + 1)) = true from decide_eq_true (by rw [HTK.out]; exact List.mem_append.2 (.inl hin)))
                  clear hin hml HTK
                  go_wp2_with fail
                  go_roundw
                  case rel => exact ⟨m + 1, by omega, by go_num, by rw [HD.out], trivial⟩
                  case measure => simp [intOf]; omega
                · rw [decide_eq_false hin]
                  obtain ⟨bw, ow, rfl, _, hcw⟩ := HRI.out.at_ m (by rw [natInts_len]; exact hml)
                  rw [show (natInts ws)[m]'(by rw [natInts_len]; exact hml) = ((ws[m] : Nat) : Int) by simp [natInts]] at hcw
                  by_cases hq : ws[m] = j
                  · rw [hq] at hcw
                    have HD := Lib.hid (show decide (j ∈ ws.take (m + 1)) = true from decide_eq_true (by rw [HTK.out, hq]; simp))
                    clear hin hml HTK hq
                    go_wp2_with fail
                    go_roundw
                    case rel => exact ⟨m + 1, by omega, by go_num, by rw [HD.out], trivial⟩
                    case measure => simp [intOf]; omega
                  · have HD := Lib.hid (show decide (j ∈ ws.take (m + 1)) = false from decide_eq_false (by
                      rw [HTK.out]
                      intro h
                      rcases List.mem_append.1 h with h | h
                      · exact hin h
                      · exact hq (List.mem_singleton.1 h).symm))
                    have hqe : ((ws[m] : Int) == (j : Int)) = false := beq_eq_false_iff_ne.2 (by omega)
                    generalize ws[m] = g at *
                    clear hin hml HTK hq
                    go_wp2_with fail
                    go_roundw
                    case rel => exact ⟨m + 1, by omega, by go_num, by rw [HD.out], trivial⟩
                    case measure => simp [intOf]; omega
              · obtain rfl : m = z := by omega
                rw [show ws.take m = ws from List.take_of_length_le (by rw [HP.out.1]; exact Nat.le_refl _)]
                by_cases hin : j ∈ ws
                · rw [decide_eq_true hin]
                  have HJ2 := Lib.hid (show ∀ x, x < j + 1 → x ∈ ws from fun x hx => by
                    by_cases e : x = j
                    · rw [e]; exact hin
                    · exact HJJ.out x (by omega))
                  clear hin HRI
                  go_wp2_with fail
                  go_roundw
                  case rel => exact ⟨j + 1, m, cw, Aw, ws, by go_num, rfl, by omega, hcw0, HP, HJ2, HO, hbq⟩
                  case measure => simp [intOf]; omega
                · rw [decide_eq_false hin]
                  have HJ2 := Lib.hid (show ∀ x, x < j + 1 → x ∈ ws ++ [j] from fun x hx => by
                    by_cases e : x = j
                    · rw [e]; simp
                    · exact List.mem_append.2 (.inl (HJJ.out x (by omega))))
                  have HP3 := Lib.hid (show (ws ++ [j]).length = m + 1 ∧ Picked N K (ws ++ [j]) from ⟨by rw [List.length_append, HP.out.1]; rfl, HP.out.2.snoc hjN (by rw [HP.out.1]; exact hzK) hin⟩)
                  have hle := hbq.size
                  clear hin HRI
                  go_wp2_with (at_builtin; refine wpList_append_num rfl _ _ 41 rfl w2.heap.size 3 i2 Try.underlying41 hi hz0 hz1 hz2 _ m (natInts ws) rfl wr (j : Int) rfl HO.out rfl (by omega) hle ?_)
                  intro v3 w3 hown3 hg3
                  have hb3 : Below w2.heap.size w2 w3 := (hbq.alloc hle _).grown hg3 (by simp; omega) (fun k hk => (HO.out.lt k hk).1)
                  rw [← natInts_snoc] at hown3
                  obtain ⟨Av, cv, rfl, hcv, _⟩ := own_caps hown3
                  have HO3 := Lib.hid hown3
                  clear hown3 hg3 hbq HO
                  go_wp2_with fail
                  go_roundw
                  case rel => exact ⟨j + 1, m + 1, _, _, ws ++ [j], by go_num, rfl, by omega, hcv, HP3, HJ2, HO3, hb3⟩
                  case measure => simp [intOf]; omega
          · obtain rfl : z = K := by omega
            have hzi : ¬ (z : Int) < (z : Int) := by omega
            have HIV := Lib.hid (show IV wr (.slice Aw z cw) (natInts ws) from ⟨Aw, cw, by rw [natInts_len, HP.out.1], by rw [natInts_len, HP.out.1]; exact hcw0, RdI.of_own HO.out (by rw [natInts_len]; exact HP.out.1)⟩)
            have LV2 := Lib.hid (LV.out.on hbq)
            have HB3 := Lib.hid (HB2.out.trans (hbq.mono HB2.out.size))
            have EE := Lib.hid (pick_E n1 n16 k1 (by omega) HP.out.2 HP.out.1)
            have QS := Lib.hid (pick_sq n1 n16 k1 (by omega) HP.out.2 HP.out.1)
            have FS := Lib.hid (pick_inv n1 n16 k1 (by omega) HP.out.2 HP.out.1)
            clear HO hbq HJJ LV HB2
            go_wp2_with fail
            with_reducible refine (prows_any LV2.out HIV.out (by rw [natInts_len, HP.out.1]; omega)).mono ?_
            rintro e w4 ⟨r, rfl, hr, hb⟩
            have LR := Lib.hid hr
            have HB4 := Lib.hid (HB3.out.trans (hb.mono HB3.out.size))
            clear hb hr LV2 HIV HB3
            rw [EE.out]
            go_wp2_with fail
            with_reducible refine (pinv_any LR.out).mono ?_
            rintro e w5 ⟨y, er, rs, rfl, hs, _, hb⟩
            have HB5 := Lib.hid (HB4.out.trans (hb.mono HB4.out.size))
            rcases inv_cases QS.out k1 (by omega) hs with ⟨rfl, _, _⟩ | ⟨_, _, h⟩
            · clear hb hs HB4 LR
              go_wp2_with fail
              with_reducible refine (wakes5_any w5).mono ?_
              rintro e w6 ⟨rfl, hb⟩
              have HB6 := HB5.out.trans (hb.mono HB5.out.size)
              go_wp2_with fail
              go_ret
              exact ⟨rfl, HB6⟩
            · exact absurd FS.out h
    · have hii : ¬ (i : Int) < (N : Int) := by omega
      clear hlt
      go_wp2_with fail
      go_loopw [8, 13] (fun u t wq => ∃ (j z cw : Nat) (Aw : Option Addr) (ws : List Nat), t = .int .i64 j ∧ u = .slice Aw z cw ∧ z ≤ K ∧ z ≤ cw ∧ Hid (ws.length = z ∧ Picked N K ws) ∧ Hid (∀ x, x < j → x ∈ ws) ∧ Hid (wq.ownsRow w2.heap.size 3 1 (.slice Aw z cw) z (intCells (natInts ws))) ∧ Below w2.heap.size w2 wq) (fun _ t _ => N - (intOf t).toNat)
      case atStart => exact ⟨0, z, cw, Aw, ws, rfl, rfl, hzk, hcw0, HP, Lib.hid (fun x hx => by omega), HO, hbq⟩
      case round =>
        clear HP HO hbq hzk hcw0
        obtain ⟨j, z, cw, Aw, ws, rfl, rfl, hzk, hcw0, HP, HJJ, HO, hbq⟩ := hrel
        by_cases hzK : z < K
        · have hzi : (z : Int) < (K : Int) := by omega
          have hjN : j < N := by
            by_cases h : j < N
            · exact h
            · have := pigeon N ws (fun x hx => HJJ.out x (by omega))
              rw [HP.out.1] at this
              omega
          go_wp2_with fail
          have HRI := Lib.hid (RdI.of_own HO.out (by rw [natInts_len]; exact HP.out.1))
          go_loopw [14, 81] (fun u t wq => ∃ m : Nat, m ≤ z ∧ t = .int .i64 m ∧ u = .bool (decide (j ∈ ws.take m)) ∧ wr = wq) (fun _ t _ => z - (intOf t).toNat)
          case atStart => exact ⟨0, by omega, rfl, by rw [List.take_zero, decide_eq_false List.not_mem_nil], rfl⟩
          case round =>
            obtain ⟨m, hm, rfl, rfl, rfl⟩ := hrel
            by_cases hmz : m < z
            · have hmi : (m : Int) < (z : Int) := by omega
              have hml : m < ws.length := by rw [HP.out.1]; exact hmz
              have HTK := Lib.hid (show ws.take (m + 1) = ws.take m ++ [ws[m]] from List.take_succ_eq_append_getElem hml)
              by_cases hin : j ∈ ws.take m
              · rw [decide_eq_true hin]
                have HD := Lib.hid (show decide (j ∈ ws.take (m + 1)) = true from decide_eq_true (by rw [HTK.out]; exact List.mem_append.2 (.inl hin)))
                clear hin hml HTK
                go_wp2_with fail
                go_roundw
                case rel => exact ⟨m + 1, by omega, by go_num, by rw [HD.out], trivial⟩
                case measure => simp [intOf]; omega
              · rw [decide_eq_false hin]
                obtain ⟨bw, ow, rfl, _, hcw⟩ := HRI.out.at_ m (by rw [natInts_len]; exact hml)
                rw [show (natInts ws)[m]'(by rw [natInts_len]; exact hml) = ((ws[m] : Nat) : Int) by simp [natInts]] at hcw
                by_cases hq : ws[m] = j
                · rw [hq] at hcw
                  have HD := Lib.hid (show decide (j ∈ ws.take (m + 1)) = true from decide_eq_true (by rw [HTK.out, hq]; simp))
                  clear hin hml HTK hq
                  go_wp2_with fail
                  go_roundw
                  case rel => exact ⟨m + 1, by omega, by go_num, by rw [HD.out], trivial⟩
                  case measure => simp [intOf]; omega
                · have HD := Lib.hid (show decide (j ∈ ws.take (m + 1)) = false from decide_eq_false (by
                    rw [HTK.out]
                    intro h
                    rcases List.mem_append.1 h with h | h
                    · exact hin h
                    · exact hq (List.mem_singleton.1 h).symm))
                  have hqe : ((ws[m] : Int) == (j : Int)) = false := beq_eq_false_iff_ne.2 (by omega)
                  generalize ws[m] = g at *
                  clear hin hml HTK hq
                  go_wp2_with fail
                  go_roundw
                  case rel => exact ⟨m + 1, by omega, by go_num, by rw [HD.out], trivial⟩
                  case measure => simp [intOf]; omega
            · obtain rfl : m = z := by omega
              rw [show ws.take m = ws from List.take_of_length_le (by rw [HP.out.1]; exact Nat.le_refl _)]
              by_cases hin : j ∈ ws
              · rw [decide_eq_true hin]
                have HJ2 := Lib.hid (show ∀ x, x < j + 1 → x ∈ ws from fun x hx => by
                  by_cases e : x = j
                  · rw [e]; exact hin
                  · exact HJJ.out x (by omega))
                clear hin HRI
                go_wp2_with fail
                go_roundw
                case rel => exact ⟨j + 1, m, cw, Aw, ws, by go_num, rfl, by omega, hcw0, HP, HJ2, HO, hbq⟩
                case measure => simp [intOf]; omega
              · rw [decide_eq_false hin]
                have HJ2 := Lib.hid (show ∀ x, x < j + 1 → x ∈ ws ++ [j] from fun x hx => by
                  by_cases e : x = j
                  · rw [e]; simp
                  · exact List.mem_append.2 (.inl (HJJ.out x (by omega))))
                have HP3 := Lib.hid (show (ws ++ [j]).length = m + 1 ∧ Picked N K (ws ++ [j]) from ⟨by rw [List.length_append, HP.out.1]; rfl, HP.out.2.snoc hjN (by rw [HP.out.1]; exact hzK) hin⟩)
                have hle := hbq.size
                clear hin HRI
                go_wp2_with (at_builtin; refine wpList_append_num rfl _ _ 41 rfl w2.heap.size 3 i2 Try.underlying41 hi hz0 hz1 hz2 _ m (natInts ws) rfl wr (j : Int) rfl HO.out rfl (by omega) hle ?_)
                intro v3 w3 hown3 hg3
                have hb3 : Below w2.heap.size w2 w3 := (hbq.alloc hle _).grown hg3 (by simp; omega) (fun k hk => (HO.out.lt k hk).1)
                rw [← natInts_snoc] at hown3
                obtain ⟨Av, cv, rfl, hcv, _⟩ := own_caps hown3
                have HO3 := Lib.hid hown3
                clear hown3 hg3 hbq HO
                go_wp2_with fail
                go_roundw
                case rel => exact ⟨j + 1, m + 1, _, _, ws ++ [j], by go_num, rfl, by omega, hcv, HP3, HJ2, HO3, hb3⟩
                case measure => simp [intOf]; omega
        · obtain rfl : z = K := by omega
          have hzi : ¬ (z : Int) < (z : Int) := by omega
          have HIV := Lib.hid (show IV wr (.slice Aw z cw) (natInts ws) from ⟨Aw, cw, by rw [natInts_len, HP.out.1], by rw [natInts_len, HP.out.1]; exact hcw0, RdI.of_own HO.out (by rw [natInts_len]; exact HP.out.1)⟩)
          have LV2 := Lib.hid (LV.out.on hbq)
          have HB3 := Lib.hid (HB2.out.trans (hbq.mono HB2.out.size))
          have EE := Lib.hid (pick_E n1 n16 k1 (by omega) HP.out.2 HP.out.1)
          have QS := Lib.hid (pick_sq n1 n16 k1 (by omega) HP.out.2 HP.out.1)
          have FS := Lib.hid (pick_inv n1 n16 k1 (by omega) HP.out.2 HP.out.1)
          clear HO hbq HJJ LV HB2
          go_wp2_with fail
          with_reducible refine (prows_any LV2.out HIV.out (by rw [natInts_len, HP.out.1]; omega)).mono ?_
          rintro e w4 ⟨r, rfl, hr, hb⟩
          have LR := Lib.hid hr
          have HB4 := Lib.hid (HB3.out.trans (hb.mono HB3.out.size))
          clear hb hr LV2 HIV HB3
          rw [EE.out]
          go_wp2_with fail
          with_reducible refine (pinv_any LR.out).mono ?_
          rintro e w5 ⟨y, er, rs, rfl, hs, _, hb⟩
          have HB5 := Lib.hid (HB4.out.trans (hb.mono HB4.out.size))
          rcases inv_cases QS.out k1 (by omega) hs with ⟨rfl, _, _⟩ | ⟨_, _, h⟩
          · clear hb hs HB4 LR
            go_wp2_with fail
            with_reducible refine (wakes5_any w5).mono ?_
            rintro e w6 ⟨rfl, hb⟩
            have HB6 := HB5.out.trans (hb.mono HB5.out.size)
            go_wp2_with fail
            go_ret
            exact ⟨rfl, HB6⟩
          · exact absurd FS.out h

theorem contract (H : Type) (enc : TypeId × Value → H) (W : World) (base : Nat) (args : Array Value) (ds gs : List (DataW H)) (before : List MemPlace)
    (hval : ∀ (j : Nat) t v, Try.f9.params[j]? = some t → args[j]? = some v → Value.okWide Try.prog W .any base t v)
    (hW : DataW.Whole enc Try.prog Try.f9.params.toList Rows.matrixPowersSpec.vars false W args.toList ds gs before) :
    Calls Try.prog 9 args W fun e W' => ∃ v, e = .returned v ∧ Rows.matrixPowersSpec.post enc Try.prog Try.f9 false true false false W args v W' := by
  have hW' := hW
  obtain ⟨p, q, hA0, hV, rfl, hfz, hnd⟩ := hW
  have hA : DataW.TrodAll enc Try.prog W 0 (fun _ => true) true Try.f9.params.toList args.toList ds p := hA0
  rw [Try.params9] at hA hval
  obtain ⟨v0, v1, v2, d0, d1, d2, p0, p1, p2, rfl, rfl, rfl, h0, h1, h2⟩ := trodAll_three hA
  obtain ⟨rfl, rfl⟩ := trodVars_none hV
  obtain ⟨n0, rfl, rfl, rfl, wf0⟩ := open_int Try.underlying3 (hval 0 3 v0 rfl rfl) h0
  have b0 := bounds_i64 wf0
  obtain ⟨n1, rfl, rfl, rfl, wf1⟩ := open_int Try.underlying3 (hval 1 3 v1 rfl rfl) h1
  have b1 := bounds_i64 wf1
  obtain ⟨A2, m2, c2, l2, rfl, hl2, hc2, hm2, hr2, hz2⟩ := open_introw (hval 2 41 v2 rfl rfl) h2
  clear hA0
  refine (walk n0 n1 A2 m2 c2 l2 W b0.1 b0.2 b1.1 b1.2 hl2 (Nat.le_trans hc2 hm2) hr2 hz2).mono fun e W' ⟨he, hb⟩ => ?_
  exact ⟨_, he, law_post hW' rfl (by kernel_rfl) rfl (by kernel_rfl) hb⟩

set_option maxRecDepth 100000 in
theorem lifted (os : Os) (started : os.Started) (H : Type) (enc : TypeId × Value → H) :
    ReturnsInHanded {} Try.checked os 9 .any (Rows.matrixPowersSpec.pre6 enc Try.prog Try.f9 Rows.matrixPowersRow.domain false) (Rows.matrixPowersSpec.post enc Try.prog Try.f9 false true false false) := by
  refine returnsInHanded_of_change (C := Try.checked) own started (by kernel_rfl) Try.func9
    (ChangeSpec.witness6 (enc := enc) (C := Try.checked) false ⟨#[], #[.int .i64 0, .int .i64 0, .slice none 0 0], []⟩ 8 (by kernel_rfl) (by kernel_rfl) (by kernel_rfl) (by kernel_rfl)) ?_
  intro W base args ds gs before hval0 hW _ _
  have hval : ∀ (j : Nat) t v, Try.f9.params[j]? = some t → args[j]? = some v → Value.okWide Try.prog W .any base t v := hval0
  exact contract H enc W base args ds gs before hval hW

/-- The statement. -/
theorem card : Rows.MatrixPowersSaid :=
  OpenClaim.holds_of_wide 9 Try.f9 rfl rfl rfl rfl rfl rfl rfl ⟨rfl, rfl, rfl, rfl, rfl⟩ rfl rfl rfl rfl rfl (by kernel_rfl) Try.func9 (by kernel_rfl)
    (of_decide_eq_true (by kernel_rfl)) (by unfold Func.isWrapper; first | (rw [if_pos (by decide +kernel)]; kernel_rfl) | (rw [if_neg (by decide +kernel)]; exact ⟨rfl, rfl⟩))
    (fun os started H enc _ => lifted os started H enc)
end Go.Proofs.Ytkgemngkkedcnaa.matrixPowers
