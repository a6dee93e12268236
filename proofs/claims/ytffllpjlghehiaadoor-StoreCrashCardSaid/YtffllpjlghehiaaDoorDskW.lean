/- The document's own disk: Write. -/
import Derived.Test.YtffllpjlghehiaaDoorDskR
import Derived.IntWalk
namespace Go.Proofs.YtffllpjlghehiaaDoor
open Go.RowKit
set_option maxRecDepth 100000

def Dsk.rwell (s : Dsk) (i : Nat) (b : List UInt8) : Dsk := { s with B := layL s.B (i * 32) (padB 32 b), writes := IntKind.i64.wrap (s.writes + 1), at_ := IntKind.i64.wrap (s.at_ - 1) }
set_option maxHeartbeats 1000000 in
theorem rdwrite_tear {w : World} {q g n c : Nat} {s : Dsk} (h : RP w q g n c s) (i : Nat) (A : Option Addr) (m d : Nat) (b : List UInt8) (hi : i < n) (hm : m ≤ 32) (hb : b.length = m) (hr : RdA (two q g) w A b) (hd : s.dead = false) (ha : s.ahead = true) (h0 : s.at_ = 0) :
    Calls Tryd.prog 26 #[.pointer (some ⟨q, 0, none⟩), .int .i64 (i : Int), .slice A m d] w fun e w' => e = .returned (.int .i64 8) ∧ RP w' q g n c (s.tear i b) ∧ Chg (two q g) w w' := by
  have HC := Lib.hid (rdlen_any h)
  have H := Lib.hid h
  have HR := Lib.hid hr
  obtain ⟨c0, c1, c2, c3, c4, c5⟩ := h.cells
  have hs := h.small
  have hkp := h.keep
  have hi0 : ¬ (i : Int) < 0 := by omega
  have hi1 : ¬ (n : Int) ≤ (i : Int) := by omega
  have hd1 : decide (n ≤ i) = false := decide_eq_false (by omega)
  have hm' : ¬ (32 : Int) < (m : Int) := by omega
  have hmd : decide (32 < m) = false := decide_eq_false (by omega)
  have hmd2 : decide ((32 : Int) < (m : Int)) = false := decide_eq_false (by omega)
  rw [hd] at c1
  rw [ha] at c2
  rw [h0] at c3
  have HB := Lib.hid hb
  have HA := Lib.hid ha
  have HD := Lib.hid hd
  have H0 := Lib.hid h0
  clear h hr hd hb ha h0
  go_enter Tryd.func26, Tryd.ntmps26
  go_wp2_with fail
  with_reducible refine HC.out.mono ?_
  rintro e w' ⟨rfl, rfl⟩
  clear HC
  go_wp2_with fail
  obtain ⟨N, hN⟩ : ∃ N : Nat, s.keep = N := ⟨_, rfl⟩
  have hN32 : N ≤ 32 := by omega
  rw [hN]
  have HN := Lib.hid hN
  clear hN
  have HNE := Lib.hid H.out.ne
  have HLN := Lib.hid H.out.len
  have HCP := H.out.cap
  have HHD := Lib.hid H.out.head
  obtain ⟨cs, hcs⟩ : ∃ cs : Array Value, #[.slice (some ⟨g, 0, none⟩) (n * 32) c, .bool s.dead, .bool s.ahead, .int .i64 s.at_, .int .i64 (s.keep : Int), .int .i64 s.writes] = cs := ⟨_, rfl⟩
  have HCS := Lib.hid hcs
  rw [hcs] at HHD
  have HPT := Lib.hid (fun (j : Nat) (hj : j < 32) => padB_take b hj (by rw [HB.out]; exact hm))
  have HPL := Lib.hid (padB_len (k := 32) (bs := b) (by rw [HB.out]; exact hm))
  clear hcs c0 c1 c2 c3 c4 c5
  go_loopw [8] (fun k wr => ∃ j : Nat, j ≤ N ∧ k = .int .i64 j ∧ Hid (Blk wr q cs 93) ∧ Hid (BytesAt wr g 5 (layL s.B (i * 32) ((padB 32 b).take j))) ∧ Hid (Chg (two q g) w wr)) (fun k _ => N - (intOf k).toNat)
  case atStart => exact ⟨0, Nat.zero_le _, rfl, HHD, Lib.hid (by rw [List.take_zero, layL_nil]; exact H.out.body), Lib.hid (Chg.refl _ _)⟩
  case round =>
    obtain ⟨j, hj, rfl, K1, K2, K3⟩ := hrel
    have e0 := K1.out.cell 0
    rw [← HCS.out, show (#[.slice (some ⟨g, 0, none⟩) (n * 32) c, .bool s.dead, .bool s.ahead, .int .i64 s.at_, .int .i64 (s.keep : Int), .int .i64 s.writes] : Array Value)[0]? = some (.slice (some ⟨g, 0, none⟩) (n * 32) c) from rfl] at e0
    by_cases hlt : j < N
    · have hlt' : (j : Int) < (N : Int) := by omega
      have hll : (layL s.B (i * 32) ((padB 32 b).take j)).length = n * 32 := by rw [layL_len (by rw [List.length_take, HPL.out, HLN.out]; omega), HLN.out]
      have e1 := K2.out.cell (i := i * 32 + j) (by rw [hll]; omega)
      have e2 := K2.out.frozen (i * 32 + j)
      have hx : ((i : Int) * 32 + (j : Int)).toNat = i * 32 + j := by omega
      have hx0 : (0 : Int) ≤ (i : Int) * 32 + (j : Int) := by omega
      have hx1 : (i : Int) * 32 + (j : Int) < (n : Int) * 32 := by omega
      have HLL := Lib.hid hll
      obtain ⟨o, ho⟩ : ∃ o, (Value.int .u8 (((layL s.B (i * 32) ((padB 32 b).take j)).getD (i * 32 + j) 0).toNat : Int)) = o := ⟨_, rfl⟩
      rw [ho] at e1
      clear hll ho
      by_cases hjm : j < m
      · have hjm' : (j : Int) < (m : Int) := by omega
        have hjb : j < b.length := by rw [HB.out]; exact hjm
        obtain ⟨bb, ob, hA, hns, hcb⟩ := (HR.out.chg K3.out).at_ hjb
        have HBJ := Lib.hid (show b[j] = b.getD j 0 by rw [List.getD_eq_getElem?_getD, List.getElem?_eq_getElem hjb]; rfl)
        generalize b[j] = y at hcb HBJ
        have hbg : bb ≠ g := fun e => hns (.inr e)
        have HAE := Lib.hid hA
        clear hA hjb
        rw [HAE.out]
        go_wp2_with fail
        have k1 : Blk (wr.setCell ⟨g, i * 32 + j, none⟩ (.int .u8 0)) q cs 93 := K1.out.other HNE.out _
        have k2 := K2.out.set (i * 32 + j) (x := 0) (y := 0) rfl
        have k3 : Chg (two q g) w (wr.setCell ⟨g, i * 32 + j, none⟩ (.int .u8 0)) := K3.out.setCell (fun _ => .inr rfl) _
        have k4 : (wr.setCell ⟨g, i * 32 + j, none⟩ (.int .u8 0)).cell? ⟨bb, ob + j, none⟩ = some (.int .u8 (y.toNat : Int)) := (World.cell?_of_block (Below.heap_setCell wr ⟨g, i * 32 + j, none⟩ _ bb hbg)).trans hcb
        generalize wr.setCell ⟨g, i * 32 + j, none⟩ (.int .u8 0) = w2 at k1 k2 k3 k4 ⊢
        have e0 := k1.cell 0
        rw [← HCS.out, show (#[.slice (some ⟨g, 0, none⟩) (n * 32) c, .bool s.dead, .bool s.ahead, .int .i64 s.at_, .int .i64 (s.keep : Int), .int .i64 s.writes] : Array Value)[0]? = some (.slice (some ⟨g, 0, none⟩) (n * 32) c) from rfl] at e0
        have K1' := Lib.hid k1
        have K2' := Lib.hid k2
        have K3' := Lib.hid k3
        clear e1 e2 hcb k1 k2 k3 K1 K2 K3 o
        have e1 := K2'.out.cell (i := i * 32 + j) (by rw [List.length_set, HLL.out]; omega)
        have e2 := K2'.out.frozen (i * 32 + j)
        obtain ⟨o, ho⟩ : ∃ o, (Value.int .u8 ((((layL s.B (i * 32) ((padB 32 b).take j)).set (i * 32 + j) 0).getD (i * 32 + j) 0).toNat : Int)) = o := ⟨_, rfl⟩
        rw [ho] at e1
        have hwr1 : IntKind.i64.wrap ((i : Int) * 32) = (i : Int) * 32 := IntWalk.i64_in _ (by omega)
        have hwr2 : IntKind.i64.wrap ((i : Int) * 32 + (j : Int)) = (i : Int) * 32 + (j : Int) := IntWalk.i64_in _ (by omega)
        clear ho
        go_still_tail 13, (by kernel_rfl)
        change wpList _ _ _ _ _ w2.drew
        clear hwr1 hwr2 e0 k4
        have K1d : Hid (Blk w2.drew q cs 93) := Lib.hid (show Blk w2.drew q cs _ from K1'.out)
        have K2d : Hid (BytesAt w2.drew g _ _) := Lib.hid (show BytesAt w2.drew g _ _ from K2'.out)
        have K3d := Lib.hid K3'.out.drew
        have e3 : w2.drew.cell? ⟨g, i * 32 + j, none⟩ = some o := e1
        have e4 : w2.drew.frozen? ⟨g, i * 32 + j, none⟩ = false := e2
        generalize w2.drew = w3 at K1d K2d K3d e3 e4 ⊢
        clear e1 e2 K1' K2' K3'
        go_wp2_with fail
        go_roundw
        case rel =>
          refine ⟨j + 1, by omega, by go_num, Lib.hid (K1d.out.other HNE.out _), Lib.hid ?_, Lib.hid (K3d.out.setCell (fun _ => .inr rfl) _)⟩
          have k2 := K2d.out.set (i * 32 + j) (x := (y.toNat : Int)) (y := y) rfl
          have hl : ((padB 32 b).take j).length = j := by rw [List.length_take, HPL.out]; omega
          rw [List.set_set] at k2
          rw [HPT.out j (by omega), ← HBJ.out, ← layL_snoc y (by rw [hl, HLN.out]; omega), hl]
          exact k2
        case measure => simp [intOf]; omega
      · have hjm' : ¬ (j : Int) < (m : Int) := by omega
        have HBJ := Lib.hid (show b.getD j 0 = 0 by rw [List.getD_eq_getElem?_getD, List.getElem?_eq_none (by rw [HB.out]; omega)]; rfl)
        go_wp2_with fail
        go_roundw
        case rel =>
          refine ⟨j + 1, by omega, by go_num, Lib.hid (K1.out.other HNE.out _), Lib.hid ?_, Lib.hid (K3.out.setCell (fun _ => .inr rfl) _)⟩
          have k2 := K2.out.set (i * 32 + j) (x := 0) (y := 0) rfl
          have hl : ((padB 32 b).take j).length = j := by rw [List.length_take, HPL.out]; omega
          rw [HPT.out j (by omega), HBJ.out, ← layL_snoc 0 (by rw [hl, HLN.out]; omega), hl]
          exact k2
        case measure => simp [intOf]; omega
    · have HJ := Lib.hid (show j = N by omega)
      have hlt' : ¬ (j : Int) < (N : Int) := by omega
      obtain ⟨z1, z2, z3, z5⟩ : cs[1]? = some (.bool s.dead) ∧ cs[2]? = some (.bool s.ahead) ∧ cs[3]? = some (.int .i64 s.at_) ∧ cs[5]? = some (.int .i64 s.writes) := by rw [← HCS.out]; exact ⟨rfl, rfl, rfl, rfl⟩
      have e1 := (K1.out.cell 1).trans z1
      have e2 := (K1.out.cell 2).trans z2
      have e3 := (K1.out.cell 3).trans z3
      have e5 := (K1.out.cell 5).trans z5
      have g1 := K1.out.frozen 1
      have g3 := K1.out.frozen 3
      have g5 := K1.out.frozen 5
      rw [HD.out] at e1
      rw [HA.out] at e2
      rw [H0.out] at e3
      clear z1 z2 z3 z5
      go_wp2_with fail
      go_ret
      have k1 := K1.out.set 1 (.bool true)
      rw [← HCS.out] at k1
      refine ⟨rfl, ⟨k1, ?_, HNE.out, ?_, HCP, H.out.small, H.out.keep⟩, K3.out.setCell (fun _ => .inl rfl) _⟩
      · show BytesAt _ g _ (layL s.B (i * 32) ((padB 32 b).take s.keep))
        rw [HN.out, ← HJ.out]
        exact K2.out.other (p := ⟨q, 1, none⟩) (fun e => HNE.out e.symm) _
      · show (layL s.B (i * 32) ((padB 32 b).take s.keep)).length = _
        rw [layL_len (by rw [List.length_take, HPL.out, HLN.out]; omega), HLN.out]
set_option maxHeartbeats 1000000 in
theorem rdwrite_well1 {w : World} {q g n c : Nat} {s : Dsk} (h : RP w q g n c s) (i : Nat) (A : Option Addr) (m d : Nat) (b : List UInt8) (hi : i < n) (hm : m ≤ 32) (hb : b.length = m) (hr : RdA (two q g) w A b) (hd : s.dead = false) (ha : s.ahead = true) (h0 : s.at_ ≠ 0) :
    Calls Tryd.prog 26 #[.pointer (some ⟨q, 0, none⟩), .int .i64 (i : Int), .slice A m d] w fun e w' => e = .returned (.int .i64 0) ∧ RP w' q g n c (s.rwell i b) ∧ Chg (two q g) w w' := by
  have HC := Lib.hid (rdlen_any h)
  have H := Lib.hid h
  have HR := Lib.hid hr
  obtain ⟨c0, c1, c2, c3, c4, c5⟩ := h.cells
  have hs := h.small
  have hkp := h.keep
  have hi0 : ¬ (i : Int) < 0 := by omega
  have hi1 : ¬ (n : Int) ≤ (i : Int) := by omega
  have hd1 : decide (n ≤ i) = false := decide_eq_false (by omega)
  have hm' : ¬ (32 : Int) < (m : Int) := by omega
  have hmd : decide (32 < m) = false := decide_eq_false (by omega)
  have hmd2 : decide ((32 : Int) < (m : Int)) = false := decide_eq_false (by omega)
  rw [hd] at c1
  rw [ha] at c2
  obtain ⟨t, ht⟩ : ∃ t, s.at_ = t := ⟨_, rfl⟩
  rw [ht] at c3 h0
  have HT := Lib.hid ht
  have ht0 : (t == 0) = false := by simp; omega
  clear ht
  have HB := Lib.hid hb
  have HA := Lib.hid ha
  have HD := Lib.hid hd
  clear h hr hd hb ha
  go_enter Tryd.func26, Tryd.ntmps26
  go_wp2_with fail
  with_reducible refine HC.out.mono ?_
  rintro e w' ⟨rfl, rfl⟩
  clear HC
  go_wp2_with fail
  have HNE := Lib.hid H.out.ne
  have HLN := Lib.hid H.out.len
  have HCP := H.out.cap
  have HHD := Lib.hid H.out.head
  obtain ⟨cs, hcs⟩ : ∃ cs : Array Value, #[.slice (some ⟨g, 0, none⟩) (n * 32) c, .bool s.dead, .bool s.ahead, .int .i64 s.at_, .int .i64 (s.keep : Int), .int .i64 s.writes] = cs := ⟨_, rfl⟩
  have HCS := Lib.hid hcs
  rw [hcs] at HHD
  have HPT := Lib.hid (fun (j : Nat) (hj : j < 32) => padB_take b hj (by rw [HB.out]; exact hm))
  have HPL := Lib.hid (padB_len (k := 32) (bs := b) (by rw [HB.out]; exact hm))
  clear hcs c0 c1 c2 c3 c4 c5
  go_loopw [8] (fun k wr => ∃ j : Nat, j ≤ 32 ∧ k = .int .i64 j ∧ Hid (Blk wr q cs 93) ∧ Hid (BytesAt wr g 5 (layL s.B (i * 32) ((padB 32 b).take j))) ∧ Hid (Chg (two q g) w wr)) (fun k _ => 32 - (intOf k).toNat)
  case atStart => exact ⟨0, Nat.zero_le _, rfl, HHD, Lib.hid (by rw [List.take_zero, layL_nil]; exact H.out.body), Lib.hid (Chg.refl _ _)⟩
  case round =>
    obtain ⟨j, hj, rfl, K1, K2, K3⟩ := hrel
    have e0 := K1.out.cell 0
    rw [← HCS.out, show (#[.slice (some ⟨g, 0, none⟩) (n * 32) c, .bool s.dead, .bool s.ahead, .int .i64 s.at_, .int .i64 (s.keep : Int), .int .i64 s.writes] : Array Value)[0]? = some (.slice (some ⟨g, 0, none⟩) (n * 32) c) from rfl] at e0
    by_cases hlt : j < 32
    · have hlt' : (j : Int) < 32 := by omega
      have hll : (layL s.B (i * 32) ((padB 32 b).take j)).length = n * 32 := by rw [layL_len (by rw [List.length_take, HPL.out, HLN.out]; omega), HLN.out]
      have e1 := K2.out.cell (i := i * 32 + j) (by rw [hll]; omega)
      have e2 := K2.out.frozen (i * 32 + j)
      have hx : ((i : Int) * 32 + (j : Int)).toNat = i * 32 + j := by omega
      have hx0 : (0 : Int) ≤ (i : Int) * 32 + (j : Int) := by omega
      have hx1 : (i : Int) * 32 + (j : Int) < (n : Int) * 32 := by omega
      have HLL := Lib.hid hll
      obtain ⟨o, ho⟩ : ∃ o, (Value.int .u8 (((layL s.B (i * 32) ((padB 32 b).take j)).getD (i * 32 + j) 0).toNat : Int)) = o := ⟨_, rfl⟩
      rw [ho] at e1
      clear hll ho
      by_cases hjm : j < m
      · have hjm' : (j : Int) < (m : Int) := by omega
        have hjb : j < b.length := by rw [HB.out]; exact hjm
        obtain ⟨bb, ob, hA, hns, hcb⟩ := (HR.out.chg K3.out).at_ hjb
        have HBJ := Lib.hid (show b[j] = b.getD j 0 by rw [List.getD_eq_getElem?_getD, List.getElem?_eq_getElem hjb]; rfl)
        generalize b[j] = y at hcb HBJ
        have hbg : bb ≠ g := fun e => hns (.inr e)
        have HAE := Lib.hid hA
        clear hA hjb
        rw [HAE.out]
        go_wp2_with fail
        have k1 : Blk (wr.setCell ⟨g, i * 32 + j, none⟩ (.int .u8 0)) q cs 93 := K1.out.other HNE.out _
        have k2 := K2.out.set (i * 32 + j) (x := 0) (y := 0) rfl
        have k3 : Chg (two q g) w (wr.setCell ⟨g, i * 32 + j, none⟩ (.int .u8 0)) := K3.out.setCell (fun _ => .inr rfl) _
        have k4 : (wr.setCell ⟨g, i * 32 + j, none⟩ (.int .u8 0)).cell? ⟨bb, ob + j, none⟩ = some (.int .u8 (y.toNat : Int)) := (World.cell?_of_block (Below.heap_setCell wr ⟨g, i * 32 + j, none⟩ _ bb hbg)).trans hcb
        generalize wr.setCell ⟨g, i * 32 + j, none⟩ (.int .u8 0) = w2 at k1 k2 k3 k4 ⊢
        have e0 := k1.cell 0
        rw [← HCS.out, show (#[.slice (some ⟨g, 0, none⟩) (n * 32) c, .bool s.dead, .bool s.ahead, .int .i64 s.at_, .int .i64 (s.keep : Int), .int .i64 s.writes] : Array Value)[0]? = some (.slice (some ⟨g, 0, none⟩) (n * 32) c) from rfl] at e0
        have K1' := Lib.hid k1
        have K2' := Lib.hid k2
        have K3' := Lib.hid k3
        clear e1 e2 hcb k1 k2 k3 K1 K2 K3 o
        have e1 := K2'.out.cell (i := i * 32 + j) (by rw [List.length_set, HLL.out]; omega)
        have e2 := K2'.out.frozen (i * 32 + j)
        obtain ⟨o, ho⟩ : ∃ o, (Value.int .u8 ((((layL s.B (i * 32) ((padB 32 b).take j)).set (i * 32 + j) 0).getD (i * 32 + j) 0).toNat : Int)) = o := ⟨_, rfl⟩
        rw [ho] at e1
        have hwr1 : IntKind.i64.wrap ((i : Int) * 32) = (i : Int) * 32 := IntWalk.i64_in _ (by omega)
        have hwr2 : IntKind.i64.wrap ((i : Int) * 32 + (j : Int)) = (i : Int) * 32 + (j : Int) := IntWalk.i64_in _ (by omega)
        clear ho
        go_still_tail 13, (by kernel_rfl)
        change wpList _ _ _ _ _ w2.drew
        clear hwr1 hwr2 e0 k4
        have K1d : Hid (Blk w2.drew q cs 93) := Lib.hid (show Blk w2.drew q cs _ from K1'.out)
        have K2d : Hid (BytesAt w2.drew g _ _) := Lib.hid (show BytesAt w2.drew g _ _ from K2'.out)
        have K3d := Lib.hid K3'.out.drew
        have e3 : w2.drew.cell? ⟨g, i * 32 + j, none⟩ = some o := e1
        have e4 : w2.drew.frozen? ⟨g, i * 32 + j, none⟩ = false := e2
        generalize w2.drew = w3 at K1d K2d K3d e3 e4 ⊢
        clear e1 e2 K1' K2' K3'
        go_wp2_with fail
        go_roundw
        case rel =>
          refine ⟨j + 1, by omega, by go_num, Lib.hid (K1d.out.other HNE.out _), Lib.hid ?_, Lib.hid (K3d.out.setCell (fun _ => .inr rfl) _)⟩
          have k2 := K2d.out.set (i * 32 + j) (x := (y.toNat : Int)) (y := y) rfl
          have hl : ((padB 32 b).take j).length = j := by rw [List.length_take, HPL.out]; omega
          rw [List.set_set] at k2
          rw [HPT.out j (by omega), ← HBJ.out, ← layL_snoc y (by rw [hl, HLN.out]; omega), hl]
          exact k2
        case measure => simp [intOf]; omega
      · have hjm' : ¬ (j : Int) < (m : Int) := by omega
        have HBJ := Lib.hid (show b.getD j 0 = 0 by rw [List.getD_eq_getElem?_getD, List.getElem?_eq_none (by rw [HB.out]; omega)]; rfl)
        go_wp2_with fail
        go_roundw
        case rel =>
          refine ⟨j + 1, by omega, by go_num, Lib.hid (K1.out.other HNE.out _), Lib.hid ?_, Lib.hid (K3.out.setCell (fun _ => .inr rfl) _)⟩
          have k2 := K2.out.set (i * 32 + j) (x := 0) (y := 0) rfl
          have hl : ((padB 32 b).take j).length = j := by rw [List.length_take, HPL.out]; omega
          rw [HPT.out j (by omega), HBJ.out, ← layL_snoc 0 (by rw [hl, HLN.out]; omega), hl]
          exact k2
        case measure => simp [intOf]; omega
    · have HJ := Lib.hid (show j = 32 by omega)
      have hlt' : ¬ (j : Int) < 32 := by omega
      obtain ⟨z1, z2, z3, z5⟩ : cs[1]? = some (.bool s.dead) ∧ cs[2]? = some (.bool s.ahead) ∧ cs[3]? = some (.int .i64 s.at_) ∧ cs[5]? = some (.int .i64 s.writes) := by rw [← HCS.out]; exact ⟨rfl, rfl, rfl, rfl⟩
      have e1 := (K1.out.cell 1).trans z1
      have e2 := (K1.out.cell 2).trans z2
      have e3 := (K1.out.cell 3).trans z3
      have e5 := (K1.out.cell 5).trans z5
      have g1 := K1.out.frozen 1
      have g3 := K1.out.frozen 3
      have g5 := K1.out.frozen 5
      rw [HD.out] at e1
      rw [HA.out] at e2
      rw [HT.out] at e3
      obtain ⟨t', ht'⟩ : ∃ t', IntKind.i64.wrap (t - 1) = t' := ⟨_, rfl⟩
      obtain ⟨v', hv'⟩ : ∃ v', IntKind.i64.wrap (s.writes + 1) = v' := ⟨_, rfl⟩
      have HT' := Lib.hid ht'
      have HV' := Lib.hid (hv')
      clear z1 z2 z3 z5
      go_wp2_with fail
      go_ret
      have k1 := (K1.out.set 3 (.int .i64 t')).set 5 (.int .i64 v')
      rw [← HCS.out] at k1
      refine ⟨rfl, ⟨?_, ?_, HNE.out, ?_, HCP, H.out.small, H.out.keep⟩, (K3.out.setCell (fun _ => .inl rfl) _).setCell (fun _ => .inl rfl) _⟩
      · show Blk _ q #[.slice (some ⟨g, 0, none⟩) (n * 32) c, .bool s.dead, .bool s.ahead, .int .i64 (IntKind.i64.wrap (s.at_ - 1)), .int .i64 (s.keep : Int), .int .i64 (IntKind.i64.wrap (s.writes + 1))] _
        rw [HT.out, HT'.out, HV'.out]
        exact k1
      · show BytesAt _ g _ (layL s.B (i * 32) (padB 32 b))
        have k2 := K2.out
        rw [List.take_of_length_le (by rw [HPL.out]; have := HJ.out; omega)] at k2
        exact (k2.other (p := ⟨q, 3, none⟩) (fun e => HNE.out e.symm) _).other (p := ⟨q, 5, none⟩) (fun e => HNE.out e.symm) _
      · show (layL s.B (i * 32) (padB 32 b)).length = _
        rw [layL_len (by rw [HPL.out, HLN.out]; omega), HLN.out]
set_option maxHeartbeats 1000000 in
theorem rdwrite_well0 {w : World} {q g n c : Nat} {s : Dsk} (h : RP w q g n c s) (i : Nat) (A : Option Addr) (m d : Nat) (b : List UInt8) (hi : i < n) (hm : m ≤ 32) (hb : b.length = m) (hr : RdA (two q g) w A b) (hd : s.dead = false) (ha : s.ahead = false) :
    Calls Tryd.prog 26 #[.pointer (some ⟨q, 0, none⟩), .int .i64 (i : Int), .slice A m d] w fun e w' => e = .returned (.int .i64 0) ∧ RP w' q g n c (s.rwell i b) ∧ Chg (two q g) w w' := by
  have HC := Lib.hid (rdlen_any h)
  have H := Lib.hid h
  have HR := Lib.hid hr
  obtain ⟨c0, c1, c2, c3, c4, c5⟩ := h.cells
  have hs := h.small
  have hkp := h.keep
  have hi0 : ¬ (i : Int) < 0 := by omega
  have hi1 : ¬ (n : Int) ≤ (i : Int) := by omega
  have hd1 : decide (n ≤ i) = false := decide_eq_false (by omega)
  have hm' : ¬ (32 : Int) < (m : Int) := by omega
  have hmd : decide (32 < m) = false := decide_eq_false (by omega)
  have hmd2 : decide ((32 : Int) < (m : Int)) = false := decide_eq_false (by omega)
  rw [hd] at c1
  rw [ha] at c2
  obtain ⟨t, ht⟩ : ∃ t, s.at_ = t := ⟨_, rfl⟩
  rw [ht] at c3
  have HT := Lib.hid ht
  clear ht
  have HB := Lib.hid hb
  have HA := Lib.hid ha
  have HD := Lib.hid hd
  clear h hr hd hb ha
  go_enter Tryd.func26, Tryd.ntmps26
  go_wp2_with fail
  with_reducible refine HC.out.mono ?_
  rintro e w' ⟨rfl, rfl⟩
  clear HC
  go_wp2_with fail
  have HNE := Lib.hid H.out.ne
  have HLN := Lib.hid H.out.len
  have HCP := H.out.cap
  have HHD := Lib.hid H.out.head
  obtain ⟨cs, hcs⟩ : ∃ cs : Array Value, #[.slice (some ⟨g, 0, none⟩) (n * 32) c, .bool s.dead, .bool s.ahead, .int .i64 s.at_, .int .i64 (s.keep : Int), .int .i64 s.writes] = cs := ⟨_, rfl⟩
  have HCS := Lib.hid hcs
  rw [hcs] at HHD
  have HPT := Lib.hid (fun (j : Nat) (hj : j < 32) => padB_take b hj (by rw [HB.out]; exact hm))
  have HPL := Lib.hid (padB_len (k := 32) (bs := b) (by rw [HB.out]; exact hm))
  clear hcs c0 c1 c2 c3 c4 c5
  go_loopw [8] (fun k wr => ∃ j : Nat, j ≤ 32 ∧ k = .int .i64 j ∧ Hid (Blk wr q cs 93) ∧ Hid (BytesAt wr g 5 (layL s.B (i * 32) ((padB 32 b).take j))) ∧ Hid (Chg (two q g) w wr)) (fun k _ => 32 - (intOf k).toNat)
  case atStart => exact ⟨0, Nat.zero_le _, rfl, HHD, Lib.hid (by rw [List.take_zero, layL_nil]; exact H.out.body), Lib.hid (Chg.refl _ _)⟩
  case round =>
    obtain ⟨j, hj, rfl, K1, K2, K3⟩ := hrel
    have e0 := K1.out.cell 0
    rw [← HCS.out, show (#[.slice (some ⟨g, 0, none⟩) (n * 32) c, .bool s.dead, .bool s.ahead, .int .i64 s.at_, .int .i64 (s.keep : Int), .int .i64 s.writes] : Array Value)[0]? = some (.slice (some ⟨g, 0, none⟩) (n * 32) c) from rfl] at e0
    by_cases hlt : j < 32
    · have hlt' : (j : Int) < 32 := by omega
      have hll : (layL s.B (i * 32) ((padB 32 b).take j)).length = n * 32 := by rw [layL_len (by rw [List.length_take, HPL.out, HLN.out]; omega), HLN.out]
      have e1 := K2.out.cell (i := i * 32 + j) (by rw [hll]; omega)
      have e2 := K2.out.frozen (i * 32 + j)
      have hx : ((i : Int) * 32 + (j : Int)).toNat = i * 32 + j := by omega
      have hx0 : (0 : Int) ≤ (i : Int) * 32 + (j : Int) := by omega
      have hx1 : (i : Int) * 32 + (j : Int) < (n : Int) * 32 := by omega
      have HLL := Lib.hid hll
      obtain ⟨o, ho⟩ : ∃ o, (Value.int .u8 (((layL s.B (i * 32) ((padB 32 b).take j)).getD (i * 32 + j) 0).toNat : Int)) = o := ⟨_, rfl⟩
      rw [ho] at e1
      clear hll ho
      by_cases hjm : j < m
      · have hjm' : (j : Int) < (m : Int) := by omega
        have hjb : j < b.length := by rw [HB.out]; exact hjm
        obtain ⟨bb, ob, hA, hns, hcb⟩ := (HR.out.chg K3.out).at_ hjb
        have HBJ := Lib.hid (show b[j] = b.getD j 0 by rw [List.getD_eq_getElem?_getD, List.getElem?_eq_getElem hjb]; rfl)
        generalize b[j] = y at hcb HBJ
        have hbg : bb ≠ g := fun e => hns (.inr e)
        have HAE := Lib.hid hA
        clear hA hjb
        rw [HAE.out]
        go_wp2_with fail
        have k1 : Blk (wr.setCell ⟨g, i * 32 + j, none⟩ (.int .u8 0)) q cs 93 := K1.out.other HNE.out _
        have k2 := K2.out.set (i * 32 + j) (x := 0) (y := 0) rfl
        have k3 : Chg (two q g) w (wr.setCell ⟨g, i * 32 + j, none⟩ (.int .u8 0)) := K3.out.setCell (fun _ => .inr rfl) _
        have k4 : (wr.setCell ⟨g, i * 32 + j, none⟩ (.int .u8 0)).cell? ⟨bb, ob + j, none⟩ = some (.int .u8 (y.toNat : Int)) := (World.cell?_of_block (Below.heap_setCell wr ⟨g, i * 32 + j, none⟩ _ bb hbg)).trans hcb
        generalize wr.setCell ⟨g, i * 32 + j, none⟩ (.int .u8 0) = w2 at k1 k2 k3 k4 ⊢
        have e0 := k1.cell 0
        rw [← HCS.out, show (#[.slice (some ⟨g, 0, none⟩) (n * 32) c, .bool s.dead, .bool s.ahead, .int .i64 s.at_, .int .i64 (s.keep : Int), .int .i64 s.writes] : Array Value)[0]? = some (.slice (some ⟨g, 0, none⟩) (n * 32) c) from rfl] at e0
        have K1' := Lib.hid k1
        have K2' := Lib.hid k2
        have K3' := Lib.hid k3
        clear e1 e2 hcb k1 k2 k3 K1 K2 K3 o
        have e1 := K2'.out.cell (i := i * 32 + j) (by rw [List.length_set, HLL.out]; omega)
        have e2 := K2'.out.frozen (i * 32 + j)
        obtain ⟨o, ho⟩ : ∃ o, (Value.int .u8 ((((layL s.B (i * 32) ((padB 32 b).take j)).set (i * 32 + j) 0).getD (i * 32 + j) 0).toNat : Int)) = o := ⟨_, rfl⟩
        rw [ho] at e1
        have hwr1 : IntKind.i64.wrap ((i : Int) * 32) = (i : Int) * 32 := IntWalk.i64_in _ (by omega)
        have hwr2 : IntKind.i64.wrap ((i : Int) * 32 + (j : Int)) = (i : Int) * 32 + (j : Int) := IntWalk.i64_in _ (by omega)
        clear ho
        go_still_tail 13, (by kernel_rfl)
        change wpList _ _ _ _ _ w2.drew
        clear hwr1 hwr2 e0 k4
        have K1d : Hid (Blk w2.drew q cs 93) := Lib.hid (show Blk w2.drew q cs _ from K1'.out)
        have K2d : Hid (BytesAt w2.drew g _ _) := Lib.hid (show BytesAt w2.drew g _ _ from K2'.out)
        have K3d := Lib.hid K3'.out.drew
        have e3 : w2.drew.cell? ⟨g, i * 32 + j, none⟩ = some o := e1
        have e4 : w2.drew.frozen? ⟨g, i * 32 + j, none⟩ = false := e2
        generalize w2.drew = w3 at K1d K2d K3d e3 e4 ⊢
        clear e1 e2 K1' K2' K3'
        go_wp2_with fail
        go_roundw
        case rel =>
          refine ⟨j + 1, by omega, by go_num, Lib.hid (K1d.out.other HNE.out _), Lib.hid ?_, Lib.hid (K3d.out.setCell (fun _ => .inr rfl) _)⟩
          have k2 := K2d.out.set (i * 32 + j) (x := (y.toNat : Int)) (y := y) rfl
          have hl : ((padB 32 b).take j).length = j := by rw [List.length_take, HPL.out]; omega
          rw [List.set_set] at k2
          rw [HPT.out j (by omega), ← HBJ.out, ← layL_snoc y (by rw [hl, HLN.out]; omega), hl]
          exact k2
        case measure => simp [intOf]; omega
      · have hjm' : ¬ (j : Int) < (m : Int) := by omega
        have HBJ := Lib.hid (show b.getD j 0 = 0 by rw [List.getD_eq_getElem?_getD, List.getElem?_eq_none (by rw [HB.out]; omega)]; rfl)
        go_wp2_with fail
        go_roundw
        case rel =>
          refine ⟨j + 1, by omega, by go_num, Lib.hid (K1.out.other HNE.out _), Lib.hid ?_, Lib.hid (K3.out.setCell (fun _ => .inr rfl) _)⟩
          have k2 := K2.out.set (i * 32 + j) (x := 0) (y := 0) rfl
          have hl : ((padB 32 b).take j).length = j := by rw [List.length_take, HPL.out]; omega
          rw [HPT.out j (by omega), HBJ.out, ← layL_snoc 0 (by rw [hl, HLN.out]; omega), hl]
          exact k2
        case measure => simp [intOf]; omega
    · have HJ := Lib.hid (show j = 32 by omega)
      have hlt' : ¬ (j : Int) < 32 := by omega
      obtain ⟨z1, z2, z3, z5⟩ : cs[1]? = some (.bool s.dead) ∧ cs[2]? = some (.bool s.ahead) ∧ cs[3]? = some (.int .i64 s.at_) ∧ cs[5]? = some (.int .i64 s.writes) := by rw [← HCS.out]; exact ⟨rfl, rfl, rfl, rfl⟩
      have e1 := (K1.out.cell 1).trans z1
      have e2 := (K1.out.cell 2).trans z2
      have e3 := (K1.out.cell 3).trans z3
      have e5 := (K1.out.cell 5).trans z5
      have g1 := K1.out.frozen 1
      have g3 := K1.out.frozen 3
      have g5 := K1.out.frozen 5
      rw [HD.out] at e1
      rw [HA.out] at e2
      rw [HT.out] at e3
      obtain ⟨t', ht'⟩ : ∃ t', IntKind.i64.wrap (t - 1) = t' := ⟨_, rfl⟩
      obtain ⟨v', hv'⟩ : ∃ v', IntKind.i64.wrap (s.writes + 1) = v' := ⟨_, rfl⟩
      have HT' := Lib.hid ht'
      have HV' := Lib.hid (hv')
      clear z1 z2 z3 z5
      go_wp2_with fail
      go_ret
      have k1 := (K1.out.set 3 (.int .i64 t')).set 5 (.int .i64 v')
      rw [← HCS.out] at k1
      refine ⟨rfl, ⟨?_, ?_, HNE.out, ?_, HCP, H.out.small, H.out.keep⟩, (K3.out.setCell (fun _ => .inl rfl) _).setCell (fun _ => .inl rfl) _⟩
      · show Blk _ q #[.slice (some ⟨g, 0, none⟩) (n * 32) c, .bool s.dead, .bool s.ahead, .int .i64 (IntKind.i64.wrap (s.at_ - 1)), .int .i64 (s.keep : Int), .int .i64 (IntKind.i64.wrap (s.writes + 1))] _
        rw [HT.out, HT'.out, HV'.out]
        exact k1
      · show BytesAt _ g _ (layL s.B (i * 32) (padB 32 b))
        have k2 := K2.out
        rw [List.take_of_length_le (by rw [HPL.out]; have := HJ.out; omega)] at k2
        exact (k2.other (p := ⟨q, 3, none⟩) (fun e => HNE.out e.symm) _).other (p := ⟨q, 5, none⟩) (fun e => HNE.out e.symm) _
      · show (layL s.B (i * 32) (padB 32 b)).length = _
        rw [layL_len (by rw [HPL.out, HLN.out]; omega), HLN.out]
end Go.Proofs.YtffllpjlghehiaaDoor
