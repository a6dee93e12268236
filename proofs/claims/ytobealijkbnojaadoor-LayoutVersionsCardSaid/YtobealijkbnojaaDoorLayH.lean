/- The document's layouts and versions out of bytes: its hash, what it builds, stores into a field. -/
import Derived.Test.YtobealijkbnojaaDoorLayB
import Derived.Test.YtobealijkbnojaaDoorU8
namespace Go.Proofs.YtobealijkbnojaaDoor
open Go.RowKit
set_option maxRecDepth 100000

set_option maxHeartbeats 4000000 in
theorem built_Ud (a b : Int) (x y : List UInt8) (hx : x.length = 32) (hy : y.length = 32) : Tryd.prog.built 40 [(0, .int .i64 a), (1, .int .i64 b), (4, .agg (u8A x)), (5, .agg (u8A y))] = some (f14A ⟨a, b, 0, 0, x, y⟩) := by
  rcases x with _ | ⟨x0, x⟩
  · simp at hx
  rcases x with _ | ⟨x1, x⟩
  · simp at hx
  rcases x with _ | ⟨x2, x⟩
  · simp at hx
  rcases x with _ | ⟨x3, x⟩
  · simp at hx
  rcases x with _ | ⟨x4, x⟩
  · simp at hx
  rcases x with _ | ⟨x5, x⟩
  · simp at hx
  rcases x with _ | ⟨x6, x⟩
  · simp at hx
  rcases x with _ | ⟨x7, x⟩
  · simp at hx
  rcases x with _ | ⟨x8, x⟩
  · simp at hx
  rcases x with _ | ⟨x9, x⟩
  · simp at hx
  rcases x with _ | ⟨x10, x⟩
  · simp at hx
  rcases x with _ | ⟨x11, x⟩
  · simp at hx
  rcases x with _ | ⟨x12, x⟩
  · simp at hx
  rcases x with _ | ⟨x13, x⟩
  · simp at hx
  rcases x with _ | ⟨x14, x⟩
  · simp at hx
  rcases x with _ | ⟨x15, x⟩
  · simp at hx
  rcases x with _ | ⟨x16, x⟩
  · simp at hx
  rcases x with _ | ⟨x17, x⟩
  · simp at hx
  rcases x with _ | ⟨x18, x⟩
  · simp at hx
  rcases x with _ | ⟨x19, x⟩
  · simp at hx
  rcases x with _ | ⟨x20, x⟩
  · simp at hx
  rcases x with _ | ⟨x21, x⟩
  · simp at hx
  rcases x with _ | ⟨x22, x⟩
  · simp at hx
  rcases x with _ | ⟨x23, x⟩
  · simp at hx
  rcases x with _ | ⟨x24, x⟩
  · simp at hx
  rcases x with _ | ⟨x25, x⟩
  · simp at hx
  rcases x with _ | ⟨x26, x⟩
  · simp at hx
  rcases x with _ | ⟨x27, x⟩
  · simp at hx
  rcases x with _ | ⟨x28, x⟩
  · simp at hx
  rcases x with _ | ⟨x29, x⟩
  · simp at hx
  rcases x with _ | ⟨x30, x⟩
  · simp at hx
  rcases x with _ | ⟨x31, x⟩
  · simp at hx
  rcases x with _ | ⟨_, _⟩
  rotate_left
  · simp at hx
  rcases y with _ | ⟨y0, y⟩
  · simp at hy
  rcases y with _ | ⟨y1, y⟩
  · simp at hy
  rcases y with _ | ⟨y2, y⟩
  · simp at hy
  rcases y with _ | ⟨y3, y⟩
  · simp at hy
  rcases y with _ | ⟨y4, y⟩
  · simp at hy
  rcases y with _ | ⟨y5, y⟩
  · simp at hy
  rcases y with _ | ⟨y6, y⟩
  · simp at hy
  rcases y with _ | ⟨y7, y⟩
  · simp at hy
  rcases y with _ | ⟨y8, y⟩
  · simp at hy
  rcases y with _ | ⟨y9, y⟩
  · simp at hy
  rcases y with _ | ⟨y10, y⟩
  · simp at hy
  rcases y with _ | ⟨y11, y⟩
  · simp at hy
  rcases y with _ | ⟨y12, y⟩
  · simp at hy
  rcases y with _ | ⟨y13, y⟩
  · simp at hy
  rcases y with _ | ⟨y14, y⟩
  · simp at hy
  rcases y with _ | ⟨y15, y⟩
  · simp at hy
  rcases y with _ | ⟨y16, y⟩
  · simp at hy
  rcases y with _ | ⟨y17, y⟩
  · simp at hy
  rcases y with _ | ⟨y18, y⟩
  · simp at hy
  rcases y with _ | ⟨y19, y⟩
  · simp at hy
  rcases y with _ | ⟨y20, y⟩
  · simp at hy
  rcases y with _ | ⟨y21, y⟩
  · simp at hy
  rcases y with _ | ⟨y22, y⟩
  · simp at hy
  rcases y with _ | ⟨y23, y⟩
  · simp at hy
  rcases y with _ | ⟨y24, y⟩
  · simp at hy
  rcases y with _ | ⟨y25, y⟩
  · simp at hy
  rcases y with _ | ⟨y26, y⟩
  · simp at hy
  rcases y with _ | ⟨y27, y⟩
  · simp at hy
  rcases y with _ | ⟨y28, y⟩
  · simp at hy
  rcases y with _ | ⟨y29, y⟩
  · simp at hy
  rcases y with _ | ⟨y30, y⟩
  · simp at hy
  rcases y with _ | ⟨y31, y⟩
  · simp at hy
  rcases y with _ | ⟨_, _⟩
  rotate_left
  · simp at hy
  kernel_rfl
set_option maxHeartbeats 4000000 in
theorem built_Vd (b c : Int) (y : List UInt8) (hy : y.length = 32) : Tryd.prog.built 57 [(1, .int .i64 b), (2, .int .i64 c), (5, .agg (u8A y))] = some (f14A ⟨0, b, c, 0, List.replicate 16 0, y⟩) := by
  rcases y with _ | ⟨y0, y⟩
  · simp at hy
  rcases y with _ | ⟨y1, y⟩
  · simp at hy
  rcases y with _ | ⟨y2, y⟩
  · simp at hy
  rcases y with _ | ⟨y3, y⟩
  · simp at hy
  rcases y with _ | ⟨y4, y⟩
  · simp at hy
  rcases y with _ | ⟨y5, y⟩
  · simp at hy
  rcases y with _ | ⟨y6, y⟩
  · simp at hy
  rcases y with _ | ⟨y7, y⟩
  · simp at hy
  rcases y with _ | ⟨y8, y⟩
  · simp at hy
  rcases y with _ | ⟨y9, y⟩
  · simp at hy
  rcases y with _ | ⟨y10, y⟩
  · simp at hy
  rcases y with _ | ⟨y11, y⟩
  · simp at hy
  rcases y with _ | ⟨y12, y⟩
  · simp at hy
  rcases y with _ | ⟨y13, y⟩
  · simp at hy
  rcases y with _ | ⟨y14, y⟩
  · simp at hy
  rcases y with _ | ⟨y15, y⟩
  · simp at hy
  rcases y with _ | ⟨y16, y⟩
  · simp at hy
  rcases y with _ | ⟨y17, y⟩
  · simp at hy
  rcases y with _ | ⟨y18, y⟩
  · simp at hy
  rcases y with _ | ⟨y19, y⟩
  · simp at hy
  rcases y with _ | ⟨y20, y⟩
  · simp at hy
  rcases y with _ | ⟨y21, y⟩
  · simp at hy
  rcases y with _ | ⟨y22, y⟩
  · simp at hy
  rcases y with _ | ⟨y23, y⟩
  · simp at hy
  rcases y with _ | ⟨y24, y⟩
  · simp at hy
  rcases y with _ | ⟨y25, y⟩
  · simp at hy
  rcases y with _ | ⟨y26, y⟩
  · simp at hy
  rcases y with _ | ⟨y27, y⟩
  · simp at hy
  rcases y with _ | ⟨y28, y⟩
  · simp at hy
  rcases y with _ | ⟨y29, y⟩
  · simp at hy
  rcases y with _ | ⟨y30, y⟩
  · simp at hy
  rcases y with _ | ⟨y31, y⟩
  · simp at hy
  rcases y with _ | ⟨_, _⟩
  rotate_left
  · simp at hy
  kernel_rfl
theorem FAt.setA {T : TypeId} {p : Nat} {w : World} {b : Nat} {u : F14} (h : FAt T p w b u) (v : Int) : FAt T p (w.setCell ⟨b, 0, none⟩ (.int .i64 v)) b { u with a := v } := ⟨h.blk.set 0 (.int .i64 v), h.wf⟩
theorem FAt.setC {T : TypeId} {p : Nat} {w : World} {b : Nat} {u : F14} (h : FAt T p w b u) (v : Int) : FAt T p (w.setCell ⟨b, 2, none⟩ (.int .i64 v)) b { u with c := v } := ⟨h.blk.set 2 (.int .i64 v), h.wf⟩
theorem FAt.setD {T : TypeId} {p : Nat} {w : World} {b : Nat} {u : F14} (h : FAt T p w b u) (v : Int) : FAt T p (w.setCell ⟨b, 3, none⟩ (.int .i64 v)) b { u with d := v } := ⟨h.blk.set 3 (.int .i64 v), h.wf⟩
theorem FAt.frozen {T : TypeId} {p : Nat} {w : World} {b : Nat} {u : F14} (h : FAt T p w b u) (i : Nat) : w.frozen? ⟨b, i, none⟩ = false := h.blk.frozen i
theorem FAt.there {T : TypeId} {p : Nat} {w : World} {b : Nat} {u : F14} (h : FAt T p w b u) {j : Nat} (hj : j < p) : ∃ old, w.cell? ⟨b, 4 + j, none⟩ = some old := by
  refine ⟨_, (h.cell (4 + j)).trans ((f14L_x h.wf j hj).trans (List.getElem?_eq_getElem (by rw [Lib.byteCells_length, h.wf.1]; exact hj)))⟩
theorem f14A_setX {p : Nat} {u : F14} (h : u.wf p) {j : Nat} (hj : j < p) (y : UInt8) : (f14A u).setIfInBounds (4 + j) (.int .u8 (y.toNat : Int)) = f14A { u with x := u.x.set j y } := by
  obtain ⟨a, b, c, d, x, z⟩ := u
  have h1 : x.length = p := h.1
  unfold f14A f14L
  rw [List.setIfInBounds_toArray, show 4 + j = (((j + 1) + 1) + 1) + 1 by omega]
  simp only [List.set_cons_succ]
  rw [List.set_append_left _ _ (by rw [Lib.byteCells_length]; omega)]
  simp [Lib.byteCells, List.map_set]
theorem FAt.byteX {T : TypeId} {p : Nat} {w : World} {b : Nat} {A B C D : Int} {l z : List UInt8} {j : Nat} {y : UInt8} (h : FAt T p w b ⟨A, B, C, D, padB p l, z⟩) (hl : l.length = j) (hj : j < p) : FAt T p (w.setCell ⟨b, 4 + j, none⟩ (.int .u8 (y.toNat : Int))) b ⟨A, B, C, D, padB p (l ++ [y]), z⟩ := by
  subst hl
  have e := f14A_setX h.wf hj y
  simp only [padB_set hj] at e
  refine ⟨?_, ⟨?_, h.wf.2⟩⟩
  · have := h.blk.set (4 + l.length) (.int .u8 (y.toNat : Int))
    rwa [e] at this
  · have := h.wf.1
    simp only [padB, List.length_append, List.length_replicate, List.length_singleton] at this ⊢
    omega
theorem take16 {l : List UInt8} (h : l.length = 16) {j : Nat} (hj : j < 16) : l.take (j + 1) = l.take j ++ [l.getD j 0] := by
  rw [List.take_succ_eq_append_getElem (by omega)]
  simp [List.getD_eq_getElem?_getD, h, hj]
theorem get14_one {x : UInt8} : (get14 [x] : Int) = (x.toNat : Int) := by simp [get14, getL]
theorem take32 {l : List UInt8} (h : l.length = 32) {j : Nat} (hj : j < 32) : l.take (j + 1) = l.take j ++ [l.getD j 0] := by
  rw [List.take_succ_eq_append_getElem (by omega)]
  simp [List.getD_eq_getElem?_getD, h, hj]
theorem rget14 (A : Option Addr) (c B : Nat) (l : List UInt8) (w : World) (hn : l.length = 4) (ha : Rd w B A l) : Calls Tryd.prog 53 #[.slice A 4 c] w fun e w' => e = .returned (.tuple #[.int .i64 (get14 l : Int), .bool true]) ∧ w = w' := by
  have h := rget_any A 4 c B l w hn (by decide) ha
  rw [get14_short (by omega)]
  exact h
theorem byte_row {w : World} {A : Option Addr} {c : Nat} {r : List UInt8} (h : BV14 w A 1 c r) : ∃ b o, A = some ⟨b, o, none⟩ ∧ b < w.heap.size ∧ w.cell? ⟨b, o, none⟩ = some (.int .u8 (get14 r : Int)) ∧ get14 r < 256 := by
  obtain ⟨b, o, h1, h2, h3⟩ := h.rd.at_ 0 (by rw [h.len]; exact Nat.zero_lt_one)
  match r, h.len with
  | [x], _ =>
    have e : (get14 [x] : Int) = (x.toNat : Int) := get14_one
    refine ⟨b, o, h1, h2, by rw [e]; exact h3, ?_⟩
    have := x.toNat_lt
    omega
set_option maxHeartbeats 4000000 in
theorem rhash14_any (A : Option Addr) (c : Nat) (l : List UInt8) (w : World) (hl : l.length = 32) (hr : Rd w w.heap.size A l) :
    Calls Tryd.prog 52 #[.slice A 32 c] w fun e w' => e = .returned (.agg (u8A l)) ∧ Below w.heap.size w w' := by
  obtain ⟨Y, hY⟩ : ∃ Y, u8A l = Y := ⟨_, rfl⟩
  have HYE := Lib.hid hY
  have HYZ := Lib.hid (show Y.size = 32 by rw [← hY, u8A_size]; exact hl)
  have HYO := Lib.hid (show Y.all (·.oneCell') = true by rw [← hY]; exact u8A_one _)
  have HXT := Lib.hid (fun j (hj : j < 32) => take32 hl hj)
  have HXL := Lib.hid hl
  have HR := Lib.hid hr
  rw [hY]
  clear hY hl hr
  go_enter Tryd.func52, Tryd.ntmps52
  go_upto_region 2 with fail
  generalize hw4 : World.alloc _ _ = w4
  have hf : (∃ rs, Blk w4 w.heap.size rs 26 ∧ rs.size = 32) ∧ Blk w4 (w.heap.size + 1) (u8A (padB 32 (l.take 0))) 26 ∧ Below w.heap.size w w4 := by
    have hs1 : ∀ Z : Array Value, (w.alloc (.cells Z 26)).heap.size = w.heap.size + 1 := fun Z => by simp
    rw [← hw4]
    refine ⟨⟨_, (Blk.new w _ _).alloc _, rfl⟩, ?_, ((Below.refl _ _).alloc (Nat.le_refl _) _).alloc (by simp) _⟩
    rw [← hs1]
    exact Blk.new _ _ _
  obtain ⟨⟨rs, hrs, hrz⟩, hb3, hbw⟩ := hf
  obtain ⟨g2, hg2⟩ : ∃ g, w.heap.size = g := ⟨_, rfl⟩
  obtain ⟨g3, hg3⟩ : ∃ g, w.heap.size + 1 = g := ⟨_, rfl⟩
  have HNE := Lib.hid (show g2 ≠ g3 ∧ w.heap.size ≤ g2 ∧ w.heap.size ≤ g3 by omega)
  rw [hg3] at hb3 ⊢
  have HG2 := Lib.hid hg2
  have HBW := Lib.hid (show Below w.heap.size w w4 from hbw)
  rw [hg2] at hrs
  rw [show (Value.pointer (some ⟨w.heap.size, 0, none⟩)) = .pointer (some ⟨g2, 0, none⟩) by rw [hg2]]
  have HRS := Lib.hid hrs
  have HRZ := Lib.hid hrz
  have HB3 := Lib.hid hb3
  clear hrs hrz hb3 hbw hw4 hg2 hg3
  go_wp2_with fail
  go_loopw [4] (fun t wq => ∃ j : Nat, j ≤ 32 ∧ t = .int .i64 (j : Int) ∧ Hid (Blk wq g3 (u8A (padB 32 (l.take j))) 26) ∧ Hid (Blk wq g2 rs 26) ∧ Hid (Below w.heap.size w wq)) (fun t _ => 32 - (intOf t).toNat)
  case atStart => exact ⟨0, Nat.zero_le _, rfl, HB3, HRS, HBW⟩
  case round =>
    clear HB3 HRS HBW
    obtain ⟨j, hj, rfl, HB3, HRS, HBW⟩ := hrel
    by_cases hlt : j < 32
    · have hji : (j : Int) < 32 := by omega
      have hrw := HR.out.below HBW.out (Nat.le_refl _)
      have hjl : j < l.length := by rw [HXL.out]; exact hlt
      obtain ⟨b, off, rfl, hbs, hcell⟩ := hrw.at_ j hjl
      have hg : l.getD j 0 = l[j] := by simp [List.getD_eq_getElem?_getD, hjl]
      have hst := HXT.out j hlt
      rw [hg] at hst
      have HST := Lib.hid hst
      generalize l[j] = y at *
      have hf1 := HB3.out.frozen j
      obtain ⟨o1, ho1⟩ : ∃ old, wr.cell? ⟨g3, j, none⟩ = some old := ⟨_, HB3.out.byteAt (i := j) (by rw [padB_len (by rw [List.length_take]; omega)]; exact hlt)⟩
      clear hg hst hrw hjl
      go_wp2_with fail
      go_roundw
      case rel =>
        refine ⟨j + 1, hlt, by go_num, Lib.hid ?_, Lib.hid (HRS.out.other HNE.out.1 _), Lib.hid (HBW.out.setCell (by exact HNE.out.2.2) _)⟩
        rw [HST.out]
        exact HB3.out.byte (by rw [List.length_take, HXL.out]; omega) hlt rfl
      case measure => simp [intOf]; omega
    · obtain rfl : j = 32 := by omega
      have hx32 : padB 32 (l.take 32) = l := by rw [List.take_of_length_le (by rw [HXL.out]; exact Nat.le_refl _)]; exact padB_full HXL.out
      rw [hx32, HYE.out] at HB3
      clear hx32
      go_wp2_with (first
        | (with_reducible refine wpList_load_blk rfl 26 (.tmp 3) rfl g3 rfl 26 Y _ HB3.out Tryd.underlying26 rfl (by rw [HYZ.out]; kernel_rfl) ?_)
        | (with_reducible refine wpList_store_blk rfl 26 (.tmp 2) (.tmp 21) rfl g2 Y rfl rfl 26 rs HRS.out (by rw [HYZ.out]; kernel_rfl) (by rw [HYZ.out, HRZ.out]) HYO.out ?_))
      exact bodyPost_ret (v := .agg Y) (results_cell_row (p := 2) (ty := 26) (by kernel_rfl) _ _ g2 26 _ (0, 0) _ rfl (HRS.out.row Y) Tryd.underlying26 rfl (by rw [HYZ.out]; kernel_rfl)) rfl ⟨rfl, below_row HBW.out HBW.out.size HNE.out.2.1 _⟩
end Go.Proofs.YtobealijkbnojaaDoor
