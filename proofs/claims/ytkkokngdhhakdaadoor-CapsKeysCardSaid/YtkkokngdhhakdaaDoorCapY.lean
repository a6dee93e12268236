/- The law's own cut of a capability; a variable of a law that holds one. -/
import Derived.Test.YtkkokngdhhakdaaDoorCapX
namespace Go.Proofs.YtkkokngdhhakdaaDoor
open Go.RowKit
set_option maxRecDepth 100000

def cut13 (c : Cap13) : Cap13 := { c with lit := c.lit.take 80 }
theorem cut13_wf {c : Cap13} (h : c.wf) : (cut13 c).wf := h
theorem cut13_bd {c : Cap13} (h : c.bd) : (cut13 c).bd := h
theorem cut13_len {c : Cap13} {n : Nat} (hn : c.lit.length = n) : (cut13 c).lit.length = min n 80 := by
  show (c.lit.take 80).length = _
  rw [List.length_take, hn, Nat.min_comm]
set_option maxHeartbeats 4000000 in
theorem cut13_any {w : World} {c : Cap13} {A : Option Addr} {n cc : Nat} (hw : c.wf) (hc : n ≤ cc) :
    Calls Tryd.prog 17 #[.agg (capA c (.slice A n cc))] w fun e w' => e = .returned (.agg (capA (cut13 c) (.slice A (min n 80) cc))) ∧ Below w.heap.size w w' := by
  obtain ⟨CX, hCX⟩ : ∃ x, capA c (.slice A n cc) = x := ⟨_, rfl⟩
  have HST := Lib.hid (fun (W : World) (Y : Array Value) => CapR.start (w := w) (W := W) (Y := Y) hw hCX)
  have HCU := Lib.hid (fun (W : World) => (show Calls Tryd.prog 42 #[.slice A n cc, .int .i64 80] W fun e w' => e = .returned (.slice A (min n 80) cc) ∧ W = w' from cut_any A n cc 80 W hc))
  obtain ⟨C5, hC5⟩ : ∃ x, capA (cut13 c) (.slice A (min n 80) cc) = x := ⟨_, rfl⟩
  have HC5 := Lib.hid hC5
  rw [hCX, hC5]
  clear hCX hw hc hC5
  go_enter Tryd.func17, Tryd.ntmps17
  go_upto_region 1 with fail
  generalize hwa : World.alloc _ _ = w1
  have H1 := HST.out w1 _ rfl hwa.symm
  clear HST hwa
  generalize w.heap.size + 1 = r at *
  obtain ⟨b, hb⟩ : ∃ g, w.heap.size = g := ⟨_, rfl⟩
  rw [hb] at H1 ⊢
  have HB := Lib.hid hb
  clear hb
  obtain ⟨_, _, _, _, c52⟩ := H1.cap.cells
  have f52 := H1.cap.frozen 52
  have HR := Lib.hid H1
  clear H1
  obtain ⟨m5, hm5⟩ : ∃ x, min n 80 = x := ⟨_, rfl⟩
  rw [hm5] at HCU HC5
  clear hm5
  go_upto_region 2 with (first | (with_reducible refine (HCU.out _).mono ?_; rintro e w2 ⟨rfl, rfl⟩))
  have H5 := HR.out.setLit (.slice A m5 cc) (c.lit.take 80)
  clear HR c52 f52
  generalize w1.setCell ⟨b, 52, none⟩ (.slice A m5 cc) = w5 at *
  have HR6 := Lib.hid (show CapR w w5 b r (cut13 c) (.slice A m5 cc) from H5)
  clear H5
  have HZ5 := Lib.hid (show C5.size = 53 by rw [← HC5.out]; exact capA_size HR6.out.cap.wf _)
  have HO5 := Lib.hid (show C5.all (·.oneCell') = true by rw [← HC5.out]; exact capA_one)
  obtain ⟨rs, hrs, hrz⟩ := HR6.out.res
  have HRS := Lib.hid hrs
  have HRZ := Lib.hid hrz
  clear hrs hrz
  go_wp2_with (first | (refine wpList_load_capC ?_ (.tmp 1) rfl b rfl HR6.out.cap HC5.out ?_; · rfl) | (with_reducible refine wpList_store_blkTo rfl 28 (.tmp 2) (.tmp 7) rfl rfl r C5 rfl rfl 28 rs HRS.out (by rw [HZ5.out]; kernel_rfl) (by rw [HZ5.out, HRZ.out]) HO5.out ?_))
  have hs := below_row (HR6.out.bel) (HR6.out.bel.size) HR6.out.ge' C5
  refine bodyPost_ret (v := .agg C5) (results_cell_row (p := 2) (ty := 28) (by kernel_rfl) _ _ r 28 _ (0, 0) _ rfl (HRS.out.row C5) Tryd.underlying28 rfl (by rw [HZ5.out]; kernel_rfl)) rfl ⟨rfl, by first | exact hs | (rw [← HB.out]; exact hs)⟩

theorem cv_valid {w : World} {B : Nat} {v : Value} {c : Cap13} (h : CapV w B v c) (hok : c.ok) : Calls Tryd.prog 39 #[v] w fun e w' => e = .returned (.bool true) ∧ Below w.heap.size w w' := by
  obtain ⟨h1, A, m, cc, rfl, h3, _, h5, _⟩ := h
  have := pvalid_any (cc := cc) h1 h3 h5
  rwa [decide_eq_true hok] at this
/-- A law's own variable at g holds the capability. -/
structure CapW (w0 W : World) (g : Nat) (c : Cap13) (A : Option Addr) (n cc : Nat) : Prop where
  cap : CapAt W g c (.slice A n cc)
  len : c.lit.length = n
  room : n ≤ cc
  lit : Rd W W.heap.size A c.lit
  bel : Below w0.heap.size w0 W
  ge : w0.heap.size ≤ g
theorem CapW.below {w0 W W' : World} {g : Nat} {c : Cap13} {A : Option Addr} {n cc : Nat} (h : CapW w0 W g c A n cc) (hb : Below W.heap.size W W') : CapW w0 W' g c A n cc :=
  ⟨h.cap.below hb, h.len, h.room, h.lit.on hb, h.bel.trans (hb.mono h.bel.size), h.ge⟩
theorem CapW.start {w : World} {c : Cap13} {A : Option Addr} {n cc : Nat} (hw : c.wf) (hn : c.lit.length = n) (hc : n ≤ cc) (hr : Rd w w.heap.size A c.lit) {CX : Array Value} (hCX : capA c (.slice A n cc) = CX) : CapW w (w.alloc (.cells CX 28)) w.heap.size c A n cc :=
  ⟨CapAt.new w _ hw hCX, hn, hc, hr.on ((Below.refl _ _).alloc (Nat.le_refl _) _), (Below.refl _ _).alloc (Nat.le_refl _) _, Nat.le_refl _⟩
/-- Its Lit is cut: what is told is stored back. -/
theorem CapW.cut {w0 W : World} {g : Nat} {c : Cap13} {A : Option Addr} {n cc : Nat} (h : CapW w0 W g c A n cc) (hr0 : Rd w0 w0.heap.size A c.lit) {C : Array Value} (hC : capA (cut13 c) (.slice A (min n 80) cc) = C) : CapW w0 (W.setRow g C) g (cut13 c) A (min n 80) cc := by
  have hb := below_row h.bel h.bel.size h.ge C
  refine ⟨⟨by rw [hC]; exact h.cap.blk.row C, h.cap.wf⟩, cut13_len h.len, by have := h.room; omega, ?_, hb, h.ge⟩
  exact (hr0.take 80).on hb
/-- What the law made of it is stored back. -/
theorem CapW.made {w0 W W' : World} {g : Nat} {c d : Cap13} {A A' : Option Addr} {n n' cc cc' : Nat} (h : CapW w0 W g c A n cc) (hb : Below W.heap.size W W') (hd : d.wf) (hl : d.lit.length = n') (hc : n' ≤ cc') (hr : Rd W' W'.heap.size A' d.lit) (ha : LitAt W.heap.size A' d.lit) {C : Array Value} (hC : capA d (.slice A' n' cc') = C) : CapW w0 (W'.setRow g C) g d A' n' cc' := by
  have h' := h.below hb
  have hlt := h.cap.lt
  refine ⟨⟨by rw [hC]; exact h'.cap.blk.row C, hd⟩, hl, hc, ?_, below_row h'.bel h'.bel.size h.ge C, h.ge⟩
  exact rd_keepB (B := W.heap.size) (fun j hj => setRow_other _ _ _ _ (by omega)) (by simp) hr ha
end Go.Proofs.YtkkokngdhhakdaaDoor
