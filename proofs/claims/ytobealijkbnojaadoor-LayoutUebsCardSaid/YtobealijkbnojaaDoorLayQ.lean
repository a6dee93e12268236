/- The document's layouts and versions as bytes. -/
import Derived.Test.YtobealijkbnojaaDoorLayA
import Derived.Deep.CutRange
import Derived.Test.YtobealijkbnojaaDoorLayN
namespace Go.Proofs.YtobealijkbnojaaDoor
open Go.RowKit
set_option maxRecDepth 100000

set_option maxHeartbeats 8000000 in
theorem rpackU_any {w : World} {u : F14} (hw : u.wf 32) (hb : u.bd) :
    Calls Tryd.prog 19 #[.agg (f14A u)] w fun e w' => ∃ A c, e = .returned (.slice A (packU u).length c) ∧ (packU u).length ≤ c ∧ Rd w' w'.heap.size A (packU u) ∧ Below w.heap.size w w' := by
  obtain ⟨CX, hCX⟩ : ∃ x, f14A u = x := ⟨_, rfl⟩
  have HC0 := FAt.new (T := 40) w hw hCX
  rw [hCX]
  have HAL := Lib.hid (show Below w.heap.size w (w.alloc (.cells CX 40)) from (Below.refl _ _).alloc (Nat.le_refl _) _)
  obtain ⟨va, hva⟩ : ∃ x, u.a = x := ⟨_, rfl⟩
  obtain ⟨vb, hvb⟩ : ∃ x, u.b = x := ⟨_, rfl⟩
  obtain ⟨vc, hvc⟩ : ∃ x, u.c = x := ⟨_, rfl⟩
  obtain ⟨vd, hvd⟩ : ∃ x, u.d = x := ⟨_, rfl⟩
  have HBD := Lib.hid hb
  rw [F14.bd, hva, hvb, hvc, hvd] at hb
  have HPa := Lib.hid (fun W => show Calls Tryd.prog 55 #[.int .i64 va, .int .i64 1] W fun e w' => ∃ A c, e = .returned (.slice A 1 c) ∧ BV14 w' A 1 c (putB va 1) ∧ Below W.heap.size W w' from rput14 va 1 (by omega) W hb.1.2)
  have HPb := Lib.hid (fun W => show Calls Tryd.prog 55 #[.int .i64 vb, .int .i64 1] W fun e w' => ∃ A c, e = .returned (.slice A 1 c) ∧ BV14 w' A 1 c (putB vb 1) ∧ Below W.heap.size W w' from rput14 vb 1 (by omega) W hb.2.1.2)
  have HPc := Lib.hid (fun W => show Calls Tryd.prog 55 #[.int .i64 vc, .int .i64 4] W fun e w' => ∃ A c, e = .returned (.slice A 4 c) ∧ BV14 w' A 4 c (putB vc 4) ∧ Below W.heap.size W w' from rput14 vc 4 (by omega) W hb.2.2.1.2)
  have HPd := Lib.hid (fun W => show Calls Tryd.prog 55 #[.int .i64 vd, .int .i64 4] W fun e w' => ∃ A c, e = .returned (.slice A 4 c) ∧ BV14 w' A 4 c (putB vd 4) ∧ Below W.heap.size W w' from rput14 vd 4 (by omega) W hb.2.2.2.2)
  obtain ⟨RS, hRS⟩ : ∃ x, u.rows wsU = x := ⟨_, rfl⟩
  have HRS := Lib.hid (show [putB va 1, putB vb 1, putB vc 4, putB vd 4, u.x, u.y] = RS by rw [← hRS, ← hva, ← hvb, ← hvc, ← hvd]; rfl)
  have hsh : ∀ r ∈ u.rows wsU, r.length ≤ 1000 := fun r hr => by
    have h1 := hw.1
    have h2 := hw.2
    simp only [F14.rows, List.mem_cons, List.not_mem_nil, or_false] at hr
    rcases hr with rfl | rfl | rfl | rfl | rfl | rfl <;> first | (simp only [putL_length, wsU]; omega) | omega
  have HN := Lib.hid (fun (g : Nat) (W : World) (hr : RdR W W.heap.size (some ⟨g, 0, none⟩) RS) => (show Calls Tryd.prog 54 #[.slice (some ⟨g, 0, none⟩) 6 6] W fun e w' => ∃ A c, e = .returned (.slice A (packU u).length c) ∧ (packU u).length ≤ c ∧ Rd w' w'.heap.size A (packU u) ∧ Below W.heap.size W w' from rnets_any (some ⟨g, 0, none⟩) 6 6 (u.rows wsU) W rfl (by omega) hsh (by rw [hRS]; exact hr)))
  generalize packU u = PK at *
  have HW := Lib.hid hw
  clear hRS hsh hCX hw hb
  go_enter Tryd.func19, Tryd.ntmps19
  go_upto_region 1 with fail
  obtain ⟨b, hb⟩ : ∃ g, w.heap.size = g := ⟨_, rfl⟩
  rw [hb] at HC0 ⊢
  generalize w.alloc (.cells CX 40) = w1 at *
  obtain ⟨q0, q1, q2, q3⟩ := HC0.cells
  rw [hva] at q0
  rw [hvb] at q1
  rw [hvc] at q2
  rw [hvd] at q3
  have HKEEP := Lib.hid (fun (W : World) (h : Below w1.heap.size w1 W) => (show W.cell? ⟨b, 0, none⟩ = some (.int .i64 va) ∧ W.cell? ⟨b, 1, none⟩ = some (.int .i64 vb) ∧ W.cell? ⟨b, 2, none⟩ = some (.int .i64 vc) ∧ W.cell? ⟨b, 3, none⟩ = some (.int .i64 vd) ∧ Below w1.heap.size w1 W from
    ⟨(h.cell HC0.lt).trans q0, (h.cell HC0.lt).trans q1, (h.cell HC0.lt).trans q2, (h.cell HC0.lt).trans q3, h⟩))
  have HRX := Lib.hid (fun (W : World) (h : Below w1.heap.size w1 W) => (show BV14 W (some ⟨b, 4, none⟩) 32 32 u.x ∧ BV14 W (some ⟨b, 36, none⟩) 32 32 u.y from
    ⟨⟨HW.out.1, Nat.le_refl _, by decide, (HC0.below h).rdX⟩, ⟨HW.out.2, Nat.le_refl _, by decide, (HC0.below h).rdY⟩⟩))
  clear q0 q1 q2 q3 hva hvb hvc hvd HC0 HW HBD hb
  generalize u.x = ux at *
  generalize u.y = uy at *
  have hcd : Below w1.heap.size w1 w1 := Below.refl _ _
  go_region_held3 (fun W => W.cell? ⟨b, 0, none⟩ = some (.int .i64 va) ∧ W.cell? ⟨b, 1, none⟩ = some (.int .i64 vb) ∧ W.cell? ⟨b, 2, none⟩ = some (.int .i64 vc) ∧ W.cell? ⟨b, 3, none⟩ = some (.int .i64 vd) ∧ Below w1.heap.size w1 W)
    ((first | exact HKEEP.out _ ‹_› | exact HKEEP.out _ (Below.drew ‹_›) | exact HKEEP.out _ (below_drewN ‹_› _) | (refine HKEEP.out _ (Below.alloc ?_ ?_ _) <;> first | assumption | exact Below.size (by assumption))))
    ((first
      | (go_at_call 55; with_reducible refine (HPa.out _).mono ?_; rintro e Wa ⟨Aa, ca, rfl, ha, hba⟩; have hca : Below w1.heap.size w1 Wa := by (refine Below.then ?_ hba; first | assumption | exact Below.drew (by assumption) | exact below_drewN (by assumption) _))
      | (go_at_call 55; with_reducible refine (HPb.out _).mono ?_; rintro e Wb ⟨Ab, cb, rfl, hb, hbb⟩; have hcb : Below w1.heap.size w1 Wb := by (refine Below.then ?_ hbb; first | assumption | exact Below.drew (by assumption) | exact below_drewN (by assumption) _))
      | (go_at_call 55; with_reducible refine (HPc.out _).mono ?_; rintro e Wc ⟨Ac, cc, rfl, hc, hbc⟩; have hcc : Below w1.heap.size w1 Wc := by (refine Below.then ?_ hbc; first | assumption | exact Below.drew (by assumption) | exact below_drewN (by assumption) _))
      | (go_at_call 55; with_reducible refine (HPd.out _).mono ?_; rintro e Wd ⟨Ad, cd, rfl, hd, hbd⟩; have hcd : Below w1.heap.size w1 Wd := by (refine Below.then ?_ hbd; first | assumption | exact Below.drew (by assumption) | exact below_drewN (by assumption) _))
      | (go_at_call 54; have hrr := rdr_six _ (((ha.on hbb).on hbc).on hbd) ((hb.on hbc).on hbd) (hc.on hbd) hd (HRX.out _ hcd).1 (HRX.out _ hcd).2; rw [HRS.out] at hrr; have hwd := (HAL.out.trans (hcd.mono HAL.out.size)).alloc (Nat.le_trans HAL.out.size hcd.size) (.cells #[.slice Aa 1 ca, .slice Ab 1 cb, .slice Ac 4 cc, .slice Ad 4 cd, .slice (some ⟨b, 4, none⟩) 32 32, .slice (some ⟨b, 36, none⟩) 32 32] 24); refine (HN.out _ _ hrr).mono ?_; rintro e We ⟨Ae, ce, rfl, hle, hre, hbe⟩; have hfin : Below w.heap.size w We := hwd.trans (hbe.mono hwd.size); have hce : Below w1.heap.size w1 We := by (refine Below.then (Below.alloc hcd hcd.size _) hbe))))
  clear HN HPa HPb HPc HPd HKEEP HRX HRS
  go_wp2_with fail
  go_ret
  exact ⟨_, _, rfl, hle, hre, hfin⟩

set_option maxHeartbeats 8000000 in
theorem rpackV_any {w : World} {u : F14} (hw : u.wf 16) (hb : u.bd) :
    Calls Tryd.prog 31 #[.agg (f14A u)] w fun e w' => ∃ A c, e = .returned (.slice A (packV u).length c) ∧ (packV u).length ≤ c ∧ Rd w' w'.heap.size A (packV u) ∧ Below w.heap.size w w' := by
  obtain ⟨CX, hCX⟩ : ∃ x, f14A u = x := ⟨_, rfl⟩
  have HC0 := FAt.new (T := 57) w hw hCX
  rw [hCX]
  have HAL := Lib.hid (show Below w.heap.size w (w.alloc (.cells CX 57)) from (Below.refl _ _).alloc (Nat.le_refl _) _)
  obtain ⟨va, hva⟩ : ∃ x, u.a = x := ⟨_, rfl⟩
  obtain ⟨vb, hvb⟩ : ∃ x, u.b = x := ⟨_, rfl⟩
  obtain ⟨vc, hvc⟩ : ∃ x, u.c = x := ⟨_, rfl⟩
  obtain ⟨vd, hvd⟩ : ∃ x, u.d = x := ⟨_, rfl⟩
  have HBD := Lib.hid hb
  rw [F14.bd, hva, hvb, hvc, hvd] at hb
  have HPa := Lib.hid (fun W => show Calls Tryd.prog 55 #[.int .i64 va, .int .i64 4] W fun e w' => ∃ A c, e = .returned (.slice A 4 c) ∧ BV14 w' A 4 c (putB va 4) ∧ Below W.heap.size W w' from rput14 va 4 (by omega) W hb.1.2)
  have HPb := Lib.hid (fun W => show Calls Tryd.prog 55 #[.int .i64 vb, .int .i64 1] W fun e w' => ∃ A c, e = .returned (.slice A 1 c) ∧ BV14 w' A 1 c (putB vb 1) ∧ Below W.heap.size W w' from rput14 vb 1 (by omega) W hb.2.1.2)
  have HPc := Lib.hid (fun W => show Calls Tryd.prog 55 #[.int .i64 vc, .int .i64 1] W fun e w' => ∃ A c, e = .returned (.slice A 1 c) ∧ BV14 w' A 1 c (putB vc 1) ∧ Below W.heap.size W w' from rput14 vc 1 (by omega) W hb.2.2.1.2)
  have HPd := Lib.hid (fun W => show Calls Tryd.prog 55 #[.int .i64 vd, .int .i64 4] W fun e w' => ∃ A c, e = .returned (.slice A 4 c) ∧ BV14 w' A 4 c (putB vd 4) ∧ Below W.heap.size W w' from rput14 vd 4 (by omega) W hb.2.2.2.2)
  obtain ⟨RS, hRS⟩ : ∃ x, u.rows wsV = x := ⟨_, rfl⟩
  have HRS := Lib.hid (show [putB va 4, putB vb 1, putB vc 1, putB vd 4, u.x, u.y] = RS by rw [← hRS, ← hva, ← hvb, ← hvc, ← hvd]; rfl)
  have hsh : ∀ r ∈ u.rows wsV, r.length ≤ 1000 := fun r hr => by
    have h1 := hw.1
    have h2 := hw.2
    simp only [F14.rows, List.mem_cons, List.not_mem_nil, or_false] at hr
    rcases hr with rfl | rfl | rfl | rfl | rfl | rfl <;> first | (simp only [putL_length, wsV]; omega) | omega
  have HN := Lib.hid (fun (g : Nat) (W : World) (hr : RdR W W.heap.size (some ⟨g, 0, none⟩) RS) => (show Calls Tryd.prog 54 #[.slice (some ⟨g, 0, none⟩) 6 6] W fun e w' => ∃ A c, e = .returned (.slice A (packV u).length c) ∧ (packV u).length ≤ c ∧ Rd w' w'.heap.size A (packV u) ∧ Below W.heap.size W w' from rnets_any (some ⟨g, 0, none⟩) 6 6 (u.rows wsV) W rfl (by omega) hsh (by rw [hRS]; exact hr)))
  generalize packV u = PK at *
  have HW := Lib.hid hw
  clear hRS hsh hCX hw hb
  go_enter Tryd.func31, Tryd.ntmps31
  go_upto_region 1 with fail
  obtain ⟨b, hb⟩ : ∃ g, w.heap.size = g := ⟨_, rfl⟩
  rw [hb] at HC0 ⊢
  generalize w.alloc (.cells CX 57) = w1 at *
  obtain ⟨q0, q1, q2, q3⟩ := HC0.cells
  rw [hva] at q0
  rw [hvb] at q1
  rw [hvc] at q2
  rw [hvd] at q3
  have HKEEP := Lib.hid (fun (W : World) (h : Below w1.heap.size w1 W) => (show W.cell? ⟨b, 0, none⟩ = some (.int .i64 va) ∧ W.cell? ⟨b, 1, none⟩ = some (.int .i64 vb) ∧ W.cell? ⟨b, 2, none⟩ = some (.int .i64 vc) ∧ W.cell? ⟨b, 3, none⟩ = some (.int .i64 vd) ∧ Below w1.heap.size w1 W from
    ⟨(h.cell HC0.lt).trans q0, (h.cell HC0.lt).trans q1, (h.cell HC0.lt).trans q2, (h.cell HC0.lt).trans q3, h⟩))
  have HRX := Lib.hid (fun (W : World) (h : Below w1.heap.size w1 W) => (show BV14 W (some ⟨b, 4, none⟩) 16 16 u.x ∧ BV14 W (some ⟨b, 20, none⟩) 32 32 u.y from
    ⟨⟨HW.out.1, Nat.le_refl _, by decide, (HC0.below h).rdX⟩, ⟨HW.out.2, Nat.le_refl _, by decide, (HC0.below h).rdY⟩⟩))
  clear q0 q1 q2 q3 hva hvb hvc hvd HC0 HW HBD hb
  generalize u.x = ux at *
  generalize u.y = uy at *
  have hcd : Below w1.heap.size w1 w1 := Below.refl _ _
  go_region_held3 (fun W => W.cell? ⟨b, 0, none⟩ = some (.int .i64 va) ∧ W.cell? ⟨b, 1, none⟩ = some (.int .i64 vb) ∧ W.cell? ⟨b, 2, none⟩ = some (.int .i64 vc) ∧ W.cell? ⟨b, 3, none⟩ = some (.int .i64 vd) ∧ Below w1.heap.size w1 W)
    ((first | exact HKEEP.out _ ‹_› | exact HKEEP.out _ (Below.drew ‹_›) | exact HKEEP.out _ (below_drewN ‹_› _) | (refine HKEEP.out _ (Below.alloc ?_ ?_ _) <;> first | assumption | exact Below.size (by assumption))))
    ((first
      | (go_at_call 55; with_reducible refine (HPa.out _).mono ?_; rintro e Wa ⟨Aa, ca, rfl, ha, hba⟩; have hca : Below w1.heap.size w1 Wa := by (refine Below.then ?_ hba; first | assumption | exact Below.drew (by assumption) | exact below_drewN (by assumption) _))
      | (go_at_call 55; with_reducible refine (HPb.out _).mono ?_; rintro e Wb ⟨Ab, cb, rfl, hb, hbb⟩; have hcb : Below w1.heap.size w1 Wb := by (refine Below.then ?_ hbb; first | assumption | exact Below.drew (by assumption) | exact below_drewN (by assumption) _))
      | (go_at_call 55; with_reducible refine (HPc.out _).mono ?_; rintro e Wc ⟨Ac, cc, rfl, hc, hbc⟩; have hcc : Below w1.heap.size w1 Wc := by (refine Below.then ?_ hbc; first | assumption | exact Below.drew (by assumption) | exact below_drewN (by assumption) _))
      | (go_at_call 55; with_reducible refine (HPd.out _).mono ?_; rintro e Wd ⟨Ad, cd, rfl, hd, hbd⟩; have hcd : Below w1.heap.size w1 Wd := by (refine Below.then ?_ hbd; first | assumption | exact Below.drew (by assumption) | exact below_drewN (by assumption) _))
      | (go_at_call 54; have hrr := rdr_six _ (((ha.on hbb).on hbc).on hbd) ((hb.on hbc).on hbd) (hc.on hbd) hd (HRX.out _ hcd).1 (HRX.out _ hcd).2; rw [HRS.out] at hrr; have hwd := (HAL.out.trans (hcd.mono HAL.out.size)).alloc (Nat.le_trans HAL.out.size hcd.size) (.cells #[.slice Aa 4 ca, .slice Ab 1 cb, .slice Ac 1 cc, .slice Ad 4 cd, .slice (some ⟨b, 4, none⟩) 16 16, .slice (some ⟨b, 20, none⟩) 32 32] 24); refine (HN.out _ _ hrr).mono ?_; rintro e We ⟨Ae, ce, rfl, hle, hre, hbe⟩; have hfin : Below w.heap.size w We := hwd.trans (hbe.mono hwd.size); have hce : Below w1.heap.size w1 We := by (refine Below.then (Below.alloc hcd hcd.size _) hbe))))
  clear HN HPa HPb HPc HPd HKEEP HRX HRS
  go_wp2_with fail
  go_ret
  exact ⟨_, _, rfl, hle, hre, hfin⟩
end Go.Proofs.YtobealijkbnojaaDoor
