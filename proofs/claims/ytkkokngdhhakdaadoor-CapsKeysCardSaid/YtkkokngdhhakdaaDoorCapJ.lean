/- What leads from more to less: the capabilities that ReadOnly, VerifyOnly and Index tell of one that may be. Mathematics alone. -/
import Derived.Test.YtkkokngdhhakdaaDoorCapI
import Derived.Test.YtkkokngdhhakdaaDoorCapY
namespace Go.Proofs.YtkkokngdhhakdaaDoor
open Go.RowKit

theorem ok_nine {c : Cap13} (h : c.ok) : c.kind = 1 ∨ c.kind = 2 ∨ c.kind = 3 ∨ c.kind = 4 ∨ c.kind = 5 ∨ c.kind = 6 ∨ c.kind = 7 ∨ c.kind = 8 ∨ c.kind = 9 := by
  have := Cap13.ok_kind h
  omega
theorem ok_move {c : Cap13} {k : Int} {key : List UInt8} (h : c.ok) (h3 : c.kind ≠ 3) (hf : FileK c.kind ↔ FileK k) (hk : k ≠ 3) (h4 : 1 ≤ k ∧ k ≤ 9) : ({ c with kind := k, key := key } : Cap13).ok := by
  unfold Cap13.ok at h ⊢
  dsimp only
  by_cases h1 : FileK c.kind
  · rw [if_pos h1] at h
    rw [if_pos (hf.1 h1)]
    exact h
  · rw [if_neg h1, if_neg h3] at h
    have h2 : ¬ FileK k := fun h' => h1 (hf.2 h')
    rw [if_neg h2, if_neg hk]
    refine ⟨⟨?_, h4.2⟩, h.2⟩
    unfold FileK at h2
    omega
theorem vo13_ok {c : Cap13} (h : idxOK c) : (vo13 c).ok := by
  obtain ⟨h, h3⟩ := h
  unfold vo13
  refine ok_move h h3 ?_ ?_ ?_ <;> (rcases ok_nine h with e | e | e | e | e | e | e | e | e <;> first | exact absurd e h3 | (rw [e]; decide))
theorem vo13_ver {c : Cap13} (h : idxOK c) : VerK (vo13 c).kind := by
  obtain ⟨h, h3⟩ := h
  show VerK (verK c.kind)
  rcases ok_nine h with e | e | e | e | e | e | e | e | e <;> first | exact absurd e h3 | (rw [e]; decide)
theorem vo13_reads {c : Cap13} (h : idxOK c) : ¬ (vo13 c).reads := fun h' => h'.2 (vo13_ver h)
theorem vo13_writes {c : Cap13} (h : idxOK c) : ¬ (vo13 c).writes := fun h' => by
  have h1 := vo13_ver h
  have h2 := h'.2
  unfold VerK at h1
  unfold WriK at h2
  omega
theorem vo13_idxOK {c : Cap13} (h : idxOK c) : idxOK (vo13 c) := ⟨vo13_ok h, fun h' => by
  have h1 := vo13_ver h
  unfold VerK at h1
  omega⟩
theorem idx13_ver {c : Cap13} (h : ¬ c.reads) : idx13 c = c.key := by unfold idx13; rw [if_neg h]
theorem idx13_vo {c : Cap13} (h : idxOK c) : idx13 (vo13 c) = idx13 c := idx13_ver (vo13_reads h)
theorem vo13_same {c : Cap13} (h : idxOK c) (hr : ¬ c.reads) : vo13 c = c := by
  have hk : verK c.kind = c.kind := by
    obtain ⟨h, h3⟩ := h
    have hv : VerK c.kind := Classical.byContradiction fun h' => hr ⟨h, h'⟩
    rcases hv with e | e | e <;> (rw [e]; decide)
  unfold vo13
  rw [hk, idx13_ver hr]
theorem readK_same {k : Int} (h : ¬ WriK k) : readK k = k := by
  unfold WriK at h
  unfold readK
  rw [if_neg (fun h' => h (.inl h')), if_neg (fun h' => h (.inr h'))]
theorem ro13_same {c : Cap13} (h : ¬ WriK c.kind) : ro13 c = c := by
  unfold ro13
  rw [readK_same h, if_neg (fun h' => h h'.2)]
theorem ro13_kind {c : Cap13} (h : c.reads) : (ro13 c).ok ∧ ¬ VerK (ro13 c).kind ∧ ¬ WriK (ro13 c).kind ∧ verK (ro13 c).kind = verK c.kind := by
  obtain ⟨h, hv⟩ := h
  by_cases h3 : c.kind = 3
  · have e : ro13 c = c := ro13_same (by rw [h3]; decide)
    rw [e, h3]
    exact ⟨h, by decide, by decide, rfl⟩
  · refine ⟨?_, ?_⟩
    · unfold ro13
      refine ok_move h h3 ?_ ?_ ?_ <;> (rcases ok_nine h with e | e | e | e | e | e | e | e | e <;> first | exact absurd e h3 | (rw [e]; decide))
    · show ¬ VerK (readK c.kind) ∧ ¬ WriK (readK c.kind) ∧ verK (readK c.kind) = verK c.kind
      rcases ok_nine h with e | e | e | e | e | e | e | e | e <;> first | exact absurd e h3 | (rw [e] at hv ⊢; revert hv; decide)
theorem ro13_reads {c : Cap13} (h : c.reads) : (ro13 c).reads := ⟨(ro13_kind h).1, (ro13_kind h).2.1⟩
theorem ro13_writes {c : Cap13} (h : c.reads) : ¬ (ro13 c).writes := fun h' => (ro13_kind h).2.2.1 h'.2
theorem ro13_twice {c : Cap13} (h : c.reads) : ro13 (ro13 c) = ro13 c := ro13_same (ro13_kind h).2.2.1
theorem ro13_three {c : Cap13} (h3 : c.kind = 3) : ro13 c = c := ro13_same (by rw [h3]; decide)
theorem idx13_ro {c : Cap13} (h : c.reads) : idx13 (ro13 c) = idx13 c := by
  unfold idx13
  rw [if_pos h, if_pos (ro13_reads h), ro13_twice h]
theorem vo13_ro {c : Cap13} (h : c.reads) : vo13 (ro13 c) = vo13 c := by
  have e1 := idx13_ro h
  have e2 := (ro13_kind h).2.2.2
  unfold vo13
  rw [e1, e2]
  rfl
theorem ro13_idxOK {c : Cap13} (h : idxOK c) (hr : c.reads) : idxOK (ro13 c) := ⟨(ro13_kind hr).1, fun h' => by
  have h3 := h.2
  have h4 : readK c.kind = 3 := h'
  unfold readK at h4
  split at h4
  · omega
  · split at h4 <;> omega⟩
/-- What was told is stored in a variable that is new. -/
theorem CapW.fresh {w0 w : World} {c : Cap13} {A : Option Addr} {n cc : Nat} (hb : Below w0.heap.size w0 w) (hw : c.wf) (hn : c.lit.length = n) (hc : n ≤ cc) (hr : Rd w w.heap.size A c.lit) (Y : Array Value) {C : Array Value} (hC : capA c (.slice A n cc) = C) :
    CapW w0 ((w.alloc (.cells Y 28)).setRow w.heap.size C) w.heap.size c A n cc ∧ Below w.heap.size w ((w.alloc (.cells Y 28)).setRow w.heap.size C) := by
  have h1 : Below w.heap.size w ((w.alloc (.cells Y 28)).setRow w.heap.size C) := below_row ((Below.refl _ _).alloc (Nat.le_refl _) _) (by simp) (Nat.le_refl _) _
  refine ⟨⟨⟨?_, hw⟩, hn, hc, hr.on h1, hb.trans (h1.mono hb.size), hb.size⟩, h1⟩
  rw [hC]
  exact (Blk.new w Y _).row C
/-- So is a key. -/
theorem key_fresh {w : World} (Y K : Array Value) :
    Blk ((w.alloc (.cells Y 23)).setRow w.heap.size K) w.heap.size K 23 ∧ Below w.heap.size w ((w.alloc (.cells Y 23)).setRow w.heap.size K) :=
  ⟨(Blk.new w Y _).row K, below_row ((Below.refl _ _).alloc (Nat.le_refl _) _) (by simp) (Nat.le_refl _) _⟩
end Go.Proofs.YtkkokngdhhakdaaDoor
