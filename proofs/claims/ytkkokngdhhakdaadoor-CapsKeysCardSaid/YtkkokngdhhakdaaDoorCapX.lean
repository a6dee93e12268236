/- The document's example of capabilities' texts; a capability as a promise of a drawn region. -/
import Derived.Test.YtkkokngdhhakdaaDoorCapW
import Derived.Test.YtkkokngdhhakdaaDoorFreeL
namespace Go.Proofs.YtkkokngdhhakdaaDoor
open Go.RowKit
set_option maxRecDepth 100000

def capLit0 : Cap13 := ⟨3, key0, hash0, 0, 0, 0, []⟩
theorem lit0_text : printV capLit0 = .tuple #[.string ⟨#[97, 117, 58, 108, 105, 116, 58]⟩, .int .i64 0] := by
  unfold printV
  rw [if_pos (show capLit0.ok by decide)]
  have : capLit0.text = [97, 117, 58, 108, 105, 116, 58] := by
    unfold Cap13.text
    rw [pieces_three rfl, show enc capLit0.lit = [] from encFrom_end 0]
    rfl
  rw [this]
set_option maxHeartbeats 1000000 in
theorem wakes13_any (w : World) (htab : Pow10 w.heap.size w) :
    Calls Tryd.prog 16 #[] w fun e w' => e = .returned (.bool true) ∧ Below w.heap.size w w' := by
  obtain ⟨CX, hCX⟩ : ∃ x, capA capLit0 (.slice none 0 0) = x := ⟨_, rfl⟩
  have HP := Lib.hid (fun (W : World) (hW : Below w.heap.size w W) => (show Calls Tryd.prog 30 #[.agg CX] W fun e w' => e = .returned (.tuple #[.string ⟨#[97, 117, 58, 108, 105, 116, 58]⟩, .int .i64 0]) ∧ Below W.heap.size W w' from by
    rw [← hCX, ← lit0_text]
    exact pprint_any (c := capLit0) ⟨rfl, rfl⟩ rfl (Nat.zero_le _) (.inl rfl) (tab_on htab hW hW.size)))
  have HCX := Lib.hid hCX
  clear hCX htab
  go_enter Tryd.func16, Tryd.ntmps16
  go_wp2_with (first
    | (refine wpList_build_C ?_ 28 #[(0, .const (.int .i64 3))] rfl [(0, .int .i64 3)] (by simp; rfl) CX _ (built_capK 3) HCX.out ?_; · rfl)
    | (with_reducible refine (HP.out _ (Below.refl _ _)).mono ?_; rintro e w2 ⟨rfl, hb2⟩))
  go_wp2_with fail
  go_ret
  exact ⟨rfl, hb2⟩
theorem ok_small {c : Cap13} {n : Nat} (h : c.ok) (hn : c.lit.length = n) : n ≤ 1000000 := by
  rw [← hn]
  by_cases hf : FileK c.kind
  · rw [(ok_fileK h hf).2.2.2.2.2]; exact Nat.zero_le _
  · by_cases h3 : c.kind = 3
    · have := ((ok_lit hn h3).1 h).1; omega
    · rw [ok_slotK h h3 hf]; exact Nat.zero_le _
theorem CapV.low {w : World} {B C : Nat} {v : Value} {c : Cap13} (h : CapV w B v c) (hC : C ≤ B) : CapV w C v c := by
  obtain ⟨h1, A, m, cc, h2, h3, h4, h5, h6⟩ := h
  exact ⟨h1, A, m, cc, h2, h3, h4, h5, h6.imp id fun h ad e => Nat.le_trans hC (h ad e)⟩
def Spec.cv (B : Nat) (c : Cap13) : Spec := .any (fun v w => CapV w B v c) (fun _ _ _ h hb => h.on hb)
end Go.Proofs.YtkkokngdhhakdaaDoor
