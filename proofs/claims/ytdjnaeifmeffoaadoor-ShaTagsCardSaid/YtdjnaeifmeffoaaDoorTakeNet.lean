/- TakeNet and TakeNets of the program hand the rows out in new memory. -/
import Derived.Test.YtdjnaeifmeffoaaDoorCutNet
import Derived.Test.YtdjnaeifmeffoaaDoorCopyRows
import Derived.Test.YtdjnaeifmeffoaaDoorShelf
namespace Go.Proofs.YtdjnaeifmeffoaaDoor
open Go.RowKit

/-- bytes.Clone of any bytes: the same bytes in new memory. -/
theorem clone_any (A : Option Addr) (n c C : Nat) (l : List UInt8) (w : World) (hn : l.length = n) (h1 : n ≤ 1000000) (hr : Rd w C A l) :
    Calls Tryd.prog 28 #[.slice A n c] w fun e w' => ∃ A' c', e = .returned (.slice A' n c') ∧ n ≤ c' ∧ c' ≤ maxLen ∧ w'.ownsRow w.heap.size 5 1 (.slice A' n c') n (Lib.byteCells l) ∧ Below w.heap.size w w' := by
  cases A with
  | none =>
    have h0 : l = [] := by
      rcases hr with rfl | ⟨b, off, e, _⟩
      · rfl
      · cases e
    subst h0
    subst hn
    refine (Tryd.bytes_Clone_nil _ c w).mono ?_
    rintro e w' ⟨rfl, rfl⟩
    exact ⟨none, 0, rfl, Nat.le_refl _, Nat.zero_le _, World.ownsRow_nil _ _ _ _, Below.refl _ _⟩
  | some ad =>
    have hcl := Tryd.bytes_Clone_at ad n c (l.map fun b => (b.toNat : Int)) w (by simpa using hn) (by omega) (fun i hi => by
      have hil : i < l.length := by omega
      rw [hr.cells i (.int .u8 (l[i].toNat : Int)) (by unfold Lib.byteCells; rw [List.getElem?_map, List.getElem?_eq_getElem hil]; rfl), List.getD_eq_getElem?_getD, List.getElem?_map, List.getElem?_eq_getElem hil]
      rfl)
    refine hcl.mono ?_
    rintro e w' ⟨v', rfl, hown, _, hb⟩
    have h2 : w'.ownsRow w.heap.size 5 1 v' n (Lib.byteCells l) := by
      unfold Lib.byteCells
      simpa [List.map_map, Function.comp_def] using hown
    obtain ⟨A', c', rfl, hc1, hc2⟩ := own_caps h2
    exact ⟨A', c', rfl, hc1, hc2, h2, hb⟩

end Go.Proofs.YtdjnaeifmeffoaaDoor
