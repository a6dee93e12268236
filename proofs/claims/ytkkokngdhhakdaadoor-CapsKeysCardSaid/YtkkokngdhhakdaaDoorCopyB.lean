/- A copy whose spare bytes are known, and the spoiling of what is owned. -/
import Derived.Test.YtkkokngdhhakdaaDoorNetB
namespace Go.Proofs.YtkkokngdhhakdaaDoor
open Go.RowKit

set_option maxHeartbeats 400000 in
theorem copyB_any (A : Option Addr) (n c C : Nat) (l : List UInt8) (w : World) (hn : l.length = n) (h1 : n ≤ 1000000) (hr : Rd w C A l) :
    Calls Tryd.prog 43 #[.slice A n c] w fun e w' => ∃ A' c', e = .returned (.slice A' n c') ∧ n ≤ c' ∧ OwnB w' w.heap.size 5 (.slice A' n c') n l ∧ Below w.heap.size w w' := by
  obtain ⟨i0, hi, hz0, hz1, hz2⟩ := info_parts info5
  have HN := Lib.hid hn
  clear hn
  go_enter Tryd.func43, Tryd.ntmps43
  go_wp2_with (at_builtin; refine wpList_append_B rfl _ _ 26 26 rfl w.heap.size 5 i0 Tryd.underlying26 hi hz0 hz1 hz2 _ 0 [] rfl (OwnB.nil _ _ _) _ rfl n l HN.out (Src.ofRd Tryd.underlying26 C A n c l HN.out hr) (by omega) (Nat.le_refl _) ?_)
  intro v1 w1 hown1 hg1
  have hb1 : Below w.heap.size w w1 := (Below.refl _ _).grown hg1 (Nat.le_refl _) (by simp [Value.ownBlock])
  have h2 : OwnB w1 w.heap.size 5 v1 n l := by simpa using hown1
  obtain ⟨A', c', rfl, hc1, hc2⟩ := own_caps h2.own
  have HO := Lib.hid h2
  clear hown1 hg1 h2
  go_wp2_with fail
  go_ret
  exact ⟨A', c', rfl, hc1, HO.out, hb1⟩


end Go.Proofs.YtkkokngdhhakdaaDoor
