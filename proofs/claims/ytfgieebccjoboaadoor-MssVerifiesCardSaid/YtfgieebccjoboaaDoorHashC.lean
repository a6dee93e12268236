/- Rows of hashes cut, and copied. -/
import Derived.Test.YtfgieebccjoboaaDoorHashB2
namespace Go.Proofs.YtfgieebccjoboaaDoor
open Go.RowKit

set_option maxHeartbeats 400000 in
theorem cutH_any (A : Option Addr) (n c k : Nat) (w : World) (hc : n ≤ c) :
    Calls Tryd.prog 29 #[.slice A n c, .int .i64 (k : Int)] w fun e w' => e = .returned (.slice A (min n k) c) ∧ w = w' := by
  by_cases hle : n ≤ k
  · have HR := Lib.hid (show min n k = n from Nat.min_eq_left hle)
    rw [HR.out]
    go_enter Tryd.func29, Tryd.ntmps29
    go_wp2
    go_ret
    exact ⟨rfl, rfl⟩
  · have HR := Lib.hid (show min n k = k from Nat.min_eq_right (by omega))
    rw [HR.out]
    go_enter Tryd.func29, Tryd.ntmps29
    go_wp2
    go_ret
    exact ⟨rfl, rfl⟩
theorem cutHV {w : World} {A : Option Addr} {n c k : Nat} {hs : List (List UInt8)} (h : HV w (.slice A n c) hs) (hn : hs.length = n) : HV w (.slice A (min n k) c) (hs.take k) := by
  obtain ⟨hl, X, c', e, h2, h3⟩ := h
  injection e with e1 e2 e3
  subst e1 e2 e3
  exact ⟨fun r hr => hl r (List.mem_of_mem_take hr), A, c, by rw [List.length_take, Nat.min_comm], by rw [List.length_take]; omega, h3.take k⟩
set_option maxHeartbeats 400000 in
theorem copyH_any (A : Option Addr) (n c C : Nat) (hs : List (List UInt8)) (w : World) (hn : hs.length = n) (h1 : n ≤ 100000) (hl : ∀ r ∈ hs, r.length = 32) (hr : RdH w C A hs) :
    Calls Tryd.prog 62 #[.slice A n c] w fun e w' => ∃ v, e = .returned v ∧ OwnH w' w.heap.size v hs ∧ Below w.heap.size w w' := by
  have HN := Lib.hid hn
  clear hn
  go_enter Tryd.func62, Tryd.ntmps62
  go_wp2_with (at_builtin; refine wpList_append_hashes rfl _ _ rfl w.heap.size (.slice none 0 0) [] rfl (OwnH.nil _ _) C A n c hs rfl HN.out hl hr (by simp; omega) (Nat.le_refl _) ?_)
  intro v1 w1 hown1 hb1
  have h2 : OwnH w1 w.heap.size v1 hs := by simpa using hown1
  obtain ⟨A', c', rfl, hc1, hc2⟩ := h2.form HN.out
  have HO := Lib.hid h2
  clear hown1 h2
  go_wp2_with fail
  go_ret
  exact ⟨_, rfl, HO.out, hb1⟩
end Go.Proofs.YtfgieebccjoboaaDoor
