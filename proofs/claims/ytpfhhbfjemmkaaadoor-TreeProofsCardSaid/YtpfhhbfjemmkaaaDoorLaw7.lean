/- What the statements of chapter 7 have in common. -/
import Derived.Test.YtpfhhbfjemmkaaaDoorLaw
import Derived.Test.YtpfhhbfjemmkaaaDoorHashB2
import Derived.Test.YtpfhhbfjemmkaaaDoorWakes7A
import Derived.Test.YtpfhhbfjemmkaaaDoorHashC
import Derived.Test.YtpfhhbfjemmkaaaDoorKeep
import Derived.Test.YtpfhhbfjemmkaaaDoorRTSame
namespace Go.Proofs.YtpfhhbfjemmkaaaDoor
open Go.ChangeShapes Go.WideShapes Go.ChangeAt Go.RowKit

theorem cut7 (A : Option Addr) (n c k : Nat) (K : Int) (hK : (k : Int) = K) (l : List (List UInt8)) (w : World) (hn : l.length = n) (hc : n ≤ c) (hl : ∀ r ∈ l, r.length = 32) (hr : RdH w w.heap.size A l) :
    ∃ z ks, (∀ W, Calls Tryd.prog 20 #[.slice A n c, .int .i64 K] W fun e W' => e = .returned (.slice A z c) ∧ W = W') ∧ ks.length = z ∧ z ≤ k ∧ z ≤ c ∧ (∀ r ∈ ks, r.length = 32) ∧ RdH w w.heap.size A ks :=
  ⟨min n k, l.take k, fun W => by rw [← hK]; exact cutH_any A n c k W hc, by rw [List.length_take, hn, Nat.min_comm], Nat.min_le_right _ _, Nat.le_trans (Nat.min_le_left _ _) hc, fun r hr => hl r (List.mem_of_mem_take hr), hr.take k⟩
/-- In a world that has grown. -/
theorem RdH.on {w w' : World} {A : Option Addr} {hs : List (List UInt8)} (h : RdH w w.heap.size A hs) (hb : Below w.heap.size w w') : RdH w' w'.heap.size A hs := (h.below hb (Nat.le_refl _)).more hb.size
theorem RdH.hv {w : World} {A : Option Addr} {n c : Nat} {hs : List (List UInt8)} (h : RdH w w.heap.size A hs) (hn : hs.length = n) (hc : n ≤ c) (hl : ∀ r ∈ hs, r.length = 32) : HV w (.slice A n c) hs := ⟨hl, A, c, by rw [hn], by rw [hn]; exact hc, h⟩
theorem HV.rd {w : World} {A : Option Addr} {n c : Nat} {hs : List (List UInt8)} (h : HV w (.slice A n c) hs) : RdH w w.heap.size A hs := by
  obtain ⟨_, X, d, e, _, h2⟩ := h
  injection e with e1 e2 e3
  subst e1
  exact h2
theorem tab_in {w w' : World} (h : Pow10 w.heap.size w) (hb : Below w.heap.size w w') : Pow10 w'.heap.size w' := tab_on h hb hb.size
end Go.Proofs.YtpfhhbfjemmkaaaDoor
