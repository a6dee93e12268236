/- A copy whose spare bytes are known, and the spoiling of what is owned. -/
import Derived.Test.YtcajlmlblkdjoaaRNets
namespace Go.Proofs.Ytcajlmlblkdjoaa
open Go.RowKit

set_option maxHeartbeats 400000 in
theorem copyB_any (A : Option Addr) (n c C : Nat) (l : List UInt8) (w : World) (hn : l.length = n) (h1 : n ≤ 1000000) (hr : Rd w C A l) :
    Calls Try.prog 22 #[.slice A n c] w fun e w' => ∃ A' c', e = .returned (.slice A' n c') ∧ n ≤ c' ∧ OwnB w' w.heap.size 5 (.slice A' n c') n l ∧ Below w.heap.size w w' := by
  obtain ⟨i0, hi, hz0, hz1, hz2⟩ := info_parts info5
  have HN := Lib.hid hn
  clear hn
  go_enter Try.func22, Try.ntmps22
  go_wp2_with (at_builtin; refine wpList_append_B rfl _ _ 24 24 rfl w.heap.size 5 i0 Try.underlying24 hi hz0 hz1 hz2 _ 0 [] rfl (OwnB.nil _ _ _) _ rfl n l HN.out (Src.ofRd Try.underlying24 C A n c l HN.out hr) (by omega) (Nat.le_refl _) ?_)
  intro v1 w1 hown1 hg1
  have hb1 : Below w.heap.size w w1 := (Below.refl _ _).grown hg1 (Nat.le_refl _) (by simp [Value.ownBlock])
  have h2 : OwnB w1 w.heap.size 5 v1 n l := by simpa using hown1
  obtain ⟨A', c', rfl, hc1, hc2⟩ := own_caps h2.own
  have HO := Lib.hid h2
  clear hown1 hg1 h2
  go_wp2_with fail
  go_ret
  exact ⟨A', c', rfl, hc1, HO.out, hb1⟩

set_option maxHeartbeats 400000 in
theorem spoil_nil (B : Nat) (w : World) :
    Calls Try.prog 20 #[.slice none 0 0] w fun e w' => e = .returned (.tuple #[]) ∧ Below B w w' := by
  go_enter Try.func20, Try.ntmps20
  go_wp2
  go_loopw [10] (fun i wr => i = .int .i64 0 ∧ Below B w wr) (fun _ _ => 0)
  case atStart => exact ⟨rfl, Below.refl _ _⟩
  case round =>
    obtain ⟨rfl, hbel⟩ := hrel
    go_wp2_with fail
    go_end0
    exact ⟨rfl, hbel⟩

theorem spoilB_any (A : Option Addr) (n c B : Nat) (l : List UInt8) (w : World) (h : OwnB w B 5 (.slice A n c) n l) :
    Calls Try.prog 20 #[.slice A n c] w fun e w' => e = .returned (.tuple #[]) ∧ Below B w w' := by
  rcases h.2 with ⟨hv, hn⟩ | ⟨g, cap, full, hv, hb, hg, hnc, hcm, hf, _⟩
  · injection hv with h1 h2 h3
    subst h1 h2 h3
    exact spoil_nil B w
  · injection hv with h1 h2 h3
    subst h1 h3
    exact spoil_any g n c B full w hf hnc hcm hg hb
end Go.Proofs.Ytcajlmlblkdjoaa
