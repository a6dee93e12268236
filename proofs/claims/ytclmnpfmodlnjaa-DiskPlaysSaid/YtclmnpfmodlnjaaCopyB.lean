/- A copy whose spare bytes are known, and the spoiling of what is owned. -/
import Derived.Test.YtclmnpfmodlnjaaNetB
namespace Go.Proofs.Ytclmnpfmodlnjaa
open Go.RowKit


set_option maxHeartbeats 400000 in
theorem spoil_nil (B : Nat) (w : World) :
    Calls Try.prog 26 #[.slice none 0 0] w fun e w' => e = .returned (.tuple #[]) ∧ Below B w w' := by
  go_enter Try.func26, Try.ntmps26
  go_wp2
  go_loopw [10] (fun i wr => i = .int .i64 0 ∧ Below B w wr) (fun _ _ => 0)
  case atStart => exact ⟨rfl, Below.refl _ _⟩
  case round =>
    obtain ⟨rfl, hbel⟩ := hrel
    go_wp2_with fail
    go_end0
    exact ⟨rfl, hbel⟩

theorem spoilB_any (A : Option Addr) (n c B : Nat) (l : List UInt8) (w : World) (h : OwnB w B 5 (.slice A n c) n l) :
    Calls Try.prog 26 #[.slice A n c] w fun e w' => e = .returned (.tuple #[]) ∧ Below B w w' := by
  rcases h.2 with ⟨hv, hn⟩ | ⟨g, cap, full, hv, hb, hg, hnc, hcm, hf, _⟩
  · injection hv with h1 h2 h3
    subst h1 h2 h3
    exact spoil_nil B w
  · injection hv with h1 h2 h3
    subst h1 h3
    exact spoil_any g n c B full w hf hnc hcm hg hb
end Go.Proofs.Ytclmnpfmodlnjaa
