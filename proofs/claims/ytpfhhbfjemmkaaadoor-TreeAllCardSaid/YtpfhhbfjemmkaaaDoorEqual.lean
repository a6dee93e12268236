/- bytes.Equal, as the program has it. -/
import Derived.Test.YtpfhhbfjemmkaaaDoorPut
import Derived.Test.YtpfhhbfjemmkaaaDoorAppend
namespace Go.Proofs.YtpfhhbfjemmkaaaDoor
open Go.RowKit

set_option maxHeartbeats 400000 in
theorem equal_any (A B : Option Addr) (n m c d C D : Nat) (l k : List UInt8) (w : World) (hn : l.length = n) (hm : k.length = m) (ha : Rd w C A l) (hb : Rd w D B k) :
    Calls Tryd.prog 51 #[.slice A n c, .slice B m d] w fun e w' => e = .returned (.bool (l == k)) ∧ w = w' := by
  have h1 := run_string_rd (P := Tryd.prog) 27 9 5 Tryd.underlying27 Tryd.underlying5 Tryd.underlying9 _ _ n c l hn ha
  have h2 := run_string_rd (P := Tryd.prog) 27 9 5 Tryd.underlying27 Tryd.underlying5 Tryd.underlying9 _ _ m d k hm hb
  go_enter Tryd.func51, Tryd.ntmps51
  go_wp2_with fail
  go_ret
  exact ⟨rfl, rfl⟩
end Go.Proofs.YtpfhhbfjemmkaaaDoor
