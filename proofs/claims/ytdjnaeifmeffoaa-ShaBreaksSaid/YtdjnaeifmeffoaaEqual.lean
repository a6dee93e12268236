/- bytes.Equal, as the program has it. -/
import Derived.Test.YtdjnaeifmeffoaaPut
import Derived.Test.YtdjnaeifmeffoaaAppend
namespace Go.Proofs.Ytdjnaeifmeffoaa
open Go.RowKit

set_option maxHeartbeats 400000 in
theorem equal_any (A B : Option Addr) (n m c d C D : Nat) (l k : List UInt8) (w : World) (hn : l.length = n) (hm : k.length = m) (ha : Rd w C A l) (hb : Rd w D B k) :
    Calls Try.prog 29 #[.slice A n c, .slice B m d] w fun e w' => e = .returned (.bool (l == k)) ∧ w = w' := by
  have h1 := run_string_rd (P := Try.prog) 22 9 5 Try.underlying22 Try.underlying5 Try.underlying9 _ _ n c l hn ha
  have h2 := run_string_rd (P := Try.prog) 22 9 5 Try.underlying22 Try.underlying5 Try.underlying9 _ _ m d k hm hb
  go_enter Try.func29, Try.ntmps29
  go_wp2_with fail
  go_ret
  exact ⟨rfl, rfl⟩
end Go.Proofs.Ytdjnaeifmeffoaa
