/- What the statements of chapter 9 have in common: signatures in memory. -/
import Derived.Test.YtfgieebccjoboaaGreatDoorPMssB
import Derived.Test.YtfgieebccjoboaaGreatDoorPSub
import Derived.Test.YtfgieebccjoboaaGreatDoorPLaw
import Derived.Test.YtfgieebccjoboaaGreatDoorPFreeS
namespace Go.Proofs.YtfgieebccjoboaaGreatDoor
open Go.RowKit
theorem proofV_len9 (sd:List UInt8) (k i:Nat):(proofV (pubsL sd (2 ^ k)) i).length=k:=by rw [proofV_len,pubsL_len,tree.high_pow]
def Spec.sv (h l:Int) (K:Nat) (sg pv:List (List UInt8)):Spec:=.any (fun v w=>∃V cv P cp,v=.agg (sigA h l V P 67 cv K cp)∧HV w (.slice V 67 cv) sg∧HV w (.slice P K cp) pv) (fun _ _ _ h hb=>by obtain ⟨V,cv,P,cp,h1,h2,h3⟩:=h;exact ⟨V,cv,P,cp,h1,h2.on hb,h3.on hb⟩)
end Go.Proofs.YtfgieebccjoboaaGreatDoor
