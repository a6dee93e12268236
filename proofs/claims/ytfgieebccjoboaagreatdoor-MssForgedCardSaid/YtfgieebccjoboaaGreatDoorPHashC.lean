/- Rows of hashes cut, and copied. -/
import Derived.Test.YtfgieebccjoboaaGreatDoorPHashB2
namespace Go.Proofs.YtfgieebccjoboaaGreatDoor
open Go.RowKit
set_option maxHeartbeats 400000 in
theorem copyH_any (A:Option Addr) (n c C:Nat) (hs:List (List UInt8)) (w:World) (hn:hs.length=n) (h1:n≤100000) (hl:∀r∈hs,r.length=32) (hr:RdH w C A hs):Calls Tryz.prog 16 #[.slice A n c] w fun e w'=>∃v,e=.returned v∧OwnH w' w.heap.size v hs∧Below w.heap.size w w':=by have HN:=Lib.hid hn;clear hn;go_enter Tryz.func16,Tryz.ntmps16;go_wp2_with (at_builtin;refine wpList_append_hashes rfl _ _ rfl w.heap.size (.slice none 0 0) [] rfl (OwnH.nil _ _) C A n c hs rfl HN.out hl hr (by simp;omega) (Nat.le_refl _) ?_);intro v1 w1 hown1 hb1;(have h2:OwnH w1 w.heap.size v1 hs:=by simpa using hown1);obtain ⟨A',c',rfl,hc1,hc2⟩:=h2.form HN.out;have HO:=Lib.hid h2;clear hown1 h2;go_wp2_with fail;go_ret;exact ⟨_,rfl,HO.out,hb1⟩
end Go.Proofs.YtfgieebccjoboaaGreatDoor
