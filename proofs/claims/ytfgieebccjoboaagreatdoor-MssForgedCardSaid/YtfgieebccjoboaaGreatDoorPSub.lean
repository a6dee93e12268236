/- Get of the program and of the document answer the same number: the bytes as base-256 digits; more than seven are none. Parts of a slice of bytes. -/
import Derived.Deep.MidRow
import Derived.Test.YtfgieebccjoboaaGreatDoorProg
import Derived.Test.YtfgieebccjoboaaGreatDoorPMem
import Derived.Test.YtfgieebccjoboaaGreatDoorPBits
import Derived.Test.YtfgieebccjoboaaGreatDoorPNet
import Derived.Test.YtfgieebccjoboaaGreatDoorPKeep
namespace Go.Proofs.YtfgieebccjoboaaGreatDoor
open Go.RowKit
def partA (A:Option Addr) (l c:Nat):Option Addr:=if c=l then A else A.map (·.add l)
theorem Rd.part {w:World} {B:Nat} {A:Option Addr} {L:List UInt8} (hr:Rd w B A L) (l h c:Nat) (h1:l≤h) (h2:h≤c):Rd w B (partA A l c) ((L.take h).drop l):=by
 unfold partA;by_cases hcl:c=l;·exact .inl (List.drop_of_length_le (by rw [List.length_take];omega))
 ·rw [if_neg hcl];rcases hr with rfl|⟨b,off,rfl,hb,hc⟩;·exact .inl (by simp)
  ·refine .inr ⟨b,off+l,by simp [Addr.add_mid],hb,fun i hi=>?_⟩;simp only [List.length_drop,List.length_take] at hi;rw [List.getElem_drop,List.getElem_take,Nat.add_assoc];exact hc (l+i) (by omega)
theorem Rd.rest {w:World} {B:Nat} {A:Option Addr} {L:List UInt8} {n:Nat} (hr:Rd w B A L) (l c:Nat) (hn:L.length=n) (h1:l≤n) (h2:n≤c):Rd w B (partA A l c) (L.drop l):=by have:=hr.part l n c h1 h2;rwa [List.take_of_length_le (by omega)] at this
theorem OwnB.less {w:World} {B B':Nat} {e:TypeId} {v:Value} {n:Nat} {l:List UInt8} (h:OwnB w B e v n l) (hB:B'≤B):OwnB w B' e v n l:=by
 refine ⟨h.1,?_⟩;rcases h.2 with h|⟨g,cap,full,e1,e2,rest⟩;·exact .inl h
 ·exact .inr ⟨g,cap,full,e1,by omega,rest⟩
end Go.Proofs.YtfgieebccjoboaaGreatDoor
