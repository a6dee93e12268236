/- A byte of a row of hashes of one's own changed; halves of rows. -/
import Derived.Test.YtfgieebccjoboaaGreatDoorPRTSame
namespace Go.Proofs.YtfgieebccjoboaaGreatDoor
open Go.RowKit
theorem flat_put (b:UInt8) (j:Nat) (hj:j<32):∀(hs:List (List UInt8)),(∀r∈hs,r.length=32)→∀i,i<hs.length→(hs.flatMap Lib.byteCells).set (i*32+j) (.int .u8 (b.toNat:Int))=(hs.set i ((hs.getD i []).set j b)).flatMap Lib.byteCells|[],_,i,h=>by simp at h|x::r,hl,0,_=>by (have hx:(Lib.byteCells x).length=32:=by rw [Lib.byteCells_length];exact hl x (List.mem_cons_self ..));rw [List.flatMap_cons,Nat.zero_mul,Nat.zero_add,List.set_append_left _ _ (by omega)];simp [Lib.byteCells,List.map_set]|x::r,hl,i+1,h=>by (have hx:(Lib.byteCells x).length=32:=by rw [Lib.byteCells_length];exact hl x (List.mem_cons_self ..));rw [List.flatMap_cons,List.set_append_right _ _ (by omega),hx,show (i+1)*32+j - 32=i*32+j by omega,flat_put b j hj r (fun y hy=>hl y (List.mem_cons_of_mem _ hy)) i (by simpa using h)];rfl
theorem own_put {w:World} {B g n c:Nat} {hs:List (List UInt8)} {i j:Nat} (b:UInt8) (h:OwnH w B (.slice (some ⟨g,0,none⟩) n c) hs) (hn:hs.length=n) (hi:i<n) (hj:j<32):B≤g∧(∃u,w.cell? ⟨g,i*32+j,none⟩=some u)∧w.frozen? ⟨g,i*32+j,none⟩=false∧OwnH (w.setCell ⟨g,i*32+j,none⟩ (.int .u8 (b.toNat:Int))) B (.slice (some ⟨g,0,none⟩) n c) (hs.set i ((hs.getD i []).set j b)):=by
 subst hn;have hgl:∀r∈hs.set i ((hs.getD i []).set j b),r.length=32:=fun r hr=>by
  rcases List.mem_or_eq_of_mem_set hr with hr|rfl;·exact h.1 r hr
  ·rw [List.length_set];rw [show hs.getD i []=hs[i] by simp [List.getD_eq_getElem?_getD,hi]];exact h.1 _ (List.getElem_mem _)
 rcases h.2.2 with ⟨e,_⟩|⟨g',cap,cur,e,h2,h3,h4,h5,h6,h7⟩;·cases e
 ·injection e with e1 e2 e3;injection e1 with e1;injection e1 with e1;subst e1 e3;have hb:Blk w g cur 37:=h3;(have hlt:i*32+j<cur.size:=by omega);refine ⟨h2,⟨cur[i*32+j],by rw [hb.cell];exact Array.getElem?_eq_getElem hlt⟩,hb.frozen _,hgl,?_,.inr ⟨g,c,cur.setIfInBounds (i*32+j) (.int .u8 (b.toNat:Int)),by rw [List.length_set],h2,hb.set _ _,by rw [List.length_set];exact h4,h5,by simpa using h6,?_⟩⟩;·rw [flat_len _ hgl]
  ·rw [List.length_set,Array.toList_setIfInBounds,List.take_set,h7,flat_put b j hj hs h.1 i hi]
end Go.Proofs.YtfgieebccjoboaaGreatDoor
