/- Sum of the document answers the law on plain numbers. -/
import Derived.RegionTactic
import Derived.BigRegion
import Derived.Deep.RegionHeld3
import Derived.BigQuiet
import Derived.StillTailTactics
import Derived.IntWalk
import Derived.Test.YtndknifdajjalaaDoorPShaC
import Derived.Test.YtndknifdajjalaaDoorPShaD
import Derived.Test.YtndknifdajjalaaDoorPAesB
import Derived.Test.YtndknifdajjalaaDoorPU8
import Derived.Test.YtndknifdajjalaaDoorProg
namespace Go.Proofs.YtndknifdajjalaaDoor
open Go.RowKit
theorem Blk.four {w : World} {g n : Nat} {bs : List UInt8} {T : TypeId} (h : Blk w g (u8A (padB 32 bs)) T) (hn : bs.length = n) (h4 : n + 4 ≤ 32) (X : Nat) (hX : X < 4294967296) :
    Blk ((((w.setCell ⟨g, n, none⟩ (.int .u8 ((X : Int) / 16777216))).setCell ⟨g, n + 1, none⟩ (.int .u8 ((X : Int) / 65536 % 256))).setCell ⟨g, n + 2, none⟩ (.int .u8 ((X : Int) / 256 % 256))).setCell ⟨g, n + 3, none⟩ (.int .u8 ((X : Int) % 256))) g (u8A (padB 32 (bs ++ wordBytes X))) T := by
  have e0 : (X : Int) / 16777216 = ((UInt8.ofNat (X / 16777216)).toNat : Int) := by rw [UInt8.toNat_ofNat']; omega
  have e1 : (X : Int) / 65536 % 256 = ((UInt8.ofNat (X / 65536)).toNat : Int) := by rw [UInt8.toNat_ofNat']; omega
  have e2 : (X : Int) / 256 % 256 = ((UInt8.ofNat (X / 256)).toNat : Int) := by rw [UInt8.toNat_ofNat']; omega
  have e3 : (X : Int) % 256 = ((UInt8.ofNat X).toNat : Int) := by rw [UInt8.toNat_ofNat']; omega
  have s := (((h.byte hn (by omega) e0).byte (n := n + 1) (by simp [hn]) (by omega) e1).byte (n := n + 2) (by simp [hn]) (by omega) e2).byte (n := n + 3) (by simp [hn]) (by omega) e3
  simpa [wordBytes] using s

def stI (w : World) (g : Nat) (v0 v1 v2 v3 v4 v5 v6 v7 : Int) : World := (((((((w.setCell ⟨g, 0, none⟩ (.int .u32 v0)).setCell ⟨g, 1, none⟩ (.int .u32 v1)).setCell ⟨g, 2, none⟩ (.int .u32 v2)).setCell ⟨g, 3, none⟩ (.int .u32 v3)).setCell ⟨g, 4, none⟩ (.int .u32 v4)).setCell ⟨g, 5, none⟩ (.int .u32 v5)).setCell ⟨g, 6, none⟩ (.int .u32 v6)).setCell ⟨g, 7, none⟩ (.int .u32 v7)
theorem stI_blk {w : World} {g : Nat} {H : H8} {T : TypeId} (h : Blk w g (h8 H) T) (H' : H8) {v0 v1 v2 v3 v4 v5 v6 v7 : Int} (e0 : v0 = H'.a) (e1 : v1 = H'.b) (e2 : v2 = H'.c) (e3 : v3 = H'.d) (e4 : v4 = H'.e) (e5 : v5 = H'.f) (e6 : v6 = H'.g) (e7 : v7 = H'.h) : Blk (stI w g v0 v1 v2 v3 v4 v5 v6 v7) g (h8 H') T := by
  subst e0 e1 e2 e3 e4 e5 e6 e7
  have s := (((((((h.set 0 (.int .u32 (H'.a : Int))).set 1 (.int .u32 (H'.b : Int))).set 2 (.int .u32 (H'.c : Int))).set 3 (.int .u32 (H'.d : Int))).set 4 (.int .u32 (H'.e : Int))).set 5 (.int .u32 (H'.f : Int))).set 6 (.int .u32 (H'.g : Int))).set 7 (.int .u32 (H'.h : Int))
  have e : (((((((((h8 H).setIfInBounds 0 (.int .u32 (H'.a : Int))).setIfInBounds 1 (.int .u32 (H'.b : Int))).setIfInBounds 2 (.int .u32 (H'.c : Int))).setIfInBounds 3 (.int .u32 (H'.d : Int))).setIfInBounds 4 (.int .u32 (H'.e : Int))).setIfInBounds 5 (.int .u32 (H'.f : Int))).setIfInBounds 6 (.int .u32 (H'.g : Int))).setIfInBounds 7 (.int .u32 (H'.h : Int))) = h8 H' := by
    simp [h8, u32A, list8]
  rw [e] at s
  exact s
theorem stI_below {w : World} {g : Nat} (v0 v1 v2 v3 v4 v5 v6 v7 : Int) {B : Nat} {a : World} (h : Below B a w) (hg : B ≤ g) : Below B a (stI w g v0 v1 v2 v3 v4 v5 v6 v7) :=
  (((((((h.setCell hg _).setCell hg _).setCell hg _).setCell hg _).setCell hg _).setCell hg _).setCell hg _).setCell hg _
theorem stI_other {w : World} {g b : Nat} {cs : Array Value} {T : TypeId} (h : Blk w b cs T) (hb : b ≠ g) (v0 v1 v2 v3 v4 v5 v6 v7 : Int) : Blk (stI w g v0 v1 v2 v3 v4 v5 v6 v7) b cs T :=
  (((((((h.other hb _).other hb _).other hb _).other hb _).other hb _).other hb _).other hb _).other hb _
theorem stI_grown (w : World) (g : Nat) (v0 v1 v2 v3 v4 v5 v6 v7 : Int) : w.grownBy (stI w g v0 v1 v2 v3 v4 v5 v6 v7) (some g) :=
  (((((((Lib.grownBy_setCell w g 0 _).trans (Lib.grownBy_setCell _ _ _ _)).trans (Lib.grownBy_setCell _ _ _ _)).trans (Lib.grownBy_setCell _ _ _ _)).trans (Lib.grownBy_setCell _ _ _ _)).trans (Lib.grownBy_setCell _ _ _ _)).trans (Lib.grownBy_setCell _ _ _ _)).trans (Lib.grownBy_setCell _ _ _ _)
/-- The result's row, the constants', the state's. -/
def Rows3 (w : World) (rb kb hb : Nat) (rs : Array Value) (H : H8) : Prop :=
  Blk w rb rs 95 ∧ Blk w kb (u32Cells kL).toArray 142 ∧ Blk w hb (h8 H) 136
theorem Rows3.keep {w w' : World} {rb kb hb B : Nat} {rs : Array Value} {H : H8} (h : Rows3 w rb kb hb rs H) (h1 : rb < B) (h2 : kb < B) (h3 : hb < B) (hk : Below B w w') : Rows3 w' rb kb hb rs H :=
  ⟨h.1.below hk h1, h.2.1.below hk h2, h.2.2.below hk h3⟩

theorem Rows3.at_ {w : World} {rb kb hb : Nat} {rs : Array Value} {H : H8} (h : Rows3 w rb kb hb rs H) : Blk w hb (h8 H) 136 := h.2.2
/-- What stands in memory between two blocks. -/
def RIn (w0 w : World) (kb hb gm : Nat) (rs : Array Value) (H : H8) (M : List UInt8) : Prop :=
  Rows3 w w0.heap.size kb hb rs H ∧ Rd w w.heap.size (some ⟨gm, 0, none⟩) M ∧ Below w0.heap.size w0 w ∧ gm < w.heap.size
theorem RIn.below {w0 w w' : World} {kb hb gm C : Nat} {rs : Array Value} {H : H8} {M : List UInt8} (h : RIn w0 w kb hb gm rs H M) (h0 : w0.heap.size < C) (hk : kb < C) (hh : hb < C) (hg : gm < C) (hb' : Below C w w') : RIn w0 w' kb hb gm rs H M := by
  obtain ⟨h1, h2, h3, h4⟩ := h
  refine ⟨h1.keep h0 hk hh hb', ?_, h3.trans (hb'.mono (by omega)), Nat.lt_of_lt_of_le h4 hb'.size⟩
  rcases h2 with h2 | ⟨b, off, e, hb, hc⟩
  · exact .inl h2
  · injection e with e; injection e with e1 e2; subst e1 e2
    exact .inr ⟨gm, 0, rfl, Nat.lt_of_lt_of_le h4 hb'.size, fun i hi => (hb'.cell (p := ⟨gm, 0 + i, none⟩) hg).trans (hc i hi)⟩

theorem RIn.sum {w0 w : World} {kb hb gm : Nat} {rs : Array Value} {H : H8} {M : List UInt8} (h : RIn w0 w kb hb gm rs H M) (h0 : w0.heap.size < kb) (hk : kb < hb) (hg : hb < gm) (S : H8) {v0 v1 v2 v3 v4 v5 v6 v7 : Int}
    (e0 : v0 = (plus8 H S).a) (e1 : v1 = (plus8 H S).b) (e2 : v2 = (plus8 H S).c) (e3 : v3 = (plus8 H S).d) (e4 : v4 = (plus8 H S).e) (e5 : v5 = (plus8 H S).f) (e6 : v6 = (plus8 H S).g) (e7 : v7 = (plus8 H S).h) : RIn w0 (stI w hb v0 v1 v2 v3 v4 v5 v6 v7) kb hb gm rs (plus8 H S) M := by
  obtain ⟨h1, h2, h3, h4⟩ := h
  have hgr := stI_grown w hb v0 v1 v2 v3 v4 v5 v6 v7
  have b1 := stI_other h1.1 (show w0.heap.size ≠ hb by omega) v0 v1 v2 v3 v4 v5 v6 v7
  have b2 := stI_other h1.2.1 (show kb ≠ hb by omega) v0 v1 v2 v3 v4 v5 v6 v7
  have b3 := stI_blk h1.2.2 (plus8 H S) e0 e1 e2 e3 e4 e5 e6 e7
  have b4 := stI_below v0 v1 v2 v3 v4 v5 v6 v7 h3 (show w0.heap.size ≤ hb by omega)
  generalize stI w hb v0 v1 v2 v3 v4 v5 v6 v7 = w' at *
  refine ⟨⟨b1, b2, b3⟩, ?_, b4, Nat.lt_of_lt_of_le h4 hgr.size⟩
  rcases h2 with h2 | ⟨b, off, e, hb', hc⟩
  · exact .inl h2
  · injection e with e; injection e with ea eb; subst ea eb
    exact .inr ⟨gm, 0, rfl, Nat.lt_of_lt_of_le h4 hgr.size, fun i hi => (World.cell?_of_block (hgr.block gm h4 (fun e => by injection e with e; omega))).trans (hc i hi)⟩

end Go.Proofs.YtndknifdajjalaaDoor
