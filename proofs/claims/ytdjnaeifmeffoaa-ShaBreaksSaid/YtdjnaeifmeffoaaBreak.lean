/- What a break is: the program's Same and the document's. -/
import Derived.Test.YtdjnaeifmeffoaaEqual
import Derived.Test.YtdjnaeifmeffoaaHashEq
import Derived.Test.YtdjnaeifmeffoaaRSum
import Derived.BigQuiet
import Derived.Deep.RegionHeld3
namespace Go.Proofs.Ytdjnaeifmeffoaa
open Go.RowKit

theorem equalB (A B : Option Addr) (n m c d : Nat) (l k : List UInt8) (b : Bool) (w0 w : World) (hn : l.length = n) (hm : k.length = m) (hbl : (l == k) = b) (ha : Rd w0 w0.heap.size A l) (hb : Rd w0 w0.heap.size B k) (hw : Below w0.heap.size w0 w) :
    Calls Try.prog 29 #[.slice A n c, .slice B m d] w fun e w' => e = .returned (.bool b) ∧ w = w' := by
  subst hbl
  exact equal_any A B n m c d _ _ l k w hn hm (ha.on hw) (hb.on hw)
theorem sumB (A : Option Addr) (n c : Nat) (l : List UInt8) (w0 w : World) (hl : l.length = n) (hc : n ≤ c) (h1 : n ≤ 800000) (hr : Rd w0 w0.heap.size A l) (hb : Below w0.heap.size w0 w) :
    Calls Try.prog 13 #[.slice A n c] w fun e w' => e = .returned (.agg (u8A (shaL l))) ∧ Below w0.heap.size w0 w' := by
  refine (sum_any A n c l w hl hc h1 (hr.on hb)).mono ?_
  rintro e w' ⟨he, hb'⟩
  exact ⟨he, Below.then hb hb'⟩
theorem rsumB (A : Option Addr) (n c : Nat) (l : List UInt8) (w0 w : World) (hl : l.length = n) (h1 : n ≤ 1000000) (hr : Rd w0 w0.heap.size A l) (hb : Below w0.heap.size w0 w) :
    Calls Try.prog 16 #[.slice A n c] w fun e w' => e = .returned (.agg (u8A (shaL l))) ∧ Below w0.heap.size w0 w' := by
  refine (rsum_any A n c l w hl h1 (hr.on hb)).mono ?_
  rintro e w' ⟨he, hb'⟩
  exact ⟨he, Below.then hb hb'⟩

set_option maxHeartbeats 4000000 in
theorem breakS_same (A B : Option Addr) (n m c d : Nat) (l k : List UInt8) (w : World) (hn : l.length = n) (hm : k.length = m) (ha : Rd w w.heap.size A l) (hb : Rd w w.heap.size B k) (hlk : (l == k) = true) :
    Calls Try.prog 20 #[.agg #[.slice A n c, .slice B m d]] w fun e w' => e = .returned (.bool false) ∧ Below w.heap.size w w' := by
  have HLK := Lib.hid hlk
  clear hlk
  go_enter Try.func20, Try.ntmps20
  go_wp2_with fail
  obtain ⟨g, hg⟩ : ∃ g, w.heap.size = g := ⟨_, rfl⟩
  have hb1 : Below w.heap.size w (w.alloc (.cells #[.slice A n c, .slice B m d] 44)) := (Below.refl _ _).alloc (Nat.le_refl _) _
  have hblk : Blk (w.alloc (.cells #[.slice A n c, .slice B m d] 44)) w.heap.size #[.slice A n c, .slice B m d] 44 := Blk.new _ _ _
  generalize w.alloc (.cells #[.slice A n c, .slice B m d] 44) = w1 at hb1 hblk ⊢
  have hA := ha.on hb1
  have hB := hb.on hb1
  have hgs : g < w1.heap.size := hg ▸ hblk.lt
  have hc0 : w1.cell? ⟨g, 0, none⟩ = some (.slice A n c) := hg ▸ hblk.cell 0
  have hc1 : w1.cell? ⟨g, 1, none⟩ = some (.slice B m d) := hg ▸ hblk.cell 1
  have hbw : Below w1.heap.size w1 w1 := Below.refl _ _
  have HPOST := Lib.hid (fun W (h : Below w1.heap.size w1 W) => Below.then hb1 h)
  rw [hg]
  have HC0 := Lib.hid hc0
  have HC1 := Lib.hid hc1
  have HA := Lib.hid hA
  have HB := Lib.hid hB
  clear hblk ha hb hA hB hb1 hg
  go_quiet ((go_at_call 29; exact (equalB A B n m c d l k true w1 _ hn hm HLK.out HA.out HB.out (below_drewN hbw _)).mono fun e w'' h => ⟨h.1, _, h.2.symm⟩))
  go_wp2_with fail
  go_ret
  exact ⟨rfl, HPOST.out _ (below_drewN hbw _)⟩

set_option maxHeartbeats 12000000 in
theorem breakS_unlike (A B : Option Addr) (n m c d : Nat) (l k : List UInt8) (w : World) (hn : l.length = n) (hm : k.length = m) (hc : n ≤ c) (hd : m ≤ d) (h1 : n ≤ 800000) (h2 : m ≤ 800000) (ha : Rd w w.heap.size A l) (hb : Rd w w.heap.size B k) (hlk : (l == k) = false) (r : Bool) (hr : decide (shaL l = shaL k) = r) :
    Calls Try.prog 20 #[.agg #[.slice A n c, .slice B m d]] w fun e w' => e = .returned (.bool r) ∧ Below w.heap.size w w' := by
  have heq := fun W => run_hash_eq W (shaL l) (shaL k) (shaL_len l) (shaL_len k)
  rw [hr] at heq
  have HLK := Lib.hid hlk
  obtain ⟨F, hF⟩ : ∃ x, u8A (shaL l) = x := ⟨_, rfl⟩
  obtain ⟨G, hG⟩ : ∃ x, u8A (shaL k) = x := ⟨_, rfl⟩
  rw [hF, hG] at heq
  have HF := Lib.hid hF
  have HG := Lib.hid hG
  clear hlk hr hF hG
  go_enter Try.func20, Try.ntmps20
  go_wp2_with fail
  obtain ⟨g, hg⟩ : ∃ g, w.heap.size = g := ⟨_, rfl⟩
  have hb1 : Below w.heap.size w (w.alloc (.cells #[.slice A n c, .slice B m d] 44)) := (Below.refl _ _).alloc (Nat.le_refl _) _
  have hblk : Blk (w.alloc (.cells #[.slice A n c, .slice B m d] 44)) w.heap.size #[.slice A n c, .slice B m d] 44 := Blk.new _ _ _
  generalize w.alloc (.cells #[.slice A n c, .slice B m d] 44) = w1 at hb1 hblk ⊢
  have hA := ha.on hb1
  have hB := hb.on hb1
  have hgs : g < w1.heap.size := hg ▸ hblk.lt
  have hc0 : w1.cell? ⟨g, 0, none⟩ = some (.slice A n c) := hg ▸ hblk.cell 0
  have hc1 : w1.cell? ⟨g, 1, none⟩ = some (.slice B m d) := hg ▸ hblk.cell 1
  have hbw : Below w1.heap.size w1 w1 := Below.refl _ _
  have HPOST := Lib.hid (fun W (h : Below w1.heap.size w1 W) => Below.then hb1 h)
  rw [hg]
  have HC0 := Lib.hid hc0
  have HC1 := Lib.hid hc1
  have HA := Lib.hid hA
  have HB := Lib.hid hB
  clear hblk ha hb hA hB hb1 hg
  have HKEEP := Lib.hid (fun W (h : Below w1.heap.size w1 W) => (⟨(h.cell (p := ⟨g, 0, none⟩) hgs).trans HC0.out, (h.cell (p := ⟨g, 1, none⟩) hgs).trans HC1.out, h⟩ : W.cell? ⟨g, 0, none⟩ = some (.slice A n c) ∧ W.cell? ⟨g, 1, none⟩ = some (.slice B m d) ∧ Below w1.heap.size w1 W))
  go_region_held3 (fun W => W.cell? ⟨g, 0, none⟩ = some (.slice A n c) ∧ W.cell? ⟨g, 1, none⟩ = some (.slice B m d) ∧ Below w1.heap.size w1 W)
    ((first | exact HKEEP.out _ ‹_› | exact HKEEP.out _ (Below.drew ‹_›) | exact HKEEP.out _ (below_drewN ‹_› _)))
    ((first
      | (go_at_call 29; refine (equalB A B n m c d l k false w1 _ hn hm HLK.out HA.out HB.out (by first | assumption | exact below_drewN (by assumption) _)).mono ?_; rintro e W ⟨rfl, rfl⟩)
      | (go_at_call 13; refine (sumB A n c l w1 _ hn hc h1 HA.out (by first | assumption | exact below_drewN (by assumption) _)).mono ?_; rintro e W ⟨rfl, hbW⟩; rw [HF.out])
      | (go_at_call 13; refine (sumB B m d k w1 _ hm hd h2 HB.out (by first | assumption | exact below_drewN (by assumption) _)).mono ?_; rintro e W ⟨rfl, hbW⟩; rw [HG.out])))
  rename_i hheld
  have hfin := HPOST.out _ hheld.2.2
  go_wp2_with fail
  go_ret
  exact ⟨rfl, hfin⟩

theorem breakS (A B : Option Addr) (n m c d : Nat) (l k : List UInt8) (w : World) (hn : l.length = n) (hm : k.length = m) (hc : n ≤ c) (hd : m ≤ d) (h1 : n ≤ 800000) (h2 : m ≤ 800000) (ha : Rd w w.heap.size A l) (hb : Rd w w.heap.size B k) :
    Calls Try.prog 20 #[.agg #[.slice A n c, .slice B m d]] w fun e w' => e = .returned (.bool (!(l == k) && decide (shaL l = shaL k))) ∧ Below w.heap.size w w' := by
  cases hlk : (l == k)
  · exact breakS_unlike A B n m c d l k w hn hm hc hd h1 h2 ha hb hlk _ rfl
  · exact breakS_same A B n m c d l k w hn hm ha hb hlk
end Go.Proofs.Ytdjnaeifmeffoaa
