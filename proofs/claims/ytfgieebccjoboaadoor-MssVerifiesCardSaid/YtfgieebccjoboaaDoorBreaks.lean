/- bytes.Equal, as the program has it. What a break is: the program's Same and the document's. What a break is, as the document's Same has it. -/
import Derived.Test.YtfgieebccjoboaaDoorPut
import Derived.Test.YtfgieebccjoboaaDoorMem
import Derived.Test.YtfgieebccjoboaaDoorHashD
import Derived.Test.YtfgieebccjoboaaDoorRSum
import Derived.BigQuiet
import Derived.Deep.RegionHeld3
namespace Go.Proofs.YtfgieebccjoboaaDoor
open Go.RowKit

set_option maxHeartbeats 400000 in
theorem equal_any (A B : Option Addr) (n m c d C D : Nat) (l k : List UInt8) (w : World) (hn : l.length = n) (hm : k.length = m) (ha : Rd w C A l) (hb : Rd w D B k) :
    Calls Tryd.prog 45 #[.slice A n c, .slice B m d] w fun e w' => e = .returned (.bool (l == k)) ∧ w = w' := by
  have h1 := run_string_rd (P := Tryd.prog) 24 9 5 Tryd.underlying24 Tryd.underlying5 Tryd.underlying9 _ _ n c l hn ha
  have h2 := run_string_rd (P := Tryd.prog) 24 9 5 Tryd.underlying24 Tryd.underlying5 Tryd.underlying9 _ _ m d k hm hb
  go_enter Tryd.func45, Tryd.ntmps45
  go_wp2_with fail
  go_ret
  exact ⟨rfl, rfl⟩
end Go.Proofs.YtfgieebccjoboaaDoor
namespace Go.Proofs.YtfgieebccjoboaaDoor
open Go.RowKit

theorem equalB (A B : Option Addr) (n m c d : Nat) (l k : List UInt8) (b : Bool) (w0 w : World) (hn : l.length = n) (hm : k.length = m) (hbl : (l == k) = b) (ha : Rd w0 w0.heap.size A l) (hb : Rd w0 w0.heap.size B k) (hw : Below w0.heap.size w0 w) :
    Calls Tryd.prog 45 #[.slice A n c, .slice B m d] w fun e w' => e = .returned (.bool b) ∧ w = w' := by
  subst hbl
  exact equal_any A B n m c d _ _ l k w hn hm (ha.on hw) (hb.on hw)
theorem sumB (A : Option Addr) (n c : Nat) (l : List UInt8) (w0 w : World) (hl : l.length = n) (hc : n ≤ c) (h1 : n ≤ 800000) (hr : Rd w0 w0.heap.size A l) (hb : Below w0.heap.size w0 w) :
    Calls Tryd.prog 73 #[.slice A n c] w fun e w' => e = .returned (.agg (u8A (shaL l))) ∧ Below w0.heap.size w0 w' := by
  refine (sum_any A n c l w hl hc h1 (hr.on hb)).mono ?_
  rintro e w' ⟨he, hb'⟩
  exact ⟨he, Below.then hb hb'⟩
theorem rsumB (A : Option Addr) (n c : Nat) (l : List UInt8) (w0 w : World) (hl : l.length = n) (h1 : n ≤ 1000000) (hr : Rd w0 w0.heap.size A l) (hb : Below w0.heap.size w0 w) :
    Calls Tryd.prog 57 #[.slice A n c] w fun e w' => e = .returned (.agg (u8A (shaL l))) ∧ Below w0.heap.size w0 w' := by
  refine (rsum_any A n c l w hl h1 (hr.on hb)).mono ?_
  rintro e w' ⟨he, hb'⟩
  exact ⟨he, Below.then hb hb'⟩

set_option maxHeartbeats 4000000 in
theorem breakS_same (A B : Option Addr) (n m c d : Nat) (l k : List UInt8) (w : World) (hn : l.length = n) (hm : k.length = m) (ha : Rd w w.heap.size A l) (hb : Rd w w.heap.size B k) (hlk : (l == k) = true) :
    Calls Tryd.prog 38 #[.agg #[.slice A n c, .slice B m d]] w fun e w' => e = .returned (.bool false) ∧ Below w.heap.size w w' := by
  have HLK := Lib.hid hlk
  clear hlk
  go_enter Tryd.func38, Tryd.ntmps38
  go_wp2_with fail
  obtain ⟨g, hg⟩ : ∃ g, w.heap.size = g := ⟨_, rfl⟩
  have hb1 : Below w.heap.size w (w.alloc (.cells #[.slice A n c, .slice B m d] 41)) := (Below.refl _ _).alloc (Nat.le_refl _) _
  have hblk : Blk (w.alloc (.cells #[.slice A n c, .slice B m d] 41)) w.heap.size #[.slice A n c, .slice B m d] 41 := Blk.new _ _ _
  generalize w.alloc (.cells #[.slice A n c, .slice B m d] 41) = w1 at hb1 hblk ⊢
  have hA := ha.on hb1
  have hB := hb.on hb1
  have hgs : g < w1.heap.size := hg ▸ hblk.lt
  have hc0 : w1.cell? ⟨g, 0, none⟩ = some (.slice A n c) := hg ▸ hblk.cell 0
  have hc1 : w1.cell? ⟨g, 1, none⟩ = some (.slice B m d) := hg ▸ hblk.cell 1
  have hbw : Below w1.heap.size w1 w1 := Below.refl _ _
  have HPOST := Lib.hid (fun W (h : Below w1.heap.size w1 W) => Below.then hb1 h)
  rw [hg]
  have HC0 := Lib.hid hc0
  have HC1 := Lib.hid hc1
  have HA := Lib.hid hA
  have HB := Lib.hid hB
  clear hblk ha hb hA hB hb1 hg
  go_quiet ((go_at_call 45; exact (equalB A B n m c d l k true w1 _ hn hm HLK.out HA.out HB.out (below_drewN hbw _)).mono fun e w'' h => ⟨h.1, _, h.2.symm⟩))
  go_wp2_with fail
  go_ret
  exact ⟨rfl, HPOST.out _ (below_drewN hbw _)⟩

set_option maxRecDepth 100000 in
set_option maxHeartbeats 12000000 in
theorem breakS_unlike (A B : Option Addr) (n m c d : Nat) (l k : List UInt8) (w : World) (hn : l.length = n) (hm : k.length = m) (hc : n ≤ c) (hd : m ≤ d) (h1 : n ≤ 800000) (h2 : m ≤ 800000) (ha : Rd w w.heap.size A l) (hb : Rd w w.heap.size B k) (hlk : (l == k) = false) (r : Bool) (hr : decide (shaL l = shaL k) = r) :
    Calls Tryd.prog 38 #[.agg #[.slice A n c, .slice B m d]] w fun e w' => e = .returned (.bool r) ∧ Below w.heap.size w w' := by
  have heq := fun W => run_hash_eq W (shaL l) (shaL k) (shaL_len l) (shaL_len k)
  rw [hr] at heq
  have HLK := Lib.hid hlk
  obtain ⟨F, hF⟩ : ∃ x, u8A (shaL l) = x := ⟨_, rfl⟩
  obtain ⟨G, hG⟩ : ∃ x, u8A (shaL k) = x := ⟨_, rfl⟩
  rw [hF, hG] at heq
  have HF := Lib.hid hF
  have HG := Lib.hid hG
  clear hlk hr hF hG
  go_enter Tryd.func38, Tryd.ntmps38
  go_wp2_with fail
  obtain ⟨g, hg⟩ : ∃ g, w.heap.size = g := ⟨_, rfl⟩
  have hb1 : Below w.heap.size w (w.alloc (.cells #[.slice A n c, .slice B m d] 41)) := (Below.refl _ _).alloc (Nat.le_refl _) _
  have hblk : Blk (w.alloc (.cells #[.slice A n c, .slice B m d] 41)) w.heap.size #[.slice A n c, .slice B m d] 41 := Blk.new _ _ _
  generalize w.alloc (.cells #[.slice A n c, .slice B m d] 41) = w1 at hb1 hblk ⊢
  have hA := ha.on hb1
  have hB := hb.on hb1
  have hgs : g < w1.heap.size := hg ▸ hblk.lt
  have hc0 : w1.cell? ⟨g, 0, none⟩ = some (.slice A n c) := hg ▸ hblk.cell 0
  have hc1 : w1.cell? ⟨g, 1, none⟩ = some (.slice B m d) := hg ▸ hblk.cell 1
  have hbw : Below w1.heap.size w1 w1 := Below.refl _ _
  have HPOST := Lib.hid (fun W (h : Below w1.heap.size w1 W) => Below.then hb1 h)
  rw [hg]
  have HC0 := Lib.hid hc0
  have HC1 := Lib.hid hc1
  have HA := Lib.hid hA
  have HB := Lib.hid hB
  clear hblk ha hb hA hB hb1 hg
  have HKEEP := Lib.hid (fun W (h : Below w1.heap.size w1 W) => (⟨(h.cell (p := ⟨g, 0, none⟩) hgs).trans HC0.out, (h.cell (p := ⟨g, 1, none⟩) hgs).trans HC1.out, h⟩ : W.cell? ⟨g, 0, none⟩ = some (.slice A n c) ∧ W.cell? ⟨g, 1, none⟩ = some (.slice B m d) ∧ Below w1.heap.size w1 W))
  go_region_held3 (fun W => W.cell? ⟨g, 0, none⟩ = some (.slice A n c) ∧ W.cell? ⟨g, 1, none⟩ = some (.slice B m d) ∧ Below w1.heap.size w1 W)
    ((first | exact HKEEP.out _ ‹_› | exact HKEEP.out _ (Below.drew ‹_›) | exact HKEEP.out _ (below_drewN ‹_› _)))
    ((first
      | (go_at_call 45; refine (equalB A B n m c d l k false w1 _ hn hm HLK.out HA.out HB.out (by first | assumption | exact below_drewN (by assumption) _)).mono ?_; rintro e W ⟨rfl, rfl⟩)
      | (go_at_call 73; refine (sumB A n c l w1 _ hn hc h1 HA.out (by first | assumption | exact below_drewN (by assumption) _)).mono ?_; rintro e W ⟨rfl, hbW⟩; rw [HF.out])
      | (go_at_call 73; refine (sumB B m d k w1 _ hm hd h2 HB.out (by first | assumption | exact below_drewN (by assumption) _)).mono ?_; rintro e W ⟨rfl, hbW⟩; rw [HG.out])))
  rename_i hheld
  have hfin := HPOST.out _ hheld.2.2
  go_wp2_with fail
  go_ret
  exact ⟨rfl, hfin⟩

theorem breakS (A B : Option Addr) (n m c d : Nat) (l k : List UInt8) (w : World) (hn : l.length = n) (hm : k.length = m) (hc : n ≤ c) (hd : m ≤ d) (h1 : n ≤ 800000) (h2 : m ≤ 800000) (ha : Rd w w.heap.size A l) (hb : Rd w w.heap.size B k) :
    Calls Tryd.prog 38 #[.agg #[.slice A n c, .slice B m d]] w fun e w' => e = .returned (.bool (!(l == k) && decide (shaL l = shaL k))) ∧ Below w.heap.size w w' := by
  cases hlk : (l == k)
  · exact breakS_unlike A B n m c d l k w hn hm hc hd h1 h2 ha hb hlk _ rfl
  · exact breakS_same A B n m c d l k w hn hm ha hb hlk
end Go.Proofs.YtfgieebccjoboaaDoor
namespace Go.Proofs.YtfgieebccjoboaaDoor
open Go.RowKit

theorem conv_rd (A : Option Addr) (n c : Nat) (l : List UInt8) (w0 w : World) (hn : l.length = n) (ha : Rd w0 w0.heap.size A l) (hw : Below w0.heap.size w0 w) :
    (convert 24 9 (.slice A n c)).run Tryd.prog w = .ok (.string ⟨l.toArray⟩) w :=
  run_string_rd (P := Tryd.prog) 24 9 5 Tryd.underlying24 Tryd.underlying5 Tryd.underlying9 _ _ n c l hn (ha.on hw)

set_option maxHeartbeats 4000000 in
theorem breakR_same (A B : Option Addr) (n m c d : Nat) (l k : List UInt8) (w : World) (hn : l.length = n) (hm : k.length = m) (ha : Rd w w.heap.size A l) (hb : Rd w w.heap.size B k) (hlk : (l == k) = true) :
    Calls Tryd.prog 39 #[.agg #[.slice A n c, .slice B m d]] w fun e w' => e = .returned (.bool false) ∧ Below w.heap.size w w' := by
  obtain rfl : l = k := by simpa using hlk
  clear hlk
  go_enter Tryd.func39, Tryd.ntmps39
  go_wp2_with fail
  obtain ⟨g, hg⟩ : ∃ g, w.heap.size = g := ⟨_, rfl⟩
  have hb1 : Below w.heap.size w (w.alloc (.cells #[.slice A n c, .slice B m d] 41)) := (Below.refl _ _).alloc (Nat.le_refl _) _
  have hblk : Blk (w.alloc (.cells #[.slice A n c, .slice B m d] 41)) w.heap.size #[.slice A n c, .slice B m d] 41 := Blk.new _ _ _
  generalize w.alloc (.cells #[.slice A n c, .slice B m d] 41) = w1 at hb1 hblk ⊢
  have hA := ha.on hb1
  have hB := hb.on hb1
  have hc0 : w1.cell? ⟨g, 0, none⟩ = some (.slice A n c) := hg ▸ hblk.cell 0
  have hc1 : w1.cell? ⟨g, 1, none⟩ = some (.slice B m d) := hg ▸ hblk.cell 1
  have hbw : Below w1.heap.size w1 w1 := Below.refl _ _
  have hq1 : ∀ q, (convert 24 9 (.slice A n c)).run Tryd.prog (w1.drewN q) = .ok (.string ⟨l.toArray⟩) (w1.drewN q) := fun q => conv_rd A n c l w1 _ hn hA (below_drewN hbw q)
  have hq2 : ∀ q, (convert 24 9 (.slice B m d)).run Tryd.prog (w1.drewN q) = .ok (.string ⟨l.toArray⟩) (w1.drewN q) := fun q => conv_rd B m d l w1 _ hm hB (below_drewN hbw q)
  have HPOST := Lib.hid (fun W (h : Below w1.heap.size w1 W) => Below.then hb1 h)
  rw [hg]
  generalize (⟨l.toArray⟩ : ByteArray) = s at hq1 hq2
  clear hblk ha hb hA hB hb1 hg hn hm
  go_quiet (fail)
  clear hq1 hq2
  go_wp2_with fail
  go_ret
  exact ⟨rfl, HPOST.out _ (below_drewN hbw _)⟩

set_option maxRecDepth 100000 in
set_option maxHeartbeats 12000000 in
theorem breakR_unlike (A B : Option Addr) (n m c d : Nat) (l k : List UInt8) (w : World) (hn : l.length = n) (hm : k.length = m) (h1 : n ≤ 1000000) (h2 : m ≤ 1000000) (ha : Rd w w.heap.size A l) (hb : Rd w w.heap.size B k) (hlk : (l == k) = false) (r : Bool) (hr : decide (shaL l = shaL k) = r) :
    Calls Tryd.prog 39 #[.agg #[.slice A n c, .slice B m d]] w fun e w' => e = .returned (.bool r) ∧ Below w.heap.size w w' := by
  have heq := fun W => run_hash_eq W (shaL l) (shaL k) (shaL_len l) (shaL_len k)
  rw [hr] at heq
  obtain ⟨F, hF⟩ : ∃ x, u8A (shaL l) = x := ⟨_, rfl⟩
  obtain ⟨G, hG⟩ : ∃ x, u8A (shaL k) = x := ⟨_, rfl⟩
  rw [hF, hG] at heq
  have HF := Lib.hid hF
  have HG := Lib.hid hG
  clear hr hF hG
  go_enter Tryd.func39, Tryd.ntmps39
  go_wp2_with fail
  obtain ⟨g, hg⟩ : ∃ g, w.heap.size = g := ⟨_, rfl⟩
  have hb1 : Below w.heap.size w (w.alloc (.cells #[.slice A n c, .slice B m d] 41)) := (Below.refl _ _).alloc (Nat.le_refl _) _
  have hblk : Blk (w.alloc (.cells #[.slice A n c, .slice B m d] 41)) w.heap.size #[.slice A n c, .slice B m d] 41 := Blk.new _ _ _
  generalize w.alloc (.cells #[.slice A n c, .slice B m d] 41) = w1 at hb1 hblk ⊢
  have hA := ha.on hb1
  have hB := hb.on hb1
  have hgs : g < w1.heap.size := hg ▸ hblk.lt
  have hc0 : w1.cell? ⟨g, 0, none⟩ = some (.slice A n c) := hg ▸ hblk.cell 0
  have hc1 : w1.cell? ⟨g, 1, none⟩ = some (.slice B m d) := hg ▸ hblk.cell 1
  have hbw : Below w1.heap.size w1 w1 := Below.refl _ _
  have HPOST := Lib.hid (fun W (h : Below w1.heap.size w1 W) => Below.then hb1 h)
  rw [hg]
  have HN := Lib.hid hn
  have HM := Lib.hid hm
  have HA := Lib.hid hA
  have HB := Lib.hid hB
  obtain ⟨sL, hsL⟩ : ∃ s, (⟨l.toArray⟩ : ByteArray) = s := ⟨_, rfl⟩
  obtain ⟨sK, hsK⟩ : ∃ s, (⟨k.toArray⟩ : ByteArray) = s := ⟨_, rfl⟩
  have hcl := fun W (h : Below w1.heap.size w1 W) => conv_rd A n c l w1 W hn hA h
  have hck := fun W (h : Below w1.heap.size w1 W) => conv_rd B m d k w1 W hm hB h
  have hne : (sL.toList == sK.toList) = false := by rw [← hsL, ← hsK, Lib.toList_data, Lib.toList_data]; exact hlk
  rw [hsL] at hcl
  rw [hsK] at hck
  have HKEEP := Lib.hid (fun W (h : Below w1.heap.size w1 W) => (⟨(h.cell (p := ⟨g, 0, none⟩) hgs).trans hc0, (h.cell (p := ⟨g, 1, none⟩) hgs).trans hc1, hcl W h, hck W h, h⟩ : W.cell? ⟨g, 0, none⟩ = some (.slice A n c) ∧ W.cell? ⟨g, 1, none⟩ = some (.slice B m d) ∧ (convert 24 9 (.slice A n c)).run Tryd.prog W = .ok (.string sL) W ∧ (convert 24 9 (.slice B m d)).run Tryd.prog W = .ok (.string sK) W ∧ Below w1.heap.size w1 W))
  clear hblk ha hb hA hB hb1 hg hn hm hc0 hc1 hcl hck hlk hsL hsK
  go_region_held3 (fun W => W.cell? ⟨g, 0, none⟩ = some (.slice A n c) ∧ W.cell? ⟨g, 1, none⟩ = some (.slice B m d) ∧ (convert 24 9 (.slice A n c)).run Tryd.prog W = .ok (.string sL) W ∧ (convert 24 9 (.slice B m d)).run Tryd.prog W = .ok (.string sK) W ∧ Below w1.heap.size w1 W)
    ((first | exact HKEEP.out _ ‹_› | exact HKEEP.out _ (Below.drew ‹_›) | exact HKEEP.out _ (below_drewN ‹_› _)))
    ((first
      | (go_at_call 57; (with_reducible refine (rsumB A n c l w1 _ HN.out h1 HA.out ?_).mono ?_); (first | exact below_drewN hbw _ | exact hbW | exact below_drewN hbW _ | exact Below.drew hbW); rintro e W ⟨rfl, hbW⟩; rw [HF.out])
      | (go_at_call 57; (with_reducible refine (rsumB B m d k w1 _ HM.out h2 HB.out ?_).mono ?_); (first | exact below_drewN hbw _ | exact hbW | exact below_drewN hbW _ | exact Below.drew hbW); rintro e W ⟨rfl, hbW⟩; rw [HG.out])))
  rename_i hheld
  have hfin := HPOST.out _ hheld.2.2.2.2
  go_wp2_with fail
  go_ret
  exact ⟨rfl, hfin⟩

theorem breakR (A B : Option Addr) (n m c d : Nat) (l k : List UInt8) (w : World) (hn : l.length = n) (hm : k.length = m) (h1 : n ≤ 1000000) (h2 : m ≤ 1000000) (ha : Rd w w.heap.size A l) (hb : Rd w w.heap.size B k) :
    Calls Tryd.prog 39 #[.agg #[.slice A n c, .slice B m d]] w fun e w' => e = .returned (.bool (!(l == k) && decide (shaL l = shaL k))) ∧ Below w.heap.size w w' := by
  cases hlk : (l == k)
  · exact breakR_unlike A B n m c d l k w hn hm h1 h2 ha hb hlk _ rfl
  · exact breakR_same A B n m c d l k w hn hm ha hb hlk
end Go.Proofs.YtfgieebccjoboaaDoor
