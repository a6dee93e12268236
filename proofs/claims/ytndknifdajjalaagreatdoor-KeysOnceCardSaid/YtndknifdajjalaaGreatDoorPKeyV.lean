/- What a keystore signed is right; stores that know of one name alone. -/
import Derived.Test.YtndknifdajjalaaGreatDoorPKeyQ
import Derived.Test.YtndknifdajjalaaGreatDoorPFreeL
import Derived.Test.YtndknifdajjalaaGreatDoorPKeyW
import Derived.Test.YtndknifdajjalaaGreatDoorPMssV
namespace Go.Proofs.YtndknifdajjalaaGreatDoor
open Go.RowKit
set_option maxRecDepth 100000

theorem ends_ownK (sd : List UInt8) (leaf : Int) {h : List UInt8} (hh : h.length = 32) : atL (endF (digH h) (atL (signF sd leaf (digH h)) 67)) 67 = endsL sd leaf 67 := by
  refine atL_congr fun i hi => ?_
  unfold endF
  rw [atL_get _ hi]
  exact wots.along_rest stepH (digH_at hh i) _
theorem rec_ownK (sd m : List UInt8) (leaf : Int) : recV m (atL (signF sd leaf (digH (msgH m))) 67) = pubH (endsL sd leaf 67) := by
  unfold recV
  rw [ends_ownK sd leaf (msgH_len m)]
theorem pubs_atK (sd : List UInt8) {n i : Nat} (h : i < n) : (pubsL sd n).getD i [] = pubH (endsL sd (i : Int) 67) := atL_get (fun (i : Nat) => pubH (endsL sd (i : Int) 67)) h
theorem root_ownK (sd m : List UInt8) {p i : Nat} (hp : p ≤ 4) (hi : i < 2 ^ p) :
    sigOK ⟨(p : Int), (i : Int), atL (signF sd (i : Int) (digH (msgH m))) 67, proofV (pubsL sd (2 ^ p)) i⟩ ∧ sigRoot m ⟨(p : Int), (i : Int), atL (signF sd (i : Int) (digH (msgH m))) 67, proofV (pubsL sd (2 ^ p)) i⟩ = keyRoot sd p := by
  have h16 : 2 ^ p ≤ 16 := Nat.pow_le_pow_right (n := 2) (by omega) hp
  have hl := pubsL_len sd (2 ^ p)
  have hok := own_ok (l := pubsL sd (2 ^ p)) (i := i) (by omega) (by omega)
  have hcl := own_climb (l := pubsL sd (2 ^ p)) (i := i) (by omega) (by omega)
  rw [hl] at hok hcl
  rw [pubs_atK sd hi] at hcl
  refine ⟨⟨by simp, by simp; omega, atL_len _ _, ?_⟩, ?_⟩
  · simp only [Int.toNat_natCast]
    exact hok
  · unfold sigRoot keyRoot
    simp only [Int.toNat_natCast]
    rw [rec_ownK]
    exact hcl
theorem ver_ownK (sd m : List UInt8) {p i : Nat} (hp : p ≤ 4) (hi : i < 2 ^ p) (fp : List UInt8) :
    verP fp m ⟨(p : Int), (i : Int), atL (signF sd (i : Int) (digH (msgH m))) 67, proofV (pubsL sd (2 ^ p)) i⟩ ↔ printH (p : Int) (keyRoot sd p) = fp := by
  obtain ⟨h1, h2⟩ := root_ownK sd m hp hi
  unfold verP
  rw [h2]
  exact ⟨fun h => h.2, fun h => ⟨h1, h⟩⟩

/-- Verify says yes of what was signed. -/
theorem kverify_yes {w : World} (sd msg : List UInt8) {h X : Nat} (hh : h ≤ 4) (hX : X < 2 ^ h) (B : Option Addr) (nb cb : Nat) (hl : msg.length = nb) (h1 : nb ≤ 1000) (hc : nb ≤ cb) (hcm : cb ≤ maxLen) (hr : Rd w w.heap.size B msg) {V P : Option Addr} {cv cp b1 b2 : Nat}
    (hv : OwnH w b1 (.slice V 67 cv) (atL (signF sd (X : Int) (digH (msgH msg))) 67)) (hp : OwnH w b2 (.slice P (proofV (pubsL sd (2 ^ h)) X).length cp) (proofV (pubsL sd (2 ^ h)) X)) :
    Calls Tryz.prog 11 #[.agg (u8A (printH (h : Int) (keyRoot sd h))), .slice B nb cb, .agg (sigA (h : Int) (X : Int) V P 67 cv (proofV (pubsL sd (2 ^ h)) X).length cp)] w fun e w' => e = .returned (.bool true) ∧ Below w.heap.size w w' := by
  have hpl : (proofV (pubsL sd (2 ^ h)) X).length = h := by rw [proofV_len, pubsL_len, tree.high_pow]
  have hy : verP (printH (h : Int) (keyRoot sd h)) msg ⟨(h : Int), (X : Int), atL (signF sd (X : Int) (digH (msgH msg))) 67, proofV (pubsL sd (2 ^ h)) X⟩ := (ver_ownK sd msg hh hX _).2 rfl
  have := rverify9_any (printH (h : Int) (keyRoot sd h)) B nb cb msg ⟨(h : Int), (X : Int), atL (signF sd (X : Int) (digH (msgH msg))) 67, proofV (pubsL sd (2 ^ h)) X⟩ V P 67 cv (proofV (pubsL sd (2 ^ h)) X).length cp w (printH_len _ _) hl h1 hc hcm hr hv.hv (atL_len _ _) hp.hv rfl (by rw [hpl]; omega)
  rw [decide_eq_true hy] at this
  exact this
/-- No other name is there than this one. -/
theorem only_len {L : List (Rec11 × Nat)} (hr : Rising L) {name : List UInt8} (h : others L name = []) : L.length ≤ 1 := by
  have := others_len hr name
  rw [h] at this
  simp only [List.length_nil] at this
  split at this <;> omega
end Go.Proofs.YtndknifdajjalaaGreatDoor
