/- Many signatures under one hash: the mathematics; an explanation holds. The document's own many signatures: a keystore's leaves. The document's own prints: the text, the hash. -/
import Derived.Test.YtfgieebccjoboaaDoorWotsD
import Derived.Test.YtfgieebccjoboaaDoorRTMay
namespace Go.Proofs.YtfgieebccjoboaaDoor
open Go.RowKit

def put1 (n : Int) : List UInt8 := putL (putN n) 1
theorem put1_len (n : Int) : (put1 n).length = 1 := putL_length _ _
theorem put1_inj {a b : Nat} (ha : a ≤ 4) (hb : b ≤ 4) (h : put1 (a : Int) = put1 (b : Int)) : a = b := by
  have k : ∀ i, i < 5 → ∀ j, j < 5 → put1 ((i : Nat) : Int) = put1 ((j : Nat) : Int) → i = j := by decide +kernel
  exact k a (by omega) b (by omega) h
/-- What a print is the hash of. -/
def printT (ht : Int) (root : List UInt8) : List UInt8 := netsL [[112, 114, 105, 110, 116], put1 ht, root]
def printH (ht : Int) (root : List UInt8) : List UInt8 := shaL (printT ht root)
theorem printH_len (ht : Int) (root : List UInt8) : (printH ht root).length = 32 := outTo_len _ 8 (by omega)
theorem printT_inj {a b : Int} {r s : List UInt8} (hr : r.length = 32) (hs : s.length = 32) (h : printT a r = printT b s) : put1 a = put1 b ∧ r = s := by
  have e := netsL_inj (fun x hx => by
    simp at hx
    rcases hx with rfl | rfl | rfl
    · decide
    · rw [put1_len]; omega
    · omega) (fun x hx => by
    simp at hx
    rcases hx with rfl | rfl | rfl
    · decide
    · rw [put1_len]; omega
    · omega) h
  simp at e
  exact e
/-- A keystore's leaves, their root. -/
def pubsL (sd : List UInt8) (n : Nat) : List (List UInt8) := atL (fun i => pubH (endsL sd (i : Int) 67)) n
theorem pubsL_len (sd : List UInt8) (n : Nat) : (pubsL sd n).length = n := atL_len _ _
theorem pubsL_32 (sd : List UInt8) (n : Nat) : ∀ r ∈ pubsL sd n, r.length = 32 := fun r hr => by
  obtain ⟨i, _, rfl⟩ := List.mem_map.1 hr
  exact pubH_len _
def keyRoot (sd : List UInt8) (ht : Nat) : List UInt8 := rootV (pubsL sd (2 ^ ht))
theorem keyRoot_len (sd : List UInt8) (ht : Nat) : (keyRoot sd ht).length = 32 := rootV_len (pubsL_32 _ _)
/-- The public hash that values make of a message. -/
def recV (m : List UInt8) (vs : List (List UInt8)) : List UInt8 := pubH (atL (endF (digH (msgH m)) vs) 67)
theorem recV_len (m : List UInt8) (vs : List (List UInt8)) : (recV m vs).length = 32 := pubH_len _
/-- A signature. -/
structure SigV where
  h : Int
  l : Int
  vs : List (List UInt8)
  ps : List (List UInt8)
def sigOK (s : SigV) : Prop := 0 ≤ s.h ∧ s.h ≤ 4 ∧ s.vs.length = 67 ∧ climbOK ((2 ^ s.h.toNat : Nat) : Int) s.l s.ps.length
instance (s : SigV) : Decidable (sigOK s) := by unfold sigOK; infer_instance
def sigRoot (m : List UInt8) (s : SigV) : List UInt8 := climbV ((2 ^ s.h.toNat : Nat) : Int) s.l (recV m s.vs) s.ps
/-- Is it right? -/
def verP (fp m : List UInt8) (s : SigV) : Prop := sigOK s ∧ printH s.h (sigRoot m s) = fp
instance (fp m : List UInt8) (s : SigV) : Decidable (verP fp m s) := by unfold verP; infer_instance
theorem climbV_len9 {n i : Int} {a : List UInt8} (ha : a.length = 32) (p : List (List UInt8)) : (climbV n i a p).length = 32 := by
  unfold climbV
  split
  · exact climbH_len ha p _
  · rfl
theorem sigRoot_len (m : List UInt8) (s : SigV) : (sigRoot m s).length = 32 := climbV_len9 (recV_len _ _) _
/-- How a signature came to be right that its leaf did not make. -/
inductive FoV where
  | brk (a b : List UInt8)
  | leak (leaf chain place : Nat) (v : List UInt8)
/-- What a leaf signed; nothing: none. -/
def signedV (rows : List (List UInt8)) (leaf : Int) : List UInt8 := if leaf < 0 then [] else rows.getD leaf.toNat []
def lessAt (D E : List Nat) : Nat → Nat → Nat
  | 0, c => c
  | f + 1, c => if E.getD c 0 ≤ D.getD c 0 then lessAt D E f (c + 1) else c
theorem lessAt_le (D E : List Nat) : ∀ f c, c ≤ lessAt D E f c ∧ lessAt D E f c ≤ c + f
  | 0, c => ⟨Nat.le_refl _, Nat.le_refl _⟩
  | f + 1, c => by
    unfold lessAt
    split
    · have := lessAt_le D E f (c + 1)
      omega
    · omega
theorem lessAt_all (D E : List Nat) : ∀ f c, lessAt D E f c = c + f → ∀ i, c ≤ i → i < c + f → E.getD i 0 ≤ D.getD i 0
  | 0, c, _, i, h1, h2 => by omega
  | f + 1, c, h, i, h1, h2 => by
    unfold lessAt at h
    by_cases hc : E.getD c 0 ≤ D.getD c 0
    · rw [if_pos hc] at h
      by_cases hi : i = c
      · subst hi; exact hc
      · exact lessAt_all D E f (c + 1) (by omega) i (by omega) (by omega)
    · rw [if_neg hc] at h
      omega
theorem lessAt_at (D E : List Nat) : ∀ f c, lessAt D E f c < c + f → D.getD (lessAt D E f c) 0 < E.getD (lessAt D E f c) 0
  | 0, c, h => by unfold lessAt at h; omega
  | f + 1, c, h => by
    unfold lessAt at h ⊢
    by_cases hc : E.getD c 0 ≤ D.getD c 0
    · rw [if_pos hc] at h ⊢
      exact lessAt_at D E f (c + 1) (by omega)
    · rw [if_neg hc]
      omega
/-- The chain on which it is looked. -/
def chainAt (was : List UInt8) (D : List Nat) : Nat := if was = [] then 0 else lessAt D (digH (msgH was)) 67 0
/-- The greatest place below k, from d on, at which two ways are unlike. -/
def seekSt (x y : Nat → List UInt8) (d : Nat) : Nat → Option Nat
  | 0 => none
  | k + 1 => if d ≤ k then (if x k = y k then seekSt x y d k else some k) else none
theorem seekSt_some {x y : Nat → List UInt8} {d : Nat} : ∀ {k a : Nat}, seekSt x y d k = some a → d ≤ a ∧ a < k ∧ x a ≠ y a ∧ ∀ j, a < j → j < k → x j = y j
  | 0, a, h => by cases h
  | k + 1, a, h => by
    unfold seekSt at h
    by_cases hd : d ≤ k
    · rw [if_pos hd] at h
      by_cases he : x k = y k
      · rw [if_pos he] at h
        obtain ⟨h1, h2, h3, h4⟩ := seekSt_some h
        refine ⟨h1, by omega, h3, fun j hj hk => ?_⟩
        by_cases hjk : j = k
        · subst hjk; exact he
        · exact h4 j hj (by omega)
      · rw [if_neg he] at h
        obtain rfl : k = a := Option.some.inj h
        exact ⟨hd, by omega, he, fun j h1 h2 => by omega⟩
    · rw [if_neg hd] at h
      cases h
theorem seekSt_none {x y : Nat → List UInt8} {d : Nat} : ∀ {k : Nat}, seekSt x y d k = none → ∀ j, d ≤ j → j < k → x j = y j
  | 0, _, j, _, h => by omega
  | k + 1, h, j, h1, h2 => by
    unfold seekSt at h
    rw [if_pos (show d ≤ k by omega)] at h
    by_cases he : x k = y k
    · rw [if_pos he] at h
      by_cases hjk : j = k
      · subst hjk; exact he
      · exact seekSt_none h j h1 (by omega)
    · rw [if_neg he] at h
      cases h
/-- What is told of a right signature that its leaf did not make. -/
def expIn (sd : List UInt8) (ht : Nat) (was m : List UInt8) (s : SigV) : FoV :=
  if printT (ht : Int) (keyRoot sd ht) = printT s.h (sigRoot m s) then
    match brkV ((2 ^ ht : Nat) : Int) s.l ((pubsL sd (2 ^ ht)).getD s.l.toNat []) (recV m s.vs) (proofV (pubsL sd (2 ^ ht)) s.l.toNat) s.ps with
    | some x => .brk x.1 x.2
    | none =>
      if pubT (endsL sd s.l 67) = pubT (atL (endF (digH (msgH m)) s.vs) 67) then
        if chainAt was (digH (msgH m)) = 67 then .brk (netsL [[109, 115, 103], was]) (netsL [[109, 115, 103], m])
        else match seekSt (fun k => alongH k (startH sd s.l (chainAt was (digH (msgH m)) : Nat))) (fun k => alongH (k - (digH (msgH m)).getD (chainAt was (digH (msgH m))) 0) (s.vs.getD (chainAt was (digH (msgH m))) [])) ((digH (msgH m)).getD (chainAt was (digH (msgH m))) 0) 15 with
          | some a => .brk (stepT (alongH a (startH sd s.l (chainAt was (digH (msgH m)) : Nat)))) (stepT (alongH (a - (digH (msgH m)).getD (chainAt was (digH (msgH m))) 0) (s.vs.getD (chainAt was (digH (msgH m))) [])))
          | none => .leak s.l.toNat (chainAt was (digH (msgH m))) ((digH (msgH m)).getD (chainAt was (digH (msgH m))) 0) (s.vs.getD (chainAt was (digH (msgH m))) [])
      else .brk (pubT (endsL sd s.l 67)) (pubT (atL (endF (digH (msgH m)) s.vs) 67))
  else .brk (printT (ht : Int) (keyRoot sd ht)) (printT s.h (sigRoot m s))
/-- Is it asked for an explanation? -/
def expP (sd : List UInt8) (ht : Nat) (was m : List UInt8) (s : SigV) : Prop := verP (printH (ht : Int) (keyRoot sd ht)) m s ∧ ¬ (was ≠ [] ∧ was = m)
instance (sd : List UInt8) (ht : Nat) (was m : List UInt8) (s : SigV) : Decidable (expP sd ht was m s) := by unfold expP; infer_instance
/-- Does an explanation hold? -/
def FoOK (sd : List UInt8) (ht : Nat) (rows : List (List UInt8)) : FoV → Prop
  | .brk a b => isBr (a, b) = true
  | .leak l c p v => l < 2 ^ ht ∧ c < 67 ∧ p < 16 ∧ v = alongH p (startH sd (l : Int) (c : Int)) ∧ (signedV rows (l : Int) = [] ∨ p < (digH (msgH (signedV rows (l : Int)))).getD c 0)
theorem isBr_of9 {a b : List UInt8} (hne : a ≠ b) (he : shaL a = shaL b) : isBr (a, b) = true := by simp [isBr, hne, he]
theorem hexD_inj : ∀ {l k : List UInt8}, wots.hexD l = wots.hexD k → l = k
  | [], [], _ => rfl
  | [], _ :: _, h => by simp [wots.hexD] at h
  | _ :: _, [], h => by simp [wots.hexD] at h
  | a :: l, b :: k, h => by
    simp only [wots.hexD, List.cons.injEq] at h
    have ha := a.toNat_lt
    have hb := b.toNat_lt
    rw [UInt8.toNat_inj.1 (show a.toNat = b.toNat by omega), hexD_inj h.2.2]
theorem digH_inj {h k : List UInt8} (hh : h.length = 32) (hk : k.length = 32) (he : digH h = digH k) : h = k := by
  unfold digH wots.allD at he
  exact hexD_inj (List.append_inj he (by rw [wots.hexD_len, wots.hexD_len, hh, hk])).1
theorem getD_of_eq {a b : List (List UInt8)} (h : a = b) (i : Nat) : a.getD i [] = b.getD i [] := by rw [h]
theorem endsL_at (sd : List UInt8) (lf : Int) {c : Nat} (hc : c < 67) : (endsL sd lf 67).getD c [] = alongH 15 (startH sd lf (c : Int)) := atL_get (fun (c : Nat) => alongH 15 (startH sd lf (c : Int))) hc
end Go.Proofs.YtfgieebccjoboaaDoor
namespace Go.Proofs.YtfgieebccjoboaaDoor
open Go.RowKit

theorem both_more {D E : List Nat} {h k : List UInt8} (hD : D = digH (msgH h)) (hE : E = digH (msgH k)) (hne : D ≠ E) : ∃ i, i < 67 ∧ D.getD i 0 < E.getD i 0 := by
  subst hD hE
  obtain ⟨⟨i, h1, h2⟩, _⟩ := wots.less_both (l := wots.hexD (msgH h)) (k := wots.hexD (msgH k)) (by rw [wots.hexD_len, wots.hexD_len, msgH_len, msgH_len]) (wots.hexD_small _) (wots.hexD_small _) hne
  refine ⟨i, ?_, h2⟩
  have := digH_len (msgH_len h)
  unfold digH at this
  omega
theorem msgT_inj {a b : List UInt8} (ha : a.length ≤ 1000) (hb : b.length ≤ 1000) (h : netsL [[109, 115, 103], a] = netsL [[109, 115, 103], b]) : a = b := by
  have e := netsL_inj (fun x hx => by
    simp at hx
    rcases hx with rfl | rfl
    · decide
    · exact ha) (fun x hx => by
    simp at hx
    rcases hx with rfl | rfl
    · decide
    · exact hb) h
  simpa using e
theorem stepT_inj {a b : List UInt8} (ha : a.length = 32) (hb : b.length = 32) (h : stepT a = stepT b) : a = b := by
  have e := netsL_inj (fun x hx => by
    simp at hx
    rcases hx with rfl | rfl
    · decide
    · omega) (fun x hx => by
    simp at hx
    rcases hx with rfl | rfl
    · decide
    · omega) h
  simpa using e
theorem pubT_inj {a b : List (List UInt8)} (ha : ∀ r ∈ a, r.length = 32) (hb : ∀ r ∈ b, r.length = 32) (h : pubT a = pubT b) : a = b := by
  have e := netsL_inj (fun x hx => by
    rcases List.mem_cons.1 hx with rfl | hx
    · decide
    · have := ha x hx; omega) (fun x hx => by
    rcases List.mem_cons.1 hx with rfl | hx
    · decide
    · have := hb x hx; omega) h
  simpa using e
/-- What is told of a right signature holds. -/
theorem exp_sound {sd : List UInt8} {ht : Nat} {rows : List (List UInt8)} {m : List UInt8} {s : SigV} (hht : ht ≤ 4) (hvs : ∀ r ∈ s.vs, r.length = 32) (hm : m.length ≤ 1000) (hrw : ∀ r ∈ rows, r.length ≤ 1000)
    (h : expP sd ht (signedV rows s.l) m s) : FoOK sd ht rows (expIn sd ht (signedV rows s.l) m s) := by
  obtain ⟨⟨⟨h0, h4, hv67, hcl⟩, hpr⟩, hwas⟩ := h
  obtain ⟨was, hw⟩ : ∃ x, signedV rows s.l = x := ⟨_, rfl⟩
  have hwl : was.length ≤ 1000 := by
    rw [← hw]
    unfold signedV
    split
    · simp
    · rw [List.getD_eq_getElem?_getD]
      cases e : rows[s.l.toNat]? with
      | none => simp
      | some r => exact hrw r (List.mem_of_getElem? e)
  rw [hw] at hwas ⊢
  have hsr := sigRoot_len m s
  have hkr := keyRoot_len sd ht
  unfold expIn
  by_cases hp : printT (ht : Int) (keyRoot sd ht) = printT s.h (sigRoot m s)
  · rw [if_pos hp]
    obtain ⟨hp1, hp2⟩ := printT_inj hkr hsr hp
    have hsh : s.h.toNat = ht := by
      rw [show s.h = ((s.h.toNat : Nat) : Int) by omega] at hp1
      exact (put1_inj hht (by omega) hp1).symm
    unfold sigRoot at hp2
    rw [hsh] at hcl hp2
    obtain ⟨c0, c1, c2, c3⟩ := id hcl
    obtain ⟨i, hi⟩ : ∃ i : Nat, s.l = (i : Int) := ⟨s.l.toNat, by omega⟩
    rw [hi] at hcl hp2 c1 ⊢
    rw [Int.toNat_natCast]
    have hin : i < 2 ^ ht := by omega
    have hn256 : 2 ^ ht ≤ 256 := by omega
    have hlen := pubsL_len sd (2 ^ ht)
    have hbt : brkV ((2 ^ ht : Nat) : Int) (i : Int) ((pubsL sd (2 ^ ht)).getD i []) (recV m s.vs) (proofV (pubsL sd (2 ^ ht)) i) s.ps = brkV ((2 ^ ht : Nat) : Int) (i : Int) ((pubsL sd (2 ^ ht)).getD i []) (recV m s.vs) (proofV (pubsL sd (2 ^ ht)) i) s.ps := rfl
    cases hb : brkV ((2 ^ ht : Nat) : Int) (i : Int) ((pubsL sd (2 ^ ht)).getD i []) (recV m s.vs) (proofV (pubsL sd (2 ^ ht)) i) s.ps with
    | some x =>
      have hok : brkOK ((2 ^ ht : Nat) : Int) (i : Int) ((pubsL sd (2 ^ ht)).getD i []) (recV m s.vs) (proofV (pubsL sd (2 ^ ht)) i) s.ps := by
        have := brkV_isSome ((2 ^ ht : Nat) : Int) (i : Int) ((pubsL sd (2 ^ ht)).getD i []) (recV m s.vs) (proofV (pubsL sd (2 ^ ht)) i) s.ps
        rw [hb] at this
        exact of_decide_eq_true this.symm
      obtain ⟨x', hx', hbr⟩ := brkV_must hok
      rw [hb] at hx'
      obtain rfl : x = x' := Option.some.inj hx'
      exact hbr
    | none =>
      have hno : ¬ brkOK ((2 ^ ht : Nat) : Int) (i : Int) ((pubsL sd (2 ^ ht)).getD i []) (recV m s.vs) (proofV (pubsL sd (2 ^ ht)) i) s.ps := by
        have := brkV_isSome ((2 ^ ht : Nat) : Int) (i : Int) ((pubsL sd (2 ^ ht)).getD i []) (recV m s.vs) (proofV (pubsL sd (2 ^ ht)) i) s.ps
        rw [hb] at this
        exact of_decide_eq_false this.symm
      have hi2 : i < (pubsL sd (2 ^ ht)).length := by rw [hlen]; exact hin
      have k1 := own_ok hi2 (by rw [hlen]; exact hn256)
      have k2 := own_climb hi2 (by rw [hlen]; exact hn256)
      rw [hlen] at k1 k2
      have hsame : (pubsL sd (2 ^ ht)).getD i [] = recV m s.vs := by
        by_cases he : (pubsL sd (2 ^ ht)).getD i [] = recV m s.vs
        · exact he
        · exact absurd ⟨k1, hcl, by rw [k2]; exact hp2, fun h => he h.1⟩ hno
      have hpub : (pubsL sd (2 ^ ht)).getD i [] = pubH (endsL sd (i : Int) 67) := atL_get (fun (i : Nat) => pubH (endsL sd (i : Int) 67)) hin
      rw [hpub] at hsame
      by_cases hpt : pubT (endsL sd (i : Int) 67) = pubT (atL (endF (digH (msgH m)) s.vs) 67)
      · simp only [if_pos hpt]
        have hel : ∀ r ∈ atL (endF (digH (msgH m)) s.vs) 67, r.length = 32 := fun r hr => by
          obtain ⟨c, hc, rfl⟩ := List.mem_map.1 hr
          have hc67 := List.mem_range.1 hc
          refine alongH_len ?_ _
          rw [List.getD_eq_getElem?_getD, List.getElem?_eq_getElem (show c < s.vs.length by omega)]
          exact hvs _ (List.getElem_mem _)
        have hel2 : ∀ r ∈ endsL sd (i : Int) 67, r.length = 32 := fun r hr => by
          obtain ⟨c, _, rfl⟩ := List.mem_map.1 hr
          exact alongH_len (startH_len _ _ _) _
        have hends := pubT_inj hel2 hel hpt
        obtain ⟨D, hD⟩ : ∃ D, digH (msgH m) = D := ⟨_, rfl⟩
        have hds : ∀ c, D.getD c 0 ≤ 15 := fun c => by rw [← hD]; exact digH_at (msgH_len m) c
        rw [hD] at hends ⊢
        obtain ⟨c, hc⟩ : ∃ c, chainAt was D = c := ⟨_, rfl⟩
        have hc67 : c ≤ 67 := by
          rw [← hc]
          unfold chainAt
          split
          · omega
          · have := (lessAt_le D (digH (msgH was)) 67 0).2; omega
        rw [hc]
        by_cases hce : c = 67
        · rw [if_pos hce]
          have hwne : was ≠ [] := fun hx => by
            rw [hx] at hc
            unfold chainAt at hc
            simp at hc
            omega
          have hlt : lessAt D (digH (msgH was)) 67 0 = 0 + 67 := by
            unfold chainAt at hc
            rw [if_neg hwne] at hc
            omega
          have hall := lessAt_all D (digH (msgH was)) 67 0 hlt
          have hDE : D = digH (msgH was) := by
            by_cases he : D = digH (msgH was)
            · exact he
            · obtain ⟨j, hj, hjl⟩ := both_more hD.symm rfl he
              have := hall j (by omega) (by omega)
              omega
          have hmh : msgH m = msgH was := digH_inj (msgH_len m) (msgH_len was) (by rw [hD, hDE])
          exact isBr_of9 (fun he => hwas ⟨hwne, msgT_inj hwl hm he⟩) hmh.symm
        · rw [if_neg hce]
          have hcl67 : c < 67 := by omega
          have hx15 : alongH 15 (startH sd (i : Int) (c : Int)) = alongH (15 - D.getD c 0) (s.vs.getD c []) := by
            have := getD_of_eq hends c
            rw [endsL_at sd (i : Int) hcl67, atL_get _ hcl67] at this
            exact this
          have hd15 := hds c
          have hvl : (s.vs.getD c []).length = 32 := by
            rw [List.getD_eq_getElem?_getD, List.getElem?_eq_getElem (show c < s.vs.length by omega)]
            exact hvs _ (List.getElem_mem _)
          obtain ⟨d, hd⟩ : ∃ d, D.getD c 0 = d := ⟨_, rfl⟩
          rw [hd] at hx15 hd15 ⊢
          obtain ⟨v, hv⟩ : ∃ v, s.vs.getD c [] = v := ⟨_, rfl⟩
          rw [hv] at hx15 hvl ⊢
          have hst := startH_len sd (i : Int) (c : Int)
          obtain ⟨st, hste⟩ : ∃ x, startH sd (i : Int) (c : Int) = x := ⟨_, rfl⟩
          rw [hste] at hx15 hst ⊢
          cases hsk : seekSt (fun k => alongH k st) (fun k => alongH (k - d) v) d 15 with
          | some a =>
            obtain ⟨a1, a2, a3, a4⟩ := seekSt_some hsk
            have hnx : alongH (a + 1) st = alongH (a + 1 - d) v := by
              by_cases ha : a = 14
              · subst ha; exact hx15
              · exact a4 (a + 1) (by omega) (by omega)
            rw [show alongH (a + 1) st = stepH (alongH a st) from wots.along_succ stepH a st, show a + 1 - d = (a - d) + 1 by omega, show alongH ((a - d) + 1) v = stepH (alongH (a - d) v) from wots.along_succ stepH _ v] at hnx
            exact isBr_of9 (fun he => a3 (stepT_inj (alongH_len hst a) (alongH_len hvl _) he)) hnx
          | none =>
            have hall := seekSt_none hsk
            have hvd : v = alongH d st := by
              by_cases hd5 : d = 15
              · rw [hd5, Nat.sub_self] at hx15
                rw [hd5]; exact hx15.symm
              · have := hall d (Nat.le_refl _) (by omega)
                simp only [Nat.sub_self] at this
                exact this.symm
            refine ⟨hin, hcl67, by omega, by rw [hste]; exact hvd, ?_⟩
            rw [← hi, hw]
            by_cases hwn : was = []
            · exact .inl hwn
            · refine .inr ?_
              have hc2 : lessAt D (digH (msgH was)) 67 0 = c := by
                unfold chainAt at hc
                rwa [if_neg hwn] at hc
              have := lessAt_at D (digH (msgH was)) 67 0 (by omega)
              rw [hc2, hd] at this
              exact this
      · simp only [if_neg hpt]
        exact isBr_of9 hpt hsame
  · rw [if_neg hp]
    exact isBr_of9 hp hpr.symm
end Go.Proofs.YtfgieebccjoboaaDoor
namespace Go.Proofs.YtfgieebccjoboaaDoor
open Go.RowKit

/-- The value is a row of hashes of the call's own. -/
def Spec.oh (B n : Nat) (l : List (List UInt8)) : Spec := .any (fun v w => ∃ X c, v = .slice X n c ∧ n ≤ c ∧ OwnH w B (.slice X n c) l) (fun _ _ _ h hb => by
  obtain ⟨X, c, h1, h2, h3⟩ := h
  exact ⟨X, c, h1, h2, h3.on hb⟩)
/-- The value is a row of bytes of the call's own. -/
def Spec.ob (B n : Nat) (l : List UInt8) : Spec := .any (fun v w => ∃ X c, v = .slice X n c ∧ n ≤ c ∧ w.ownsRow B 5 1 (.slice X n c) n (Lib.byteCells l)) (fun _ _ _ h hb => by
  obtain ⟨X, c, h1, h2, h3⟩ := h
  exact ⟨X, c, h1, h2, own_keepK h3 hb⟩)
theorem pubsL_snoc (sd : List UInt8) (k : Nat) : pubsL sd (k + 1) = pubsL sd k ++ [pubH (endsL sd (k : Int) 67)] := atL_snoc _ _
set_option maxRecDepth 100000 in
set_option maxHeartbeats 8000000 in
theorem rleaves9_any (sd : List UInt8) (ht : Nat) (w : World) (hs : sd.length = 16) (hh : ht ≤ 8) :
    Calls Tryd.prog 23 #[.agg (u8A sd), .int .i64 (ht : Int)] w fun e w' => ∃ v, e = .returned v ∧ OwnH w' w.heap.size v (pubsL sd (2 ^ ht)) ∧ Below w.heap.size w w' := by
  obtain ⟨X, hX⟩ : ∃ x, u8A sd = x := ⟨_, rfl⟩
  have HX := Lib.hid hX
  have HXS := Lib.hid (show X.size = 16 by rw [← hX, u8A_size]; exact hs)
  obtain ⟨N, hN⟩ : ∃ N, 2 ^ ht = N := ⟨_, rfl⟩
  have hN256 : N ≤ 256 := by rw [← hN]; exact Nat.pow_le_pow_right (by omega) hh
  have hp1 : (2 : Int) ^ ht = (N : Int) := by rw [← hN]; simp
  rw [hX, hN]
  clear hX hN
  have HAL := Lib.hid (show Below w.heap.size w (w.alloc (.cells X 23)) from (Below.refl _ _).alloc (Nat.le_refl _) _)
  have HB0 := Lib.hid (show Blk (w.alloc (.cells X 23)) w.heap.size X 23 from Blk.new _ _ _)
  go_enter Tryd.func23, Tryd.ntmps23
  go_upto_region 1 with fail
  generalize w.alloc (.cells X 23) = w1 at *
  go_wp2_with fail
  go_loopw [5, 6] (fun lv t wq => ∃ (k : Nat) (A : Option Addr) (c : Nat), k ≤ N ∧ t = .int .i64 (k : Int) ∧ lv = .slice A k c ∧ Hid (OwnH wq w1.heap.size (.slice A k c) (pubsL sd k)) ∧ Hid (Below w1.heap.size w1 wq)) (fun _ t _ => N - (intOf t).toNat)
  case atStart => exact ⟨0, none, 0, Nat.zero_le _, rfl, rfl, Lib.hid (OwnH.nil _ _), Lib.hid (Below.refl _ _)⟩
  case round =>
    obtain ⟨k, A, c, hk, rfl, rfl, HO, HBL⟩ := hrel
    by_cases hlt : k < N
    · have hki : (k : Int) < (N : Int) := by omega
      obtain ⟨x, hx⟩ : ∃ x, pubH (endsL sd (k : Int) 67) = x := ⟨_, rfl⟩
      have HXL := Lib.hid (show x.length = 32 by rw [← hx]; exact pubH_len _)
      have HSN := Lib.hid (show pubsL sd (k + 1) = pubsL sd k ++ [x] by rw [pubsL_snoc, hx])
      obtain ⟨Y, hY⟩ : ∃ X, u8A x = X := ⟨_, rfl⟩
      have HYE := Lib.hid hY
      have HYZ := Lib.hid (show Y.size = 32 by rw [← hY, u8A_size]; exact HXL.out)
      have HLIM := Lib.hid (show (pubsL sd k).length ≤ 1000000 by rw [pubsL_len]; omega)
      obtain ⟨wo, rfl⟩ : ∃ y : World, y = wr := ⟨_, rfl⟩
      have HB2 := Lib.hid (HB0.out.below HBL.out HB0.out.lt)
      have HST := Lib.hid (show Calls Tryd.prog 56 #[.agg X, .int .i64 (k : Int)] wo fun e w' => e = .returned (.agg Y) ∧ Below wo.heap.size wo w' by
        rw [← HX.out, ← hY, ← hx]
        exact rpublic_any sd (k : Int) wo hs (by omega))
      clear hx hY
      go_wp2_with (with_reducible refine wpList_load_blk rfl 23 (.tmp 2) rfl w.heap.size rfl 23 X _ HB2.out Tryd.underlying23 rfl (by rw [HXS.out]; kernel_rfl) ?_)
      with_reducible refine (HST.out).mono ?_
      rintro e w4 ⟨rfl, hb⟩
      have hal5 : Below w4.heap.size w4 (w4.alloc (.cells Y 29)) := (Below.refl _ _).alloc (Nat.le_refl _) _
      have hb5 := hb.trans (hal5.mono hb.size)
      have HOW := Lib.hid (HO.out.on hb5)
      have HBZ := Lib.hid (show Blk (w4.alloc (.cells Y 29)) w4.heap.size (u8A x) 29 by
        rw [HYE.out]
        exact Blk.new _ _ _)
      have HBAL := Lib.hid (HBL.out.trans (hb5.mono HBL.out.size))
      have hle2 : w1.heap.size ≤ (w4.alloc (.cells Y 29)).heap.size := HBAL.out.size
      clear hb hal5 hb5 HST HB2 HO HBL
      go_wp2_with (first
        | (with_reducible refine wpList_build_hash rfl (.tmp 17) rfl Y rfl HYZ.out ?_)
        | (at_builtin; refine wpList_append_hashG rfl _ _ rfl w1.heap.size _ (pubsL sd k) rfl HOW.out w4.heap.size x HXL.out HBZ.out rfl HLIM.out hle2 ?_))
      intro v7 w7 hown7 hg7
      rw [← HSN.out] at hown7
      obtain ⟨A7, c7, rfl, _, _⟩ := hown7.form (pubsL_len _ _)
      have HB7 := Lib.hid (HBAL.out.grown hg7 hle2 (fun k hk => HOW.out.lt k hk))
      have HO7 := Lib.hid hown7
      clear hown7 hg7 HOW HBZ HBAL hle2
      go_wp2_with fail
      go_roundw
      case rel => exact ⟨k + 1, A7, c7, hlt, by go_num, rfl, HO7, HB7⟩
      case measure => simp [intOf]; omega
    · obtain rfl : k = N := by omega
      have hni : ¬ (k : Int) < (k : Int) := by omega
      have HBE := Lib.hid (HAL.out.trans (HBL.out.mono HAL.out.size))
      have HOE := Lib.hid (own_from HO.out HAL.out.size)
      clear HO HBL
      go_wp2_with fail
      go_ret
      exact ⟨_, rfl, HOE.out, HBE.out⟩
end Go.Proofs.YtfgieebccjoboaaDoor
namespace Go.Proofs.YtfgieebccjoboaaDoor
open Go.RowKit

theorem printT_short (ht : Int) (root : List UInt8) (hr : root.length = 32) : (printT ht root).length ≤ 1000000 :=
  Nat.le_trans (nets_short [[112, 114, 105, 110, 116], put1 ht, root] (by simp) (by
    intro r hx
    simp at hx
    rcases hx with rfl | rfl | rfl
    · decide
    · rw [put1_len]; omega
    · omega)) (by omega)
theorem rput1 (n : Int) (w : World) (hn : n ≤ 9223372036854775807) : Calls Tryd.prog 70 #[.int .i64 n, .int .i64 1] w fun e w' => ∃ A c, e = .returned (.slice A 1 c) ∧ 1 ≤ c ∧ c ≤ maxLen ∧ Rd w' w'.heap.size A (put1 n) ∧ Below w.heap.size w w' :=
  (rput_any n 1 w hn).mono fun _ _ ⟨A, c, he, ho, hb⟩ => by
    have e4 : putW 1 = 1 := rfl
    rw [e4] at he ho
    obtain ⟨A', c', e, h1, h2⟩ := own_caps ho
    injection e with e1 e2 e3
    subst e1 e3
    exact ⟨A, c, he, h1, h2, Rd.of_own ho, hb⟩
set_option maxRecDepth 100000 in
set_option maxHeartbeats 4000000 in
theorem rprinttext_any (ht : Int) (root : List UInt8) (w : World) (hr : root.length = 32) (hl : ht ≤ 9223372036854775807) :
    Calls Tryd.prog 58 #[.int .i64 ht, .agg (u8A root)] w fun e w' => ∃ A c, e = .returned (.slice A (printT ht root).length c) ∧ (printT ht root).length ≤ c ∧ Rd w' w'.heap.size A (printT ht root) ∧ Below w.heap.size w w' := by
  obtain ⟨X, hX⟩ : ∃ x, u8A root = x := ⟨_, rfl⟩
  obtain ⟨pa, hpa⟩ : ∃ x, put1 ht = x := ⟨_, rfl⟩
  obtain ⟨tl, htl⟩ : ∃ x, printT ht root = x := ⟨_, rfl⟩
  obtain ⟨q, hq⟩ : ∃ q, tl.length = q := ⟨_, rfl⟩
  have HX := Lib.hid hX
  have HRL := Lib.hid hr
  have HPL := Lib.hid (show pa.length = 1 by rw [← hpa]; exact put1_len _)
  have HPA := Lib.hid (fun W => (show Calls Tryd.prog 70 #[.int .i64 ht, .int .i64 1] W fun e w' => ∃ A c, e = .returned (.slice A 1 c) ∧ 1 ≤ c ∧ c ≤ maxLen ∧ Rd w' w'.heap.size A pa ∧ Below W.heap.size W w' from by rw [← hpa]; exact rput1 ht W hl))
  have HTX := Lib.hid (fun g W (hx : RdR W W.heap.size (some ⟨g, 0, none⟩) [pa, root]) => (show Calls Tryd.prog 89 #[.string ⟨#[112, 114, 105, 110, 116]⟩, .slice (some ⟨g, 0, none⟩) 2 2] W fun e w' => ∃ A c, e = .returned (.slice A q c) ∧ q ≤ c ∧ Rd w' w'.heap.size A tl ∧ Below W.heap.size W w' from by
    have hh := rtext_own [112, 114, 105, 110, 116] (some ⟨g, 0, none⟩) 2 2 [pa, root] W (by decide) rfl (by decide) (fun r hr2 => by
      have h1 := HPL.out
      simp at hr2
      rcases hr2 with rfl | rfl <;> omega) hx
    refine hh.mono ?_
    rintro e w' ⟨v, rfl, ho, hb⟩
    rw [show netsL ([112, 114, 105, 110, 116] :: [pa, root]) = tl by rw [← htl, ← hpa]; rfl, hq] at ho
    obtain ⟨g4, c4, rfl, hc4, _⟩ := ownM_form ho
    exact ⟨_, c4, rfl, hc4, ho.rd, hb⟩))
  rw [hX, htl, hq]
  clear hX hpa htl hq
  go_enter Tryd.func58, Tryd.ntmps58
  go_upto_region 1 with fail
  generalize hw1 : World.alloc _ _ = w1
  obtain ⟨g1, hg1⟩ : ∃ g, w.heap.size = g := ⟨_, rfl⟩
  have hf : Blk w1 g1 X 29 ∧ Below w.heap.size w w1 := by
    rw [← hw1, ← hg1]
    exact ⟨Blk.new w _ _, (Below.refl _ _).alloc (Nat.le_refl _) _⟩
  have hbx : Blk w1 g1 (u8A root) 29 := by rw [HX.out]; exact hf.1
  have HSR := Lib.hid (fun W (h : Below w1.heap.size w1 W) => (show Rd W W.heap.size (some ⟨g1, 0, none⟩) root from rd_of_blk (hbx.below h hbx.lt)))
  have HB1 := Lib.hid hf.2
  clear hf hw1 hbx
  rw [hg1]
  clear hg1
  refine wp_region_loose 5 1 (fun i => false) (promises [.is (.int .i64 ht), .byc 1 pa, .is (.slice (some ⟨g1, 0, none⟩) 32 32), .rows 2 [pa, root], .bytes q tl]) (by kernel_rfl) rfl (by kernel_rfl) (fun i v w w' h hb => Spec.keep h hb) ⟨?_, ?_, ?_, ?_, ?_, trivial⟩ ?_
  · refine StepOKl.of ?_
    intro ac w hb hu hk
    refine ⟨wanted_none rfl, ?_⟩
    have e0 : ac.eval (.tmp 0) = .int .i64 ht := hu.is (t := 0) (by kernel_rfl)
    exact step_value (BigFrame.run_move (.tmp 0) rfl w) (Below.refl _ _) e0
  · refine StepOKl.of ?_
    intro ac w hb hu hk
    refine ⟨wanted_none rfl, ?_⟩
    have e5 : ac.eval (.tmp 5) = (.int .i64 ht) := (hk ⟨0, .data⟩ (by simp) rfl).is rfl rfl
    have ef : ac.eval (.func 70) = .func (.func 70) #[] #[] := rfl
    have ec : ac.eval (.const (.int .i64 1)) = .int .i64 1 := rfl
    refine step_enter (f := 70) (args := #[.int .i64 ht, .int .i64 1]) ?_ ?_
    · generalize ac.eval = ρ at e5 ec ef ⊢
      go_simp
    · exact (HPA.out w).mono fun e w' ⟨A, c, he, hc, hm, hr, hq⟩ => ⟨_, he, ⟨A, c, rfl, hc, hm, hr⟩, hq⟩
  · refine StepOKl.of ?_
    intro ac w hb hu hk
    refine ⟨wanted_none rfl, ?_⟩
    have e3 : ac.eval (.tmp 3) = .pointer (some ⟨g1, 0, none⟩) := hu.is (t := 3) (by kernel_rfl)
    refine step_value (w' := w) (v := .slice (some ⟨g1, 0, none⟩) 32 32) ?_ (Below.refl _ _) rfl
    generalize ac.eval = ρ at e3 ⊢
    go_simp
  · refine StepOKl.of ?_
    intro ac w hb hu hk
    refine ⟨wanted_none rfl, ?_⟩
    have e6 : ∃ X c, ac.eval (.tmp 6) = .slice X 1 c ∧ 1 ≤ c ∧ c ≤ maxLen ∧ Rd w w.heap.size X pa := (hk ⟨1, .data⟩ (by simp) rfl).is rfl rfl
    have e7 : ac.eval (.tmp 7) = (.slice (some ⟨g1, 0, none⟩) 32 32) := (hk ⟨2, .data⟩ (by simp) rfl).is rfl rfl
    obtain ⟨A, c, eA, hcA, hmA, hrA⟩ := e6
    refine step_value (w' := w.alloc (.cells #[.slice A 1 c, .slice (some ⟨g1, 0, none⟩) 32 32] 24)) (v := .slice (some ⟨w.heap.size, 0, none⟩) 2 2) ?_ ((Below.refl _ _).alloc (Nat.le_refl _) _) ⟨w.heap.size, rfl, rdr_two w _ _ HPL.out hcA hmA HRL.out (Nat.le_refl _) (by decide) hrA (HSR.out w hb)⟩
    generalize ac.eval = ρ at eA e7 ⊢
    go_simp
  · refine StepOKl.of ?_
    intro ac w hb hu hk
    refine ⟨wanted_none rfl, ?_⟩
    have e8 : ∃ g, ac.eval (.tmp 8) = .slice (some ⟨g, 0, none⟩) 2 2 ∧ RdR w w.heap.size (some ⟨g, 0, none⟩) [pa, root] := (hk ⟨3, .data⟩ (by simp) rfl).is rfl rfl
    obtain ⟨g, eg, hr⟩ := e8
    have ef : ac.eval (.func 89) = .func (.func 89) #[] #[] := rfl
    have es : ac.eval (.const (.string ⟨#[112, 114, 105, 110, 116]⟩)) = .string ⟨#[112, 114, 105, 110, 116]⟩ := rfl
    refine step_enter (f := 89) (args := #[.string ⟨#[112, 114, 105, 110, 116]⟩, .slice (some ⟨g, 0, none⟩) 2 2]) ?_ ?_
    · generalize ac.eval = ρ at eg es ef ⊢
      go_simp
    · exact (HTX.out g w hr).mono fun e w' ⟨A, c, he, hc, hr, hq⟩ => ⟨_, he, ⟨A, c, rfl, hc, hr⟩, hq⟩
  · intro ac w' hb hu hk hap
    obtain ⟨_, h5, rfl⟩ := (hk 0 (by decide)).put rfl rfl
    obtain ⟨_, h6, ⟨X6, xc6, rfl, hxc6, hX6⟩⟩ := (hk 1 (by decide)).put rfl rfl
    obtain ⟨_, h7, rfl⟩ := (hk 2 (by decide)).put rfl rfl
    obtain ⟨_, h8, ⟨g8, rfl, hG8⟩⟩ := (hk 3 (by decide)).put rfl rfl
    obtain ⟨_, h9, ⟨X9, xc9, rfl, hxc9, hX9⟩⟩ := (hk 4 (by decide)).put rfl rfl
    clear hap
    have hF : AllPuts ac.tmps ((5, _) :: (6, _) :: (7, _) :: (8, _) :: (9, _) :: []) := ⟨h5, h6, h7, h8, h9, trivial⟩
    obtain rfl := frame_puts hu (by kernel_rfl) hF
    simp only [puts, Act.put, List.setIfInBounds_toArray, List.set_cons_zero, List.set_cons_succ, List.drop_succ_cons, List.drop_zero]
    clear hk hu hF h5 h6 h7 h8 h9
    have hb9 := HB1.out.trans (hb.mono HB1.out.size)
    have HB9 := Lib.hid hb9
    have HR9 := Lib.hid hX9
    have HC9 := Lib.hid hxc9
    clear hb hb9 hX9 hxc9 HPA HTX HSR HB1
    go_wp2_with fail
    go_ret
    exact ⟨_, _, rfl, HC9.out, HR9.out, HB9.out⟩
set_option maxRecDepth 100000 in
set_option maxHeartbeats 4000000 in
theorem rprint9_any (sd : List UInt8) (ht : Nat) (w : World) (hs : sd.length = 16) (hh : ht ≤ 8) :
    Calls Tryd.prog 24 #[.agg (u8A sd), .int .i64 (ht : Int)] w fun e w' => e = .returned (.agg (u8A (printH (ht : Int) (keyRoot sd ht)))) ∧ Below w.heap.size w w' := by
  obtain ⟨X, hX⟩ : ∃ x, u8A sd = x := ⟨_, rfl⟩
  obtain ⟨Z, hZ⟩ : ∃ x, u8A (printH (ht : Int) (keyRoot sd ht)) = x := ⟨_, rfl⟩
  obtain ⟨K, hK⟩ : ∃ x, u8A (keyRoot sd ht) = x := ⟨_, rfl⟩
  have HX := Lib.hid hX
  have HXS := Lib.hid (show X.size = 16 by rw [← hX, u8A_size]; exact hs)
  have HZ := Lib.hid hZ
  have HZS := Lib.hid (show Z.size = 32 by rw [← hZ, u8A_size]; exact printH_len _ _)
  have HZO := Lib.hid (show Z.all (·.oneCell') = true by rw [← hZ]; exact u8A_one _)
  have HLV := Lib.hid (fun W => (show Calls Tryd.prog 23 #[.agg X, .int .i64 (ht : Int)] W fun e w' => ∃ v, e = .returned v ∧ OwnH w' W.heap.size v (pubsL sd (2 ^ ht)) ∧ Below W.heap.size W w' from by
    rw [← hX]
    exact rleaves9_any sd ht W hs hh))
  have hN256 : 2 ^ ht ≤ 256 := Nat.pow_le_pow_right (by omega) hh
  have HRO := Lib.hid (fun A c W (hr : RdH W W.heap.size A (pubsL sd (2 ^ ht))) => (show Calls Tryd.prog 59 #[.slice A (2 ^ ht) c] W fun e w' => e = .returned (.agg K) ∧ Below W.heap.size W w' from by
    have := rroot7_any A (2 ^ ht) c (pubsL sd (2 ^ ht)) W (pubsL_len _ _) (by omega) (pubsL_32 _ _) hr
    rw [← hK]
    unfold keyRoot rootV
    rw [pubsL_len]
    exact this))
  have HPT := Lib.hid (fun W => (show Calls Tryd.prog 58 #[.int .i64 (ht : Int), .agg K] W _ from by
    rw [← hK]
    exact rprinttext_any (ht : Int) (keyRoot sd ht) W (keyRoot_len _ _) (by omega)))
  have HPS := Lib.hid (printT_short (ht : Int) (keyRoot sd ht) (keyRoot_len _ _))
  have HSU := Lib.hid (fun A q c W (hq : (printT (ht : Int) (keyRoot sd ht)).length = q) (hr : Rd W W.heap.size A (printT (ht : Int) (keyRoot sd ht))) => (show Calls Tryd.prog 57 #[.slice A q c] W fun e w' => e = .returned (.agg Z) ∧ Below W.heap.size W w' from by
    rw [← hZ]
    exact rsum_any A q c _ W hq (by rw [← hq]; exact HPS.out) hr))
  generalize printT (ht : Int) (keyRoot sd ht) = tl at *
  have HPL := Lib.hid (pubsL_len sd (2 ^ ht))
  generalize pubsL sd (2 ^ ht) = LV at *
  generalize 2 ^ ht = N at *
  rw [hX]
  clear hX hZ hK
  go_enter Tryd.func24, Tryd.ntmps24
  go_upto_region 1 with fail
  generalize hw3 : World.alloc _ _ = w3
  obtain ⟨g1, hg1⟩ : ∃ g, w.heap.size = g := ⟨_, rfl⟩
  obtain ⟨g2, hg2⟩ : ∃ g, w.heap.size + 1 = g := ⟨_, rfl⟩
  have hf : Blk w3 g1 X 23 ∧ (∃ rs, Blk w3 g2 rs 29 ∧ rs.size = 32) ∧ Below w.heap.size w w3 := by
    obtain ⟨Y, hw, hY⟩ : ∃ Y, w3 = (w.alloc (.cells X 23)).alloc (.cells Y 29) ∧ Y.size = 32 := ⟨_, hw3.symm, rfl⟩
    have e1 : (w.alloc (.cells X 23)).heap.size = w.heap.size + 1 := by simp
    rw [hw, ← hg1, ← hg2]
    refine ⟨(Blk.new w _ _).alloc _, ⟨Y, ?_, hY⟩, ((Below.refl _ _).alloc (Nat.le_refl _) _).alloc (by simp) _⟩
    rw [← e1]; exact Blk.new _ _ _
  have HB1 := Lib.hid hf.1
  obtain ⟨rs, hrs, hrz⟩ := hf.2.1
  have HR := Lib.hid hrs
  have HRZ := Lib.hid hrz
  have HB := Lib.hid hf.2.2
  have HG := Lib.hid (show w.heap.size ≤ g2 by omega)
  clear hf hw3 hrs hrz
  rw [hg2, hg1]
  clear hg1 hg2
  go_wp2_with (with_reducible refine wpList_load_blk rfl 23 (.tmp 2) rfl g1 rfl 23 X _ HB1.out Tryd.underlying23 rfl (by rw [HXS.out]; kernel_rfl) ?_)
  with_reducible refine (HLV.out w3).mono ?_
  rintro e w4 ⟨v4, rfl, hown, hb⟩
  obtain ⟨A4, c4, rfl, _, _⟩ := hown.form HPL.out
  have HRC := Lib.hid (HRO.out A4 c4 w4 hown.hv.rd8)
  replace HR := Lib.hid (HR.out.below hb HR.out.lt)
  replace HB := Lib.hid (HB.out.trans (hb.mono HB.out.size))
  clear hown hb HLV HRO HB1
  go_wp2_with fail
  with_reducible refine (HRC.out).mono ?_
  rintro e w5 ⟨rfl, hb⟩
  replace HR := Lib.hid (HR.out.below hb HR.out.lt)
  replace HB := Lib.hid (HB.out.trans (hb.mono HB.out.size))
  clear hb HRC
  go_wp2_with fail
  with_reducible refine (HPT.out w5).mono ?_
  rintro e w6 ⟨A6, c6, rfl, hc6, hr6, hb⟩
  obtain ⟨q, hq⟩ : ∃ q, tl.length = q := ⟨_, rfl⟩
  have HSC := Lib.hid (HSU.out A6 q c6 w6 hq hr6)
  rw [hq]
  replace HR := Lib.hid (HR.out.below hb HR.out.lt)
  replace HB := Lib.hid (HB.out.trans (hb.mono HB.out.size))
  clear hb hr6 hc6 hq HPT HSU
  go_wp2_with fail
  with_reducible refine (HSC.out).mono ?_
  rintro e w7 ⟨rfl, hb⟩
  replace HR := Lib.hid (HR.out.below hb HR.out.lt)
  replace HB := Lib.hid (HB.out.trans (hb.mono HB.out.size))
  clear hb HSC
  go_wp2_with (with_reducible refine wpList_store_blk rfl 29 (.tmp 4) (.tmp 11) rfl g2 Z rfl rfl 29 rs HR.out (by rw [HZS.out]; kernel_rfl) (by rw [HZS.out, HRZ.out]) HZO.out ?_)
  refine bodyPost_ret (v := .agg Z) (results_cell_row (p := 4) (ty := 29) (by kernel_rfl) _ _ g2 29 _ (0, 0) _ rfl (HR.out.row Z) Tryd.underlying29 rfl (by rw [HZS.out]; kernel_rfl)) rfl ⟨by rw [HZ.out], below_row HB.out HB.out.size HG.out _⟩
end Go.Proofs.YtfgieebccjoboaaDoor
