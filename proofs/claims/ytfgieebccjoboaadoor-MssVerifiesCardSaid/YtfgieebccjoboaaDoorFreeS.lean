/- The law of a region in general, where guards may skip operations. -/
import Derived.Test.YtfgieebccjoboaaDoorFreeL
namespace Go.Proofs.YtfgieebccjoboaaDoor
open Go.RowKit

section
variable {P : Program} {ops : Array Oper} {Q : Exit → Act → World → Prop} {md : Region.Mode}

theorem unwanted_bool {G : Nat → Value → World → Prop} {o oj : Oper} {a : Act} {w : World} {j d : Nat} {b c : Bool} (h : o.guard = some (j, b)) (hk : Known ops G a w j) (hj : ops[j]? = some oj) (hd : oj.dst = some d) (hg : ∀ v, G j v w → v = .bool c) (hbc : c ≠ b) : Region.wanted o (yielded ops a.tmps) = false := by
  obtain ⟨v, h1, h2⟩ := hk oj d hj hd
  obtain rfl := hg v h2
  unfold Region.wanted yielded
  simp [h, hj, hd, h1, hbc]
theorem unwanted_undef {G : Nat → Value → World → Prop} {o oj : Oper} {a : Act} {w : World} {j d : Nat} {b : Bool} (h : o.guard = some (j, b)) (hk : Known ops G a w j) (hj : ops[j]? = some oj) (hd : oj.dst = some d) (hg : ∀ v, G j v w → v = undef) : Region.wanted o (yielded ops a.tmps) = false := by
  obtain ⟨v, h1, h2⟩ := hk oj d hj hd
  obtain rfl := hg v h2
  unfold Region.wanted yielded
  simp [h, hj, hd, h1, undef]
def StepOKs (P : Program) (md : Region.Mode) (ops : Array Oper) (n : Nat) (Q : Exit → Act → World → Prop) (a0 : Act) (V : World) (G : Nat → Value → World → Prop) (fr : Bool) (i : Nat) (o : Oper) : Prop :=
  ∀ a w, Below V.heap.size V w → AsWas md ops n i a0 a → (∀ e ∈ o.after.toList, Region.binds md e = true → Known ops G a w e.on) →
    (Region.wanted o (yielded ops a.tmps) = true ∧ o.wp P a w (fun a' w' => ∃ v, a' = a.put o.dst v ∧ G i v w' ∧ Below w.heap.size w w' ∧ (fr = true → ∃ g, v = .pointer (some ⟨g, 0, none⟩) ∧ w.heap.size ≤ g ∧ g < w'.heap.size)) Q) ∨
    (Region.wanted o (yielded ops a.tmps) = false ∧ G i undef w ∧ fr = false)
theorem StepOKs.of {n : Nat} {a0 : Act} {V : World} {G : Nat → Value → World → Prop} {i : Nat} {o : Oper}
    (h : ∀ a w, Below V.heap.size V w → AsWas md ops n i a0 a → (∀ e ∈ o.after.toList, Region.binds md e = true → Known ops G a w e.on) →
      Region.wanted o (yielded ops a.tmps) = true ∧ o.wp P a w (fun a' w' => ∃ v, a' = a.put o.dst v ∧ G i v w' ∧ Below w.heap.size w w') Q) : StepOKs P md ops n Q a0 V G false i o := by
  intro a w hb hu hk
  obtain ⟨h1, h2⟩ := h a w hb hu hk
  refine .inl ⟨h1, Oper.wp_mono (fun a' w' h3 => ?_) h2⟩
  obtain ⟨v, e1, e2, e3⟩ := h3
  exact ⟨v, e1, e2, e3, fun h => by cases h⟩
theorem StepOKs.skip {n : Nat} {a0 : Act} {V : World} {G : Nat → Value → World → Prop} {i : Nat} {o : Oper}
    (h : ∀ a w, Below V.heap.size V w → AsWas md ops n i a0 a → (∀ e ∈ o.after.toList, Region.binds md e = true → Known ops G a w e.on) →
      Region.wanted o (yielded ops a.tmps) = false ∧ G i undef w) : StepOKs P md ops n Q a0 V G false i o := by
  intro a w hb hu hk
  obtain ⟨h1, h2⟩ := h a w hb hu hk
  exact .inr ⟨h1, h2, rfl⟩
def StepsOKs (P : Program) (md : Region.Mode) (ops : Array Oper) (n : Nat) (Q : Exit → Act → World → Prop) (a0 : Act) (V : World) (G : Nat → Value → World → Prop) (fr : Nat → Bool) : Nat → List Oper → Prop
  | _, [] => True
  | i, o :: rest => StepOKs P md ops n Q a0 V G (fr i) i o ∧ StepsOKs P md ops n Q a0 V G fr (i + 1) rest
theorem StepsOKs.get {n : Nat} {a0 : Act} {V : World} {G : Nat → Value → World → Prop} {fr : Nat → Bool} : ∀ {l : List Oper} {i : Nat}, StepsOKs P md ops n Q a0 V G fr i l → ∀ k o, l[k]? = some o → StepOKs P md ops n Q a0 V G (fr (i + k)) (i + k) o
  | [], _, _, k, o, h => by simp at h
  | x :: l, i, hs, 0, o, h => by
    obtain rfl : x = o := by simpa using h
    exact hs.1
  | x :: l, i, hs, k + 1, o, h => by
    have := StepsOKs.get hs.2 k o (by simpa using h)
    rwa [show i + 1 + k = i + (k + 1) by omega] at this
theorem wpAny_skip {l : List Oper} {a0 : Act} {V : World} {G : Nat → Value → World → Prop} {n g k : Nat} {fr : Nat → Bool} (hsize : l.length = n + g) (hp : plainB l.toArray a0.tmps.size = true)
    (hsk : g = 0 ∨ (sinkT md l.toArray n k = true ∧ Region.chainB md l.toArray n = true)) (hsq : Region.seqB md l.toArray g n (headDone n g) = true)
    (hG : ∀ i v w w', G i v w → Below w.heap.size w w' → G i v w')
    (hs : ∀ i o, i < n → l[i]? = some o → StepOKs P md l.toArray n Q a0 V G (fr i) i o)
    (ht : ∀ a w, Below V.heap.size V w → Unwritten (l.take n).toArray a0 a → (∀ j, j < n → Known l.toArray G a w j) → (∀ listed, (∀ j, j < n → listed.getD j false = true) → Apart l.toArray fr listed a w → wpList P l.toArray Q (l.drop n) a w)) :
    ∀ (d : Nat) (listed : Array Bool) (a : Act) (w : World), (∀ i, i < k → listed.getD i true = true) → headsLeft listed n = d → HeadInv md l.toArray n listed → Below V.heap.size V w → Clean l.toArray listed a0 a → (∀ j, listed.getD j false = true → Known l.toArray G a w j) → Apart l.toArray fr listed a w →
      wpAny P md l.toArray Q (d + g) listed a w := by
  have hdl : (l.drop n).length = g := by simp; omega
  intro d
  induction d with
  | zero =>
    intro listed a w hkk hd inv hb hu hk hap
    have h1 := headsLeft_zero hd
    have hsz : listed.size = n + g := by rw [inv.size]; simpa using hsize
    have hl := listed_done hsz h1 (fun t h1 h2 => inv.tail t h1 (by simp; omega))
    have hln : ∀ j, j < n → listed.getD j false = true := fun j hj => by
      have := h1 j hj
      rw [Array.getD_eq_getD_getElem?, Array.getElem?_eq_getElem (show j < listed.size by omega)] at this ⊢
      simpa using this
    have hkn : ∀ j, j < n → Known l.toArray G a w j := fun j hj => hk j (hln j hj)
    have hun : Unwritten (l.take n).toArray a0 a := by
      refine ⟨hu.1, hu.2.1, fun t ht => hu.2.2 t fun j oj hj hoj hd => ?_⟩
      have hjn : j < n := by
        rcases Nat.lt_or_ge j n with h | h
        · exact h
        · have hjs : j < l.toArray.size := (Array.getElem?_eq_some_iff.1 hoj).1
          have := inv.tail j h hjs
          rw [getD_both this] at hj
          cases hj
      have h2 : oj ∈ l.take n := List.mem_of_getElem? (i := j) (by rw [List.getElem?_take, if_pos hjn]; simpa using hoj)
      rw [List.all_toArray] at ht
      have := List.all_eq_true.1 ht oj h2
      rw [hd] at this
      simp at this
    have := wpAny_of_seq (P := P) (md := md) (Q' := Q) (ops := l.toArray) (l.drop n) n listed a w (fun j => by simp [List.getElem?_drop]) (by rw [hdl, hl]; exact hsq) (ht a w hb hun hkn listed hln hap)
    rw [Nat.zero_add]
    rwa [hdl] at this
  | succ d ih =>
    intro listed a w hkk hd inv hb hu hk hap
    obtain ⟨u, hun, hul⟩ := headsLeft_some (listed := listed) (n := n) (by omega)
    rw [show d + 1 + g = (d + g) + 1 by omega]
    refine ⟨fun hr => ?_, fun i hi => ?_⟩
    · exfalso
      have := all_listed hp hr (u + 1) u (by omega) (by simp; omega)
      rw [hul] at this
      cases this
    · obtain ⟨h0, o, ho, hall⟩ := mem_ready.1 hi
      have his : i < l.toArray.size := (Array.getElem?_eq_some_iff.1 ho).1
      have hin : i < n := by
        rcases Nat.lt_or_ge i n with h | h
        · exact h
        · rcases hsk with h2 | ⟨h2, h3⟩
          · simp at his; omega
          · exact absurd hi (tail_waitsT h2 hkk h3 (by simp at his ⊢; omega) inv _ u rfl hun hul i h)
      have hset : ∀ j, (listed.setIfInBounds i true).getD j false = true → j = i ∨ listed.getD j false = true := by
        intro j hj
        by_cases hji : j = i
        · exact .inl hji
        · rw [getD_set_ne false (Ne.symm hji)] at hj
          exact .inr hj
      have hwas : AsWas md l.toArray n i a0 a := by
        refine ⟨hu.1, hu.2.1, fun t ht => hu.2.2 t fun j oj hj hoj hdj => ?_⟩
        have hjs : j < l.toArray.size := (Array.getElem?_eq_some_iff.1 hoj).1
        have h1 := List.all_eq_true.1 ht j (List.mem_range.2 hjs)
        rw [hoj] at h1
        simp only [hdj, bne_self_eq_false, Bool.false_or, Bool.or_eq_true] at h1
        rcases h1 with h1 | h1
        · have h2 : n ≤ j := Nat.le_of_ble_eq_true h1
          have := inv.tail j h2 hjs
          rw [getD_both this] at hj
          cases hj
        · obtain ⟨e, he, h2⟩ := List.any_eq_true.1 h1
          simp only [Bool.and_eq_true] at h2
          have h3 := inv.closed j oj hoj hj e (by simpa using he) h2.1
          rw [Nat.eq_of_beq_eq_true h2.2, getD_both h0] at h3
          cases h3
      have key : ∀ v w', G i v w' → Below w.heap.size w w' → (fr i = true → ∃ g, v = .pointer (some ⟨g, 0, none⟩) ∧ w.heap.size ≤ g ∧ g < w'.heap.size) → wpAny P md l.toArray Q (d + g) (listed.setIfInBounds i true) (a.put o.dst v) w' := by
        intro v w' hgv hbw hfr
        have hself : (listed.setIfInBounds i true).getD i false = true := by
          rw [Array.getD_eq_getD_getElem?, Array.getElem?_setIfInBounds_self_of_lt (by rw [inv.size]; exact his)]
          rfl
        refine ih _ _ _ (fun j hj => by
          by_cases e : i = j
          · subst e; rw [Array.getD_eq_getD_getElem?, Array.getElem?_setIfInBounds_self_of_lt (by rw [inv.size]; exact his)]; rfl
          · rw [getD_set_ne true e]; exact hkk j hj) (by have := headsLeft_in h0 hin; omega) (inv.set hi hin) (hb.trans (hbw.mono hb.size)) ?_ ?_ ?_
        · refine ⟨?_, ?_, fun t ht => ?_⟩
          · rw [← hu.1]; unfold Act.put; cases o.dst <;> rfl
          · rw [← hu.2.1]; unfold Act.put; cases o.dst <;> simp
          · have hne : o.dst ≠ some t := ht i o hself ho
            have h2 : a.tmps[t]? = a0.tmps[t]? := hu.2.2 t fun j oj hj hoj => ht j oj (by
              by_cases hji : j = i
              · subst hji; exact hself
              · rw [getD_set_ne false (Ne.symm hji)]; exact hj) hoj
            rw [← h2]
            unfold Act.put
            cases hd : o.dst with
            | none => rfl
            | some d => simp only; rw [Array.getElem?_setIfInBounds_ne]; intro e; subst e; exact hne hd
        · intro j hj oj d' hoj hd'
          by_cases hji : j = i
          · subst hji
            obtain rfl : o = oj := Option.some.inj (ho.symm.trans hoj)
            refine ⟨v, ?_, hgv⟩
            have hlt : d' < a.tmps.size := by rw [hu.2.1]; exact ((plain_at hp ho).2 d' hd').1
            unfold Act.put
            rw [hd']
            simp [hlt]
          · have hj' : listed.getD j false = true := by
              rw [Array.getD_eq_getD_getElem?] at hj ⊢
              rwa [Array.getElem?_setIfInBounds_ne (Ne.symm hji)] at hj
            obtain ⟨u', h1, h2⟩ := hk j hj' oj d' hoj hd'
            refine ⟨u', ?_, hG _ _ _ _ h2 hbw⟩
            rw [← h1]
            unfold Act.put
            cases hdi : o.dst with
            | none => rfl
            | some d'' =>
              simp only
              rw [Array.getElem?_setIfInBounds_ne]
              rintro rfl
              exact hji (plain_apart hp hoj ho hd' hdi)
        · have hold : ∀ j oj d', listed.getD j false = true → l.toArray[j]? = some oj → oj.dst = some d' → (a.put o.dst v).tmps[d']? = a.tmps[d']? := by
            intro j oj d' hj hoj hd'
            unfold Act.put
            cases hdi : o.dst with
            | none => rfl
            | some d'' =>
              simp only
              rw [Array.getElem?_setIfInBounds_ne]
              rintro rfl
              have := plain_apart hp hoj ho hd' hdi
              subst this
              rw [getD_both h0] at hj
              cases hj
          have hnew : ∀ d', o.dst = some d' → (a.put o.dst v).tmps[d']? = some v := by
            intro d' hd'
            have hlt : d' < a.tmps.size := by rw [hu.2.1]; exact ((plain_at hp ho).2 d' hd').1
            unfold Act.put
            rw [hd']
            simp [hlt]
          refine ⟨fun j oj d' hj hfj hoj hd' => ?_, fun j j' oj oj' d1 d2 hne hj hj' hfj hfj' hoj hoj' hd1 hd2 => ?_⟩
          · rcases hset j hj with rfl | hj
            · obtain rfl : o = oj := Option.some.inj (ho.symm.trans hoj)
              obtain ⟨g', e1, _, e3⟩ := hfr hfj
              exact ⟨g', by rw [hnew d' hd', e1], e3⟩
            · obtain ⟨g', e1, e2⟩ := hap.1 j oj d' hj hfj hoj hd'
              exact ⟨g', by rw [hold j oj d' hj hoj hd', e1], Nat.lt_of_lt_of_le e2 hbw.size⟩
          · rcases hset j hj with rfl | hjo <;> rcases hset j' hj' with rfl | hjo'
            · exact absurd rfl hne
            · obtain rfl : o = oj := Option.some.inj (ho.symm.trans hoj)
              obtain ⟨g', e1, e2, _⟩ := hfr hfj
              obtain ⟨g2, e3, e4⟩ := hap.1 j' oj' d2 hjo' hfj' hoj' hd2
              rw [hnew d1 hd1, hold j' oj' d2 hjo' hoj' hd2, e1, e3]
              intro e
              simp only [Option.some.injEq, Value.pointer.injEq, Addr.mk.injEq, and_true] at e
              omega
            · obtain rfl : o = oj' := Option.some.inj (ho.symm.trans hoj')
              obtain ⟨g', e1, e2, _⟩ := hfr hfj'
              obtain ⟨g2, e3, e4⟩ := hap.1 j oj d1 hjo hfj hoj hd1
              rw [hnew d2 hd2, hold j oj d1 hjo hoj hd1, e1, e3]
              intro e
              simp only [Option.some.injEq, Value.pointer.injEq, Addr.mk.injEq, and_true] at e
              omega
            · rw [hold j oj d1 hjo hoj hd1, hold j' oj' d2 hjo' hoj' hd2]
              exact hap.2 j j' oj oj' d1 d2 hne hjo hjo' hfj hfj' hoj hoj' hd1 hd2
      unfold wpOp
      rw [ho]
      rcases hs i o hin (by simpa using ho) a w hb hwas (fun e he hbd => hk e.on (hall e (by simpa using he) hbd)) with ⟨hwd, hstep⟩ | ⟨hwd, hgu, hfu⟩
      · simp only [hwd, if_true]
        exact .inl (Oper.wp_mono (fun a' w' h => by
          obtain ⟨v, rfl, h1, h2, h3⟩ := h
          exact key v w' h1 h2 h3) hstep)
      · simp only [hwd]
        exact key undef w hgu (Below.refl _ _) (fun h => by rw [hfu] at h; cases h)
/-- The law, where operations may be skipped. -/
theorem wp_region_skip {id : Nat} {l : List Oper} {a0 : Act} {w : World} (n g : Nat) (fr : Nat → Bool) (G : Nat → Value → World → Prop) (hm : P.follows .mixedOrders = true) (hsize : l.length = n + g)
    (hch : (plainB l.toArray a0.tmps.size && (Nat.beq g 0 || (Region.sinkB .any l.toArray n && Region.chainB .any l.toArray n)) && Region.seqB .any l.toArray g n (headDone n g)) = true) (hG : ∀ i v w w', G i v w → Below w.heap.size w w' → G i v w')
    (hs : StepsOKs P .any l.toArray n Q a0 w G fr 0 (l.take n))
    (ht : ∀ a w', Below w.heap.size w w' → Unwritten (l.take n).toArray a0 a → (∀ j, j < n → Known l.toArray G a w' j) → (∀ i j oi oj d d', i < n → j < n → i ≠ j → fr i = true → fr j = true → l[i]? = some oi → l[j]? = some oj → oi.dst = some d → oj.dst = some d' → a.tmps[d]? ≠ a.tmps[d']?) → wpList P l.toArray Q (l.drop n) a w') : (Code.region id l.toArray true).wp P Q a0 w := by
  simp only [Bool.and_eq_true, Bool.or_eq_true] at hch
  obtain ⟨⟨hp, hsk⟩, hsq⟩ := hch
  have H := wpAny_skip (P := P) (Q := Q) (md := .any) (V := w) (n := n) (g := g) (k := 0) (fr := fr) hsize hp (hsk.imp Nat.eq_of_beq_eq_true (fun h => ⟨sinkT_of h.1, h.2⟩)) hsq hG (fun i o hi ho => by
      have h1 : (l.take n)[i]? = some o := by rw [List.getElem?_take, if_pos hi]; exact ho
      have := hs.get i o h1
      rwa [Nat.zero_add] at this) (fun a w' hb hu hk listed hln hap => ht a w' hb hu hk fun i j oi oj d d' hi hj hne hfi hfj hoi hoj hd hd' => hap.2 i j oi oj d d' hne (hln i hi) (hln j hj) hfi hfj (by simpa using hoi) (by simpa using hoj) hd hd') n (Array.replicate l.toArray.size false) a0 { w with drawn := w.drawn + 1 } (fun i hi => absurd hi (Nat.not_lt_zero i)) (headsLeft_full _ n (by simp; omega))
    ⟨by simp, fun j oj _ hl => (by rw [getD_replicate_false] at hl; cases hl), fun t _ ht => getD_in (by simpa using ht) (getD_replicate_false _ _)⟩
    (Below.refl _ _).drew ⟨rfl, rfl, fun _ _ => rfl⟩ (fun j hj => (by rw [getD_replicate_false] at hj; cases hj)) ⟨fun j _ _ hj => (by rw [getD_replicate_false] at hj; cases hj), fun i j _ _ _ _ _ hi => (by rw [getD_replicate_false] at hi; cases hi)⟩
  rw [show n + g = l.toArray.size by simp; omega] at H
  exact wp_region_any hm H
end
end Go.Proofs.YtfgieebccjoboaaDoor
