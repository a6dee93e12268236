/- The law of a region in general, where one operation ahead yields in whatever world and need not be waited for: it is taken as soon as it may come up. -/
import Derived.Test.YtndknifdajjalaaGreatDoorPFreeL
namespace Go.Proofs.YtndknifdajjalaaGreatDoor
open Go.RowKit

section
variable {P : Program} {ops : Array Oper} {Q : Exit → Act → World → Prop} {md : Region.Mode}

/-- As plainB, of what is waited for. -/
def plainQ (md : Region.Mode) (ops : Array Oper) (N : Nat) : Bool :=
  (List.range ops.size).all fun i => match ops[i]? with
    | some o => (o.after.toList.all fun e => !Region.binds md e || Nat.blt e.on i) && (match o.dst with
      | some d => Nat.blt d N && ((List.range i).all fun j => match (ops[j]?).bind (·.dst) with
        | some d' => !Nat.beq d' d
        | none => true)
      | none => true)
    | none => true
theorem plainQ_at {N : Nat} (h : plainQ md ops N = true) {i : Nat} {o : Oper} (hi : ops[i]? = some o) :
    (∀ e ∈ o.after.toList, Region.binds md e = true → e.on < i) ∧ ∀ d, o.dst = some d → d < N ∧ ∀ j oj, j < i → ops[j]? = some oj → oj.dst ≠ some d := by
  have hlt : i < ops.size := (Array.getElem?_eq_some_iff.1 hi).1
  have h1 := List.all_eq_true.1 h i (List.mem_range.2 hlt)
  rw [hi] at h1
  simp only [Bool.and_eq_true] at h1
  obtain ⟨h2, h3⟩ := h1
  refine ⟨fun e he hb => ?_, fun d hd => ?_⟩
  · have := List.all_eq_true.1 h2 e he
    rw [hb] at this
    simpa using this
  · rw [hd] at h3
    simp only [Bool.and_eq_true] at h3
    refine ⟨by have h4 := h3.1; rwa [Nat.blt_eq] at h4, fun j oj hj hoj hdj => ?_⟩
    have := List.all_eq_true.1 h3.2 j (List.mem_range.2 hj)
    rw [hoj, Option.bind_some, hdj] at this
    simp at this
theorem plainQ_apart {N : Nat} (h : plainQ md ops N = true) {i j : Nat} {oi oj : Oper} {d : Nat} (hi : ops[i]? = some oi) (hj : ops[j]? = some oj) (hd : oi.dst = some d) (he : oj.dst = some d) : i = j := by
  rcases Nat.lt_trichotomy i j with h1 | h1 | h1
  · exact absurd hd (((plainQ_at h hj).2 d he).2 i oi h1 hi)
  · exact h1
  · exact absurd he (((plainQ_at h hi).2 d hd).2 j oj h1 hj)
/-- What is not listed and not ready waits for what is not listed. -/
theorem waits_some {j : Nat} {oj : Oper} {listed : Array Bool} (hj : ops[j]? = some oj) (hs : listed.size = ops.size) (hl : listed.getD j true = false) (hr : j ∉ Region.ready md ops listed) : ∃ e ∈ oj.after.toList, Region.binds md e = true ∧ (listed.getD e.on true = false ∨ ops.size ≤ e.on) := by
  refine Classical.byContradiction fun hno => hr (mem_ready.2 ⟨hl, oj, hj, fun e he hb => ?_⟩)
  have h1 : ¬ (listed.getD e.on true = false ∨ ops.size ≤ e.on) := fun h => hno ⟨e, by simpa using he, hb, h⟩
  have h2 : e.on < ops.size := by omega
  cases hg : listed.getD e.on false with
  | true => rfl
  | false => exact absurd (.inl (getD_in (by rw [hs]; exact h2) hg)) h1
theorem all_listedQ {N : Nat} (h : plainQ md ops N = true) {listed : Array Bool} (hs : listed.size = ops.size) (hr : Region.ready md ops listed = []) : ∀ n j, j < n → j < ops.size → listed.getD j true = true := by
  intro n
  induction n with
  | zero => intro j hj; omega
  | succ n ih =>
    intro j hj hjs
    by_cases hjn : j < n
    · exact ih j hjn hjs
    · obtain rfl : j = n := by omega
      cases hl : listed.getD j true with
      | true => rfl
      | false =>
        obtain ⟨e, he, hb, h1⟩ := waits_some (md := md) (Array.getElem?_eq_getElem hjs) hs hl (by rw [hr]; simp)
        have h2 := (plainQ_at h (Array.getElem?_eq_getElem hjs)).1 e he hb
        rcases h1 with h1 | h1
        · rw [ih e.on h2 (by omega)] at h1
          cases h1
        · omega
/-- Each of the first n operations but one is waited for, by others than that one. -/
def sinkQ (md : Region.Mode) (ops : Array Oper) (n L : Nat) : Bool :=
  (List.range n).all fun i => Nat.beq i L || (List.range (n + 1)).any fun j => decide (i < j) && !(Nat.beq j L) && Region.waitsFor md ops j i
/-- All others wait for that one, or it waits for them, or they have nothing to do with it. -/
def freeQ (md : Region.Mode) (ops : Array Oper) (L : Nat) : Bool :=
  match ops[L]? with
  | none => false
  | some oL => (List.range ops.size).all fun j => j == L || oL.after.any (fun e => Region.binds md e && e.on == j) || match ops[j]? with
      | some oj => oj.after.any (fun e => Region.binds md e && e.on == L) || oL.apart ops oj
      | none => true
theorem freeQ_of {L : Nat} (h : freeQ md ops L = true) {listed : Array Bool} (hr : L ∈ Region.ready md ops listed) : Region.free md ops listed L = true := by
  obtain ⟨_, o, ho, hall⟩ := mem_ready.1 hr
  unfold freeQ at h
  unfold Region.free
  rw [ho] at h ⊢
  simp only at h ⊢
  rw [List.all_eq_true] at h ⊢
  intro j hj
  have h1 := h j hj
  rw [Bool.or_eq_true, Bool.or_eq_true] at h1 ⊢
  rcases h1 with (h1 | h1) | h1
  · exact .inl (.inl h1)
  · refine .inl (.inr ?_)
    obtain ⟨e, he, h2⟩ := Array.any_eq_true'.1 h1
    simp only [Bool.and_eq_true, beq_iff_eq] at h2
    have h3 := hall e he h2.1
    rw [h2.2] at h3
    rw [Array.getD_eq_getD_getElem?] at h3 ⊢
    cases hg : listed[j]? with
    | none => rfl
    | some b => rw [hg] at h3; simpa using h3
  · exact .inr h1
theorem tail_waitsQ {n L : Nat} {listed : Array Bool} (hs : sinkQ md ops n L = true) (hc : Region.chainB md ops n = true) (hn : n < ops.size) (inv : HeadInv md ops n listed) :
    ∀ (d i : Nat), n - i = d → i < n → i ≠ L → listed.getD i true = false → ∀ t, n ≤ t → t ∉ Region.ready md ops listed := by
  intro d
  induction d using Nat.strongRecOn with
  | _ d ih =>
    intro i hd hi hiL hun t ht hr
    obtain ⟨_, ot, hot, hall⟩ := mem_ready.1 hr
    have htlt : t < ops.size := (Array.getElem?_eq_some_iff.1 hot).1
    by_cases htn : t = n
    · subst htn
      have h1 := List.all_eq_true.1 hs i (List.mem_range.2 hi)
      rw [Bool.or_eq_true] at h1
      rcases h1 with h1 | h1
      · exact absurd (Nat.eq_of_beq_eq_true h1) hiL
      obtain ⟨j, hj, hj2⟩ := List.any_eq_true.1 h1
      simp only [Bool.and_eq_true, decide_eq_true_eq] at hj2
      obtain ⟨oj, hoj, e, he, hb, hon⟩ := Region.waitsFor_spec hj2.2
      have hjL : j ≠ L := fun h => by
        have := hj2.1.2
        rw [h] at this
        simp at this
      have hjle : j ≤ t := by have := List.mem_range.1 hj; omega
      by_cases hjt : j = t
      · subst hjt
        have : oj = ot := Option.some.inj (hoj.symm.trans hot)
        subst this
        have h2 := hall e he hb
        rw [hon, getD_both hun] at h2
        cases h2
      · cases hl : listed.getD j false with
        | true =>
          have h2 := inv.closed j oj hoj hl e he hb
          rw [hon, getD_both hun] at h2
          cases h2
        | false =>
          have hjs : j < listed.size := by rw [inv.size]; omega
          exact ih (t - j) (by omega) j rfl (by omega) hjL (getD_in hjs hl) t (Nat.le_refl _) hr
    · have h1 := List.all_eq_true.1 hc t (List.mem_range.2 htlt)
      simp only [Bool.or_eq_true, decide_eq_true_eq] at h1
      rcases h1 with h1 | h1
      · omega
      · obtain ⟨o', ho', e, he, hb, hon⟩ := Region.waitsFor_spec h1
        have : o' = ot := Option.some.inj (ho'.symm.trans hot)
        subst this
        have h2 := hall e he hb
        rw [hon, getD_both (inv.tail (t - 1) (by omega) (by omega))] at h2
        cases h2
theorem wpAny_late {l : List Oper} {a0 : Act} {V : World} {G : Nat → Value → World → Prop} {n g L : Nat} {fr : Nat → Bool} (hsize : l.length = n + g) (hp : plainQ md l.toArray a0.tmps.size = true)
    (hgp : 0 < g) (hLn : L < n) (hns : Region.noSelect l.toArray = true) (hfr : freeQ md l.toArray L = true) (hQ : ∀ c (a : Act) (d : Nat) v w, Q (.panic c) (a.put (some d) v) w → Q (.panic c) a w) (hsk : sinkQ md l.toArray n L = true ∧ Region.chainB md l.toArray n = true) (hsq : Region.seqB md l.toArray g n (headDone n g) = true)
    (hG : ∀ i v w w', G i v w → Below w.heap.size w w' → G i v w')
    (hs : ∀ i o, i < n → l[i]? = some o → StepOKl P md l.toArray n Q a0 V G (fr i) i o)
    (hL : fr L = false) (hlate : ∀ o, l[L]? = some o → ∀ a w, Below V.heap.size V w → AsWas md l.toArray n L a0 a → (∀ e ∈ o.after.toList, Region.binds md e = true → Known l.toArray G a w e.on) → ∃ v, Yields P l.toArray o v a ∧ G L v w)
    (ht : ∀ a w, Below V.heap.size V w → Unwritten (l.take n).toArray a0 a → (∀ j, j < n → Known l.toArray G a w j) → (∀ listed, (∀ j, j < n → listed.getD j false = true) → Apart l.toArray fr listed a w → wpList P l.toArray Q (l.drop n) a w)) :
    ∀ (d : Nat) (listed : Array Bool) (a : Act) (w : World), headsLeft listed n = d → HeadInv md l.toArray n listed → Below V.heap.size V w → Clean l.toArray listed a0 a → (∀ j, listed.getD j false = true → Known l.toArray G a w j) → Apart l.toArray fr listed a w →
      wpAny P md l.toArray Q (d + g) listed a w := by
  have hdl : (l.drop n).length = g := by simp; omega
  intro d
  induction d with
  | zero =>
    intro listed a w hd inv hb hu hk hap
    have h1 := headsLeft_zero hd
    have hsz : listed.size = n + g := by rw [inv.size]; simpa using hsize
    have hl := listed_done hsz h1 (fun t h1 h2 => inv.tail t h1 (by simp; omega))
    have hln : ∀ j, j < n → listed.getD j false = true := fun j hj => by
      have := h1 j hj
      rw [Array.getD_eq_getD_getElem?, Array.getElem?_eq_getElem (show j < listed.size by omega)] at this ⊢
      simpa using this
    have hkn : ∀ j, j < n → Known l.toArray G a w j := fun j hj => hk j (hln j hj)
    have hun : Unwritten (l.take n).toArray a0 a := by
      refine ⟨hu.1, hu.2.1, fun t ht => hu.2.2 t fun j oj hj hoj hd => ?_⟩
      have hjn : j < n := by
        rcases Nat.lt_or_ge j n with h | h
        · exact h
        · have hjs : j < l.toArray.size := (Array.getElem?_eq_some_iff.1 hoj).1
          have := inv.tail j h hjs
          rw [getD_both this] at hj
          cases hj
      have h2 : oj ∈ l.take n := List.mem_of_getElem? (i := j) (by rw [List.getElem?_take, if_pos hjn]; simpa using hoj)
      rw [List.all_toArray] at ht
      have := List.all_eq_true.1 ht oj h2
      rw [hd] at this
      simp at this
    have := wpAny_of_seq (P := P) (md := md) (Q' := Q) (ops := l.toArray) (l.drop n) n listed a w (fun j => by simp [List.getElem?_drop]) (by rw [hdl, hl]; exact hsq) (ht a w hb hun hkn listed hln hap)
    rw [Nat.zero_add]
    rwa [hdl] at this
  | succ d ih =>
    intro listed a w hd inv hb hu hk hap
    obtain ⟨u, hun, hul⟩ := headsLeft_some (listed := listed) (n := n) (by omega)
    rw [show d + 1 + g = (d + g) + 1 by omega]
    have hsz : listed.size = l.toArray.size := inv.size
    have was : ∀ i, listed.getD i true = false → AsWas md l.toArray n i a0 a := by
      intro i h0
      refine ⟨hu.1, hu.2.1, fun t ht => hu.2.2 t fun j oj hj hoj hdj => ?_⟩
      have hjs : j < l.toArray.size := (Array.getElem?_eq_some_iff.1 hoj).1
      have h1 := List.all_eq_true.1 ht j (List.mem_range.2 hjs)
      rw [hoj] at h1
      simp only [hdj, bne_self_eq_false, Bool.false_or, Bool.or_eq_true] at h1
      rcases h1 with h1 | h1
      · have h2 : n ≤ j := Nat.le_of_ble_eq_true h1
        have := inv.tail j h2 hjs
        rw [getD_both this] at hj
        cases hj
      · obtain ⟨e, he, h2⟩ := List.any_eq_true.1 h1
        simp only [Bool.and_eq_true] at h2
        have h3 := inv.closed j oj hoj hj e (by simpa using he) h2.1
        rw [Nat.eq_of_beq_eq_true h2.2, getD_both h0] at h3
        cases h3
    have step : ∀ i o v w', i ∈ Region.ready md l.toArray listed → i < n → l.toArray[i]? = some o → listed.getD i true = false → G i v w' → Below w.heap.size w w' → (fr i = true → ∃ g, v = .pointer (some ⟨g, 0, none⟩) ∧ w.heap.size ≤ g ∧ g < w'.heap.size) →
        wpAny P md l.toArray Q (d + g) (listed.setIfInBounds i true) (a.put o.dst v) w' := by
      intro i o v w' hi hin ho h0 hgv hbw hfr
      have his : i < l.toArray.size := (Array.getElem?_eq_some_iff.1 ho).1
      have hset : ∀ j, (listed.setIfInBounds i true).getD j false = true → j = i ∨ listed.getD j false = true := by
        intro j hj
        by_cases hji : j = i
        · exact .inl hji
        · rw [getD_set_ne false (Ne.symm hji)] at hj
          exact .inr hj
      have hself : (listed.setIfInBounds i true).getD i false = true := by
        rw [Array.getD_eq_getD_getElem?, Array.getElem?_setIfInBounds_self_of_lt (by rw [inv.size]; exact his)]
        rfl
      refine ih _ _ _ (by have := headsLeft_in h0 hin; omega) (inv.set hi hin) (hb.trans (hbw.mono hb.size)) ?_ ?_ ?_
      · refine ⟨?_, ?_, fun t ht => ?_⟩
        · rw [← hu.1]; unfold Act.put; cases o.dst <;> rfl
        · rw [← hu.2.1]; unfold Act.put; cases o.dst <;> simp
        · have hne : o.dst ≠ some t := ht i o hself ho
          have h2 : a.tmps[t]? = a0.tmps[t]? := hu.2.2 t fun j oj hj hoj => ht j oj (by
            by_cases hji : j = i
            · subst hji; exact hself
            · rw [getD_set_ne false (Ne.symm hji)]; exact hj) hoj
          rw [← h2]
          unfold Act.put
          cases hd : o.dst with
          | none => rfl
          | some d => simp only; rw [Array.getElem?_setIfInBounds_ne]; intro e; subst e; exact hne hd
      · intro j hj oj d' hoj hd'
        by_cases hji : j = i
        · subst hji
          obtain rfl : o = oj := Option.some.inj (ho.symm.trans hoj)
          refine ⟨v, ?_, hgv⟩
          have hlt : d' < a.tmps.size := by rw [hu.2.1]; exact ((plainQ_at hp ho).2 d' hd').1
          unfold Act.put
          rw [hd']
          simp [hlt]
        · have hj' : listed.getD j false = true := by
            rw [Array.getD_eq_getD_getElem?] at hj ⊢
            rwa [Array.getElem?_setIfInBounds_ne (Ne.symm hji)] at hj
          obtain ⟨u', h1, h2⟩ := hk j hj' oj d' hoj hd'
          refine ⟨u', ?_, hG _ _ _ _ h2 hbw⟩
          rw [← h1]
          unfold Act.put
          cases hdi : o.dst with
          | none => rfl
          | some d'' =>
            simp only
            rw [Array.getElem?_setIfInBounds_ne]
            rintro rfl
            exact hji (plainQ_apart hp hoj ho hd' hdi)
      · have hold : ∀ j oj d', listed.getD j false = true → l.toArray[j]? = some oj → oj.dst = some d' → (a.put o.dst v).tmps[d']? = a.tmps[d']? := by
          intro j oj d' hj hoj hd'
          unfold Act.put
          cases hdi : o.dst with
          | none => rfl
          | some d'' =>
            simp only
            rw [Array.getElem?_setIfInBounds_ne]
            rintro rfl
            have := plainQ_apart hp hoj ho hd' hdi
            subst this
            rw [getD_both h0] at hj
            cases hj
        have hnew : ∀ d', o.dst = some d' → (a.put o.dst v).tmps[d']? = some v := by
          intro d' hd'
          have hlt : d' < a.tmps.size := by rw [hu.2.1]; exact ((plainQ_at hp ho).2 d' hd').1
          unfold Act.put
          rw [hd']
          simp [hlt]
        refine ⟨fun j oj d' hj hfj hoj hd' => ?_, fun j j' oj oj' d1 d2 hne hj hj' hfj hfj' hoj hoj' hd1 hd2 => ?_⟩
        · rcases hset j hj with rfl | hj
          · obtain rfl : o = oj := Option.some.inj (ho.symm.trans hoj)
            obtain ⟨g', e1, _, e3⟩ := hfr hfj
            exact ⟨g', by rw [hnew d' hd', e1], e3⟩
          · obtain ⟨g', e1, e2⟩ := hap.1 j oj d' hj hfj hoj hd'
            exact ⟨g', by rw [hold j oj d' hj hoj hd', e1], Nat.lt_of_lt_of_le e2 hbw.size⟩
        · rcases hset j hj with rfl | hjo <;> rcases hset j' hj' with rfl | hjo'
          · exact absurd rfl hne
          · obtain rfl : o = oj := Option.some.inj (ho.symm.trans hoj)
            obtain ⟨g', e1, e2, _⟩ := hfr hfj
            obtain ⟨g2, e3, e4⟩ := hap.1 j' oj' d2 hjo' hfj' hoj' hd2
            rw [hnew d1 hd1, hold j' oj' d2 hjo' hoj' hd2, e1, e3]
            intro e
            simp only [Option.some.injEq, Value.pointer.injEq, Addr.mk.injEq, and_true] at e
            omega
          · obtain rfl : o = oj' := Option.some.inj (ho.symm.trans hoj')
            obtain ⟨g', e1, e2, _⟩ := hfr hfj'
            obtain ⟨g2, e3, e4⟩ := hap.1 j oj d1 hjo hfj hoj hd1
            rw [hnew d2 hd2, hold j oj d1 hjo hoj hd1, e1, e3]
            intro e
            simp only [Option.some.injEq, Value.pointer.injEq, Addr.mk.injEq, and_true] at e
            omega
          · rw [hold j oj d1 hjo hoj hd1, hold j' oj' d2 hjo' hoj' hd2]
            exact hap.2 j j' oj oj' d1 d2 hne hjo hjo' hfj hfj' hoj hoj' hd1 hd2

    by_cases hLr : L ∈ Region.ready md l.toArray listed
    · obtain ⟨h0, o, ho, hall⟩ := mem_ready.1 hLr
      obtain ⟨v, hy, hgv⟩ := hlate o (by simpa using ho) a w hb (was L h0) (fun e he hbd => hk e.on (hall e (by simpa using he) hbd))
      exact wpAny_take ho hns (freeQ_of hfr hLr) (by simpa using hLr) (fun c a w h => by
        cases hd : o.dst with
        | none => rw [hd] at h; exact h
        | some d => rw [hd] at h; exact hQ c a d v w h) hy (step L o v w hLr hLn ho h0 hgv (Below.refl _ _) (fun h => by rw [hL] at h; cases h))
    · refine ⟨fun hr => ?_, fun i hi => ?_⟩
      · exfalso
        have := all_listedQ hp hsz hr (u + 1) u (by omega) (by simp; omega)
        rw [hul] at this
        cases this
      · obtain ⟨h0, o, ho, hall⟩ := mem_ready.1 hi
        have hin : i < n := by
          rcases Nat.lt_or_ge i n with h | h
          · exact h
          · exfalso
            by_cases huL : u = L
            · subst huL
              have hus : u < l.toArray.size := by simp; omega
              obtain ⟨e, he, hbd, h1⟩ := waits_some (md := md) (Array.getElem?_eq_getElem hus) hsz hul hLr
              have h2 := (plainQ_at hp (Array.getElem?_eq_getElem hus)).1 e he hbd
              rcases h1 with h1 | h1
              · exact tail_waitsQ hsk.1 hsk.2 (by simp; omega) inv _ e.on rfl (by omega) (by omega) h1 i h hi
              · omega
            · exact tail_waitsQ hsk.1 hsk.2 (by simp; omega) inv _ u rfl hun huL hul i h hi
        obtain ⟨hwd, hstep⟩ := hs i o hin (by simpa using ho) a w hb (was i h0) (fun e he hbd => hk e.on (hall e (by simpa using he) hbd))
        unfold wpOp
        rw [ho]
        simp only [hwd, if_true]
        refine .inl (Oper.wp_mono (K := fun a' w' => ∃ v, a' = a.put o.dst v ∧ G i v w' ∧ Below w.heap.size w w' ∧ (fr i = true → ∃ g, v = .pointer (some ⟨g, 0, none⟩) ∧ w.heap.size ≤ g ∧ g < w'.heap.size)) (fun a' w' h => ?_) hstep)
        obtain ⟨v, rfl, hgv, hbw, hfr⟩ := h
        exact step i o v w' hi hin ho h0 hgv hbw hfr

/-- The law, where operation L is taken as soon as it may come up. -/
theorem wp_region_late {id : Nat} {l : List Oper} {a0 : Act} {w : World} (n g L : Nat) (fr : Nat → Bool) (G : Nat → Value → World → Prop) (hm : P.follows .mixedOrders = true) (hsize : l.length = n + g)
    (hch : (plainQ .any l.toArray a0.tmps.size && Nat.blt 0 g && Nat.blt L n && Region.noSelect l.toArray && freeQ .any l.toArray L && sinkQ .any l.toArray n L && Region.chainB .any l.toArray n && Region.seqB .any l.toArray g n (headDone n g)) = true)
    (hQ : ∀ c (a : Act) (d : Nat) v w, Q (.panic c) (a.put (some d) v) w → Q (.panic c) a w) (hL : fr L = false) (hG : ∀ i v w w', G i v w → Below w.heap.size w w' → G i v w')
    (hlate : ∀ o, l[L]? = some o → ∀ a w', Below w.heap.size w w' → AsWas .any l.toArray n L a0 a → (∀ e ∈ o.after.toList, Region.binds .any e = true → Known l.toArray G a w' e.on) → ∃ v, Yields P l.toArray o v a ∧ G L v w')
    (hs : StepsOKl P .any l.toArray n Q a0 w G fr 0 (l.take n))
    (ht : ∀ a w', Below w.heap.size w w' → Unwritten (l.take n).toArray a0 a → (∀ j, j < n → Known l.toArray G a w' j) → (∀ i j oi oj d d', i < n → j < n → i ≠ j → fr i = true → fr j = true → l[i]? = some oi → l[j]? = some oj → oi.dst = some d → oj.dst = some d' → a.tmps[d]? ≠ a.tmps[d']?) → wpList P l.toArray Q (l.drop n) a w') : (Code.region id l.toArray true).wp P Q a0 w := by
  simp only [Bool.and_eq_true] at hch
  obtain ⟨⟨⟨⟨⟨⟨⟨hp, hgp⟩, hLn⟩, hns⟩, hfr⟩, hsk⟩, hcb⟩, hsq⟩ := hch
  have H := wpAny_late (P := P) (Q := Q) (md := .any) (V := w) (n := n) (g := g) (L := L) (fr := fr) hsize hp (by simpa using hgp) (by simpa using hLn) hns hfr hQ ⟨hsk, hcb⟩ hsq hG (fun i o hi ho => by
      have h1 : (l.take n)[i]? = some o := by rw [List.getElem?_take, if_pos hi]; exact ho
      have := hs.get i o h1
      rwa [Nat.zero_add] at this) hL hlate (fun a w' hb hu hk listed hln hap => ht a w' hb hu hk fun i j oi oj d d' hi hj hne hfi hfj hoi hoj hd hd' => hap.2 i j oi oj d d' hne (hln i hi) (hln j hj) hfi hfj (by simpa using hoi) (by simpa using hoj) hd hd') n (Array.replicate l.toArray.size false) a0 { w with drawn := w.drawn + 1 } (headsLeft_full _ n (by simp; omega))
    ⟨by simp, fun j oj _ hl => (by rw [getD_replicate_false] at hl; cases hl), fun t _ ht => getD_in (by simpa using ht) (getD_replicate_false _ _)⟩
    (Below.refl _ _).drew ⟨rfl, rfl, fun _ _ => rfl⟩ (fun j hj => (by rw [getD_replicate_false] at hj; cases hj)) ⟨fun j _ _ hj => (by rw [getD_replicate_false] at hj; cases hj), fun i j _ _ _ _ _ hi => (by rw [getD_replicate_false] at hi; cases hi)⟩
  rw [show n + g = l.toArray.size by simp; omega] at H
  exact wp_region_any hm H
end
end Go.Proofs.YtndknifdajjalaaGreatDoor
