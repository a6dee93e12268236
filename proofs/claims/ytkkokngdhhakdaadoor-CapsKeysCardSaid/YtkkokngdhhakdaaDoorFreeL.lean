/- A region whose operations may come up in many orders, and which only makes memory: it is enough that each operation keeps its own promise, whatever came ahead of it. A region whose operations but the last only read or make memory, and whose last waits for all others: each operation keeps its own promise, whatever came ahead of it; the last is run when all promises hold. As wp_region_free_chain, and it is told of the variables that the region makes that they are unlike. The law of a region in general: n operations ahead, in whatever order, each keeping its own promise, only reading or making memory; g operations behind them, one by one. An operation reads a variable as it was where whoever writes it waits for the reader. The variables that are made are unlike. -/
import Derived.Test.YtkkokngdhhakdaaDoorMem
import Derived.Test.YtkkokngdhhakdaaDoorNet
import Derived.Orders
import Derived.RegionTactic
import Derived.BigRegion
import Derived.StillTail
import Derived.Deep.MidRow
import Derived.Test.YtkkokngdhhakdaaDoorU8
namespace Go.Proofs.YtkkokngdhhakdaaDoor
open Go.RowKit

section
variable {P : Program} {ops : Array Oper} {Q : Exit → Act → World → Prop} {md : Region.Mode}

/-- Operation j's temporary holds what operation j promises. -/
def Known (ops : Array Oper) (G : Nat → Value → World → Prop) (a : Act) (w : World) (j : Nat) : Prop :=
  ∀ oj d, ops[j]? = some oj → oj.dst = some d → ∃ v, a.tmps[d]? = some v ∧ G j v w
/-- A slot that no operation of the region writes is as it was. -/
def Unwritten (ops : Array Oper) (a0 a : Act) : Prop :=
  a.defers = a0.defers ∧ a.tmps.size = a0.tmps.size ∧ ∀ t, (ops.all fun o => o.dst != some t) = true → a.tmps[t]? = a0.tmps[t]?
/-- One operation keeps its promise. -/
def StepOK (P : Program) (md : Region.Mode) (ops : Array Oper) (Q : Exit → Act → World → Prop) (a0 : Act) (V : World) (G : Nat → Value → World → Prop) (i : Nat) (o : Oper) : Prop :=
  ∀ a w, Below V.heap.size V w → Unwritten ops a0 a → (∀ e ∈ o.after.toList, Region.binds md e = true → Known ops G a w e.on) →
    Region.wanted o (yielded ops a.tmps) = true ∧ o.wp P a w (fun a' w' => ∃ v, a' = a.put o.dst v ∧ G i v w' ∧ Below w.heap.size w w') Q
/-- All of them, from number i on. -/
def StepsOK (P : Program) (md : Region.Mode) (ops : Array Oper) (Q : Exit → Act → World → Prop) (a0 : Act) (V : World) (G : Nat → Value → World → Prop) : Nat → List Oper → Prop
  | _, [] => True
  | i, o :: rest => StepOK P md ops Q a0 V G i o ∧ StepsOK P md ops Q a0 V G (i + 1) rest
theorem StepsOK.get {a0 : Act} {V : World} {G : Nat → Value → World → Prop} : ∀ {l : List Oper} {i : Nat}, StepsOK P md ops Q a0 V G i l → ∀ k o, l[k]? = some o → StepOK P md ops Q a0 V G (i + k) o
  | [], _, _, k, o, h => by simp at h
  | x :: l, i, hs, 0, o, h => by
    obtain rfl : x = o := by simpa using h
    exact hs.1
  | x :: l, i, hs, k + 1, o, h => by
    have := StepsOK.get hs.2 k o (by simpa using h)
    rwa [show i + 1 + k = i + (k + 1) by omega] at this

/-- Each operation waits for elder ones alone, and writes a slot of its own that is there. -/
def plainB (ops : Array Oper) (N : Nat) : Bool :=
  (List.range ops.size).all fun i => match ops[i]? with
    | some o => (o.after.toList.all fun e => Nat.blt e.on i) && (match o.dst with
      | some d => Nat.blt d N && ((List.range i).all fun j => match (ops[j]?).bind (·.dst) with
        | some d' => !Nat.beq d' d
        | none => true)
      | none => true)
    | none => true
theorem plain_at {N : Nat} (h : plainB ops N = true) {i : Nat} {o : Oper} (hi : ops[i]? = some o) :
    (∀ e ∈ o.after.toList, e.on < i) ∧ ∀ d, o.dst = some d → d < N ∧ ∀ j oj, j < i → ops[j]? = some oj → oj.dst ≠ some d := by
  have hlt : i < ops.size := (Array.getElem?_eq_some_iff.1 hi).1
  have h1 := List.all_eq_true.1 h i (List.mem_range.2 hlt)
  rw [hi] at h1
  simp only [Bool.and_eq_true] at h1
  obtain ⟨h2, h3⟩ := h1
  refine ⟨fun e he => ?_, fun d hd => ?_⟩
  · have := List.all_eq_true.1 h2 e he
    rwa [Nat.blt_eq] at this
  · rw [hd] at h3
    simp only [Bool.and_eq_true] at h3
    refine ⟨by have h4 := h3.1; rwa [Nat.blt_eq] at h4, fun j oj hj hoj hdj => ?_⟩
    have := List.all_eq_true.1 h3.2 j (List.mem_range.2 hj)
    rw [hoj, Option.bind_some, hdj] at this
    simp at this
theorem plain_apart {N : Nat} (h : plainB ops N = true) {i j : Nat} {oi oj : Oper} {d : Nat} (hi : ops[i]? = some oi) (hj : ops[j]? = some oj) (hd : oi.dst = some d) (he : oj.dst = some d) : i = j := by
  rcases Nat.lt_trichotomy i j with h1 | h1 | h1
  · exact absurd hd (((plain_at h hj).2 d he).2 i oi h1 hi)
  · exact h1
  · exact absurd he (((plain_at h hi).2 d hd).2 j oj h1 hj)

theorem all_listed {N : Nat} (h : plainB ops N = true) {listed : Array Bool} (hr : Region.ready md ops listed = []) : ∀ n j, j < n → j < ops.size → listed.getD j true = true := by
  intro n
  induction n with
  | zero => intro j hj; omega
  | succ n ih =>
    intro j hj hs
    by_cases hjn : j < n
    · exact ih j hjn hs
    · obtain rfl : j = n := by omega
      cases hl : listed.getD j true with
      | true => rfl
      | false =>
        have hm : j ∈ Region.ready md ops listed := mem_ready.2 ⟨hl, ops[j], Array.getElem?_eq_getElem hs, fun e he _ => by
          have h1 := (plain_at h (Array.getElem?_eq_getElem hs)).1 e (by simpa using he)
          have h2 := ih e.on h1 (by omega)
          rw [Array.getD_eq_getD_getElem?] at h2 ⊢
          cases hg : listed[e.on]? with
          | some b => rw [hg] at h2; simpa using h2
          | none =>
            exfalso
            have h3 : listed.getD j true = true := by
              rw [Array.getD_eq_getD_getElem?, Array.getElem?_eq_none (by have := Array.getElem?_eq_none_iff.1 hg; omega)]; rfl
            rw [hl] at h3; cases h3⟩
        rw [hr] at hm
        cases hm

/-- The law. -/
theorem wpAny_free {a0 : Act} {V : World} {G : Nat → Value → World → Prop} (hp : plainB ops a0.tmps.size = true) (hG : ∀ i v w w', G i v w → Below w.heap.size w w' → G i v w')
    (hs : ∀ i o, ops[i]? = some o → StepOK P md ops Q a0 V G i o)
    (hfin : ∀ a w, Below V.heap.size V w → Unwritten ops a0 a → (∀ j, j < ops.size → Known ops G a w j) → Q .normal a w) :
    ∀ (fuel : Nat) (listed : Array Bool) (a : Act) (w : World), listed.size = ops.size → (listed.toList.filter (!·)).length ≤ fuel → Below V.heap.size V w → Unwritten ops a0 a → (∀ j, listed.getD j false = true → Known ops G a w j) →
      wpAny P md ops Q fuel listed a w := by
  intro fuel
  have fin : ∀ (listed : Array Bool) (a : Act) (w : World), listed.size = ops.size → Below V.heap.size V w → Unwritten ops a0 a → (∀ j, listed.getD j false = true → Known ops G a w j) → Region.ready md ops listed = [] → Q .normal a w := by
    intro listed a w hsz hb hu hk hr
    refine hfin a w hb hu fun j hj => hk j ?_
    have := all_listed hp hr (j + 1) j (by omega) hj
    rw [Array.getD_eq_getD_getElem?, Array.getElem?_eq_getElem (by omega)] at this ⊢
    simpa using this
  induction fuel with
  | zero =>
    intro listed a w hsz hc hb hu hk
    have hr : Region.ready md ops listed = [] := by
      cases hr : Region.ready md ops listed with
      | nil => rfl
      | cons i l =>
        exfalso
        have hi : i ∈ Region.ready md ops listed := by rw [hr]; exact List.mem_cons_self
        obtain ⟨h0, o, ho, _⟩ := mem_ready.1 hi
        have hlt : i < listed.size := by rw [hsz]; exact (Array.getElem?_eq_some_iff.1 ho).1
        rw [Array.getD_eq_getD_getElem?, Array.getElem?_eq_getElem hlt] at h0
        have hm : listed[i] ∈ listed.toList.filter (!·) := List.mem_filter.2 ⟨by simp, by simpa using h0⟩
        have : 0 < (listed.toList.filter (!·)).length := List.length_pos_of_mem hm
        omega
    exact ⟨hr, fin listed a w hsz hb hu hk hr⟩
  | succ fuel ih =>
    intro listed a w hsz hc hb hu hk
    refine ⟨fin listed a w hsz hb hu hk, fun i hi => ?_⟩
    obtain ⟨h0, o, ho, hall⟩ := mem_ready.1 hi
    have hlt : i < listed.size := by rw [hsz]; exact (Array.getElem?_eq_some_iff.1 ho).1
    have h0' : listed[i] = false := by
      rw [Array.getD_eq_getD_getElem?, Array.getElem?_eq_getElem hlt] at h0
      simpa using h0
    obtain ⟨hw, hstep⟩ := hs i o ho a w hb hu (fun e he hbd => hk e.on (hall e (by simpa using he) hbd))
    unfold wpOp
    rw [ho]
    simp only [hw, if_true]
    refine .inl (Oper.wp_mono (K := fun a' w' => ∃ v, a' = a.put o.dst v ∧ G i v w' ∧ Below w.heap.size w w') (fun a' w' h => ?_) hstep)
    obtain ⟨v, rfl, hg, hbw⟩ := h
    refine ih _ _ _ (by simp [hsz]) ?_ (hb.trans (hbw.mono hb.size)) ?_ ?_
    · have hcount : (((listed.setIfInBounds i true).toList).filter (!·)).length < (listed.toList.filter (!·)).length := by
        rw [Array.toList_setIfInBounds]
        have key : ∀ (l : List Bool) (i : Nat) (h : i < l.length), l[i] = false → ((l.set i true).filter (!·)).length < (l.filter (!·)).length := by
          intro l
          induction l with
          | nil => intro i h; simp at h
          | cons b l ihl =>
            intro i h hf
            cases i with
            | zero =>
              have : b = false := by simpa using hf
              subst this
              simp
            | succ i =>
              have := ihl i (by simpa using h) (by simpa using hf)
              cases b <;> simp <;> omega
        exact key _ _ (by simpa using hlt) (by simpa using h0')
      omega
    · obtain ⟨hu1, hu2, hu3⟩ := hu
      have hput : ∀ t, o.dst ≠ some t → (a.put o.dst v).tmps[t]? = a.tmps[t]? := by
        intro t ht
        unfold Act.put
        cases hd : o.dst with
        | none => rfl
        | some d => simp only; rw [Array.getElem?_setIfInBounds_ne]; intro e; subst e; exact ht hd
      refine ⟨?_, ?_, fun t ht => ?_⟩
      · rw [← hu1]; unfold Act.put; cases o.dst <;> rfl
      · rw [← hu2]; unfold Act.put; cases o.dst <;> simp
      · rw [hput t ?_]
        · exact hu3 t ht
        · have := Array.all_eq_true.1 ht i (Array.getElem?_eq_some_iff.1 ho).1
          rw [(Array.getElem?_eq_some_iff.1 ho).2] at this
          simpa using this
    · intro j hj oj d hoj hd
      by_cases hji : j = i
      · subst hji
        obtain rfl : o = oj := Option.some.inj (ho.symm.trans hoj)
        refine ⟨v, ?_, hg⟩
        have hd' : d < a.tmps.size := by rw [hu.2.1]; exact ((plain_at hp ho).2 d hd).1
        unfold Act.put
        rw [hd]
        simp [hd']
      · have hj' : listed.getD j false = true := by
          rw [Array.getD_eq_getD_getElem?] at hj ⊢
          rwa [Array.getElem?_setIfInBounds_ne (Ne.symm hji)] at hj
        obtain ⟨u, h1, h2⟩ := hk j hj' oj d hoj hd
        refine ⟨u, ?_, hG _ _ _ _ h2 hbw⟩
        rw [← h1]
        unfold Act.put
        cases hdi : o.dst with
        | none => rfl
        | some d' =>
          simp only
          rw [Array.getElem?_setIfInBounds_ne]
          rintro rfl
          exact hji (plain_apart hp hoj ho hd hdi)

theorem wp_region_free {id : Nat} {l : List Oper} {a0 : Act} {w : World} (G : Nat → Value → World → Prop) (hm : P.follows .mixedOrders = true) (hp : plainB l.toArray a0.tmps.size = true) (hG : ∀ i v w w', G i v w → Below w.heap.size w w' → G i v w')
    (hs : StepsOK P .any l.toArray Q a0 w G 0 l)
    (hfin : ∀ a w', Below w.heap.size w w' → Unwritten l.toArray a0 a → (∀ j, j < l.length → Known l.toArray G a w' j) → Q .normal a w') : (Code.region id l.toArray true).wp P Q a0 w := by
  refine wp_region_any hm (wpAny_free (V := w) hp hG (fun i o ho => ?_) (fun a w' hb hu hk => hfin a w' hb hu fun j hj => hk j (by simpa using hj)) _ _ _ _ (by simp) ?_ (Below.refl _ _).drew ⟨rfl, rfl, fun _ _ => rfl⟩ ?_)
  · have := hs.get i o (by simpa using ho)
    rwa [Nat.zero_add] at this
  · simp
  · intro j hj
    rw [Array.getD_eq_getD_getElem?] at hj
    cases hg : (Array.replicate l.toArray.size false)[j]? with
    | none => rw [hg] at hj; simp at hj
    | some b =>
      rw [hg] at hj
      rw [Array.getElem?_replicate] at hg
      split at hg
      · injection hg with hg; subst hg; simp at hj
      · cases hg

/-! ### The promises of one operation -/
theorem Known.is {G : Nat → Value → World → Prop} {a : Act} {w : World} {j d : Nat} {oj : Oper} (h : Known ops G a w j) (hj : ops[j]? = some oj) (hd : oj.dst = some d) : G j (a.eval (.tmp d)) w := by
  obtain ⟨v, h1, h2⟩ := h oj d hj hd
  have : a.eval (.tmp d) = v := by simp [Act.eval, Array.getD_eq_getD_getElem?, h1]
  rwa [this]
theorem Unwritten.is {a0 a : Act} {t : Nat} (h : Unwritten ops a0 a) (ht : (ops.all fun o => o.dst != some t) = true) : a.eval (.tmp t) = a0.eval (.tmp t) := by
  simp [Act.eval, Array.getD_eq_getD_getElem?, h.2.2 t ht]
theorem wanted_none {o : Oper} {a : Act} (h : o.guard = none) : Region.wanted o (yielded ops a.tmps) = true := by
  unfold Region.wanted; rw [h]
theorem wanted_some {G : Nat → Value → World → Prop} {o oj : Oper} {a : Act} {w : World} {j d : Nat} {b : Bool} (h : o.guard = some (j, b)) (hk : Known ops G a w j) (hj : ops[j]? = some oj) (hd : oj.dst = some d) (hg : ∀ v, G j v w → v = .bool b) : Region.wanted o (yielded ops a.tmps) = true := by
  obtain ⟨v, h1, h2⟩ := hk oj d hj hd
  obtain rfl := hg v h2
  unfold Region.wanted yielded
  simp [h, hj, hd, h1]
theorem step_value {o : Oper} {a : Act} {w w' : World} {v : Value} {Gi : Value → World → Prop} (hrun : (execOp a.eval o).run P w = .ok (.value v) w') (hb : Below w.heap.size w w') (hg : Gi v w') :
    o.wp P a w (fun a' w' => ∃ v, a' = a.put o.dst v ∧ Gi v w' ∧ Below w.heap.size w w') Q := by
  unfold Oper.wp
  rw [hrun]
  exact ⟨v, rfl, hg, hb⟩
theorem step_enter {o : Oper} {a : Act} {w : World} {f : FuncId} {args : Array Value} {Gi : Value → World → Prop} (hrun : (execOp a.eval o).run P w = .ok (.enter f args) w)
    (hc : Calls P f args w fun e w' => ∃ v, e = .returned v ∧ Gi v w' ∧ Below w.heap.size w w') :
    o.wp P a w (fun a' w' => ∃ v, a' = a.put o.dst v ∧ Gi v w' ∧ Below w.heap.size w w') Q := by
  unfold Oper.wp
  rw [hrun]
  refine hc.mono ?_
  rintro e w' ⟨v, rfl, hg, hb⟩
  exact ⟨v, rfl, hg, hb⟩
theorem run_pick_true {ρ : Operand → Value} {o : Oper} {c a b : Operand} (e : ρ c = .bool true) (h : o.op = .pick c a b) (w : World) : (execOp ρ o).run P w = .ok (.value (ρ a)) w := by
  unfold execOp; rw [h]; simp [e, asBool, go_sem]
theorem run_pick_false {ρ : Operand → Value} {o : Oper} {c a b : Operand} (e : ρ c = .bool false) (h : o.op = .pick c a b) (w : World) : (execOp ρ o).run P w = .ok (.value (ρ b)) w := by
  unfold execOp; rw [h]; simp [e, asBool, go_sem]
theorem run_not {ρ : Operand → Value} {o : Oper} {x : Operand} {t : TypeId} {b : Bool} (e : ρ x = .bool b) (h : o.op = .unOp .not t x) (w : World) : (execOp ρ o).run P w = .ok (.value (.bool !b)) w := by
  unfold execOp; rw [h]; simp [e, go_sem]
end

/-- What an operation's value may be promised to be: a value; a row of rows of the call's own that reads as lists; a row that reads as a list. -/
inductive Spec where
  | is (v : Value)
  | rows (n : Nat) (ls : List (List UInt8))
  | bytes (n : Nat) (l : List UInt8)
  | blk (B : Nat) (cs : Array Value) (T : TypeId)
  | own (B n : Nat) (l : List UInt8)
  | one (B n : Nat) (l : List UInt8)
  | any (G : Value → World → Prop) (hG : ∀ v w w', G v w → Below w.heap.size w w' → G v w')
def Spec.ok : Spec → Value → World → Prop
  | .is v, u, _ => u = v
  | .rows n ls, u, w => ∃ g, u = .slice (some ⟨g, 0, none⟩) n n ∧ RdR w w.heap.size (some ⟨g, 0, none⟩) ls
  | .bytes n l, u, w => ∃ X c, u = .slice X n c ∧ n ≤ c ∧ Rd w w.heap.size X l
  | .blk B cs T, u, w => ∃ g, u = .pointer (some ⟨g, 0, none⟩) ∧ B ≤ g ∧ w.heap[g]? = some (.cells cs T (0, 0))
  | .own B n l, u, w => ∃ X c, u = .slice X n c ∧ n ≤ c ∧ OwnB w B 5 u n l
  | .one B n l, u, w => ∃ g, u = .slice (some ⟨g, 0, none⟩) 1 1 ∧ ∃ X c, w.heap[g]? = some (.cells #[.slice X n c] 26 (0, 0)) ∧ n ≤ c ∧ OwnB w B 5 (.slice X n c) n l
  | .any G _, u, w => G u w
theorem Spec.keep {s : Spec} {v : Value} {w w' : World} (h : s.ok v w) (hb : Below w.heap.size w w') : s.ok v w' := by
  cases s with
  | is u => exact h
  | rows n ls =>
    obtain ⟨g, h1, h2⟩ := h
    exact ⟨g, h1, (h2.below hb (Nat.le_refl _)).more hb.size⟩
  | bytes n l =>
    obtain ⟨X, c, h1, h2, h3⟩ := h
    exact ⟨X, c, h1, h2, (h3.below hb (Nat.le_refl _)).more hb.size⟩
  | blk B cs T =>
    obtain ⟨g, h1, h2, h3⟩ := h
    exact ⟨g, h1, h2, (hb.block g (Array.getElem?_eq_some_iff.1 h3).1).trans h3⟩
  | own B n l =>
    obtain ⟨X, c, h1, h2, h3⟩ := h
    exact ⟨X, c, h1, h2, h3.on hb⟩
  | one B n l =>
    obtain ⟨g, h1, X, c, h2, h3, h4⟩ := h
    exact ⟨g, h1, X, c, (hb.block g (Array.getElem?_eq_some_iff.1 h2).1).trans h2, h3, h4.on hb⟩
  | any G hG => exact hG _ _ _ h hb
def promises (l : List Spec) (i : Nat) (v : Value) (w : World) : Prop := (l.getD i (.is undef)).ok v w
end Go.Proofs.YtkkokngdhhakdaaDoor
namespace Go.Proofs.YtkkokngdhhakdaaDoor
open Go.RowKit

section
variable {P : Program} {ops : Array Oper} {Q : Exit → Act → World → Prop} {md : Region.Mode}

/-- Operation n waits for each one ahead of it. -/
def waitsAllB (md : Region.Mode) (ops : Array Oper) (n : Nat) : Bool :=
  match ops[n]? with
  | some o => (List.range n).all fun i => o.after.toList.any fun e => Region.binds md e && Nat.beq e.on i
  | none => false
theorem waitsAll_at {n : Nat} (h : waitsAllB md ops n = true) : ∃ o, ops[n]? = some o ∧ ∀ i, i < n → ∃ e ∈ o.after.toList, Region.binds md e = true ∧ e.on = i := by
  unfold waitsAllB at h
  cases ho : ops[n]? with
  | none => rw [ho] at h; cases h
  | some o =>
    rw [ho] at h
    refine ⟨o, rfl, fun i hi => ?_⟩
    have h1 := List.all_eq_true.1 h i (List.mem_range.2 hi)
    obtain ⟨e, he, h2⟩ := List.any_eq_true.1 h1
    simp only [Bool.and_eq_true] at h2
    exact ⟨e, he, h2.1, Nat.eq_of_beq_eq_true h2.2⟩

theorem wpAny_free_tail {a0 : Act} {V : World} {G : Nat → Value → World → Prop} {n : Nat} (hsize : ops.size = n + 1) (hp : plainB ops a0.tmps.size = true) (hw : waitsAllB md ops n = true) (hG : ∀ i v w w', G i v w → Below w.heap.size w w' → G i v w')
    (hs : ∀ i o, i < n → ops[i]? = some o → StepOK P md ops Q a0 V G i o)
    (ht : ∀ o, ops[n]? = some o → ∀ a w, Below V.heap.size V w → Unwritten ops a0 a → (∀ j, j < n → Known ops G a w j) → Region.wanted o (yielded ops a.tmps) = true ∧ o.wp P a w (fun a' w' => Q .normal a' w') Q) :
    ∀ (fuel : Nat) (listed : Array Bool) (a : Act) (w : World), listed.size = ops.size → (listed.toList.filter (!·)).length ≤ fuel → listed.getD n true = false → Below V.heap.size V w → Unwritten ops a0 a → (∀ j, listed.getD j false = true → Known ops G a w j) →
      wpAny P md ops Q fuel listed a w := by
  obtain ⟨on, hon, hwait⟩ := waitsAll_at hw
  intro fuel
  have notEnd : ∀ (listed : Array Bool), listed.getD n true = false → Region.ready md ops listed ≠ [] := by
    intro listed hn hr
    have := all_listed hp hr (n + 1) n (by omega) (by omega)
    rw [hn] at this
    cases this
  induction fuel with
  | zero =>
    intro listed a w hsz hc hn hb hu hk
    exfalso
    have h0 : listed[n]'(by omega) = false := by
      rw [Array.getD_eq_getD_getElem?, Array.getElem?_eq_getElem (show n < listed.size by omega)] at hn
      simpa using hn
    have hm : listed[n]'(by omega) ∈ listed.toList.filter (!·) := List.mem_filter.2 ⟨by simp, by rw [h0]; rfl⟩
    have : 0 < (listed.toList.filter (!·)).length := List.length_pos_of_mem hm
    omega
  | succ fuel ih =>
    intro listed a w hsz hc hn hb hu hk
    refine ⟨fun hr => absurd hr (notEnd listed hn), fun i hi => ?_⟩
    obtain ⟨h0, o, ho, hall⟩ := mem_ready.1 hi
    have hlt : i < listed.size := by rw [hsz]; exact (Array.getElem?_eq_some_iff.1 ho).1
    have h0' : listed[i] = false := by
      rw [Array.getD_eq_getD_getElem?, Array.getElem?_eq_getElem hlt] at h0
      simpa using h0
    have hcount : (((listed.setIfInBounds i true).toList).filter (!·)).length < (listed.toList.filter (!·)).length := by
      rw [Array.toList_setIfInBounds]
      have key : ∀ (l : List Bool) (i : Nat) (h : i < l.length), l[i] = false → ((l.set i true).filter (!·)).length < (l.filter (!·)).length := by
        intro l
        induction l with
        | nil => intro i h; simp at h
        | cons b l ihl =>
          intro i h hf
          cases i with
          | zero =>
            have : b = false := by simpa using hf
            subst this
            simp
          | succ i =>
            have := ihl i (by simpa using h) (by simpa using hf)
            cases b <;> simp <;> omega
      exact key _ _ (by simpa using hlt) (by simpa using h0')
    by_cases hin : i = n
    · subst hin
      have hkn : ∀ j, j < i → Known ops G a w j := by
        intro j hj
        obtain rfl : on = o := Option.some.inj (hon.symm.trans ho)
        obtain ⟨e, he, hbd, rfl⟩ := hwait j hj
        exact hk e.on (hall e (by simpa using he) hbd)
      obtain ⟨hwd, hstep⟩ := ht o ho a w hb hu hkn
      unfold wpOp
      rw [ho]
      simp only [hwd, if_true]
      refine .inl (Oper.wp_mono (K := fun a' w' => Q .normal a' w') (fun a' w' h => ?_) hstep)
      have hr : Region.ready md ops (listed.setIfInBounds i true) = [] := by
        cases hr : Region.ready md ops (listed.setIfInBounds i true) with
        | nil => rfl
        | cons j l =>
          exfalso
          have hj : j ∈ Region.ready md ops (listed.setIfInBounds i true) := by rw [hr]; exact List.mem_cons_self
          obtain ⟨hj0, oj, hoj, _⟩ := mem_ready.1 hj
          have hjs : j < i + 1 := by rw [← hsize]; exact (Array.getElem?_eq_some_iff.1 hoj).1
          by_cases hji : j = i
          · subst hji
            rw [Array.getD_eq_getD_getElem?, Array.getElem?_setIfInBounds_self_of_lt hlt] at hj0
            simp at hj0
          · obtain rfl : on = o := Option.some.inj (hon.symm.trans ho)
            obtain ⟨e, he, hbd, rfl⟩ := hwait j (by omega)
            have h3 := hall e (by simpa using he) hbd
            rw [Array.getD_eq_getD_getElem?, Array.getElem?_setIfInBounds_ne (Ne.symm hji)] at hj0
            rw [Array.getD_eq_getD_getElem?, Array.getElem?_eq_getElem (show e.on < listed.size by omega)] at h3
            rw [Array.getElem?_eq_getElem (show e.on < listed.size by omega)] at hj0
            simp only [Option.getD_some] at h3 hj0
            rw [h3] at hj0
            cases hj0
      cases fuel with
      | zero => exact ⟨hr, h⟩
      | succ fuel => exact ⟨fun _ => h, fun j hj => by rw [hr] at hj; cases hj⟩
    · have hlt2 : i < n := by
        have : i < n + 1 := by rw [← hsize]; exact (Array.getElem?_eq_some_iff.1 ho).1
        omega
      obtain ⟨hwd, hstep⟩ := hs i o hlt2 ho a w hb hu (fun e he hbd => hk e.on (hall e (by simpa using he) hbd))
      unfold wpOp
      rw [ho]
      simp only [hwd, if_true]
      refine .inl (Oper.wp_mono (K := fun a' w' => ∃ v, a' = a.put o.dst v ∧ G i v w' ∧ Below w.heap.size w w') (fun a' w' h => ?_) hstep)
      obtain ⟨v, rfl, hg, hbw⟩ := h
      refine ih _ _ _ (by simp [hsz]) (by omega) ?_ (hb.trans (hbw.mono hb.size)) ?_ ?_
      · rw [Array.getD_eq_getD_getElem?] at hn ⊢
        rwa [Array.getElem?_setIfInBounds_ne hin]
      · obtain ⟨hu1, hu2, hu3⟩ := hu
        have hput : ∀ t, o.dst ≠ some t → (a.put o.dst v).tmps[t]? = a.tmps[t]? := by
          intro t ht
          unfold Act.put
          cases hd : o.dst with
          | none => rfl
          | some d => simp only; rw [Array.getElem?_setIfInBounds_ne]; intro e; subst e; exact ht hd
        refine ⟨?_, ?_, fun t ht => ?_⟩
        · rw [← hu1]; unfold Act.put; cases o.dst <;> rfl
        · rw [← hu2]; unfold Act.put; cases o.dst <;> simp
        · rw [hput t ?_]
          · exact hu3 t ht
          · have := Array.all_eq_true.1 ht i (Array.getElem?_eq_some_iff.1 ho).1
            rw [(Array.getElem?_eq_some_iff.1 ho).2] at this
            simpa using this
      · intro j hj oj d hoj hd
        by_cases hji : j = i
        · subst hji
          obtain rfl : o = oj := Option.some.inj (ho.symm.trans hoj)
          refine ⟨v, ?_, hg⟩
          have hd' : d < a.tmps.size := by rw [hu.2.1]; exact ((plain_at hp ho).2 d hd).1
          unfold Act.put
          rw [hd]
          simp [hd']
        · have hj' : listed.getD j false = true := by
            rw [Array.getD_eq_getD_getElem?] at hj ⊢
            rwa [Array.getElem?_setIfInBounds_ne (Ne.symm hji)] at hj
          obtain ⟨u, h1, h2⟩ := hk j hj' oj d hoj hd
          refine ⟨u, ?_, hG _ _ _ _ h2 hbw⟩
          rw [← h1]
          unfold Act.put
          cases hdi : o.dst with
          | none => rfl
          | some d' =>
            simp only
            rw [Array.getElem?_setIfInBounds_ne]
            rintro rfl
            exact hji (plain_apart hp hoj ho hd hdi)

/-- The law: l ahead, st at last. -/
theorem wp_region_free_tail {id : Nat} {l : List Oper} {st : Oper} {a0 : Act} {w : World} (n : Nat) (G : Nat → Value → World → Prop) (hm : P.follows .mixedOrders = true) (hn : l.length = n + 1) (hst : l[n]? = some st) (hp : plainB l.toArray a0.tmps.size = true) (hwa : waitsAllB .any l.toArray n = true) (hG : ∀ i v w w', G i v w → Below w.heap.size w w' → G i v w')
    (hs : StepsOK P .any l.toArray Q a0 w G 0 (l.take n))
    (ht : ∀ a w', Below w.heap.size w w' → Unwritten l.toArray a0 a → (∀ j, j < n → Known l.toArray G a w' j) → Region.wanted st (yielded l.toArray a.tmps) = true ∧ st.wp P a w' (fun a' w' => Q .normal a' w') Q) : (Code.region id l.toArray true).wp P Q a0 w := by
  refine wp_region_any hm (wpAny_free_tail (V := w) (n := n) (by simpa using hn) hp hwa hG (fun i o hi ho => ?_) (fun o ho a w' hb hu hk => by
    obtain rfl : st = o := Option.some.inj (hst.symm.trans (by simpa using ho))
    exact ht a w' hb hu hk) _ _ _ _ (by simp) ?_ ?_ (Below.refl _ _).drew ⟨rfl, rfl, fun _ _ => rfl⟩ ?_)
  · have h1 : (l.take n)[i]? = some o := by rw [List.getElem?_take, if_pos hi]; simpa using ho
    have := hs.get i o h1
    rwa [Nat.zero_add] at this
  · simp
  · rw [Array.getD_eq_getD_getElem?, Array.getElem?_replicate, if_pos (by simp; omega)]
    rfl
  · intro j hj
    rw [Array.getD_eq_getD_getElem?] at hj
    cases hg : (Array.replicate l.toArray.size false)[j]? with
    | none => rw [hg] at hj; simp at hj
    | some b =>
      rw [hg] at hj
      rw [Array.getElem?_replicate] at hg
      split at hg
      · injection hg with hg; subst hg; simp at hj
      · cases hg

/-! ### A tail of several operations, one behind the other -/
/-- One operation keeps its promise; of the frame it is known that what no operation ahead writes is as it was. -/
def StepOKh (P : Program) (md : Region.Mode) (ops hops : Array Oper) (Q : Exit → Act → World → Prop) (a0 : Act) (V : World) (G : Nat → Value → World → Prop) (i : Nat) (o : Oper) : Prop :=
  ∀ a w, Below V.heap.size V w → Unwritten hops a0 a → (∀ e ∈ o.after.toList, Region.binds md e = true → Known ops G a w e.on) →
    Region.wanted o (yielded ops a.tmps) = true ∧ o.wp P a w (fun a' w' => ∃ v, a' = a.put o.dst v ∧ G i v w' ∧ Below w.heap.size w w') Q
def StepsOKh (P : Program) (md : Region.Mode) (ops hops : Array Oper) (Q : Exit → Act → World → Prop) (a0 : Act) (V : World) (G : Nat → Value → World → Prop) : Nat → List Oper → Prop
  | _, [] => True
  | i, o :: rest => StepOKh P md ops hops Q a0 V G i o ∧ StepsOKh P md ops hops Q a0 V G (i + 1) rest
theorem StepsOKh.get {hops : Array Oper} {a0 : Act} {V : World} {G : Nat → Value → World → Prop} : ∀ {l : List Oper} {i : Nat}, StepsOKh P md ops hops Q a0 V G i l → ∀ k o, l[k]? = some o → StepOKh P md ops hops Q a0 V G (i + k) o
  | [], _, _, k, o, h => by simp at h
  | x :: l, i, hs, 0, o, h => by
    obtain rfl : x = o := by simpa using h
    exact hs.1
  | x :: l, i, hs, k + 1, o, h => by
    have := StepsOKh.get hs.2 k o (by simpa using h)
    rwa [show i + 1 + k = i + (k + 1) by omega] at this
def headsLeft (listed : Array Bool) : Nat → Nat
  | 0 => 0
  | n + 1 => headsLeft listed n + (if listed.getD n true = false then 1 else 0)
theorem headsLeft_out {listed : Array Bool} {i : Nat} : ∀ {n : Nat}, n ≤ i → headsLeft (listed.setIfInBounds i true) n = headsLeft listed n
  | 0, _ => rfl
  | n + 1, h => by
    rw [headsLeft, headsLeft, headsLeft_out (by omega), getD_set_ne true (show i ≠ n by omega)]
theorem headsLeft_in {listed : Array Bool} {i : Nat} (hl : listed.getD i true = false) : ∀ {n : Nat}, i < n → headsLeft (listed.setIfInBounds i true) n + 1 = headsLeft listed n
  | 0, h => by omega
  | n + 1, h => by
    rw [headsLeft, headsLeft]
    by_cases e : i = n
    · subst e
      have hlt : i < listed.size := by
        rcases Nat.lt_or_ge i listed.size with h1 | h1
        · exact h1
        · rw [Array.getD_eq_getD_getElem?, Array.getElem?_eq_none h1] at hl; cases hl
      have hs : (listed.setIfInBounds i true).getD i true = true := by
        rw [Array.getD_eq_getD_getElem?, Array.getElem?_setIfInBounds_self_of_lt hlt]; rfl
      rw [headsLeft_out (Nat.le_refl _), hs, hl]
      rfl
    · have := headsLeft_in hl (n := n) (by omega)
      rw [getD_set_ne true (show i ≠ n from e)]
      omega
theorem headsLeft_zero {listed : Array Bool} : ∀ {n : Nat}, headsLeft listed n = 0 → ∀ i, i < n → listed.getD i true = true
  | 0, _, i, h => by omega
  | n + 1, h0, i, h => by
    rw [headsLeft] at h0
    by_cases e : i = n
    · subst e
      cases hb : listed.getD i true with
      | true => rfl
      | false => rw [hb] at h0; simp at h0
    · exact headsLeft_zero (n := n) (by omega) i (by omega)
theorem headsLeft_some {listed : Array Bool} {n : Nat} (h : 0 < headsLeft listed n) : ∃ i, i < n ∧ listed.getD i true = false := by
  induction n with
  | zero => simp [headsLeft] at h
  | succ n ih =>
    rw [headsLeft] at h
    cases hb : listed.getD n true with
    | false => exact ⟨n, by omega, hb⟩
    | true =>
      rw [hb] at h
      obtain ⟨i, h1, h2⟩ := ih (by simpa using h)
      exact ⟨i, by omega, h2⟩
theorem headsLeft_full (m : Nat) : ∀ n, n ≤ m → headsLeft (Array.replicate m false) n = n
  | 0, _ => rfl
  | n + 1, h => by
    rw [headsLeft, headsLeft_full m n (by omega), Array.getD_eq_getD_getElem?, Array.getElem?_replicate, if_pos (show n < m by omega)]
    rfl
def headDone (n g : Nat) : Array Bool := (List.replicate n true ++ List.replicate g false).toArray
theorem listed_done {n g : Nat} {listed : Array Bool} (hs : listed.size = n + g) (h1 : ∀ i, i < n → listed.getD i true = true) (h2 : ∀ t, n ≤ t → t < n + g → listed.getD t true = false) : listed = headDone n g := by
  apply Array.ext'
  apply List.ext_getElem?
  intro i
  rw [Array.getElem?_toList]
  show listed[i]? = (List.replicate n true ++ List.replicate g false)[i]?
  by_cases hi : i < n
  · have := h1 i hi
    rw [Array.getD_eq_getD_getElem?, Array.getElem?_eq_getElem (show i < listed.size by omega)] at this
    rw [Array.getElem?_eq_getElem (show i < listed.size by omega), List.getElem?_append_left (by simpa using hi), List.getElem?_replicate, if_pos hi]
    simpa using this
  · by_cases hg : i < n + g
    · have := h2 i (by omega) hg
      rw [Array.getD_eq_getD_getElem?, Array.getElem?_eq_getElem (show i < listed.size by omega)] at this
      rw [Array.getElem?_eq_getElem (show i < listed.size by omega), List.getElem?_append_right (by simp; omega), List.getElem?_replicate, if_pos (by simp; omega)]
      simpa using this
    · rw [Array.getElem?_eq_none (by omega), List.getElem?_eq_none (by simp; omega)]

theorem wpAny_free_chain {l : List Oper} {a0 : Act} {V : World} {G : Nat → Value → World → Prop} {n g : Nat} (hsize : l.length = n + g) (hg : 0 < g) (hp : plainB l.toArray a0.tmps.size = true) (hsk : Region.sinkB md l.toArray n = true) (hch : Region.chainB md l.toArray n = true) (hsq : Region.seqB md l.toArray g n (headDone n g) = true)
    (hG : ∀ i v w w', G i v w → Below w.heap.size w w' → G i v w')
    (hs : ∀ i o, i < n → l[i]? = some o → StepOKh P md l.toArray (l.take n).toArray Q a0 V G i o)
    (ht : ∀ a w, Below V.heap.size V w → Unwritten (l.take n).toArray a0 a → (∀ j, j < n → Known l.toArray G a w j) → wpList P l.toArray Q (l.drop n) a w) :
    ∀ (d : Nat) (listed : Array Bool) (a : Act) (w : World), headsLeft listed n = d → HeadInv md l.toArray n listed → Below V.heap.size V w → Unwritten (l.take n).toArray a0 a → (∀ j, listed.getD j false = true → Known l.toArray G a w j) →
      wpAny P md l.toArray Q (d + g) listed a w := by
  have hdl : (l.drop n).length = g := by simp; omega
  have hns : n < l.toArray.size := by simp; omega
  intro d
  induction d with
  | zero =>
    intro listed a w hd inv hb hu hk
    have h1 := headsLeft_zero hd
    have hsz : listed.size = n + g := by rw [inv.size]; simpa using hsize
    have hl := listed_done hsz h1 (fun t h1 h2 => inv.tail t h1 (by simp; omega))
    have hkn : ∀ j, j < n → Known l.toArray G a w j := fun j hj => hk j (by
      have := h1 j hj
      rw [Array.getD_eq_getD_getElem?, Array.getElem?_eq_getElem (show j < listed.size by omega)] at this ⊢
      simpa using this)
    have := wpAny_of_seq (P := P) (md := md) (Q' := Q) (ops := l.toArray) (l.drop n) n listed a w (fun j => by simp [List.getElem?_drop]) (by rw [hdl, hl]; exact hsq) (ht a w hb hu hkn)
    rw [Nat.zero_add]
    rwa [hdl] at this
  | succ d ih =>
    intro listed a w hd inv hb hu hk
    obtain ⟨u, hun, hul⟩ := headsLeft_some (listed := listed) (n := n) (by omega)
    rw [show d + 1 + g = (d + g) + 1 by omega]
    refine ⟨fun hr => ?_, fun i hi => ?_⟩
    · exfalso
      have := all_listed hp hr (u + 1) u (by omega) (by omega)
      rw [hul] at this
      cases this
    · have hin : i < n := by
        rcases Nat.lt_or_ge i n with h | h
        · exact h
        · exact absurd hi (tail_waits hsk hch hns inv _ u rfl hun hul i h)
      obtain ⟨h0, o, ho, hall⟩ := mem_ready.1 hi
      obtain ⟨hwd, hstep⟩ := hs i o hin (by simpa using ho) a w hb hu (fun e he hbd => hk e.on (hall e (by simpa using he) hbd))
      unfold wpOp
      rw [ho]
      simp only [hwd, if_true]
      refine .inl (Oper.wp_mono (K := fun a' w' => ∃ v, a' = a.put o.dst v ∧ G i v w' ∧ Below w.heap.size w w') (fun a' w' h => ?_) hstep)
      obtain ⟨v, rfl, hgv, hbw⟩ := h
      refine ih _ _ _ (by have := headsLeft_in h0 hin; omega) (inv.set hi hin) (hb.trans (hbw.mono hb.size)) ?_ ?_
      · obtain ⟨hu1, hu2, hu3⟩ := hu
        refine ⟨?_, ?_, fun t ht => ?_⟩
        · rw [← hu1]; unfold Act.put; cases o.dst <;> rfl
        · rw [← hu2]; unfold Act.put; cases o.dst <;> simp
        · have hne : o.dst ≠ some t := by
            have h1 : o ∈ l.take n := List.mem_of_getElem? (i := i) (by rw [List.getElem?_take, if_pos hin]; simpa using ho)
            rw [List.all_toArray] at ht
            simpa using List.all_eq_true.1 ht o h1
          rw [← hu3 t ht]
          unfold Act.put
          cases hd : o.dst with
          | none => rfl
          | some d => simp only; rw [Array.getElem?_setIfInBounds_ne]; intro e; subst e; exact hne hd
      · intro j hj oj d' hoj hd'
        by_cases hji : j = i
        · subst hji
          obtain rfl : o = oj := Option.some.inj (ho.symm.trans hoj)
          refine ⟨v, ?_, hgv⟩
          have hlt : d' < a.tmps.size := by rw [hu.2.1]; exact ((plain_at hp ho).2 d' hd').1
          unfold Act.put
          rw [hd']
          simp [hlt]
        · have hj' : listed.getD j false = true := by
            rw [Array.getD_eq_getD_getElem?] at hj ⊢
            rwa [Array.getElem?_setIfInBounds_ne (Ne.symm hji)] at hj
          obtain ⟨u', h1, h2⟩ := hk j hj' oj d' hoj hd'
          refine ⟨u', ?_, hG _ _ _ _ h2 hbw⟩
          rw [← h1]
          unfold Act.put
          cases hdi : o.dst with
          | none => rfl
          | some d'' =>
            simp only
            rw [Array.getElem?_setIfInBounds_ne]
            rintro rfl
            exact hji (plain_apart hp hoj ho hd' hdi)

/-- The law: n operations ahead, in whatever order; the others behind them, one by one. -/
theorem wp_region_free_chain {id : Nat} {l : List Oper} {a0 : Act} {w : World} (n g : Nat) (G : Nat → Value → World → Prop) (hm : P.follows .mixedOrders = true) (hsize : l.length = n + (g + 1)) (hp : plainB l.toArray a0.tmps.size = true)
    (hch : (Region.sinkB .any l.toArray n && Region.chainB .any l.toArray n && Region.seqB .any l.toArray (g + 1) n (headDone n (g + 1))) = true) (hG : ∀ i v w w', G i v w → Below w.heap.size w w' → G i v w')
    (hs : StepsOKh P .any l.toArray (l.take n).toArray Q a0 w G 0 (l.take n))
    (ht : ∀ a w', Below w.heap.size w w' → Unwritten (l.take n).toArray a0 a → (∀ j, j < n → Known l.toArray G a w' j) → wpList P l.toArray Q (l.drop n) a w') : (Code.region id l.toArray true).wp P Q a0 w := by
  simp only [Bool.and_eq_true] at hch
  have H := wpAny_free_chain (P := P) (Q := Q) (md := .any) (V := w) (n := n) (g := g + 1) hsize (by omega) hp hch.1.1 hch.1.2 hch.2 hG (fun i o hi ho => by
      have h1 : (l.take n)[i]? = some o := by rw [List.getElem?_take, if_pos hi]; exact ho
      have := hs.get i o h1
      rwa [Nat.zero_add] at this) ht n (Array.replicate l.toArray.size false) a0 { w with drawn := w.drawn + 1 } (headsLeft_full _ n (by simp; omega))
    ⟨by simp, fun j oj _ hl => (by rw [getD_replicate_false] at hl; cases hl), fun t _ ht => getD_in (by simpa using ht) (getD_replicate_false _ _)⟩
    (Below.refl _ _).drew ⟨rfl, rfl, fun _ _ => rfl⟩ (fun j hj => (by rw [getD_replicate_false] at hj; cases hj))
  rw [show n + (g + 1) = l.toArray.size by simp; omega] at H
  exact wp_region_any hm H

/-! ### The frame behind a region, written out -/
/-- The frame with so many slots put. -/
def puts (a0 : Act) : List (Nat × Value) → Act
  | [] => a0
  | (d, v) :: L => (puts a0 L).put (some d) v
def AllPuts (tm : Array Value) : List (Nat × Value) → Prop
  | [] => True
  | (d, v) :: L => tm[d]? = some v ∧ AllPuts tm L
theorem puts_defers (a0 : Act) : ∀ L, (puts a0 L).defers = a0.defers
  | [] => rfl
  | (d, v) :: L => by
    rw [puts]
    show (puts a0 L).defers = _
    exact puts_defers a0 L
theorem puts_size (a0 : Act) : ∀ L, (puts a0 L).tmps.size = a0.tmps.size
  | [] => rfl
  | (d, v) :: L => by
    rw [puts]
    show ((puts a0 L).tmps.setIfInBounds d v).size = _
    rw [Array.size_setIfInBounds]
    exact puts_size a0 L
theorem puts_at {a0 : Act} {tm : Array Value} (hs : tm.size = a0.tmps.size) : ∀ L, AllPuts tm L → ∀ t, ((L.any fun p => Nat.beq p.1 t) = false → tm[t]? = a0.tmps[t]?) → tm[t]? = (puts a0 L).tmps[t]?
  | [], _, t, h => h rfl
  | (d, v) :: L, hL, t, h => by
    show tm[t]? = ((puts a0 L).tmps.setIfInBounds d v)[t]?
    by_cases e : d = t
    · subst e
      have hlt : d < tm.size := (Array.getElem?_eq_some_iff.1 hL.1).1
      rw [Array.getElem?_setIfInBounds_self_of_lt (by rw [puts_size, ← hs]; exact hlt)]
      exact hL.1
    · rw [Array.getElem?_setIfInBounds_ne e]
      refine puts_at hs L hL.2 t fun hn => h ?_
      rw [List.any_cons, hn, Bool.or_false]
      cases hb : Nat.beq d t with
      | false => rfl
      | true => exact absurd (Nat.eq_of_beq_eq_true hb) e
def putsAllB (ops : Array Oper) (L : List (Nat × Value)) : Bool := ops.all fun o => match o.dst with
  | none => true
  | some d => L.any fun p => Nat.beq p.1 d
theorem frame_puts {a0 a : Act} {L : List (Nat × Value)} (hu : Unwritten ops a0 a) (hall : putsAllB ops L = true) (hL : AllPuts a.tmps L) : a = puts a0 L := by
  obtain ⟨h1, h2, h3⟩ := hu
  have hd := puts_defers a0 L
  have ht : a.tmps = (puts a0 L).tmps := by
    apply Array.ext'
    apply List.ext_getElem?
    intro t
    rw [Array.getElem?_toList, Array.getElem?_toList]
    refine puts_at h2 L hL t fun hn => h3 t ?_
    rw [Array.all_eq_true]
    intro i hi
    have h4 := Array.all_eq_true.1 hall i hi
    cases hdi : ops[i].dst with
    | none => rfl
    | some d =>
      rw [hdi] at h4
      simp only [bne_iff_ne, ne_eq, Option.some.injEq]
      rintro rfl
      simp only at h4
      rw [hn] at h4
      cases h4
  obtain ⟨tm, df⟩ := a
  rw [← h1] at hd
  simp only at hd ht
  rw [ht, ← hd]
theorem slot_there {tm : Array Value} {n t : Nat} (hs : tm.size = n) (h : t < n) : ∃ v, tm[t]? = some v := ⟨tm[t]'(by omega), Array.getElem?_eq_getElem (by omega)⟩
theorem Known.put {G : Nat → Value → World → Prop} {a : Act} {w : World} {j d : Nat} {oj : Oper} (h : Known ops G a w j) (hj : ops[j]? = some oj) (hd : oj.dst = some d) : ∃ v, a.tmps[d]? = some v ∧ G j v w := h oj d hj hd
theorem wp_store_rowTo {o : Oper} {a : Act} {w : World} {K : Act → World → Prop} (ty : TypeId) (x y : Operand) (ho : o.op = .store ty x y) (hd : o.dst = none)
    (g : Nat) (cells : Array Value) (hx : a.eval x = .pointer (some ⟨g, 0, none⟩)) (hy : a.eval y = .agg cells)
    (t : TypeId) (old : Array Value) (hg : Blk w g old t) (hi : (P.info? ty).map (·.size) = some cells.size)
    (hold : old.size = cells.size) (h1 : cells.all (·.oneCell') = true)
    (h : K a (w.setRow g cells)) : o.wp P a w K Q :=
  wp_store_row ty x y ho g cells hx hy t old hg hi hold h1 (by rw [hd]; exact h)
end
end Go.Proofs.YtkkokngdhhakdaaDoor
namespace Go.Proofs.YtkkokngdhhakdaaDoor
open Go.RowKit

section
variable {P : Program} {ops : Array Oper} {Q : Exit → Act → World → Prop} {md : Region.Mode}

/-- As StepOKh; of an operation that makes a variable also that it is new. -/
def StepOKf (P : Program) (md : Region.Mode) (ops hops : Array Oper) (Q : Exit → Act → World → Prop) (a0 : Act) (V : World) (G : Nat → Value → World → Prop) (fr : Bool) (i : Nat) (o : Oper) : Prop :=
  ∀ a w, Below V.heap.size V w → Unwritten hops a0 a → (∀ e ∈ o.after.toList, Region.binds md e = true → Known ops G a w e.on) →
    Region.wanted o (yielded ops a.tmps) = true ∧ o.wp P a w (fun a' w' => ∃ v, a' = a.put o.dst v ∧ G i v w' ∧ Below w.heap.size w w' ∧ (fr = true → ∃ g, v = .pointer (some ⟨g, 0, none⟩) ∧ w.heap.size ≤ g ∧ g < w'.heap.size)) Q
theorem StepOKf.of {hops : Array Oper} {a0 : Act} {V : World} {G : Nat → Value → World → Prop} {i : Nat} {o : Oper} (h : StepOKh P md ops hops Q a0 V G i o) : StepOKf P md ops hops Q a0 V G false i o := by
  intro a w hb hu hk
  obtain ⟨h1, h2⟩ := h a w hb hu hk
  refine ⟨h1, Oper.wp_mono (fun a' w' h3 => ?_) h2⟩
  obtain ⟨v, e1, e2, e3⟩ := h3
  exact ⟨v, e1, e2, e3, fun h => by cases h⟩
def StepsOKf (P : Program) (md : Region.Mode) (ops hops : Array Oper) (Q : Exit → Act → World → Prop) (a0 : Act) (V : World) (G : Nat → Value → World → Prop) (fr : Nat → Bool) : Nat → List Oper → Prop
  | _, [] => True
  | i, o :: rest => StepOKf P md ops hops Q a0 V G (fr i) i o ∧ StepsOKf P md ops hops Q a0 V G fr (i + 1) rest
theorem StepsOKf.get {hops : Array Oper} {a0 : Act} {V : World} {G : Nat → Value → World → Prop} {fr : Nat → Bool} : ∀ {l : List Oper} {i : Nat}, StepsOKf P md ops hops Q a0 V G fr i l → ∀ k o, l[k]? = some o → StepOKf P md ops hops Q a0 V G (fr (i + k)) (i + k) o
  | [], _, _, k, o, h => by simp at h
  | x :: l, i, hs, 0, o, h => by
    obtain rfl : x = o := by simpa using h
    exact hs.1
  | x :: l, i, hs, k + 1, o, h => by
    have := StepsOKf.get hs.2 k o (by simpa using h)
    rwa [show i + 1 + k = i + (k + 1) by omega] at this

/-- The variables that were made lie in the heap, each in a block of its own. -/
def Apart (ops : Array Oper) (fr : Nat → Bool) (listed : Array Bool) (a : Act) (w : World) : Prop :=
  (∀ j oj d, listed.getD j false = true → fr j = true → ops[j]? = some oj → oj.dst = some d → ∃ g, a.tmps[d]? = some (.pointer (some ⟨g, 0, none⟩)) ∧ g < w.heap.size) ∧
  ∀ i j oi oj d d', i ≠ j → listed.getD i false = true → listed.getD j false = true → fr i = true → fr j = true → ops[i]? = some oi → ops[j]? = some oj → oi.dst = some d → oj.dst = some d' → a.tmps[d]? ≠ a.tmps[d']?

theorem wpAny_free_apart {l : List Oper} {a0 : Act} {V : World} {G : Nat → Value → World → Prop} {n g : Nat} {fr : Nat → Bool} (hsize : l.length = n + g) (hg : 0 < g) (hp : plainB l.toArray a0.tmps.size = true) (hsk : Region.sinkB md l.toArray n = true) (hch : Region.chainB md l.toArray n = true) (hsq : Region.seqB md l.toArray g n (headDone n g) = true)
    (hG : ∀ i v w w', G i v w → Below w.heap.size w w' → G i v w')
    (hs : ∀ i o, i < n → l[i]? = some o → StepOKf P md l.toArray (l.take n).toArray Q a0 V G (fr i) i o)
    (ht : ∀ a w, Below V.heap.size V w → Unwritten (l.take n).toArray a0 a → (∀ j, j < n → Known l.toArray G a w j) → (∀ listed, (∀ j, j < n → listed.getD j false = true) → Apart l.toArray fr listed a w → wpList P l.toArray Q (l.drop n) a w)) :
    ∀ (d : Nat) (listed : Array Bool) (a : Act) (w : World), headsLeft listed n = d → HeadInv md l.toArray n listed → Below V.heap.size V w → Unwritten (l.take n).toArray a0 a → (∀ j, listed.getD j false = true → Known l.toArray G a w j) → Apart l.toArray fr listed a w →
      wpAny P md l.toArray Q (d + g) listed a w := by
  have hdl : (l.drop n).length = g := by simp; omega
  have hns : n < l.toArray.size := by simp; omega
  intro d
  induction d with
  | zero =>
    intro listed a w hd inv hb hu hk hap
    have h1 := headsLeft_zero hd
    have hsz : listed.size = n + g := by rw [inv.size]; simpa using hsize
    have hl := listed_done hsz h1 (fun t h1 h2 => inv.tail t h1 (by simp; omega))
    have hln : ∀ j, j < n → listed.getD j false = true := fun j hj => by
      have := h1 j hj
      rw [Array.getD_eq_getD_getElem?, Array.getElem?_eq_getElem (show j < listed.size by omega)] at this ⊢
      simpa using this
    have hkn : ∀ j, j < n → Known l.toArray G a w j := fun j hj => hk j (hln j hj)
    have := wpAny_of_seq (P := P) (md := md) (Q' := Q) (ops := l.toArray) (l.drop n) n listed a w (fun j => by simp [List.getElem?_drop]) (by rw [hdl, hl]; exact hsq) (ht a w hb hu hkn listed hln hap)
    rw [Nat.zero_add]
    rwa [hdl] at this
  | succ d ih =>
    intro listed a w hd inv hb hu hk hap
    obtain ⟨u, hun, hul⟩ := headsLeft_some (listed := listed) (n := n) (by omega)
    rw [show d + 1 + g = (d + g) + 1 by omega]
    refine ⟨fun hr => ?_, fun i hi => ?_⟩
    · exfalso
      have := all_listed hp hr (u + 1) u (by omega) (by omega)
      rw [hul] at this
      cases this
    · have hin : i < n := by
        rcases Nat.lt_or_ge i n with h | h
        · exact h
        · exact absurd hi (tail_waits hsk hch hns inv _ u rfl hun hul i h)
      obtain ⟨h0, o, ho, hall⟩ := mem_ready.1 hi
      obtain ⟨hwd, hstep⟩ := hs i o hin (by simpa using ho) a w hb hu (fun e he hbd => hk e.on (hall e (by simpa using he) hbd))
      unfold wpOp
      rw [ho]
      simp only [hwd, if_true]
      refine .inl (Oper.wp_mono (K := fun a' w' => ∃ v, a' = a.put o.dst v ∧ G i v w' ∧ Below w.heap.size w w' ∧ (fr i = true → ∃ g, v = .pointer (some ⟨g, 0, none⟩) ∧ w.heap.size ≤ g ∧ g < w'.heap.size)) (fun a' w' h => ?_) hstep)
      obtain ⟨v, rfl, hgv, hbw, hfr⟩ := h
      refine ih _ _ _ (by have := headsLeft_in h0 hin; omega) (inv.set hi hin) (hb.trans (hbw.mono hb.size)) ?_ ?_ ?_
      · obtain ⟨hu1, hu2, hu3⟩ := hu
        refine ⟨?_, ?_, fun t ht => ?_⟩
        · rw [← hu1]; unfold Act.put; cases o.dst <;> rfl
        · rw [← hu2]; unfold Act.put; cases o.dst <;> simp
        · have hne : o.dst ≠ some t := by
            have h1 : o ∈ l.take n := List.mem_of_getElem? (i := i) (by rw [List.getElem?_take, if_pos hin]; simpa using ho)
            rw [List.all_toArray] at ht
            simpa using List.all_eq_true.1 ht o h1
          rw [← hu3 t ht]
          unfold Act.put
          cases hd : o.dst with
          | none => rfl
          | some d => simp only; rw [Array.getElem?_setIfInBounds_ne]; intro e; subst e; exact hne hd
      · intro j hj oj d' hoj hd'
        by_cases hji : j = i
        · subst hji
          obtain rfl : o = oj := Option.some.inj (ho.symm.trans hoj)
          refine ⟨v, ?_, hgv⟩
          have hlt : d' < a.tmps.size := by rw [hu.2.1]; exact ((plain_at hp ho).2 d' hd').1
          unfold Act.put
          rw [hd']
          simp [hlt]
        · have hj' : listed.getD j false = true := by
            rw [Array.getD_eq_getD_getElem?] at hj ⊢
            rwa [Array.getElem?_setIfInBounds_ne (Ne.symm hji)] at hj
          obtain ⟨u', h1, h2⟩ := hk j hj' oj d' hoj hd'
          refine ⟨u', ?_, hG _ _ _ _ h2 hbw⟩
          rw [← h1]
          unfold Act.put
          cases hdi : o.dst with
          | none => rfl
          | some d'' =>
            simp only
            rw [Array.getElem?_setIfInBounds_ne]
            rintro rfl
            exact hji (plain_apart hp hoj ho hd' hdi)
      · have hold : ∀ j oj d', listed.getD j false = true → l.toArray[j]? = some oj → oj.dst = some d' → (a.put o.dst v).tmps[d']? = a.tmps[d']? := by
          intro j oj d' hj hoj hd'
          unfold Act.put
          cases hdi : o.dst with
          | none => rfl
          | some d'' =>
            simp only
            rw [Array.getElem?_setIfInBounds_ne]
            rintro rfl
            have := plain_apart hp hoj ho hd' hdi
            subst this
            rw [getD_both h0] at hj
            cases hj
        have hnew : ∀ d', o.dst = some d' → (a.put o.dst v).tmps[d']? = some v := by
          intro d' hd'
          have hlt : d' < a.tmps.size := by rw [hu.2.1]; exact ((plain_at hp ho).2 d' hd').1
          unfold Act.put
          rw [hd']
          simp [hlt]
        have hset : ∀ j, (listed.setIfInBounds i true).getD j false = true → j = i ∨ listed.getD j false = true := by
          intro j hj
          by_cases hji : j = i
          · exact .inl hji
          · rw [getD_set_ne false (Ne.symm hji)] at hj
            exact .inr hj
        refine ⟨fun j oj d' hj hfj hoj hd' => ?_, fun j j' oj oj' d1 d2 hne hj hj' hfj hfj' hoj hoj' hd1 hd2 => ?_⟩
        · rcases hset j hj with rfl | hj
          · obtain rfl : o = oj := Option.some.inj (ho.symm.trans hoj)
            obtain ⟨g', e1, _, e3⟩ := hfr hfj
            exact ⟨g', by rw [hnew d' hd', e1], e3⟩
          · obtain ⟨g', e1, e2⟩ := hap.1 j oj d' hj hfj hoj hd'
            exact ⟨g', by rw [hold j oj d' hj hoj hd', e1], Nat.lt_of_lt_of_le e2 hbw.size⟩
        · rcases hset j hj with rfl | hjo <;> rcases hset j' hj' with rfl | hjo'
          · exact absurd rfl hne
          · obtain rfl : o = oj := Option.some.inj (ho.symm.trans hoj)
            obtain ⟨g', e1, e2, _⟩ := hfr hfj
            obtain ⟨g2, e3, e4⟩ := hap.1 j' oj' d2 hjo' hfj' hoj' hd2
            rw [hnew d1 hd1, hold j' oj' d2 hjo' hoj' hd2, e1, e3]
            intro e
            simp only [Option.some.injEq, Value.pointer.injEq, Addr.mk.injEq, and_true] at e
            omega
          · obtain rfl : o = oj' := Option.some.inj (ho.symm.trans hoj')
            obtain ⟨g', e1, e2, _⟩ := hfr hfj'
            obtain ⟨g2, e3, e4⟩ := hap.1 j oj d1 hjo hfj hoj hd1
            rw [hnew d2 hd2, hold j oj d1 hjo hoj hd1, e1, e3]
            intro e
            simp only [Option.some.injEq, Value.pointer.injEq, Addr.mk.injEq, and_true] at e
            omega
          · rw [hold j oj d1 hjo hoj hd1, hold j' oj' d2 hjo' hoj' hd2]
            exact hap.2 j j' oj oj' d1 d2 hne hjo hjo' hfj hfj' hoj hoj' hd1 hd2

/-- The law: n operations ahead, in whatever order; the others behind them, one by one; the variables that were made are unlike. -/
theorem wp_region_free_apart {id : Nat} {l : List Oper} {a0 : Act} {w : World} (n g : Nat) (fr : Nat → Bool) (G : Nat → Value → World → Prop) (hm : P.follows .mixedOrders = true) (hsize : l.length = n + (g + 1)) (hp : plainB l.toArray a0.tmps.size = true)
    (hch : (Region.sinkB .any l.toArray n && Region.chainB .any l.toArray n && Region.seqB .any l.toArray (g + 1) n (headDone n (g + 1))) = true) (hG : ∀ i v w w', G i v w → Below w.heap.size w w' → G i v w')
    (hs : StepsOKf P .any l.toArray (l.take n).toArray Q a0 w G fr 0 (l.take n))
    (ht : ∀ a w', Below w.heap.size w w' → Unwritten (l.take n).toArray a0 a → (∀ j, j < n → Known l.toArray G a w' j) → (∀ i j oi oj d d', i < n → j < n → i ≠ j → fr i = true → fr j = true → l[i]? = some oi → l[j]? = some oj → oi.dst = some d → oj.dst = some d' → a.tmps[d]? ≠ a.tmps[d']?) → wpList P l.toArray Q (l.drop n) a w') : (Code.region id l.toArray true).wp P Q a0 w := by
  simp only [Bool.and_eq_true] at hch
  have H := wpAny_free_apart (P := P) (Q := Q) (md := .any) (V := w) (n := n) (g := g + 1) (fr := fr) hsize (by omega) hp hch.1.1 hch.1.2 hch.2 hG (fun i o hi ho => by
      have h1 : (l.take n)[i]? = some o := by rw [List.getElem?_take, if_pos hi]; exact ho
      have := hs.get i o h1
      rwa [Nat.zero_add] at this) (fun a w' hb hu hk listed hln hap => ht a w' hb hu hk fun i j oi oj d d' hi hj hne hfi hfj hoi hoj hd hd' => hap.2 i j oi oj d d' hne (hln i hi) (hln j hj) hfi hfj (by simpa using hoi) (by simpa using hoj) hd hd') n (Array.replicate l.toArray.size false) a0 { w with drawn := w.drawn + 1 } (headsLeft_full _ n (by simp; omega))
    ⟨by simp, fun j oj _ hl => (by rw [getD_replicate_false] at hl; cases hl), fun t _ ht => getD_in (by simpa using ht) (getD_replicate_false _ _)⟩
    (Below.refl _ _).drew ⟨rfl, rfl, fun _ _ => rfl⟩ (fun j hj => (by rw [getD_replicate_false] at hj; cases hj)) ⟨fun j _ _ hj => (by rw [getD_replicate_false] at hj; cases hj), fun i j _ _ _ _ _ hi => (by rw [getD_replicate_false] at hi; cases hi)⟩
  rw [show n + (g + 1) = l.toArray.size by simp; omega] at H
  exact wp_region_any hm H

theorem step_alloc_new {o : Oper} {a : Act} {w : World} {T : TypeId} {Z : Array Value} {Gi : Value → World → Prop} (hop : o.op = .alloc T) (hz : (zeroValue T).run P w = .ok (.agg Z) w) (hg : Gi (.pointer (some ⟨w.heap.size, 0, none⟩)) (w.alloc (.cells Z T))) :
    o.wp P a w (fun a' w' => ∃ v, a' = a.put o.dst v ∧ Gi v w' ∧ Below w.heap.size w w' ∧ (true = true → ∃ g, v = .pointer (some ⟨g, 0, none⟩) ∧ w.heap.size ≤ g ∧ g < w'.heap.size)) Q := by
  unfold Oper.wp execOp
  rw [hop]
  go_simp
  exact ⟨_, rfl, hg, (Below.refl _ _).alloc (Nat.le_refl _) _, ⟨_, rfl, Nat.le_refl _, by omega⟩⟩
end
end Go.Proofs.YtkkokngdhhakdaaDoor
namespace Go.Proofs.YtkkokngdhhakdaaDoor
open Go.RowKit

section
variable {P : Program} {ops : Array Oper} {Q : Exit → Act → World → Prop} {md : Region.Mode}

/-- Whoever writes slot t comes behind operation i: it lies behind the n ahead, or waits for i. -/
def lateB (md : Region.Mode) (ops : Array Oper) (n i t : Nat) : Bool :=
  (List.range ops.size).all fun j => match ops[j]? with
    | some oj => oj.dst != some t || Nat.ble n j || oj.after.toList.any fun e => Region.binds md e && Nat.beq e.on i
    | none => true
/-- What is not yet written is as it was. -/
def AsWas (md : Region.Mode) (ops : Array Oper) (n i : Nat) (a0 a : Act) : Prop :=
  a.defers = a0.defers ∧ a.tmps.size = a0.tmps.size ∧ ∀ t, lateB md ops n i t = true → a.tmps[t]? = a0.tmps[t]?
theorem AsWas.is {n i : Nat} {a0 a : Act} {t : Nat} (h : AsWas md ops n i a0 a) (ht : lateB md ops n i t = true) : a.eval (.tmp t) = a0.eval (.tmp t) := by
  simp [Act.eval, Array.getD_eq_getD_getElem?, h.2.2 t ht]

def StepOKl (P : Program) (md : Region.Mode) (ops : Array Oper) (n : Nat) (Q : Exit → Act → World → Prop) (a0 : Act) (V : World) (G : Nat → Value → World → Prop) (fr : Bool) (i : Nat) (o : Oper) : Prop :=
  ∀ a w, Below V.heap.size V w → AsWas md ops n i a0 a → (∀ e ∈ o.after.toList, Region.binds md e = true → Known ops G a w e.on) →
    Region.wanted o (yielded ops a.tmps) = true ∧ o.wp P a w (fun a' w' => ∃ v, a' = a.put o.dst v ∧ G i v w' ∧ Below w.heap.size w w' ∧ (fr = true → ∃ g, v = .pointer (some ⟨g, 0, none⟩) ∧ w.heap.size ≤ g ∧ g < w'.heap.size)) Q
theorem StepOKl.of {n : Nat} {a0 : Act} {V : World} {G : Nat → Value → World → Prop} {i : Nat} {o : Oper}
    (h : ∀ a w, Below V.heap.size V w → AsWas md ops n i a0 a → (∀ e ∈ o.after.toList, Region.binds md e = true → Known ops G a w e.on) →
      Region.wanted o (yielded ops a.tmps) = true ∧ o.wp P a w (fun a' w' => ∃ v, a' = a.put o.dst v ∧ G i v w' ∧ Below w.heap.size w w') Q) : StepOKl P md ops n Q a0 V G false i o := by
  intro a w hb hu hk
  obtain ⟨h1, h2⟩ := h a w hb hu hk
  refine ⟨h1, Oper.wp_mono (fun a' w' h3 => ?_) h2⟩
  obtain ⟨v, e1, e2, e3⟩ := h3
  exact ⟨v, e1, e2, e3, fun h => by cases h⟩
def StepsOKl (P : Program) (md : Region.Mode) (ops : Array Oper) (n : Nat) (Q : Exit → Act → World → Prop) (a0 : Act) (V : World) (G : Nat → Value → World → Prop) (fr : Nat → Bool) : Nat → List Oper → Prop
  | _, [] => True
  | i, o :: rest => StepOKl P md ops n Q a0 V G (fr i) i o ∧ StepsOKl P md ops n Q a0 V G fr (i + 1) rest
theorem StepsOKl.get {n : Nat} {a0 : Act} {V : World} {G : Nat → Value → World → Prop} {fr : Nat → Bool} : ∀ {l : List Oper} {i : Nat}, StepsOKl P md ops n Q a0 V G fr i l → ∀ k o, l[k]? = some o → StepOKl P md ops n Q a0 V G (fr (i + k)) (i + k) o
  | [], _, _, k, o, h => by simp at h
  | x :: l, i, hs, 0, o, h => by
    obtain rfl : x = o := by simpa using h
    exact hs.1
  | x :: l, i, hs, k + 1, o, h => by
    have := StepsOKl.get hs.2 k o (by simpa using h)
    rwa [show i + 1 + k = i + (k + 1) by omega] at this

/-- A slot that no listed operation writes is as it was. -/
def Clean (ops : Array Oper) (listed : Array Bool) (a0 a : Act) : Prop :=
  a.defers = a0.defers ∧ a.tmps.size = a0.tmps.size ∧ ∀ t, (∀ j oj, listed.getD j false = true → ops[j]? = some oj → oj.dst ≠ some t) → a.tmps[t]? = a0.tmps[t]?

/-- Each of the first n operations but the first k is waited for. -/
def sinkT (md : Region.Mode) (ops : Array Oper) (n k : Nat) : Bool :=
  (List.range n).all fun i => Nat.blt i k || (List.range (n + 1)).any fun j => decide (i < j) && Region.waitsFor md ops j i
theorem sinkT_of {n : Nat} (h : Region.sinkB md ops n = true) : sinkT md ops n 0 = true := by
  unfold sinkT
  refine List.all_eq_true.2 fun i hi => ?_
  rw [Bool.or_eq_true]
  exact .inr (List.all_eq_true.1 h i hi)
theorem tail_waitsT {n k : Nat} {listed : Array Bool} (hs : sinkT md ops n k = true) (hk : ∀ i, i < k → listed.getD i true = true) (hc : Region.chainB md ops n = true) (hn : n < ops.size) (inv : HeadInv md ops n listed) :
    ∀ (d i : Nat), n - i = d → i < n → listed.getD i true = false → ∀ t, n ≤ t → t ∉ Region.ready md ops listed := by
  intro d
  induction d using Nat.strongRecOn with
  | _ d ih =>
    intro i hd hi hun t ht hr
    obtain ⟨_, ot, hot, hall⟩ := mem_ready.1 hr
    have htlt : t < ops.size := (Array.getElem?_eq_some_iff.1 hot).1
    by_cases htn : t = n
    · subst htn
      have h1 := List.all_eq_true.1 hs i (List.mem_range.2 hi)
      rw [Bool.or_eq_true] at h1
      rcases h1 with h1 | h1
      · have := hk i (by simpa using h1)
        rw [hun] at this
        cases this
      obtain ⟨j, hj, hj2⟩ := List.any_eq_true.1 h1
      simp only [Bool.and_eq_true, decide_eq_true_eq] at hj2
      obtain ⟨oj, hoj, e, he, hb, hon⟩ := Region.waitsFor_spec hj2.2
      have hjle : j ≤ t := by have := List.mem_range.1 hj; omega
      by_cases hjt : j = t
      · subst hjt
        have : oj = ot := Option.some.inj (hoj.symm.trans hot)
        subst this
        have h2 := hall e he hb
        rw [hon, getD_both hun] at h2
        cases h2
      · cases hl : listed.getD j false with
        | true =>
          have h2 := inv.closed j oj hoj hl e he hb
          rw [hon, getD_both hun] at h2
          cases h2
        | false =>
          have hjs : j < listed.size := by rw [inv.size]; omega
          exact ih (t - j) (by omega) j rfl (by omega) (getD_in hjs hl) t (Nat.le_refl _) hr
    · have h1 := List.all_eq_true.1 hc t (List.mem_range.2 htlt)
      simp only [Bool.or_eq_true, decide_eq_true_eq] at h1
      rcases h1 with h1 | h1
      · omega
      · obtain ⟨o', ho', e, he, hb, hon⟩ := Region.waitsFor_spec h1
        have : o' = ot := Option.some.inj (ho'.symm.trans hot)
        subst this
        have h2 := hall e he hb
        rw [hon, getD_both (inv.tail (t - 1) (by omega) (by omega))] at h2
        cases h2

theorem wpAny_loose {l : List Oper} {a0 : Act} {V : World} {G : Nat → Value → World → Prop} {n g k : Nat} {fr : Nat → Bool} (hsize : l.length = n + g) (hp : plainB l.toArray a0.tmps.size = true)
    (hsk : g = 0 ∨ (sinkT md l.toArray n k = true ∧ Region.chainB md l.toArray n = true)) (hsq : Region.seqB md l.toArray g n (headDone n g) = true)
    (hG : ∀ i v w w', G i v w → Below w.heap.size w w' → G i v w')
    (hs : ∀ i o, i < n → l[i]? = some o → StepOKl P md l.toArray n Q a0 V G (fr i) i o)
    (ht : ∀ a w, Below V.heap.size V w → Unwritten (l.take n).toArray a0 a → (∀ j, j < n → Known l.toArray G a w j) → (∀ listed, (∀ j, j < n → listed.getD j false = true) → Apart l.toArray fr listed a w → wpList P l.toArray Q (l.drop n) a w)) :
    ∀ (d : Nat) (listed : Array Bool) (a : Act) (w : World), (∀ i, i < k → listed.getD i true = true) → headsLeft listed n = d → HeadInv md l.toArray n listed → Below V.heap.size V w → Clean l.toArray listed a0 a → (∀ j, listed.getD j false = true → Known l.toArray G a w j) → Apart l.toArray fr listed a w →
      wpAny P md l.toArray Q (d + g) listed a w := by
  have hdl : (l.drop n).length = g := by simp; omega
  intro d
  induction d with
  | zero =>
    intro listed a w hkk hd inv hb hu hk hap
    have h1 := headsLeft_zero hd
    have hsz : listed.size = n + g := by rw [inv.size]; simpa using hsize
    have hl := listed_done hsz h1 (fun t h1 h2 => inv.tail t h1 (by simp; omega))
    have hln : ∀ j, j < n → listed.getD j false = true := fun j hj => by
      have := h1 j hj
      rw [Array.getD_eq_getD_getElem?, Array.getElem?_eq_getElem (show j < listed.size by omega)] at this ⊢
      simpa using this
    have hkn : ∀ j, j < n → Known l.toArray G a w j := fun j hj => hk j (hln j hj)
    have hun : Unwritten (l.take n).toArray a0 a := by
      refine ⟨hu.1, hu.2.1, fun t ht => hu.2.2 t fun j oj hj hoj hd => ?_⟩
      have hjn : j < n := by
        rcases Nat.lt_or_ge j n with h | h
        · exact h
        · have hjs : j < l.toArray.size := (Array.getElem?_eq_some_iff.1 hoj).1
          have := inv.tail j h hjs
          rw [getD_both this] at hj
          cases hj
      have h2 : oj ∈ l.take n := List.mem_of_getElem? (i := j) (by rw [List.getElem?_take, if_pos hjn]; simpa using hoj)
      rw [List.all_toArray] at ht
      have := List.all_eq_true.1 ht oj h2
      rw [hd] at this
      simp at this
    have := wpAny_of_seq (P := P) (md := md) (Q' := Q) (ops := l.toArray) (l.drop n) n listed a w (fun j => by simp [List.getElem?_drop]) (by rw [hdl, hl]; exact hsq) (ht a w hb hun hkn listed hln hap)
    rw [Nat.zero_add]
    rwa [hdl] at this
  | succ d ih =>
    intro listed a w hkk hd inv hb hu hk hap
    obtain ⟨u, hun, hul⟩ := headsLeft_some (listed := listed) (n := n) (by omega)
    rw [show d + 1 + g = (d + g) + 1 by omega]
    refine ⟨fun hr => ?_, fun i hi => ?_⟩
    · exfalso
      have := all_listed hp hr (u + 1) u (by omega) (by simp; omega)
      rw [hul] at this
      cases this
    · obtain ⟨h0, o, ho, hall⟩ := mem_ready.1 hi
      have his : i < l.toArray.size := (Array.getElem?_eq_some_iff.1 ho).1
      have hin : i < n := by
        rcases Nat.lt_or_ge i n with h | h
        · exact h
        · rcases hsk with h2 | ⟨h2, h3⟩
          · simp at his; omega
          · exact absurd hi (tail_waitsT h2 hkk h3 (by simp at his ⊢; omega) inv _ u rfl hun hul i h)
      have hset : ∀ j, (listed.setIfInBounds i true).getD j false = true → j = i ∨ listed.getD j false = true := by
        intro j hj
        by_cases hji : j = i
        · exact .inl hji
        · rw [getD_set_ne false (Ne.symm hji)] at hj
          exact .inr hj
      have hwas : AsWas md l.toArray n i a0 a := by
        refine ⟨hu.1, hu.2.1, fun t ht => hu.2.2 t fun j oj hj hoj hdj => ?_⟩
        have hjs : j < l.toArray.size := (Array.getElem?_eq_some_iff.1 hoj).1
        have h1 := List.all_eq_true.1 ht j (List.mem_range.2 hjs)
        rw [hoj] at h1
        simp only [hdj, bne_self_eq_false, Bool.false_or, Bool.or_eq_true] at h1
        rcases h1 with h1 | h1
        · have h2 : n ≤ j := Nat.le_of_ble_eq_true h1
          have := inv.tail j h2 hjs
          rw [getD_both this] at hj
          cases hj
        · obtain ⟨e, he, h2⟩ := List.any_eq_true.1 h1
          simp only [Bool.and_eq_true] at h2
          have h3 := inv.closed j oj hoj hj e (by simpa using he) h2.1
          rw [Nat.eq_of_beq_eq_true h2.2, getD_both h0] at h3
          cases h3
      obtain ⟨hwd, hstep⟩ := hs i o hin (by simpa using ho) a w hb hwas (fun e he hbd => hk e.on (hall e (by simpa using he) hbd))
      unfold wpOp
      rw [ho]
      simp only [hwd, if_true]
      refine .inl (Oper.wp_mono (K := fun a' w' => ∃ v, a' = a.put o.dst v ∧ G i v w' ∧ Below w.heap.size w w' ∧ (fr i = true → ∃ g, v = .pointer (some ⟨g, 0, none⟩) ∧ w.heap.size ≤ g ∧ g < w'.heap.size)) (fun a' w' h => ?_) hstep)
      obtain ⟨v, rfl, hgv, hbw, hfr⟩ := h
      have hself : (listed.setIfInBounds i true).getD i false = true := by
        rw [Array.getD_eq_getD_getElem?, Array.getElem?_setIfInBounds_self_of_lt (by rw [inv.size]; exact his)]
        rfl
      refine ih _ _ _ (fun j hj => by
        by_cases e : i = j
        · subst e; rw [Array.getD_eq_getD_getElem?, Array.getElem?_setIfInBounds_self_of_lt (by rw [inv.size]; exact his)]; rfl
        · rw [getD_set_ne true e]; exact hkk j hj) (by have := headsLeft_in h0 hin; omega) (inv.set hi hin) (hb.trans (hbw.mono hb.size)) ?_ ?_ ?_
      · refine ⟨?_, ?_, fun t ht => ?_⟩
        · rw [← hu.1]; unfold Act.put; cases o.dst <;> rfl
        · rw [← hu.2.1]; unfold Act.put; cases o.dst <;> simp
        · have hne : o.dst ≠ some t := ht i o hself ho
          have h2 : a.tmps[t]? = a0.tmps[t]? := hu.2.2 t fun j oj hj hoj => ht j oj (by
            by_cases hji : j = i
            · subst hji; exact hself
            · rw [getD_set_ne false (Ne.symm hji)]; exact hj) hoj
          rw [← h2]
          unfold Act.put
          cases hd : o.dst with
          | none => rfl
          | some d => simp only; rw [Array.getElem?_setIfInBounds_ne]; intro e; subst e; exact hne hd
      · intro j hj oj d' hoj hd'
        by_cases hji : j = i
        · subst hji
          obtain rfl : o = oj := Option.some.inj (ho.symm.trans hoj)
          refine ⟨v, ?_, hgv⟩
          have hlt : d' < a.tmps.size := by rw [hu.2.1]; exact ((plain_at hp ho).2 d' hd').1
          unfold Act.put
          rw [hd']
          simp [hlt]
        · have hj' : listed.getD j false = true := by
            rw [Array.getD_eq_getD_getElem?] at hj ⊢
            rwa [Array.getElem?_setIfInBounds_ne (Ne.symm hji)] at hj
          obtain ⟨u', h1, h2⟩ := hk j hj' oj d' hoj hd'
          refine ⟨u', ?_, hG _ _ _ _ h2 hbw⟩
          rw [← h1]
          unfold Act.put
          cases hdi : o.dst with
          | none => rfl
          | some d'' =>
            simp only
            rw [Array.getElem?_setIfInBounds_ne]
            rintro rfl
            exact hji (plain_apart hp hoj ho hd' hdi)
      · have hold : ∀ j oj d', listed.getD j false = true → l.toArray[j]? = some oj → oj.dst = some d' → (a.put o.dst v).tmps[d']? = a.tmps[d']? := by
          intro j oj d' hj hoj hd'
          unfold Act.put
          cases hdi : o.dst with
          | none => rfl
          | some d'' =>
            simp only
            rw [Array.getElem?_setIfInBounds_ne]
            rintro rfl
            have := plain_apart hp hoj ho hd' hdi
            subst this
            rw [getD_both h0] at hj
            cases hj
        have hnew : ∀ d', o.dst = some d' → (a.put o.dst v).tmps[d']? = some v := by
          intro d' hd'
          have hlt : d' < a.tmps.size := by rw [hu.2.1]; exact ((plain_at hp ho).2 d' hd').1
          unfold Act.put
          rw [hd']
          simp [hlt]
        refine ⟨fun j oj d' hj hfj hoj hd' => ?_, fun j j' oj oj' d1 d2 hne hj hj' hfj hfj' hoj hoj' hd1 hd2 => ?_⟩
        · rcases hset j hj with rfl | hj
          · obtain rfl : o = oj := Option.some.inj (ho.symm.trans hoj)
            obtain ⟨g', e1, _, e3⟩ := hfr hfj
            exact ⟨g', by rw [hnew d' hd', e1], e3⟩
          · obtain ⟨g', e1, e2⟩ := hap.1 j oj d' hj hfj hoj hd'
            exact ⟨g', by rw [hold j oj d' hj hoj hd', e1], Nat.lt_of_lt_of_le e2 hbw.size⟩
        · rcases hset j hj with rfl | hjo <;> rcases hset j' hj' with rfl | hjo'
          · exact absurd rfl hne
          · obtain rfl : o = oj := Option.some.inj (ho.symm.trans hoj)
            obtain ⟨g', e1, e2, _⟩ := hfr hfj
            obtain ⟨g2, e3, e4⟩ := hap.1 j' oj' d2 hjo' hfj' hoj' hd2
            rw [hnew d1 hd1, hold j' oj' d2 hjo' hoj' hd2, e1, e3]
            intro e
            simp only [Option.some.injEq, Value.pointer.injEq, Addr.mk.injEq, and_true] at e
            omega
          · obtain rfl : o = oj' := Option.some.inj (ho.symm.trans hoj')
            obtain ⟨g', e1, e2, _⟩ := hfr hfj'
            obtain ⟨g2, e3, e4⟩ := hap.1 j oj d1 hjo hfj hoj hd1
            rw [hnew d2 hd2, hold j oj d1 hjo hoj hd1, e1, e3]
            intro e
            simp only [Option.some.injEq, Value.pointer.injEq, Addr.mk.injEq, and_true] at e
            omega
          · rw [hold j oj d1 hjo hoj hd1, hold j' oj' d2 hjo' hoj' hd2]
            exact hap.2 j j' oj oj' d1 d2 hne hjo hjo' hfj hfj' hoj hoj' hd1 hd2

/-- The law. -/
theorem wp_region_loose {id : Nat} {l : List Oper} {a0 : Act} {w : World} (n g : Nat) (fr : Nat → Bool) (G : Nat → Value → World → Prop) (hm : P.follows .mixedOrders = true) (hsize : l.length = n + g)
    (hch : (plainB l.toArray a0.tmps.size && (Nat.beq g 0 || (Region.sinkB .any l.toArray n && Region.chainB .any l.toArray n)) && Region.seqB .any l.toArray g n (headDone n g)) = true) (hG : ∀ i v w w', G i v w → Below w.heap.size w w' → G i v w')
    (hs : StepsOKl P .any l.toArray n Q a0 w G fr 0 (l.take n))
    (ht : ∀ a w', Below w.heap.size w w' → Unwritten (l.take n).toArray a0 a → (∀ j, j < n → Known l.toArray G a w' j) → (∀ i j oi oj d d', i < n → j < n → i ≠ j → fr i = true → fr j = true → l[i]? = some oi → l[j]? = some oj → oi.dst = some d → oj.dst = some d' → a.tmps[d]? ≠ a.tmps[d']?) → wpList P l.toArray Q (l.drop n) a w') : (Code.region id l.toArray true).wp P Q a0 w := by
  simp only [Bool.and_eq_true, Bool.or_eq_true] at hch
  obtain ⟨⟨hp, hsk⟩, hsq⟩ := hch
  have H := wpAny_loose (P := P) (Q := Q) (md := .any) (V := w) (n := n) (g := g) (k := 0) (fr := fr) hsize hp (hsk.imp Nat.eq_of_beq_eq_true (fun h => ⟨sinkT_of h.1, h.2⟩)) hsq hG (fun i o hi ho => by
      have h1 : (l.take n)[i]? = some o := by rw [List.getElem?_take, if_pos hi]; exact ho
      have := hs.get i o h1
      rwa [Nat.zero_add] at this) (fun a w' hb hu hk listed hln hap => ht a w' hb hu hk fun i j oi oj d d' hi hj hne hfi hfj hoi hoj hd hd' => hap.2 i j oi oj d d' hne (hln i hi) (hln j hj) hfi hfj (by simpa using hoi) (by simpa using hoj) hd hd') n (Array.replicate l.toArray.size false) a0 { w with drawn := w.drawn + 1 } (fun i hi => absurd hi (Nat.not_lt_zero i)) (headsLeft_full _ n (by simp; omega))
    ⟨by simp, fun j oj _ hl => (by rw [getD_replicate_false] at hl; cases hl), fun t _ ht => getD_in (by simpa using ht) (getD_replicate_false _ _)⟩
    (Below.refl _ _).drew ⟨rfl, rfl, fun _ _ => rfl⟩ (fun j hj => (by rw [getD_replicate_false] at hj; cases hj)) ⟨fun j _ _ hj => (by rw [getD_replicate_false] at hj; cases hj), fun i j _ _ _ _ _ hi => (by rw [getD_replicate_false] at hi; cases hi)⟩
  rw [show n + g = l.toArray.size by simp; omega] at H
  exact wp_region_any hm H
/-- The law, where the first operation yields in whatever world, and is taken first: nothing need wait for it. -/
theorem wp_region_loose1 {id : Nat} {l : List Oper} {a0 : Act} {w : World} (n g : Nat) (fr : Nat → Bool) (G : Nat → Value → World → Prop) (o0 : Oper) (v0 : Value) (hm : P.follows .mixedOrders = true) (hsize : l.length = n + g)
    (hch : (plainB l.toArray a0.tmps.size && (Nat.beq g 0 || (sinkT .any l.toArray n 1 && Region.chainB .any l.toArray n)) && Region.seqB .any l.toArray g n (headDone n g)) = true)
    (hfree : (Region.noSelect l.toArray && Region.free .any l.toArray (Array.replicate l.toArray.size false) 0 && (Region.ready .any l.toArray (Array.replicate l.toArray.size false)).contains 0 && Nat.blt 0 n && !fr 0) = true)
    (h0 : l[0]? = some o0) (hy : Yields P l.toArray o0 v0 a0) (hv : ∀ w', Below w.heap.size w w' → G 0 v0 w') (hQ : ∀ c a w, Q (.panic c) (a.put o0.dst v0) w → Q (.panic c) a w)
    (hG : ∀ i v w w', G i v w → Below w.heap.size w w' → G i v w')
    (hs : StepsOKl P .any l.toArray n Q a0 w G fr 0 (l.take n))
    (ht : ∀ a w', Below w.heap.size w w' → Unwritten (l.take n).toArray a0 a → (∀ j, j < n → Known l.toArray G a w' j) → (∀ i j oi oj d d', i < n → j < n → i ≠ j → fr i = true → fr j = true → l[i]? = some oi → l[j]? = some oj → oi.dst = some d → oj.dst = some d' → a.tmps[d]? ≠ a.tmps[d']?) → wpList P l.toArray Q (l.drop n) a w') : (Code.region id l.toArray true).wp P Q a0 w := by
  simp only [Bool.and_eq_true, Bool.or_eq_true, Bool.not_eq_true'] at hch hfree
  obtain ⟨⟨hp, hsk⟩, hsq⟩ := hch
  obtain ⟨⟨⟨⟨hf1, hf2⟩, hf3⟩, hf4⟩, hf5⟩ := hfree
  have hn : 0 < n := by simpa using hf4
  have h0a : l.toArray[0]? = some o0 := by simpa using h0
  have hls : 0 < l.toArray.size := (Array.getElem?_eq_some_iff.1 h0a).1
  have hr0 : 0 ∈ Region.ready .any l.toArray (Array.replicate l.toArray.size false) := by simpa using hf3
  have inv0 : HeadInv .any l.toArray n (Array.replicate l.toArray.size false) := ⟨by simp, fun j oj _ hl => (by rw [getD_replicate_false] at hl; cases hl), fun t _ ht => getD_in (by simpa using ht) (getD_replicate_false _ _)⟩
  have hl0 : headsLeft (Array.replicate l.toArray.size false) n = n := headsLeft_full _ n (by simp; omega)
  have hin := headsLeft_in (listed := Array.replicate l.toArray.size false) (n := n) (i := 0) (mem_ready.1 hr0).1 hn
  have hself : ∀ j, ((Array.replicate l.toArray.size false).setIfInBounds 0 true).getD j false = true → j = 0 := fun j hj => by
    by_cases e : j = 0
    · exact e
    · rw [getD_set_ne false (Ne.symm e), getD_replicate_false] at hj
      cases hj
  have H := wpAny_loose (P := P) (Q := Q) (md := .any) (V := w) (n := n) (g := g) (k := 1) (fr := fr) hsize hp (hsk.imp Nat.eq_of_beq_eq_true (fun h => h)) hsq hG (fun i o hi ho => by
      have h1 : (l.take n)[i]? = some o := by rw [List.getElem?_take, if_pos hi]; exact ho
      have := hs.get i o h1
      rwa [Nat.zero_add] at this) (fun a w' hb hu hk listed hln hap => ht a w' hb hu hk fun i j oi oj d d' hi hj hne hfi hfj hoi hoj hd hd' => hap.2 i j oi oj d d' hne (hln i hi) (hln j hj) hfi hfj (by simpa using hoi) (by simpa using hoj) hd hd') (n - 1) ((Array.replicate l.toArray.size false).setIfInBounds 0 true) (a0.put o0.dst v0) { w with drawn := w.drawn + 1 }
    (fun i hi => by
      obtain rfl : i = 0 := by omega
      rw [Array.getD_eq_getD_getElem?, Array.getElem?_setIfInBounds_self_of_lt (by simpa using hls)]; rfl)
    (by omega) (inv0.set hr0 hn) (Below.refl _ _).drew
    ⟨by unfold Act.put; cases o0.dst <;> rfl, by unfold Act.put; cases o0.dst <;> simp, fun t ht => by
      have := ht 0 o0 (by rw [Array.getD_eq_getD_getElem?, Array.getElem?_setIfInBounds_self_of_lt (by simpa using hls)]; rfl) h0a
      unfold Act.put
      cases hd : o0.dst with
      | none => rfl
      | some d => simp only; rw [Array.getElem?_setIfInBounds_ne]; intro e; subst e; exact this hd⟩
    (fun j hj => by
      obtain rfl := hself j hj
      intro oj d hoj hd
      obtain rfl : o0 = oj := Option.some.inj (h0a.symm.trans hoj)
      refine ⟨v0, ?_, hv _ (Below.refl _ _).drew⟩
      have hlt : d < a0.tmps.size := ((plain_at hp h0a).2 d hd).1
      unfold Act.put
      rw [hd]
      simp [hlt])
    ⟨(fun j oj d hj hfj => by
      obtain rfl := hself j hj
      rw [hf5] at hfj; cases hfj), fun i j oi oj d d' hne hi hj => by
      obtain rfl := hself i hi
      obtain rfl := hself j hj
      exact absurd rfl hne⟩
  have hfu : l.toArray.size = (n - 1 + g) + 1 := by simp; omega
  refine wp_region_any hm ?_
  rw [hfu]
  have H2 := wpAny_take (P := P) (Q := Q) (md := .any) (fuel := n - 1 + g) (a := a0) (w := { w with drawn := w.drawn + 1 }) h0a hf1 hf2 hf3 hQ hy H
  rw [← hfu]
  rw [← hfu] at H2
  exact H2
end
end Go.Proofs.YtkkokngdhhakdaaDoor
