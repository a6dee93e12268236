/- A region whose operations may come up in many orders, and which only makes memory: it is enough that each operation keeps its own promise, whatever came ahead of it. -/
import Derived.Test.YtddfjodedmdojaaRowsMem
import Derived.Test.YtddfjodedmdojaaOwnB
import Derived.Orders
import Derived.RegionTactic
import Derived.BigRegion
namespace Go.Proofs.Ytddfjodedmdojaa
open Go.RowKit

section
variable {P : Program} {ops : Array Oper} {Q : Exit → Act → World → Prop} {md : Region.Mode}

/-- Operation j's temporary holds what operation j promises. -/
def Known (ops : Array Oper) (G : Nat → Value → World → Prop) (a : Act) (w : World) (j : Nat) : Prop :=
  ∀ oj d, ops[j]? = some oj → oj.dst = some d → ∃ v, a.tmps[d]? = some v ∧ G j v w
/-- A slot that no operation of the region writes is as it was. -/
def Unwritten (ops : Array Oper) (a0 a : Act) : Prop :=
  a.defers = a0.defers ∧ a.tmps.size = a0.tmps.size ∧ ∀ t, (ops.all fun o => o.dst != some t) = true → a.tmps[t]? = a0.tmps[t]?
/-- One operation keeps its promise. -/
def StepOK (P : Program) (md : Region.Mode) (ops : Array Oper) (Q : Exit → Act → World → Prop) (a0 : Act) (V : World) (G : Nat → Value → World → Prop) (i : Nat) (o : Oper) : Prop :=
  ∀ a w, Below V.heap.size V w → Unwritten ops a0 a → (∀ e ∈ o.after.toList, Region.binds md e = true → Known ops G a w e.on) →
    Region.wanted o (yielded ops a.tmps) = true ∧ o.wp P a w (fun a' w' => ∃ v, a' = a.put o.dst v ∧ G i v w' ∧ Below w.heap.size w w') Q
/-- All of them, from number i on. -/
def StepsOK (P : Program) (md : Region.Mode) (ops : Array Oper) (Q : Exit → Act → World → Prop) (a0 : Act) (V : World) (G : Nat → Value → World → Prop) : Nat → List Oper → Prop
  | _, [] => True
  | i, o :: rest => StepOK P md ops Q a0 V G i o ∧ StepsOK P md ops Q a0 V G (i + 1) rest
theorem StepsOK.get {a0 : Act} {V : World} {G : Nat → Value → World → Prop} : ∀ {l : List Oper} {i : Nat}, StepsOK P md ops Q a0 V G i l → ∀ k o, l[k]? = some o → StepOK P md ops Q a0 V G (i + k) o
  | [], _, _, k, o, h => by simp at h
  | x :: l, i, hs, 0, o, h => by
    obtain rfl : x = o := by simpa using h
    exact hs.1
  | x :: l, i, hs, k + 1, o, h => by
    have := StepsOK.get hs.2 k o (by simpa using h)
    rwa [show i + 1 + k = i + (k + 1) by omega] at this

/-- Each operation waits for elder ones alone, and writes a slot of its own that is there. -/
def plainB (ops : Array Oper) (N : Nat) : Bool :=
  (List.range ops.size).all fun i => match ops[i]? with
    | some o => (o.after.toList.all fun e => Nat.blt e.on i) && (match o.dst with
      | some d => Nat.blt d N && ((List.range i).all fun j => match (ops[j]?).bind (·.dst) with
        | some d' => !Nat.beq d' d
        | none => true)
      | none => true)
    | none => true
theorem plain_at {N : Nat} (h : plainB ops N = true) {i : Nat} {o : Oper} (hi : ops[i]? = some o) :
    (∀ e ∈ o.after.toList, e.on < i) ∧ ∀ d, o.dst = some d → d < N ∧ ∀ j oj, j < i → ops[j]? = some oj → oj.dst ≠ some d := by
  have hlt : i < ops.size := (Array.getElem?_eq_some_iff.1 hi).1
  have h1 := List.all_eq_true.1 h i (List.mem_range.2 hlt)
  rw [hi] at h1
  simp only [Bool.and_eq_true] at h1
  obtain ⟨h2, h3⟩ := h1
  refine ⟨fun e he => ?_, fun d hd => ?_⟩
  · have := List.all_eq_true.1 h2 e he
    rwa [Nat.blt_eq] at this
  · rw [hd] at h3
    simp only [Bool.and_eq_true] at h3
    refine ⟨by have h4 := h3.1; rwa [Nat.blt_eq] at h4, fun j oj hj hoj hdj => ?_⟩
    have := List.all_eq_true.1 h3.2 j (List.mem_range.2 hj)
    rw [hoj, Option.bind_some, hdj] at this
    simp at this
theorem plain_apart {N : Nat} (h : plainB ops N = true) {i j : Nat} {oi oj : Oper} {d : Nat} (hi : ops[i]? = some oi) (hj : ops[j]? = some oj) (hd : oi.dst = some d) (he : oj.dst = some d) : i = j := by
  rcases Nat.lt_trichotomy i j with h1 | h1 | h1
  · exact absurd hd (((plain_at h hj).2 d he).2 i oi h1 hi)
  · exact h1
  · exact absurd he (((plain_at h hi).2 d hd).2 j oj h1 hj)

theorem all_listed {N : Nat} (h : plainB ops N = true) {listed : Array Bool} (hr : Region.ready md ops listed = []) : ∀ n j, j < n → j < ops.size → listed.getD j true = true := by
  intro n
  induction n with
  | zero => intro j hj; omega
  | succ n ih =>
    intro j hj hs
    by_cases hjn : j < n
    · exact ih j hjn hs
    · obtain rfl : j = n := by omega
      cases hl : listed.getD j true with
      | true => rfl
      | false =>
        have hm : j ∈ Region.ready md ops listed := mem_ready.2 ⟨hl, ops[j], Array.getElem?_eq_getElem hs, fun e he _ => by
          have h1 := (plain_at h (Array.getElem?_eq_getElem hs)).1 e (by simpa using he)
          have h2 := ih e.on h1 (by omega)
          rw [Array.getD_eq_getD_getElem?] at h2 ⊢
          cases hg : listed[e.on]? with
          | some b => rw [hg] at h2; simpa using h2
          | none =>
            exfalso
            have h3 : listed.getD j true = true := by
              rw [Array.getD_eq_getD_getElem?, Array.getElem?_eq_none (by have := Array.getElem?_eq_none_iff.1 hg; omega)]; rfl
            rw [hl] at h3; cases h3⟩
        rw [hr] at hm
        cases hm

/-- The law. -/
theorem wpAny_free {a0 : Act} {V : World} {G : Nat → Value → World → Prop} (hp : plainB ops a0.tmps.size = true) (hG : ∀ i v w w', G i v w → Below w.heap.size w w' → G i v w')
    (hs : ∀ i o, ops[i]? = some o → StepOK P md ops Q a0 V G i o)
    (hfin : ∀ a w, Below V.heap.size V w → Unwritten ops a0 a → (∀ j, j < ops.size → Known ops G a w j) → Q .normal a w) :
    ∀ (fuel : Nat) (listed : Array Bool) (a : Act) (w : World), listed.size = ops.size → (listed.toList.filter (!·)).length ≤ fuel → Below V.heap.size V w → Unwritten ops a0 a → (∀ j, listed.getD j false = true → Known ops G a w j) →
      wpAny P md ops Q fuel listed a w := by
  intro fuel
  have fin : ∀ (listed : Array Bool) (a : Act) (w : World), listed.size = ops.size → Below V.heap.size V w → Unwritten ops a0 a → (∀ j, listed.getD j false = true → Known ops G a w j) → Region.ready md ops listed = [] → Q .normal a w := by
    intro listed a w hsz hb hu hk hr
    refine hfin a w hb hu fun j hj => hk j ?_
    have := all_listed hp hr (j + 1) j (by omega) hj
    rw [Array.getD_eq_getD_getElem?, Array.getElem?_eq_getElem (by omega)] at this ⊢
    simpa using this
  induction fuel with
  | zero =>
    intro listed a w hsz hc hb hu hk
    have hr : Region.ready md ops listed = [] := by
      cases hr : Region.ready md ops listed with
      | nil => rfl
      | cons i l =>
        exfalso
        have hi : i ∈ Region.ready md ops listed := by rw [hr]; exact List.mem_cons_self
        obtain ⟨h0, o, ho, _⟩ := mem_ready.1 hi
        have hlt : i < listed.size := by rw [hsz]; exact (Array.getElem?_eq_some_iff.1 ho).1
        rw [Array.getD_eq_getD_getElem?, Array.getElem?_eq_getElem hlt] at h0
        have hm : listed[i] ∈ listed.toList.filter (!·) := List.mem_filter.2 ⟨by simp, by simpa using h0⟩
        have : 0 < (listed.toList.filter (!·)).length := List.length_pos_of_mem hm
        omega
    exact ⟨hr, fin listed a w hsz hb hu hk hr⟩
  | succ fuel ih =>
    intro listed a w hsz hc hb hu hk
    refine ⟨fin listed a w hsz hb hu hk, fun i hi => ?_⟩
    obtain ⟨h0, o, ho, hall⟩ := mem_ready.1 hi
    have hlt : i < listed.size := by rw [hsz]; exact (Array.getElem?_eq_some_iff.1 ho).1
    have h0' : listed[i] = false := by
      rw [Array.getD_eq_getD_getElem?, Array.getElem?_eq_getElem hlt] at h0
      simpa using h0
    obtain ⟨hw, hstep⟩ := hs i o ho a w hb hu (fun e he hbd => hk e.on (hall e (by simpa using he) hbd))
    unfold wpOp
    rw [ho]
    simp only [hw, if_true]
    refine .inl (Oper.wp_mono (K := fun a' w' => ∃ v, a' = a.put o.dst v ∧ G i v w' ∧ Below w.heap.size w w') (fun a' w' h => ?_) hstep)
    obtain ⟨v, rfl, hg, hbw⟩ := h
    refine ih _ _ _ (by simp [hsz]) ?_ (hb.trans (hbw.mono hb.size)) ?_ ?_
    · have hcount : (((listed.setIfInBounds i true).toList).filter (!·)).length < (listed.toList.filter (!·)).length := by
        rw [Array.toList_setIfInBounds]
        have key : ∀ (l : List Bool) (i : Nat) (h : i < l.length), l[i] = false → ((l.set i true).filter (!·)).length < (l.filter (!·)).length := by
          intro l
          induction l with
          | nil => intro i h; simp at h
          | cons b l ihl =>
            intro i h hf
            cases i with
            | zero =>
              have : b = false := by simpa using hf
              subst this
              simp
            | succ i =>
              have := ihl i (by simpa using h) (by simpa using hf)
              cases b <;> simp <;> omega
        exact key _ _ (by simpa using hlt) (by simpa using h0')
      omega
    · obtain ⟨hu1, hu2, hu3⟩ := hu
      have hput : ∀ t, o.dst ≠ some t → (a.put o.dst v).tmps[t]? = a.tmps[t]? := by
        intro t ht
        unfold Act.put
        cases hd : o.dst with
        | none => rfl
        | some d => simp only; rw [Array.getElem?_setIfInBounds_ne]; intro e; subst e; exact ht hd
      refine ⟨?_, ?_, fun t ht => ?_⟩
      · rw [← hu1]; unfold Act.put; cases o.dst <;> rfl
      · rw [← hu2]; unfold Act.put; cases o.dst <;> simp
      · rw [hput t ?_]
        · exact hu3 t ht
        · have := Array.all_eq_true.1 ht i (Array.getElem?_eq_some_iff.1 ho).1
          rw [(Array.getElem?_eq_some_iff.1 ho).2] at this
          simpa using this
    · intro j hj oj d hoj hd
      by_cases hji : j = i
      · subst hji
        obtain rfl : o = oj := Option.some.inj (ho.symm.trans hoj)
        refine ⟨v, ?_, hg⟩
        have hd' : d < a.tmps.size := by rw [hu.2.1]; exact ((plain_at hp ho).2 d hd).1
        unfold Act.put
        rw [hd]
        simp [hd']
      · have hj' : listed.getD j false = true := by
          rw [Array.getD_eq_getD_getElem?] at hj ⊢
          rwa [Array.getElem?_setIfInBounds_ne (Ne.symm hji)] at hj
        obtain ⟨u, h1, h2⟩ := hk j hj' oj d hoj hd
        refine ⟨u, ?_, hG _ _ _ _ h2 hbw⟩
        rw [← h1]
        unfold Act.put
        cases hdi : o.dst with
        | none => rfl
        | some d' =>
          simp only
          rw [Array.getElem?_setIfInBounds_ne]
          rintro rfl
          exact hji (plain_apart hp hoj ho hd hdi)

theorem wp_region_free {id : Nat} {l : List Oper} {a0 : Act} {w : World} (G : Nat → Value → World → Prop) (hm : P.follows .mixedOrders = true) (hp : plainB l.toArray a0.tmps.size = true) (hG : ∀ i v w w', G i v w → Below w.heap.size w w' → G i v w')
    (hs : StepsOK P .any l.toArray Q a0 w G 0 l)
    (hfin : ∀ a w', Below w.heap.size w w' → Unwritten l.toArray a0 a → (∀ j, j < l.length → Known l.toArray G a w' j) → Q .normal a w') : (Code.region id l.toArray true).wp P Q a0 w := by
  refine wp_region_any hm (wpAny_free (V := w) hp hG (fun i o ho => ?_) (fun a w' hb hu hk => hfin a w' hb hu fun j hj => hk j (by simpa using hj)) _ _ _ _ (by simp) ?_ (Below.refl _ _).drew ⟨rfl, rfl, fun _ _ => rfl⟩ ?_)
  · have := hs.get i o (by simpa using ho)
    rwa [Nat.zero_add] at this
  · simp
  · intro j hj
    rw [Array.getD_eq_getD_getElem?] at hj
    cases hg : (Array.replicate l.toArray.size false)[j]? with
    | none => rw [hg] at hj; simp at hj
    | some b =>
      rw [hg] at hj
      rw [Array.getElem?_replicate] at hg
      split at hg
      · injection hg with hg; subst hg; simp at hj
      · cases hg

/-! ### The promises of one operation -/
theorem Known.is {G : Nat → Value → World → Prop} {a : Act} {w : World} {j d : Nat} {oj : Oper} (h : Known ops G a w j) (hj : ops[j]? = some oj) (hd : oj.dst = some d) : G j (a.eval (.tmp d)) w := by
  obtain ⟨v, h1, h2⟩ := h oj d hj hd
  have : a.eval (.tmp d) = v := by simp [Act.eval, Array.getD_eq_getD_getElem?, h1]
  rwa [this]
theorem Unwritten.is {a0 a : Act} {t : Nat} (h : Unwritten ops a0 a) (ht : (ops.all fun o => o.dst != some t) = true) : a.eval (.tmp t) = a0.eval (.tmp t) := by
  simp [Act.eval, Array.getD_eq_getD_getElem?, h.2.2 t ht]
theorem wanted_none {o : Oper} {a : Act} (h : o.guard = none) : Region.wanted o (yielded ops a.tmps) = true := by
  unfold Region.wanted; rw [h]
theorem wanted_some {G : Nat → Value → World → Prop} {o oj : Oper} {a : Act} {w : World} {j d : Nat} {b : Bool} (h : o.guard = some (j, b)) (hk : Known ops G a w j) (hj : ops[j]? = some oj) (hd : oj.dst = some d) (hg : ∀ v, G j v w → v = .bool b) : Region.wanted o (yielded ops a.tmps) = true := by
  obtain ⟨v, h1, h2⟩ := hk oj d hj hd
  obtain rfl := hg v h2
  unfold Region.wanted yielded
  simp [h, hj, hd, h1]
theorem step_value {o : Oper} {a : Act} {w w' : World} {v : Value} {Gi : Value → World → Prop} (hrun : (execOp a.eval o).run P w = .ok (.value v) w') (hb : Below w.heap.size w w') (hg : Gi v w') :
    o.wp P a w (fun a' w' => ∃ v, a' = a.put o.dst v ∧ Gi v w' ∧ Below w.heap.size w w') Q := by
  unfold Oper.wp
  rw [hrun]
  exact ⟨v, rfl, hg, hb⟩
theorem step_enter {o : Oper} {a : Act} {w : World} {f : FuncId} {args : Array Value} {Gi : Value → World → Prop} (hrun : (execOp a.eval o).run P w = .ok (.enter f args) w)
    (hc : Calls P f args w fun e w' => ∃ v, e = .returned v ∧ Gi v w' ∧ Below w.heap.size w w') :
    o.wp P a w (fun a' w' => ∃ v, a' = a.put o.dst v ∧ Gi v w' ∧ Below w.heap.size w w') Q := by
  unfold Oper.wp
  rw [hrun]
  refine hc.mono ?_
  rintro e w' ⟨v, rfl, hg, hb⟩
  exact ⟨v, rfl, hg, hb⟩
theorem run_pick_true {ρ : Operand → Value} {o : Oper} {c a b : Operand} (e : ρ c = .bool true) (h : o.op = .pick c a b) (w : World) : (execOp ρ o).run P w = .ok (.value (ρ a)) w := by
  unfold execOp; rw [h]; simp [e, asBool, go_sem]
theorem run_pick_false {ρ : Operand → Value} {o : Oper} {c a b : Operand} (e : ρ c = .bool false) (h : o.op = .pick c a b) (w : World) : (execOp ρ o).run P w = .ok (.value (ρ b)) w := by
  unfold execOp; rw [h]; simp [e, asBool, go_sem]
theorem run_not {ρ : Operand → Value} {o : Oper} {x : Operand} {t : TypeId} {b : Bool} (e : ρ x = .bool b) (h : o.op = .unOp .not t x) (w : World) : (execOp ρ o).run P w = .ok (.value (.bool !b)) w := by
  unfold execOp; rw [h]; simp [e, go_sem]
end

/-- What an operation's value may be promised to be: a value; a row of rows of the call's own that reads as lists; a row that reads as a list. -/
inductive Spec where
  | is (v : Value)
  | rows (n : Nat) (ls : List (List UInt8))
  | bytes (n : Nat) (l : List UInt8)
  | blk (B : Nat) (cs : Array Value) (T : TypeId)
  | own (B n : Nat) (l : List UInt8)
def Spec.ok : Spec → Value → World → Prop
  | .is v, u, _ => u = v
  | .rows n ls, u, w => ∃ g, u = .slice (some ⟨g, 0, none⟩) n n ∧ RdR w w.heap.size (some ⟨g, 0, none⟩) ls
  | .bytes n l, u, w => ∃ X c, u = .slice X n c ∧ n ≤ c ∧ Rd w w.heap.size X l
  | .blk B cs T, u, w => ∃ g, u = .pointer (some ⟨g, 0, none⟩) ∧ B ≤ g ∧ w.heap[g]? = some (.cells cs T (0, 0))
  | .own B n l, u, w => ∃ X c, u = .slice X n c ∧ n ≤ c ∧ OwnB w B 5 u n l
theorem Spec.keep {s : Spec} {v : Value} {w w' : World} (h : s.ok v w) (hb : Below w.heap.size w w') : s.ok v w' := by
  cases s with
  | is u => exact h
  | rows n ls =>
    obtain ⟨g, h1, h2⟩ := h
    exact ⟨g, h1, (h2.below hb (Nat.le_refl _)).more hb.size⟩
  | bytes n l =>
    obtain ⟨X, c, h1, h2, h3⟩ := h
    exact ⟨X, c, h1, h2, (h3.below hb (Nat.le_refl _)).more hb.size⟩
  | blk B cs T =>
    obtain ⟨g, h1, h2, h3⟩ := h
    exact ⟨g, h1, h2, (hb.block g (Array.getElem?_eq_some_iff.1 h3).1).trans h3⟩
  | own B n l =>
    obtain ⟨X, c, h1, h2, h3⟩ := h
    exact ⟨X, c, h1, h2, h3.on hb⟩
def promises (l : List Spec) (i : Nat) (v : Value) (w : World) : Prop := (l.getD i (.is undef)).ok v w
end Go.Proofs.Ytddfjodedmdojaa
