/- A region whose operations but the last only read or make memory, and whose last waits for all others: each operation keeps its own promise, whatever came ahead of it; the last is run when all promises hold. -/
import Derived.Test.YtddfjodedmdojaaFree
import Derived.StillTail
import Derived.Deep.MidRow
import Derived.Test.YtddfjodedmdojaaBlk
namespace Go.Proofs.Ytddfjodedmdojaa
open Go.RowKit

section
variable {P : Program} {ops : Array Oper} {Q : Exit → Act → World → Prop} {md : Region.Mode}

/-- Operation n waits for each one ahead of it. -/
def waitsAllB (md : Region.Mode) (ops : Array Oper) (n : Nat) : Bool :=
  match ops[n]? with
  | some o => (List.range n).all fun i => o.after.toList.any fun e => Region.binds md e && Nat.beq e.on i
  | none => false
theorem waitsAll_at {n : Nat} (h : waitsAllB md ops n = true) : ∃ o, ops[n]? = some o ∧ ∀ i, i < n → ∃ e ∈ o.after.toList, Region.binds md e = true ∧ e.on = i := by
  unfold waitsAllB at h
  cases ho : ops[n]? with
  | none => rw [ho] at h; cases h
  | some o =>
    rw [ho] at h
    refine ⟨o, rfl, fun i hi => ?_⟩
    have h1 := List.all_eq_true.1 h i (List.mem_range.2 hi)
    obtain ⟨e, he, h2⟩ := List.any_eq_true.1 h1
    simp only [Bool.and_eq_true] at h2
    exact ⟨e, he, h2.1, Nat.eq_of_beq_eq_true h2.2⟩

theorem wpAny_free_tail {a0 : Act} {V : World} {G : Nat → Value → World → Prop} {n : Nat} (hsize : ops.size = n + 1) (hp : plainB ops a0.tmps.size = true) (hw : waitsAllB md ops n = true) (hG : ∀ i v w w', G i v w → Below w.heap.size w w' → G i v w')
    (hs : ∀ i o, i < n → ops[i]? = some o → StepOK P md ops Q a0 V G i o)
    (ht : ∀ o, ops[n]? = some o → ∀ a w, Below V.heap.size V w → Unwritten ops a0 a → (∀ j, j < n → Known ops G a w j) → Region.wanted o (yielded ops a.tmps) = true ∧ o.wp P a w (fun a' w' => Q .normal a' w') Q) :
    ∀ (fuel : Nat) (listed : Array Bool) (a : Act) (w : World), listed.size = ops.size → (listed.toList.filter (!·)).length ≤ fuel → listed.getD n true = false → Below V.heap.size V w → Unwritten ops a0 a → (∀ j, listed.getD j false = true → Known ops G a w j) →
      wpAny P md ops Q fuel listed a w := by
  obtain ⟨on, hon, hwait⟩ := waitsAll_at hw
  intro fuel
  have notEnd : ∀ (listed : Array Bool), listed.getD n true = false → Region.ready md ops listed ≠ [] := by
    intro listed hn hr
    have := all_listed hp hr (n + 1) n (by omega) (by omega)
    rw [hn] at this
    cases this
  induction fuel with
  | zero =>
    intro listed a w hsz hc hn hb hu hk
    exfalso
    have h0 : listed[n]'(by omega) = false := by
      rw [Array.getD_eq_getD_getElem?, Array.getElem?_eq_getElem (show n < listed.size by omega)] at hn
      simpa using hn
    have hm : listed[n]'(by omega) ∈ listed.toList.filter (!·) := List.mem_filter.2 ⟨by simp, by rw [h0]; rfl⟩
    have : 0 < (listed.toList.filter (!·)).length := List.length_pos_of_mem hm
    omega
  | succ fuel ih =>
    intro listed a w hsz hc hn hb hu hk
    refine ⟨fun hr => absurd hr (notEnd listed hn), fun i hi => ?_⟩
    obtain ⟨h0, o, ho, hall⟩ := mem_ready.1 hi
    have hlt : i < listed.size := by rw [hsz]; exact (Array.getElem?_eq_some_iff.1 ho).1
    have h0' : listed[i] = false := by
      rw [Array.getD_eq_getD_getElem?, Array.getElem?_eq_getElem hlt] at h0
      simpa using h0
    have hcount : (((listed.setIfInBounds i true).toList).filter (!·)).length < (listed.toList.filter (!·)).length := by
      rw [Array.toList_setIfInBounds]
      have key : ∀ (l : List Bool) (i : Nat) (h : i < l.length), l[i] = false → ((l.set i true).filter (!·)).length < (l.filter (!·)).length := by
        intro l
        induction l with
        | nil => intro i h; simp at h
        | cons b l ihl =>
          intro i h hf
          cases i with
          | zero =>
            have : b = false := by simpa using hf
            subst this
            simp
          | succ i =>
            have := ihl i (by simpa using h) (by simpa using hf)
            cases b <;> simp <;> omega
      exact key _ _ (by simpa using hlt) (by simpa using h0')
    by_cases hin : i = n
    · subst hin
      have hkn : ∀ j, j < i → Known ops G a w j := by
        intro j hj
        obtain rfl : on = o := Option.some.inj (hon.symm.trans ho)
        obtain ⟨e, he, hbd, rfl⟩ := hwait j hj
        exact hk e.on (hall e (by simpa using he) hbd)
      obtain ⟨hwd, hstep⟩ := ht o ho a w hb hu hkn
      unfold wpOp
      rw [ho]
      simp only [hwd, if_true]
      refine .inl (Oper.wp_mono (K := fun a' w' => Q .normal a' w') (fun a' w' h => ?_) hstep)
      have hr : Region.ready md ops (listed.setIfInBounds i true) = [] := by
        cases hr : Region.ready md ops (listed.setIfInBounds i true) with
        | nil => rfl
        | cons j l =>
          exfalso
          have hj : j ∈ Region.ready md ops (listed.setIfInBounds i true) := by rw [hr]; exact List.mem_cons_self
          obtain ⟨hj0, oj, hoj, _⟩ := mem_ready.1 hj
          have hjs : j < i + 1 := by rw [← hsize]; exact (Array.getElem?_eq_some_iff.1 hoj).1
          by_cases hji : j = i
          · subst hji
            rw [Array.getD_eq_getD_getElem?, Array.getElem?_setIfInBounds_self_of_lt hlt] at hj0
            simp at hj0
          · obtain rfl : on = o := Option.some.inj (hon.symm.trans ho)
            obtain ⟨e, he, hbd, rfl⟩ := hwait j (by omega)
            have h3 := hall e (by simpa using he) hbd
            rw [Array.getD_eq_getD_getElem?, Array.getElem?_setIfInBounds_ne (Ne.symm hji)] at hj0
            rw [Array.getD_eq_getD_getElem?, Array.getElem?_eq_getElem (show e.on < listed.size by omega)] at h3
            rw [Array.getElem?_eq_getElem (show e.on < listed.size by omega)] at hj0
            simp only [Option.getD_some] at h3 hj0
            rw [h3] at hj0
            cases hj0
      cases fuel with
      | zero => exact ⟨hr, h⟩
      | succ fuel => exact ⟨fun _ => h, fun j hj => by rw [hr] at hj; cases hj⟩
    · have hlt2 : i < n := by
        have : i < n + 1 := by rw [← hsize]; exact (Array.getElem?_eq_some_iff.1 ho).1
        omega
      obtain ⟨hwd, hstep⟩ := hs i o hlt2 ho a w hb hu (fun e he hbd => hk e.on (hall e (by simpa using he) hbd))
      unfold wpOp
      rw [ho]
      simp only [hwd, if_true]
      refine .inl (Oper.wp_mono (K := fun a' w' => ∃ v, a' = a.put o.dst v ∧ G i v w' ∧ Below w.heap.size w w') (fun a' w' h => ?_) hstep)
      obtain ⟨v, rfl, hg, hbw⟩ := h
      refine ih _ _ _ (by simp [hsz]) (by omega) ?_ (hb.trans (hbw.mono hb.size)) ?_ ?_
      · rw [Array.getD_eq_getD_getElem?] at hn ⊢
        rwa [Array.getElem?_setIfInBounds_ne hin]
      · obtain ⟨hu1, hu2, hu3⟩ := hu
        have hput : ∀ t, o.dst ≠ some t → (a.put o.dst v).tmps[t]? = a.tmps[t]? := by
          intro t ht
          unfold Act.put
          cases hd : o.dst with
          | none => rfl
          | some d => simp only; rw [Array.getElem?_setIfInBounds_ne]; intro e; subst e; exact ht hd
        refine ⟨?_, ?_, fun t ht => ?_⟩
        · rw [← hu1]; unfold Act.put; cases o.dst <;> rfl
        · rw [← hu2]; unfold Act.put; cases o.dst <;> simp
        · rw [hput t ?_]
          · exact hu3 t ht
          · have := Array.all_eq_true.1 ht i (Array.getElem?_eq_some_iff.1 ho).1
            rw [(Array.getElem?_eq_some_iff.1 ho).2] at this
            simpa using this
      · intro j hj oj d hoj hd
        by_cases hji : j = i
        · subst hji
          obtain rfl : o = oj := Option.some.inj (ho.symm.trans hoj)
          refine ⟨v, ?_, hg⟩
          have hd' : d < a.tmps.size := by rw [hu.2.1]; exact ((plain_at hp ho).2 d hd).1
          unfold Act.put
          rw [hd]
          simp [hd']
        · have hj' : listed.getD j false = true := by
            rw [Array.getD_eq_getD_getElem?] at hj ⊢
            rwa [Array.getElem?_setIfInBounds_ne (Ne.symm hji)] at hj
          obtain ⟨u, h1, h2⟩ := hk j hj' oj d hoj hd
          refine ⟨u, ?_, hG _ _ _ _ h2 hbw⟩
          rw [← h1]
          unfold Act.put
          cases hdi : o.dst with
          | none => rfl
          | some d' =>
            simp only
            rw [Array.getElem?_setIfInBounds_ne]
            rintro rfl
            exact hji (plain_apart hp hoj ho hd hdi)

/-- The law: l ahead, st at last. -/
theorem wp_region_free_tail {id : Nat} {l : List Oper} {st : Oper} {a0 : Act} {w : World} (n : Nat) (G : Nat → Value → World → Prop) (hm : P.follows .mixedOrders = true) (hn : l.length = n + 1) (hst : l[n]? = some st) (hp : plainB l.toArray a0.tmps.size = true) (hwa : waitsAllB .any l.toArray n = true) (hG : ∀ i v w w', G i v w → Below w.heap.size w w' → G i v w')
    (hs : StepsOK P .any l.toArray Q a0 w G 0 (l.take n))
    (ht : ∀ a w', Below w.heap.size w w' → Unwritten l.toArray a0 a → (∀ j, j < n → Known l.toArray G a w' j) → Region.wanted st (yielded l.toArray a.tmps) = true ∧ st.wp P a w' (fun a' w' => Q .normal a' w') Q) : (Code.region id l.toArray true).wp P Q a0 w := by
  refine wp_region_any hm (wpAny_free_tail (V := w) (n := n) (by simpa using hn) hp hwa hG (fun i o hi ho => ?_) (fun o ho a w' hb hu hk => by
    obtain rfl : st = o := Option.some.inj (hst.symm.trans (by simpa using ho))
    exact ht a w' hb hu hk) _ _ _ _ (by simp) ?_ ?_ (Below.refl _ _).drew ⟨rfl, rfl, fun _ _ => rfl⟩ ?_)
  · have h1 : (l.take n)[i]? = some o := by rw [List.getElem?_take, if_pos hi]; simpa using ho
    have := hs.get i o h1
    rwa [Nat.zero_add] at this
  · simp
  · rw [Array.getD_eq_getD_getElem?, Array.getElem?_replicate, if_pos (by simp; omega)]
    rfl
  · intro j hj
    rw [Array.getD_eq_getD_getElem?] at hj
    cases hg : (Array.replicate l.toArray.size false)[j]? with
    | none => rw [hg] at hj; simp at hj
    | some b =>
      rw [hg] at hj
      rw [Array.getElem?_replicate] at hg
      split at hg
      · injection hg with hg; subst hg; simp at hj
      · cases hg

/-! ### A tail of several operations, one behind the other -/
/-- One operation keeps its promise; of the frame it is known that what no operation ahead writes is as it was. -/
def StepOKh (P : Program) (md : Region.Mode) (ops hops : Array Oper) (Q : Exit → Act → World → Prop) (a0 : Act) (V : World) (G : Nat → Value → World → Prop) (i : Nat) (o : Oper) : Prop :=
  ∀ a w, Below V.heap.size V w → Unwritten hops a0 a → (∀ e ∈ o.after.toList, Region.binds md e = true → Known ops G a w e.on) →
    Region.wanted o (yielded ops a.tmps) = true ∧ o.wp P a w (fun a' w' => ∃ v, a' = a.put o.dst v ∧ G i v w' ∧ Below w.heap.size w w') Q
def StepsOKh (P : Program) (md : Region.Mode) (ops hops : Array Oper) (Q : Exit → Act → World → Prop) (a0 : Act) (V : World) (G : Nat → Value → World → Prop) : Nat → List Oper → Prop
  | _, [] => True
  | i, o :: rest => StepOKh P md ops hops Q a0 V G i o ∧ StepsOKh P md ops hops Q a0 V G (i + 1) rest
theorem StepsOKh.get {hops : Array Oper} {a0 : Act} {V : World} {G : Nat → Value → World → Prop} : ∀ {l : List Oper} {i : Nat}, StepsOKh P md ops hops Q a0 V G i l → ∀ k o, l[k]? = some o → StepOKh P md ops hops Q a0 V G (i + k) o
  | [], _, _, k, o, h => by simp at h
  | x :: l, i, hs, 0, o, h => by
    obtain rfl : x = o := by simpa using h
    exact hs.1
  | x :: l, i, hs, k + 1, o, h => by
    have := StepsOKh.get hs.2 k o (by simpa using h)
    rwa [show i + 1 + k = i + (k + 1) by omega] at this
def headsLeft (listed : Array Bool) : Nat → Nat
  | 0 => 0
  | n + 1 => headsLeft listed n + (if listed.getD n true = false then 1 else 0)
theorem headsLeft_out {listed : Array Bool} {i : Nat} : ∀ {n : Nat}, n ≤ i → headsLeft (listed.setIfInBounds i true) n = headsLeft listed n
  | 0, _ => rfl
  | n + 1, h => by
    rw [headsLeft, headsLeft, headsLeft_out (by omega), getD_set_ne true (show i ≠ n by omega)]
theorem headsLeft_in {listed : Array Bool} {i : Nat} (hl : listed.getD i true = false) : ∀ {n : Nat}, i < n → headsLeft (listed.setIfInBounds i true) n + 1 = headsLeft listed n
  | 0, h => by omega
  | n + 1, h => by
    rw [headsLeft, headsLeft]
    by_cases e : i = n
    · subst e
      have hlt : i < listed.size := by
        rcases Nat.lt_or_ge i listed.size with h1 | h1
        · exact h1
        · rw [Array.getD_eq_getD_getElem?, Array.getElem?_eq_none h1] at hl; cases hl
      have hs : (listed.setIfInBounds i true).getD i true = true := by
        rw [Array.getD_eq_getD_getElem?, Array.getElem?_setIfInBounds_self_of_lt hlt]; rfl
      rw [headsLeft_out (Nat.le_refl _), hs, hl]
      rfl
    · have := headsLeft_in hl (n := n) (by omega)
      rw [getD_set_ne true (show i ≠ n from e)]
      omega
theorem headsLeft_zero {listed : Array Bool} : ∀ {n : Nat}, headsLeft listed n = 0 → ∀ i, i < n → listed.getD i true = true
  | 0, _, i, h => by omega
  | n + 1, h0, i, h => by
    rw [headsLeft] at h0
    by_cases e : i = n
    · subst e
      cases hb : listed.getD i true with
      | true => rfl
      | false => rw [hb] at h0; simp at h0
    · exact headsLeft_zero (n := n) (by omega) i (by omega)
theorem headsLeft_some {listed : Array Bool} {n : Nat} (h : 0 < headsLeft listed n) : ∃ i, i < n ∧ listed.getD i true = false := by
  induction n with
  | zero => simp [headsLeft] at h
  | succ n ih =>
    rw [headsLeft] at h
    cases hb : listed.getD n true with
    | false => exact ⟨n, by omega, hb⟩
    | true =>
      rw [hb] at h
      obtain ⟨i, h1, h2⟩ := ih (by simpa using h)
      exact ⟨i, by omega, h2⟩
theorem headsLeft_full (m : Nat) : ∀ n, n ≤ m → headsLeft (Array.replicate m false) n = n
  | 0, _ => rfl
  | n + 1, h => by
    rw [headsLeft, headsLeft_full m n (by omega), Array.getD_eq_getD_getElem?, Array.getElem?_replicate, if_pos (show n < m by omega)]
    rfl
def headDone (n g : Nat) : Array Bool := (List.replicate n true ++ List.replicate g false).toArray
theorem listed_done {n g : Nat} {listed : Array Bool} (hs : listed.size = n + g) (h1 : ∀ i, i < n → listed.getD i true = true) (h2 : ∀ t, n ≤ t → t < n + g → listed.getD t true = false) : listed = headDone n g := by
  apply Array.ext'
  apply List.ext_getElem?
  intro i
  rw [Array.getElem?_toList]
  show listed[i]? = (List.replicate n true ++ List.replicate g false)[i]?
  by_cases hi : i < n
  · have := h1 i hi
    rw [Array.getD_eq_getD_getElem?, Array.getElem?_eq_getElem (show i < listed.size by omega)] at this
    rw [Array.getElem?_eq_getElem (show i < listed.size by omega), List.getElem?_append_left (by simpa using hi), List.getElem?_replicate, if_pos hi]
    simpa using this
  · by_cases hg : i < n + g
    · have := h2 i (by omega) hg
      rw [Array.getD_eq_getD_getElem?, Array.getElem?_eq_getElem (show i < listed.size by omega)] at this
      rw [Array.getElem?_eq_getElem (show i < listed.size by omega), List.getElem?_append_right (by simp; omega), List.getElem?_replicate, if_pos (by simp; omega)]
      simpa using this
    · rw [Array.getElem?_eq_none (by omega), List.getElem?_eq_none (by simp; omega)]

theorem wpAny_free_chain {l : List Oper} {a0 : Act} {V : World} {G : Nat → Value → World → Prop} {n g : Nat} (hsize : l.length = n + g) (hg : 0 < g) (hp : plainB l.toArray a0.tmps.size = true) (hsk : Region.sinkB md l.toArray n = true) (hch : Region.chainB md l.toArray n = true) (hsq : Region.seqB md l.toArray g n (headDone n g) = true)
    (hG : ∀ i v w w', G i v w → Below w.heap.size w w' → G i v w')
    (hs : ∀ i o, i < n → l[i]? = some o → StepOKh P md l.toArray (l.take n).toArray Q a0 V G i o)
    (ht : ∀ a w, Below V.heap.size V w → Unwritten (l.take n).toArray a0 a → (∀ j, j < n → Known l.toArray G a w j) → wpList P l.toArray Q (l.drop n) a w) :
    ∀ (d : Nat) (listed : Array Bool) (a : Act) (w : World), headsLeft listed n = d → HeadInv md l.toArray n listed → Below V.heap.size V w → Unwritten (l.take n).toArray a0 a → (∀ j, listed.getD j false = true → Known l.toArray G a w j) →
      wpAny P md l.toArray Q (d + g) listed a w := by
  have hdl : (l.drop n).length = g := by simp; omega
  have hns : n < l.toArray.size := by simp; omega
  intro d
  induction d with
  | zero =>
    intro listed a w hd inv hb hu hk
    have h1 := headsLeft_zero hd
    have hsz : listed.size = n + g := by rw [inv.size]; simpa using hsize
    have hl := listed_done hsz h1 (fun t h1 h2 => inv.tail t h1 (by simp; omega))
    have hkn : ∀ j, j < n → Known l.toArray G a w j := fun j hj => hk j (by
      have := h1 j hj
      rw [Array.getD_eq_getD_getElem?, Array.getElem?_eq_getElem (show j < listed.size by omega)] at this ⊢
      simpa using this)
    have := wpAny_of_seq (P := P) (md := md) (Q' := Q) (ops := l.toArray) (l.drop n) n listed a w (fun j => by simp [List.getElem?_drop]) (by rw [hdl, hl]; exact hsq) (ht a w hb hu hkn)
    rw [Nat.zero_add]
    rwa [hdl] at this
  | succ d ih =>
    intro listed a w hd inv hb hu hk
    obtain ⟨u, hun, hul⟩ := headsLeft_some (listed := listed) (n := n) (by omega)
    rw [show d + 1 + g = (d + g) + 1 by omega]
    refine ⟨fun hr => ?_, fun i hi => ?_⟩
    · exfalso
      have := all_listed hp hr (u + 1) u (by omega) (by omega)
      rw [hul] at this
      cases this
    · have hin : i < n := by
        rcases Nat.lt_or_ge i n with h | h
        · exact h
        · exact absurd hi (tail_waits hsk hch hns inv _ u rfl hun hul i h)
      obtain ⟨h0, o, ho, hall⟩ := mem_ready.1 hi
      obtain ⟨hwd, hstep⟩ := hs i o hin (by simpa using ho) a w hb hu (fun e he hbd => hk e.on (hall e (by simpa using he) hbd))
      unfold wpOp
      rw [ho]
      simp only [hwd, if_true]
      refine .inl (Oper.wp_mono (K := fun a' w' => ∃ v, a' = a.put o.dst v ∧ G i v w' ∧ Below w.heap.size w w') (fun a' w' h => ?_) hstep)
      obtain ⟨v, rfl, hgv, hbw⟩ := h
      refine ih _ _ _ (by have := headsLeft_in h0 hin; omega) (inv.set hi hin) (hb.trans (hbw.mono hb.size)) ?_ ?_
      · obtain ⟨hu1, hu2, hu3⟩ := hu
        refine ⟨?_, ?_, fun t ht => ?_⟩
        · rw [← hu1]; unfold Act.put; cases o.dst <;> rfl
        · rw [← hu2]; unfold Act.put; cases o.dst <;> simp
        · have hne : o.dst ≠ some t := by
            have h1 : o ∈ l.take n := List.mem_of_getElem? (i := i) (by rw [List.getElem?_take, if_pos hin]; simpa using ho)
            rw [List.all_toArray] at ht
            simpa using List.all_eq_true.1 ht o h1
          rw [← hu3 t ht]
          unfold Act.put
          cases hd : o.dst with
          | none => rfl
          | some d => simp only; rw [Array.getElem?_setIfInBounds_ne]; intro e; subst e; exact hne hd
      · intro j hj oj d' hoj hd'
        by_cases hji : j = i
        · subst hji
          obtain rfl : o = oj := Option.some.inj (ho.symm.trans hoj)
          refine ⟨v, ?_, hgv⟩
          have hlt : d' < a.tmps.size := by rw [hu.2.1]; exact ((plain_at hp ho).2 d' hd').1
          unfold Act.put
          rw [hd']
          simp [hlt]
        · have hj' : listed.getD j false = true := by
            rw [Array.getD_eq_getD_getElem?] at hj ⊢
            rwa [Array.getElem?_setIfInBounds_ne (Ne.symm hji)] at hj
          obtain ⟨u', h1, h2⟩ := hk j hj' oj d' hoj hd'
          refine ⟨u', ?_, hG _ _ _ _ h2 hbw⟩
          rw [← h1]
          unfold Act.put
          cases hdi : o.dst with
          | none => rfl
          | some d'' =>
            simp only
            rw [Array.getElem?_setIfInBounds_ne]
            rintro rfl
            exact hji (plain_apart hp hoj ho hd' hdi)

/-- The law: n operations ahead, in whatever order; the others behind them, one by one. -/
theorem wp_region_free_chain {id : Nat} {l : List Oper} {a0 : Act} {w : World} (n g : Nat) (G : Nat → Value → World → Prop) (hm : P.follows .mixedOrders = true) (hsize : l.length = n + (g + 1)) (hp : plainB l.toArray a0.tmps.size = true)
    (hch : (Region.sinkB .any l.toArray n && Region.chainB .any l.toArray n && Region.seqB .any l.toArray (g + 1) n (headDone n (g + 1))) = true) (hG : ∀ i v w w', G i v w → Below w.heap.size w w' → G i v w')
    (hs : StepsOKh P .any l.toArray (l.take n).toArray Q a0 w G 0 (l.take n))
    (ht : ∀ a w', Below w.heap.size w w' → Unwritten (l.take n).toArray a0 a → (∀ j, j < n → Known l.toArray G a w' j) → wpList P l.toArray Q (l.drop n) a w') : (Code.region id l.toArray true).wp P Q a0 w := by
  simp only [Bool.and_eq_true] at hch
  have H := wpAny_free_chain (P := P) (Q := Q) (md := .any) (V := w) (n := n) (g := g + 1) hsize (by omega) hp hch.1.1 hch.1.2 hch.2 hG (fun i o hi ho => by
      have h1 : (l.take n)[i]? = some o := by rw [List.getElem?_take, if_pos hi]; exact ho
      have := hs.get i o h1
      rwa [Nat.zero_add] at this) ht n (Array.replicate l.toArray.size false) a0 { w with drawn := w.drawn + 1 } (headsLeft_full _ n (by simp; omega))
    ⟨by simp, fun j oj _ hl => (by rw [getD_replicate_false] at hl; cases hl), fun t _ ht => getD_in (by simpa using ht) (getD_replicate_false _ _)⟩
    (Below.refl _ _).drew ⟨rfl, rfl, fun _ _ => rfl⟩ (fun j hj => (by rw [getD_replicate_false] at hj; cases hj))
  rw [show n + (g + 1) = l.toArray.size by simp; omega] at H
  exact wp_region_any hm H

/-! ### The frame behind a region, written out -/
/-- The frame with so many slots put. -/
def puts (a0 : Act) : List (Nat × Value) → Act
  | [] => a0
  | (d, v) :: L => (puts a0 L).put (some d) v
def AllPuts (tm : Array Value) : List (Nat × Value) → Prop
  | [] => True
  | (d, v) :: L => tm[d]? = some v ∧ AllPuts tm L
theorem puts_defers (a0 : Act) : ∀ L, (puts a0 L).defers = a0.defers
  | [] => rfl
  | (d, v) :: L => by
    rw [puts]
    show (puts a0 L).defers = _
    exact puts_defers a0 L
theorem puts_size (a0 : Act) : ∀ L, (puts a0 L).tmps.size = a0.tmps.size
  | [] => rfl
  | (d, v) :: L => by
    rw [puts]
    show ((puts a0 L).tmps.setIfInBounds d v).size = _
    rw [Array.size_setIfInBounds]
    exact puts_size a0 L
theorem puts_at {a0 : Act} {tm : Array Value} (hs : tm.size = a0.tmps.size) : ∀ L, AllPuts tm L → ∀ t, ((L.any fun p => Nat.beq p.1 t) = false → tm[t]? = a0.tmps[t]?) → tm[t]? = (puts a0 L).tmps[t]?
  | [], _, t, h => h rfl
  | (d, v) :: L, hL, t, h => by
    show tm[t]? = ((puts a0 L).tmps.setIfInBounds d v)[t]?
    by_cases e : d = t
    · subst e
      have hlt : d < tm.size := (Array.getElem?_eq_some_iff.1 hL.1).1
      rw [Array.getElem?_setIfInBounds_self_of_lt (by rw [puts_size, ← hs]; exact hlt)]
      exact hL.1
    · rw [Array.getElem?_setIfInBounds_ne e]
      refine puts_at hs L hL.2 t fun hn => h ?_
      rw [List.any_cons, hn, Bool.or_false]
      cases hb : Nat.beq d t with
      | false => rfl
      | true => exact absurd (Nat.eq_of_beq_eq_true hb) e
def putsAllB (ops : Array Oper) (L : List (Nat × Value)) : Bool := ops.all fun o => match o.dst with
  | none => true
  | some d => L.any fun p => Nat.beq p.1 d
theorem frame_puts {a0 a : Act} {L : List (Nat × Value)} (hu : Unwritten ops a0 a) (hall : putsAllB ops L = true) (hL : AllPuts a.tmps L) : a = puts a0 L := by
  obtain ⟨h1, h2, h3⟩ := hu
  have hd := puts_defers a0 L
  have ht : a.tmps = (puts a0 L).tmps := by
    apply Array.ext'
    apply List.ext_getElem?
    intro t
    rw [Array.getElem?_toList, Array.getElem?_toList]
    refine puts_at h2 L hL t fun hn => h3 t ?_
    rw [Array.all_eq_true]
    intro i hi
    have h4 := Array.all_eq_true.1 hall i hi
    cases hdi : ops[i].dst with
    | none => rfl
    | some d =>
      rw [hdi] at h4
      simp only [bne_iff_ne, ne_eq, Option.some.injEq]
      rintro rfl
      simp only at h4
      rw [hn] at h4
      cases h4
  obtain ⟨tm, df⟩ := a
  rw [← h1] at hd
  simp only at hd ht
  rw [ht, ← hd]
theorem slot_there {tm : Array Value} {n t : Nat} (hs : tm.size = n) (h : t < n) : ∃ v, tm[t]? = some v := ⟨tm[t]'(by omega), Array.getElem?_eq_getElem (by omega)⟩
theorem Known.put {G : Nat → Value → World → Prop} {a : Act} {w : World} {j d : Nat} {oj : Oper} (h : Known ops G a w j) (hj : ops[j]? = some oj) (hd : oj.dst = some d) : ∃ v, a.tmps[d]? = some v ∧ G j v w := h oj d hj hd
theorem wp_store_rowTo {o : Oper} {a : Act} {w : World} {K : Act → World → Prop} (ty : TypeId) (x y : Operand) (ho : o.op = .store ty x y) (hd : o.dst = none)
    (g : Nat) (cells : Array Value) (hx : a.eval x = .pointer (some ⟨g, 0, none⟩)) (hy : a.eval y = .agg cells)
    (t : TypeId) (old : Array Value) (hg : Blk w g old t) (hi : (P.info? ty).map (·.size) = some cells.size)
    (hold : old.size = cells.size) (h1 : cells.all (·.oneCell') = true)
    (h : K a (w.setRow g cells)) : o.wp P a w K Q :=
  wp_store_row ty x y ho g cells hx hy t old hg hi hold h1 (by rw [hd]; exact h)
end
end Go.Proofs.Ytddfjodedmdojaa
