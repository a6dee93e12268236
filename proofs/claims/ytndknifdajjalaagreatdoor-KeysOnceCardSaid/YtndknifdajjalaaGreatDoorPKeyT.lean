/- Two keystores in a slice. -/
import Derived.Test.YtndknifdajjalaaGreatDoorPKeyV
namespace Go.Proofs.YtndknifdajjalaaGreatDoor
open Go.RowKit
set_option maxRecDepth 100000

theorem alive_re {t : Sto} {s : Dsk} {R n m : Nat} (h : Good t s R n m) (hd : t.died = false) : Reopened s.start R n m t.l := Live.re ⟨h.start, hd, rfl, rfl⟩
/-- The number that the records have for the name k; 0: there is none. -/
def Num1 (L : List (Rec11 × Nat)) (N : Nat) : Prop := (N = 0 → Sto.get ⟨L, false⟩ [107] = none) ∧ (1 ≤ N → Sto.get ⟨L, false⟩ [107] = some (putL N 4))
theorem Num1.short {L : List (Rec11 × Nat)} {N : Nat} (h : Num1 L N) : ShortIn ⟨L, false⟩ [107] := by
  rcases Nat.eq_zero_or_pos N with h0 | h0
  · exact short_none (h.1 h0)
  · exact short_four (h.2 h0)
theorem Num1.next {L : List (Rec11 × Nat)} {N : Nat} (h : Num1 L N) (hN : N < 4294967296) (nx : Nat) : nextOf ⟨L, false⟩ [107] nx = max nx N := by
  rcases Nat.eq_zero_or_pos N with h0 | h0
  · rw [next_none (h.1 h0), h0]; omega
  · exact next_four hN (h.2 h0) nx
theorem Num1.old {L L' : List (Rec11 × Nat)} {N : Nat} (h : Num1 L N) (e : oldE L' [107] = oldE L [107]) : Num1 L' N := by
  have : Sto.get ⟨L', false⟩ [107] = Sto.get ⟨L, false⟩ [107] := by
    unfold Sto.get
    rw [if_neg (by simp), if_neg (by simp)]
    show (oldE L' _).map _ = (oldE L _).map _
    rw [e]
  exact ⟨fun h0 => this.trans (h.1 h0), fun h0 => this.trans (h.2 h0)⟩
theorem Num1.new {L : List (Rec11 × Nat)} {N : Nat} (hN : 1 ≤ N) (e : (oldE L [107]).map (·.1.data) = some (putL N 4)) : Num1 L N := ⟨fun h0 => absurd h0 (by omega), fun _ => by
  unfold Sto.get
  rw [if_neg (by simp)]
  exact e⟩
/-- A store, and what its disk will tell: no leaf has signed that is not below the number. -/
structure Once (t : Sto) (s : Dsk) (m N : Nat) (U : Nat → Bool) : Prop where
  re : ∃ L, Reopened s.start 3 4 m L ∧ (t.died = false → t.l = L) ∧ others L [107] = [] ∧ Num1 L N
  used : ∀ x, U x = true → x < N
  le : N ≤ 4
theorem once_new : Once ⟨[], false⟩ (newD (4 * (3 + 1))) 0 0 (fun _ => false) :=
  ⟨⟨[], alive_re (new_good 3 4) rfl, fun _ => rfl, rfl, ⟨fun _ => rfl, fun h => absurd h (by omega)⟩⟩, fun _ h => (by cases h), by omega⟩
theorem Once.stop {t : Sto} {s : Dsk} {m N : Nat} {U : Nat → Bool} (h : Once t s m N U) (a k : Int) : Once t (s.stop a k) m N U := ⟨h.re, h.used, h.le⟩
/-- Started and opened again. -/
theorem Once.again {t : Sto} {s s' : Dsk} {m N : Nat} {U : Nat → Bool} {L : List (Rec11 × Nat)} (h : Once t s m N U) (hr : Reopened s.start 3 4 m L) (hg : Good ⟨L, false⟩ s' 3 4 m) : Once ⟨L, false⟩ s' m N U := by
  obtain ⟨L0, h1, _, h3, h4⟩ := h.re
  have e : L = L0 := by
    have := hr.store.symm.trans h1.store
    injection this
  subst e
  exact ⟨⟨L, alive_re hg rfl, fun _ => rfl, h3, h4⟩, h.used, h.le⟩
theorem get_died {t : Sto} (h : t.died = true) (name : List UInt8) : t.get name = none := by
  unfold Sto.get
  rw [if_pos h]
theorem Once.short {t : Sto} {s : Dsk} {m N : Nat} {U : Nat → Bool} (h : Once t s m N U) : ShortIn t [107] := by
  cases hd : t.died with
  | true => exact short_none (get_died hd _)
  | false =>
    obtain ⟨L, _, h2, _, h4⟩ := h.re
    obtain ⟨l, died⟩ := t
    obtain rfl : l = L := h2 hd
    obtain rfl : died = false := hd
    exact h4.short
theorem Once.next {t : Sto} {s : Dsk} {m N : Nat} {U : Nat → Bool} (h : Once t s m N U) (nx : Nat) : nextOf t [107] nx = if t.died = true then nx else max nx N := by
  cases hd : t.died with
  | true => rw [if_pos rfl]; exact next_none (get_died hd _) nx
  | false =>
    rw [if_neg (by simp)]
    obtain ⟨L, _, h2, _, h4⟩ := h.re
    obtain ⟨l, died⟩ := t
    obtain rfl : l = L := h2 hd
    obtain rfl : died = false := hd
    exact h4.next (by have := h.le; omega) nx
/-- A put of the next number: it ends well, or the disk is dead, and has the elder number or this one. -/
theorem Once.put {t : Sto} {s : Dsk} {m N X : Nat} {U : Nat → Bool} (h : Once t s m N U) (hg : Good t s 3 4 m) (hm : m + 1 < 4294967296) (hX : t.died = false → N ≤ X) (hX4 : X < 4) :
    ((t.put s 3 4 [107] (putL (X + 1) 4)).2.2 = 8 ∧ ∃ N', Once (t.put s 3 4 [107] (putL (X + 1) 4)).2.1 (t.put s 3 4 [107] (putL (X + 1) 4)).1 (m + 1) N' U) ∨
    ((t.put s 3 4 [107] (putL (X + 1) 4)).2.2 = 0 ∧ N ≤ X ∧ Once (t.put s 3 4 [107] (putL (X + 1) 4)).2.1 (t.put s 3 4 [107] (putL (X + 1) 4)).1 (m + 1) (X + 1) (fun x => U x || decide (x = X))) := by
  obtain ⟨L, h1, h2, h3, h4⟩ := h.re
  cases hd : t.died with
  | true =>
    have e : t.put s 3 4 [107] (putL (X + 1) 4) = (s, t, 8) := by unfold Sto.put; rw [if_pos hd]
    rw [e]
    refine .inl ⟨rfl, N, ⟨L, ?_, h2, h3, h4⟩, h.used, h.le⟩
    exact ⟨h1.ok, h1.store, h1.live, ⟨h1.good.geo, h1.good.clean, fun i r hr => Nat.le_succ_of_le (h1.good.nums i r hr)⟩⟩
  | false =>
    have hN := hX hd
    have hl : t.l = L := h2 hd
    have hr : Rising t.l := h.re.elim fun _ _ => hg.rising hd
    have hfit : fitsR 3 [107] (putL (X + 1) 4) = true := fits_small (by simp) (by rw [putL_length]; omega) (by rw [putL_length]; simp)
    have hlen : t.l.length < 4 := by
      have := only_len hr (name := [107]) (by rw [hl]; exact h3)
      omega
    obtain ⟨hc, _, ⟨L', hre, hT⟩, _⟩ := put_told hg hd hm hfit hlen
    have D := put_done hg hm [107] (putL (X + 1) 4)
    have ho : others L' [107] = [] := by rw [hT.rest, hl]; exact h3
    rcases hc with hc | hc
    · obtain ⟨y1, y2, y3⟩ := D.yes hc
      have hre' := alive_re D.good y1
      have e : (t.put s 3 4 [107] (putL (X + 1) 4)).2.1.l = L' := by
        have := hre'.store.symm.trans hre.store
        injection this
      refine .inr ⟨hc, hN, ⟨L', hre, fun _ => e, ho, ?_⟩, fun x hx => ?_, by omega⟩
      · rcases hT.this with h5 | ⟨h5, _⟩
        · exact Num1.new (by omega) h5
        · rw [hc] at h5; cases h5
      · rw [Bool.or_eq_true] at hx
        rcases hx with hx | hx
        · have := h.used x hx; omega
        · have := of_decide_eq_true hx; omega
    · obtain ⟨y1, _, _⟩ := D.crash hc
      refine .inl ⟨hc, ?_⟩
      rcases hT.this with h5 | ⟨_, h5⟩
      · exact ⟨X + 1, ⟨L', hre, fun e => (by rw [y1] at e; cases e), ho, Num1.new (by omega) h5⟩, fun x hx => (by have := h.used x hx; omega), by omega⟩
      · exact ⟨N, ⟨L', hre, fun e => (by rw [y1] at e; cases e), ho, h4.old (by rw [h5, hl])⟩, h.used, h.le⟩
theorem Once.fresh {t : Sto} {s : Dsk} {m N X : Nat} {U : Nat → Bool} (h : Once t s m N U) (hX : N ≤ X) : U X = false := by
  cases hu : U X with
  | false => rfl
  | true => have := h.used X hu; omega
set_option maxRecDepth 100000

theorem infoKeyP : (Tryz.prog.info? 32).map (fun i => (i.zero, i.size, i.bytes)) = some (some (.pointer none), 1, 8) := by kernel_rfl
/-- make([]*Keys, 2). -/
theorem wpList_make_two {w : World} {ops : Array Oper} {rest : List Oper} {o : Oper} {a : Act} {Q : Exit → Act → World → Prop} (hgd : o.guard = none) (l c : Operand) (ho : o.op = .makeSlice 67 l c)
    (hl : a.eval l = .int .i64 2) (hc : a.eval c = .int .i64 2)
    (hk : ∀ w', Blk w' w.heap.size #[.pointer none, .pointer none] 32 → Below w.heap.size w w' → wpList Tryz.prog ops Q rest (a.put o.dst (.slice (some ⟨w.heap.size, 0, none⟩) 2 2)) w') : wpList Tryz.prog ops Q (o :: rest) a w := by
  obtain ⟨i, hi, hz, hsz, hby⟩ : ∃ i, Tryz.prog.info? 32 = some i ∧ i.zero = some (.pointer none) ∧ i.size = 1 ∧ i.bytes = 8 := by
    have h := infoKeyP
    cases hi : Tryz.prog.info? 32 with
    | none => rw [hi] at h; simp at h
    | some i => rw [hi] at h; simp only [Option.map_some, Option.some.injEq, Prod.mk.injEq] at h; exact ⟨i, rfl, h⟩
  obtain ⟨w', hrun, r1, r2⟩ := run_make_full (P := Tryz.prog) w w.heap.size 67 32 i (.pointer none) 1 Tryz.underlying67 hi hz hsz .i64 .i64 2 (by rw [hby]; omega) (by unfold maxLen; omega) (Nat.le_refl _)
  rcases r1.2 with ⟨e, _⟩ | ⟨g, cap, cur, e, _, hg, _, _, hcs, ht⟩
  · cases e
  · injection e with e1 e2 e3
    injection e1 with e1
    injection e1 with e1
    subst e1 e3
    have hcur : cur = #[.pointer none, .pointer none] := by
      apply Array.toList_inj.1
      have h2 : cur.toList.take (2 * 1) = [.pointer none, .pointer none] := ht.trans (by kernel_rfl)
      rw [List.take_of_length_le (by rw [Array.length_toList, hcs]; exact Nat.le_refl _)] at h2
      exact h2
    refine wpList_plain hgd fun K hK => ?_
    unfold Oper.wp
    have hrun' : (Instr.makeSlice 67 (.int .i64 2) (.int .i64 2)).run Tryz.prog w = .ok (.slice (some ⟨w.heap.size, 0, none⟩) 2 2) w' := hrun
    simp [execOp, ho, hl, hc, hrun', Result.andThen]
    exact hK _ _ (hk w' (by rw [← hcur]; exact hg) ((Below.refl _ _).grown r2 (Nat.le_refl _) (fun k hk => by cases hk)))
theorem blk_ne {w : World} {g g' : Nat} {cs cs' : Array Value} {T T' : TypeId} (h : Blk w g cs T) (h' : Blk w g' cs' T') (hT : T ≠ T') : g ≠ g' := fun e => by
  subst e
  have h1 : w.heap[g]? = some (.cells cs T (0, 0)) := h
  have h2 : w.heap[g]? = some (.cells cs' T' (0, 0)) := h'
  rw [h1] at h2
  injection h2 with h2
  injection h2 with _ h3
  exact hT h3
def uA (U : Nat → Bool) : Array Value := #[.bool (U 0), .bool (U 1), .bool (U 2), .bool (U 3)]
theorem uA_at (U : Nat → Bool) {i : Nat} (hi : i < 4) : (uA U)[i]? = some (.bool (U i)) := by
  match i, hi with
  | 0, _ => rfl
  | 1, _ => rfl
  | 2, _ => rfl
  | 3, _ => rfl
theorem uA_set (U : Nat → Bool) {i : Nat} (hi : i < 4) : (uA U).setIfInBounds i (.bool true) = uA (fun x => U x || decide (x = i)) := by
  unfold uA
  match i, hi with
  | 0, _ => simp
  | 1, _ => simp
  | 2, _ => simp
  | 3, _ => simp
/-- The law's world: two keystores on one store, the leaves that have signed, the print, the seed. -/
structure OnceW (w0 wr : World) (gf gu gt p g : Nat) (X Z : Array Value) (sd : List UInt8) (h q b k0 k1 n0 n1 : Nat) (s : Dsk) (t : Sto) (m N : Nat) (U : Nat → Bool) : Prop where
  st : ST wr q p g b 16 s 3 4 m t
  once : Once t s m N U
  two : Blk wr gt #[.pointer (some ⟨k0, 0, none⟩), .pointer (some ⟨k1, 0, none⟩)] 32
  ks0 : KS wr k0 q ⟨#[107]⟩ sd h n0
  ks1 : KS wr k1 q ⟨#[107]⟩ sd h n1
  le0 : n0 ≤ 4
  le1 : n1 ≤ 4
  ap0 : Apart5 k0 q p g b
  ap1 : Apart5 k1 q p g b
  ge4 : ∀ j, fourS q p g b j → w0.heap.size ≤ j
  ge0 : w0.heap.size ≤ k0
  ge1 : w0.heap.size ≤ k1
  ne : k0 ≠ k1
  us : Blk wr gu (uA U) 66
  fp : Blk wr gf Z 44
  sd_ : Blk wr w0.heap.size X 23
  bel : Below w0.heap.size w0 wr
  four : (fourS q p g b gt → False) ∧ (fourS q p g b gu → False) ∧ (fourS q p g b gf → False) ∧ (fourS q p g b w0.heap.size → False)
theorem OnceW.below {w0 wr W : World} {gf gu gt p g : Nat} {X Z : Array Value} {sd : List UInt8} {h q b k0 k1 n0 n1 : Nat} {s : Dsk} {t : Sto} {m N : Nat} {U : Nat → Bool} (H : OnceW w0 wr gf gu gt p g X Z sd h q b k0 k1 n0 n1 s t m N U) (hb : Below wr.heap.size wr W) : OnceW w0 W gf gu gt p g X Z sd h q b k0 k1 n0 n1 s t m N U :=
  ⟨H.st.below hb, H.once, H.two.below hb H.two.lt, H.ks0.below hb, H.ks1.below hb, H.le0, H.le1, H.ap0, H.ap1, H.ge4, H.ge0, H.ge1, H.ne, H.us.below hb H.us.lt, H.fp.below hb H.fp.lt, H.sd_.below hb H.sd_.lt, H.bel.trans (hb.mono H.bel.size), H.four⟩
/-- A keystore at k, on the store at q. -/
structure KAt (w : World) (k q p g b B : Nat) (sd : List UInt8) (h nx : Nat) : Prop where
  ks : KS w k q ⟨#[107]⟩ sd h nx
  ap : Apart5 k q p g b
  ge : B ≤ k
theorem KAt.below {w w' : World} {k q p g b B : Nat} {sd : List UInt8} {h nx : Nat} (H : KAt w k q p g b B sd h nx) (hb : Below w.heap.size w w') : KAt w' k q p g b B sd h nx := ⟨H.ks.below hb, H.ap, H.ge⟩
/-- So many of the two keystores are open. -/
def OpenedK (w : World) (gt q p g b B : Nat) (sd : List UInt8) (h nx : Nat) (j : Nat) : Prop :=
  (j = 0 ∧ ∃ P0 P1, Blk w gt #[P0, P1] 32) ∨
  (j = 1 ∧ ∃ k0 P1, Blk w gt #[.pointer (some ⟨k0, 0, none⟩), P1] 32 ∧ KAt w k0 q p g b B sd h nx) ∨
  (j = 2 ∧ ∃ k0 k1, Blk w gt #[.pointer (some ⟨k0, 0, none⟩), .pointer (some ⟨k1, 0, none⟩)] 32 ∧ KAt w k0 q p g b B sd h nx ∧ KAt w k1 q p g b B sd h nx ∧ k0 ≠ k1)
theorem gt_ne {w : World} {gt g : Nat} {cs cs' : Array Value} {T : TypeId} (h : Blk w gt cs 32) (h' : Blk w g cs' T) (hT : T ≠ 32) : gt ≠ g := blk_ne h h' (fun e => hT e.symm)
/-- A keystore's pointer is laid into the slice. -/
theorem lay_chg {w : World} {gt : Nat} (i : Nat) (v : Value) : Chg (fun j => j = gt) w (w.setCell ⟨gt, i, none⟩ v) := (Chg.refl (fun j => j = gt) w).setCell (p := ⟨gt, i, none⟩) (fun _ => rfl) v
theorem KAt.chg {w w' : World} {k q p g b B gt : Nat} {sd : List UInt8} {h nx : Nat} (H : KAt w k q p g b B sd h nx) (hc : Chg (fun j => j = gt) w w') (hn : gt ≠ k) : KAt w' k q p g b B sd h nx := ⟨H.ks.chg hc (fun e => hn e.symm), H.ap, H.ge⟩
theorem ST.lay {w w' : World} {q p g b c gt : Nat} {s : Dsk} {R n m : Nat} {t : Sto} (h : ST w q p g b c s R n m t) (hc : Chg (fun j => j = gt) w w') (hn : fourS q p g b gt → False) : ST w' q p g b c s R n m t :=
  h.apart hc (fun e => hn (.inl e)) (fun e => hn (.inr (.inl e))) (fun e => hn (.inr (.inr (.inl e)))) (fun e => hn (.inr (.inr (.inr e))))
theorem two_fourK {q p g b : Nat} : ∀ j, two p g j → fourS q p g b j := two_fourS
/-- The disk is stopped. -/
theorem OnceW.stop {w0 wr : World} {gf gu gt p g : Nat} {X Z : Array Value} {sd : List UInt8} {h q b k0 k1 n0 n1 : Nat} {s : Dsk} {t : Sto} {m N : Nat} {U : Nat → Bool} {W : World} {a k : Int} (H : OnceW w0 wr gf gu gt p g X Z sd h q b k0 k1 n0 n1 s t m N U) (hd : DP W p g (4 * (3 + 1)) 16 (s.stop a k)) (hc : Chg (Go.Proofs.YtndknifdajjalaaGreatDoor.two p g) wr W) : OnceW w0 W gf gu gt p g X Z sd h q b k0 k1 n0 n1 (s.stop a k) t m N U :=
  ⟨H.st.disk_chg hd hc rfl (keepOf_le k) H.st.live, H.once.stop a k, hc.blk H.two (fun e => H.four.1 (two_fourK _ e)), H.ks0.chg hc (fun e => H.ap0.four (two_fourK _ e)), H.ks1.chg hc (fun e => H.ap1.four (two_fourK _ e)), H.le0, H.le1, H.ap0, H.ap1, H.ge4, H.ge0, H.ge1, H.ne,
    hc.blk H.us (fun e => H.four.2.1 (two_fourK _ e)), hc.blk H.fp (fun e => H.four.2.2.1 (two_fourK _ e)), hc.blk H.sd_ (fun e => H.four.2.2.2 (two_fourK _ e)), H.bel.trans (hc.below H.bel.size (fun j e => H.ge4 j (two_fourK _ e))), H.four⟩
theorem five_not {k q p g b j : Nat} (h0 : j ≠ k) (h4 : fourS q p g b j → False) : ¬ fiveS k q p g b j := fun e => by
  rcases e with e | e
  · exact h0 e
  · exact h4 e
/-- One of the keystores has been asked to sign. -/
theorem OnceW.ask0 {w0 wr : World} {gf gu gt p g : Nat} {X Z : Array Value} {sd : List UInt8} {h q b k0 k1 n0 n1 : Nat} {s : Dsk} {t : Sto} {m N : Nat} {U : Nat → Bool} {W : World} {n0' m' N' : Nat} {s' : Dsk} {t' : Sto} (H : OnceW w0 wr gf gu gt p g X Z sd h q b k0 k1 n0 n1 s t m N U) (hc : Chg (fiveS k0 q p g b) wr W) (K : KS W k0 q ⟨#[107]⟩ sd h n0') (hl : n0' ≤ 4) (S : ST W q p g b 16 s' 3 4 m' t') (O : Once t' s' m' N' U) : OnceW w0 W gf gu gt p g X Z sd h q b k0 k1 n0' n1 s' t' m' N' U :=
  ⟨S, O, hc.blk H.two (five_not (gt_ne H.two H.ks0.blk (by decide)) H.four.1), K, H.ks1.chg hc (five_not (fun e => H.ne e.symm) H.ap1.four), hl, H.le1, H.ap0, H.ap1, H.ge4, H.ge0, H.ge1, H.ne,
    hc.blk H.us (five_not (blk_ne H.us H.ks0.blk (by decide)) H.four.2.1), hc.blk H.fp (five_not (blk_ne H.fp H.ks0.blk (by decide)) H.four.2.2.1), hc.blk H.sd_ (five_not (blk_ne H.sd_ H.ks0.blk (by decide)) H.four.2.2.2), H.bel.trans (hc.below H.bel.size (fiveS_ge H.ge0 H.ge4)), H.four⟩
theorem OnceW.ask1 {w0 wr : World} {gf gu gt p g : Nat} {X Z : Array Value} {sd : List UInt8} {h q b k0 k1 n0 n1 : Nat} {s : Dsk} {t : Sto} {m N : Nat} {U : Nat → Bool} {W : World} {n1' m' N' : Nat} {s' : Dsk} {t' : Sto} (H : OnceW w0 wr gf gu gt p g X Z sd h q b k0 k1 n0 n1 s t m N U) (hc : Chg (fiveS k1 q p g b) wr W) (K : KS W k1 q ⟨#[107]⟩ sd h n1') (hl : n1' ≤ 4) (S : ST W q p g b 16 s' 3 4 m' t') (O : Once t' s' m' N' U) : OnceW w0 W gf gu gt p g X Z sd h q b k0 k1 n0 n1' s' t' m' N' U :=
  ⟨S, O, hc.blk H.two (five_not (gt_ne H.two H.ks1.blk (by decide)) H.four.1), H.ks0.chg hc (five_not H.ne H.ap0.four), K, H.le0, hl, H.ap0, H.ap1, H.ge4, H.ge0, H.ge1, H.ne,
    hc.blk H.us (five_not (blk_ne H.us H.ks1.blk (by decide)) H.four.2.1), hc.blk H.fp (five_not (blk_ne H.fp H.ks1.blk (by decide)) H.four.2.2.1), hc.blk H.sd_ (five_not (blk_ne H.sd_ H.ks1.blk (by decide)) H.four.2.2.2), H.bel.trans (hc.below H.bel.size (fiveS_ge H.ge1 H.ge4)), H.four⟩
/-- A leaf is marked. -/
theorem OnceW.mark {w0 wr : World} {gf gu gt p g : Nat} {X Z : Array Value} {sd : List UInt8} {h q b k0 k1 n0 n1 : Nat} {s : Dsk} {t : Sto} {m N : Nat} {U : Nat → Bool} {x : Nat} (H : OnceW w0 wr gf gu gt p g X Z sd h q b k0 k1 n0 n1 s t m N U) (hx : x < 4) (hb : w0.heap.size ≤ gu) (O : Once t s m N (fun y => U y || decide (y = x))) : OnceW w0 (wr.setCell ⟨gu, x, none⟩ (.bool true)) gf gu gt p g X Z sd h q b k0 k1 n0 n1 s t m N (fun y => U y || decide (y = x)) := by
  have hc : Chg (fun j => j = gu) wr (wr.setCell ⟨gu, x, none⟩ (.bool true)) := (Chg.refl (fun j => j = gu) wr).setCell (p := ⟨gu, x, none⟩) (fun _ => rfl) _
  exact ⟨H.st.lay hc H.four.2.1, O, hc.blk H.two (gt_ne H.two H.us (by decide)), H.ks0.chg hc (fun e => blk_ne H.us H.ks0.blk (by decide) e.symm), H.ks1.chg hc (fun e => blk_ne H.us H.ks1.blk (by decide) e.symm), H.le0, H.le1, H.ap0, H.ap1, H.ge4, H.ge0, H.ge1, H.ne,
    by rw [← uA_set U hx]; exact H.us.set x _, hc.blk H.fp (blk_ne H.fp H.us (by decide)), hc.blk H.sd_ (blk_ne H.sd_ H.us (by decide)), H.bel.trans (hc.below H.bel.size (fun j e => by rw [e]; exact hb)), H.four⟩
/-- What a Sign tells: no signature, or that of a leaf that has not signed. -/
def OnceSaid (w0 wr : World) (gf gu gt p g : Nat) (X Z : Array Value) (sd msg : List UInt8) (h q b k0 k1 m kk : Nat) (U : Nat → Bool) (e : Ending) (w' : World) : Prop :=
  (∃ (c : Int) (n0 n1 N : Nat) (s : Dsk) (t : Sto), (c = 9 ∨ c = 8) ∧ e = .returned (.tuple #[.agg sig0, .int .i64 c]) ∧ OnceW w0 w' gf gu gt p g X Z sd h q b k0 k1 n0 n1 s t (m + 1) N U) ∨
  (∃ (x n0 n1 N : Nat) (s : Dsk) (t : Sto) (V P : Option Addr) (cv cp : Nat), x < 2 ^ h ∧ U x = false ∧ e = .returned (.tuple #[.agg (sigA (h : Int) (x : Int) V P 67 cv (proofV (pubsL sd (2 ^ h)) x).length cp), .int .i64 0]) ∧
    OwnH w' wr.heap.size (.slice V 67 cv) (atL (signF sd (x : Int) (digH (msgH msg))) 67) ∧ OwnH w' wr.heap.size (.slice P (proofV (pubsL sd (2 ^ h)) x).length cp) (proofV (pubsL sd (2 ^ h)) x) ∧ OnceW w0 w' gf gu gt p g X Z sd h q b k0 k1 n0 n1 s t (m + 1) N U ∧ Once t s (m + 1) N (fun y => U y || decide (y = x)) ∧ Chg (fiveS kk q p g b) wr w')
theorem Once.less {t : Sto} {s : Dsk} {m N x : Nat} {U : Nat → Bool} (h : Once t s m N (fun y => U y || decide (y = x))) : Once t s m N U := ⟨h.re, fun y hy => h.used y (by simp [hy]), h.le⟩
theorem Once.more {t : Sto} {s : Dsk} {m N : Nat} {U : Nat → Bool} (h : Once t s m N U) : Once t s (m + 1) N U := by
  obtain ⟨L, h1, h2⟩ := h.re
  exact ⟨⟨L, ⟨h1.ok, h1.store, h1.live, ⟨h1.good.geo, h1.good.clean, fun i r hr => Nat.le_succ_of_le (h1.good.nums i r hr)⟩⟩, h2⟩, h.used, h.le⟩
set_option maxHeartbeats 1000000 in
theorem once_sign0 {w0 wr : World} {gf gu gt p g : Nat} {X Z : Array Value} {sd : List UInt8} {h q b k0 k1 n0 n1 : Nat} {s : Dsk} {t : Sto} {m N : Nat} {U : Nat → Bool} (H : OnceW w0 wr gf gu gt p g X Z sd h q b k0 k1 n0 n1 s t m N U) (hh : h < 3) (hm : m + 1 < 4294967296) (B : Option Addr) (nb cb : Nat) (msg : List UInt8) (hl : msg.length = nb) (h1 : nb ≤ 1000) (hc : nb ≤ cb) (hcm : cb ≤ maxLen) (hrm : ∀ W, Chg (fiveS k0 q p g b) wr W → Rd W W.heap.size B msg) (htab : Pow10 w0.heap.size w0) :
    Calls Tryz.prog 10 #[.pointer (some ⟨k0, 0, none⟩), .slice B nb cb] wr (OnceSaid w0 wr gf gu gt p g X Z sd msg h q b k0 k1 m k0 U) := by
  have h4 : 2 ^ h ≤ 4 := by
    match h, hh with
    | 0, _ => decide
    | 1, _ => decide
    | 2, _ => decide
  have hsh := H.once.short
  have hN := H.once.le
  have hle := H.le0
  obtain ⟨x, hx⟩ : ∃ x, nextOf t [107] n0 = x := ⟨_, rfl⟩
  have hxl : x ≤ 4 := by rw [← hx, H.once.next]; split <;> omega
  by_cases hz : 2 ^ h ≤ x
  · refine (psignk_none (name := [107]) H.ks0 H.st hsh (by rw [hx]; omega) (by rw [hx]; exact hz) B nb cb).mono ?_
    rintro e w' ⟨rfl, K, C⟩
    rw [hx] at K
    exact .inl ⟨9, _, _, _, _, _, .inl rfl, rfl, H.ask0 (C.more one_five) K hxl ((H.st.apart5 C H.ap0).more (Nat.le_succ m)) H.once.more⟩
  · have hz' : x < 2 ^ h := by omega
    refine (psignk_put (name := [107]) H.ks0 H.st hsh hx hz' hm (by simp) H.ap0 B nb cb msg hl h1 hc hcm hrm (tab_five htab H.bel (fiveS_ge H.ge0 H.ge4))).mono ?_
    rintro e w' ⟨S, C, hp⟩
    have hle2 : t.died = false → N ≤ x := fun hd => by rw [← hx, H.once.next, if_neg (by simp [hd])]; omega
    rcases H.once.put H.st.good hm hle2 (by omega) with ⟨hc8, N', O⟩ | ⟨hc0, hNx, O⟩
    · rcases hp with ⟨_, he, K⟩ | ⟨h0, _⟩
      · rw [hc8] at he
        exact .inl ⟨8, _, _, _, _, _, .inr rfl, he, H.ask0 C K hxl S O⟩
      · rw [hc8] at h0; cases h0
    · rcases hp with ⟨h0, _⟩ | ⟨_, K, V, cv, P, cp, he, hv, hpv⟩
      · exact absurd hc0 h0
      · exact .inr ⟨x, _, _, _, _, _, V, P, cv, cp, hz', H.once.fresh hNx, he, hv, hpv, H.ask0 C K (by omega) S O.less, O, C⟩
set_option maxHeartbeats 1000000 in
theorem once_sign1 {w0 wr : World} {gf gu gt p g : Nat} {X Z : Array Value} {sd : List UInt8} {h q b k0 k1 n0 n1 : Nat} {s : Dsk} {t : Sto} {m N : Nat} {U : Nat → Bool} (H : OnceW w0 wr gf gu gt p g X Z sd h q b k0 k1 n0 n1 s t m N U) (hh : h < 3) (hm : m + 1 < 4294967296) (B : Option Addr) (nb cb : Nat) (msg : List UInt8) (hl : msg.length = nb) (h1 : nb ≤ 1000) (hc : nb ≤ cb) (hcm : cb ≤ maxLen) (hrm : ∀ W, Chg (fiveS k1 q p g b) wr W → Rd W W.heap.size B msg) (htab : Pow10 w0.heap.size w0) :
    Calls Tryz.prog 10 #[.pointer (some ⟨k1, 0, none⟩), .slice B nb cb] wr (OnceSaid w0 wr gf gu gt p g X Z sd msg h q b k0 k1 m k1 U) := by
  have h4 : 2 ^ h ≤ 4 := by
    match h, hh with
    | 0, _ => decide
    | 1, _ => decide
    | 2, _ => decide
  have hsh := H.once.short
  have hN := H.once.le
  have hle := H.le1
  obtain ⟨x, hx⟩ : ∃ x, nextOf t [107] n1 = x := ⟨_, rfl⟩
  have hxl : x ≤ 4 := by rw [← hx, H.once.next]; split <;> omega
  by_cases hz : 2 ^ h ≤ x
  · refine (psignk_none (name := [107]) H.ks1 H.st hsh (by rw [hx]; omega) (by rw [hx]; exact hz) B nb cb).mono ?_
    rintro e w' ⟨rfl, K, C⟩
    rw [hx] at K
    exact .inl ⟨9, _, _, _, _, _, .inl rfl, rfl, H.ask1 (C.more one_five) K hxl ((H.st.apart5 C H.ap1).more (Nat.le_succ m)) H.once.more⟩
  · have hz' : x < 2 ^ h := by omega
    refine (psignk_put (name := [107]) H.ks1 H.st hsh hx hz' hm (by simp) H.ap1 B nb cb msg hl h1 hc hcm hrm (tab_five htab H.bel (fiveS_ge H.ge1 H.ge4))).mono ?_
    rintro e w' ⟨S, C, hp⟩
    have hle2 : t.died = false → N ≤ x := fun hd => by rw [← hx, H.once.next, if_neg (by simp [hd])]; omega
    rcases H.once.put H.st.good hm hle2 (by omega) with ⟨hc8, N', O⟩ | ⟨hc0, hNx, O⟩
    · rcases hp with ⟨_, he, K⟩ | ⟨h0, _⟩
      · rw [hc8] at he
        exact .inl ⟨8, _, _, _, _, _, .inr rfl, he, H.ask1 C K hxl S O⟩
      · rw [hc8] at h0; cases h0
    · rcases hp with ⟨h0, _⟩ | ⟨_, K, V, cv, P, cp, he, hv, hpv⟩
      · exact absurd hc0 h0
      · exact .inr ⟨x, _, _, _, _, _, V, P, cv, cp, hz', H.once.fresh hNx, he, hv, hpv, H.ask1 C K (by omega) S O.less, O, C⟩
/-- Bytes of one's own, made behind what has changed. -/
theorem rd_own_chg {S : Nat → Prop} {w : World} {base n c : Nat} {A : Option Addr} {l : List UInt8} (ho : w.ownsRow base 5 1 (.slice A n c) n (Lib.byteCells l)) (hS : ∀ k, S k → k < base) : ∀ W, Chg S w W → Rd W W.heap.size A l := fun W hc => by
  refine Rd.of_own (w := W) (⟨ho.1, ?_⟩ : W.ownsRow base 5 1 (.slice A n c) n (Lib.byteCells l))
  rcases ho.2 with h0 | ⟨g, cap, cur, k1, k2, k3, k4⟩
  · exact .inl h0
  · refine .inr ⟨g, cap, cur, k1, k2, ?_, k4⟩
    rw [hc.block g (Array.getElem?_eq_some_iff.1 k3).1 fun k => by have := hS _ k; omega]
    exact k3
end Go.Proofs.YtndknifdajjalaaGreatDoor
