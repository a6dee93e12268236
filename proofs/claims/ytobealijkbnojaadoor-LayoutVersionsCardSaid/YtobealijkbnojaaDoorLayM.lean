/- What stands in shares, in plain lists: the only row with these bytes; layouts and versions as bytes, and what bytes tell one. -/
import Derived.Test.YtobealijkbnojaaDoorNetB
import Derived.Test.YtobealijkbnojaaDoorSub
namespace Go.Proofs.YtobealijkbnojaaDoor
open Go.RowKit

/-! Digits -/
theorem dec_only : ∀ (n : Nat) (ds : List UInt8), ds.length = n + 1 → (∀ x ∈ ds, isDig x = true) → (headNought ds = false ∨ ds.length = 1) → Lib.decDigits (ds.foldl (fun a x => a * 10 + (x.toNat - 48)) 0) = ds := by
  intro n
  induction n with
  | zero =>
    intro ds hl hd _
    match ds, hl with
    | [x], _ =>
      have hx := hd x (List.mem_singleton.2 rfl)
      simp only [isDig, decide_eq_true_eq] at hx
      simp only [List.foldl_cons, List.foldl_nil]
      rw [Lib.decDigits_one (by omega)]
      congr 1
      apply UInt8.toNat_inj.1
      rw [UInt8.toNat_ofNat']
      omega
  | succ n ih =>
    intro ds hl hd hz
    have hne : ds ≠ [] := by intro e; rw [e] at hl; simp at hl
    obtain ⟨es, x, rfl⟩ : ∃ es x, ds = es ++ [x] := ⟨ds.dropLast, ds.getLast hne, (List.dropLast_concat_getLast hne).symm⟩
    rw [List.length_append] at hl
    have hel : es.length = n + 1 := by simpa using hl
    have hen : es ≠ [] := by intro e; rw [e] at hel; simp at hel
    have hez : headNought es = false := by
      rcases hz with hz | hz
      · obtain ⟨y, t, rfl⟩ := List.exists_cons_of_ne_nil hen
        simpa [headNought] using hz
      · rw [List.length_append, hel] at hz; simp at hz
    have h1 := ih es hel (fun y hy => hd y (List.mem_append_left _ hy)) (.inl hez)
    have hx := hd x (List.mem_append_right _ (List.mem_singleton.2 rfl))
    simp only [isDig, decide_eq_true_eq] at hx
    rw [List.foldl_append]
    simp only [List.foldl_cons, List.foldl_nil]
    generalize es.foldl (fun a x => a * 10 + (x.toNat - 48)) 0 = a at h1
    have ha : 1 ≤ a := by
      rcases Nat.eq_zero_or_pos a with h0 | h0
      · rw [h0, Lib.decDigits_one (by omega)] at h1
        rw [← h1] at hez
        simp [headNought] at hez
      · exact h0
    rw [Lib.decDigits, dif_neg (by omega), show (a * 10 + (x.toNat - 48)) / 10 = a by omega, h1, show 48 + (a * 10 + (x.toNat - 48)) % 10 = x.toNat by omega]
    congr 2
    apply UInt8.toNat_inj.1
    rw [UInt8.toNat_ofNat']
    omega

theorem lenFrom_form (z : Bool) : ∀ (l : List UInt8) (v d V D : Nat), lenFrom z v d l = some (V, D) →
    ∃ ds r, l = ds ++ 58 :: r ∧ (∀ x ∈ ds, isDig x = true) ∧ D = d + ds.length ∧ V = ds.foldl (fun a x => a * 10 + (x.toNat - 48)) v ∧ 0 < D ∧ (z = true → ds = [] ∨ (d = 0 ∧ ds.length = 1))
  | [], v, d, V, D, h => by simp [lenFrom] at h
  | x :: r, v, d, V, D, h => by
    unfold lenFrom at h
    by_cases hx : isDig x = true
    · rw [if_pos hx] at h
      by_cases hz : 0 < d ∧ z = true
      · rw [if_pos hz] at h; simp at h
      · rw [if_neg hz] at h
        by_cases hv : 16384 < v * 10 + (x.toNat - 48)
        · rw [if_pos hv] at h; simp at h
        · rw [if_neg hv] at h
          obtain ⟨ds, t, e1, e2, e3, e4, e5, e6⟩ := lenFrom_form z r _ _ _ _ h
          refine ⟨x :: ds, t, by rw [e1]; rfl, fun y hy => ?_, by rw [List.length_cons]; omega, by rw [List.foldl_cons]; exact e4, e5, fun hzz => .inr ?_⟩
          · rcases List.mem_cons.1 hy with rfl | hy
            · exact hx
            · exact e2 y hy
          · rcases e6 hzz with e | ⟨e, _⟩
            · rw [e]
              exact ⟨by have : ¬ 0 < d := fun h => hz ⟨h, hzz⟩
                        omega, rfl⟩
            · omega
    · rw [if_neg hx] at h
      by_cases h0 : d = 0 ∨ x.toNat ≠ 58
      · rw [if_pos h0] at h; simp at h
      · rw [if_neg h0] at h
        simp only [Option.some.injEq, Prod.mk.injEq] at h
        refine ⟨[], r, ?_, by simp, by rw [← h.2]; rfl, by rw [← h.1]; rfl, by omega, fun _ => .inl rfl⟩
        have : x = 58 := by
          apply UInt8.toNat_inj.1
          have : x.toNat = 58 := Decidable.byContradiction fun hc => h0 (.inr hc)
          rw [this]; rfl
        rw [this]; rfl

theorem takeL_form {l x r : List UInt8} (h : takeL l = some (x, r)) : l = netL x ++ r := by
  unfold takeL at h
  cases e : rowLen l with
  | none => rw [e] at h; simp at h
  | some p =>
    obtain ⟨V, D⟩ := p
    rw [e] at h
    simp only at h
    by_cases h44 : (l.drop (D + 1 + V)).head? = some 44
    · rw [if_pos h44] at h
      simp only [Option.some.injEq, Prod.mk.injEq] at h
      obtain ⟨hx, hr⟩ := h
      obtain ⟨ds, t, e1, e2, e3, e4, e5, e6⟩ := lenFrom_form _ _ _ _ _ _ e
      have hD : D = ds.length := by omega
      have hd1 : l.drop (D + 1) = t := by
        rw [e1, hD, List.drop_append, List.drop_of_length_le (by omega), show ds.length + 1 - ds.length = 1 by omega]
        rfl
      rw [← List.drop_drop] at h44
      rw [Nat.add_assoc (D + 1) V 1, ← List.drop_drop, hd1] at hr
      rw [hd1] at h44 hx
      have hs : t.drop V = 44 :: r := by
        cases e7 : t.drop V with
        | nil => rw [e7] at h44; simp at h44
        | cons y s =>
          rw [e7] at h44
          simp only [List.head?_cons, Option.some.injEq] at h44
          rw [h44]
          congr 1
          rw [← hr, ← List.drop_drop, e7]
          rfl
      have hxl : x.length = V := by
        rw [← hx, List.length_take]
        have := congrArg List.length hs
        rw [List.length_drop, List.length_cons] at this
        omega
      have ht : t = x ++ 44 :: r := by
        rw [← hs, ← hx, List.take_append_drop]
      obtain ⟨m, hm⟩ : ∃ m, ds.length = m + 1 := ⟨ds.length - 1, by omega⟩
      have hdec := dec_only m ds hm e2 (by
        cases hh : headNought ds with
        | false => exact .inl rfl
        | true =>
          refine .inr ?_
          have hdn : ds ≠ [] := by intro e; rw [e] at hm; simp at hm
          have : headNought l = true := by
            rw [e1]
            obtain ⟨y, s, rfl⟩ := List.exists_cons_of_ne_nil hdn
            simpa [headNought] using hh
          rcases e6 this with e | ⟨_, e⟩
          · exact absurd e hdn
          · exact e)
      rw [e1, ht, netL_eq, hxl, e4, hdec]
      simp
    · rw [if_neg h44] at h; simp at h
theorem takesL_form : ∀ (k : Nat) (b : List UInt8) (ls : List (List UInt8)), takesL k b = some ls → ls.length = k ∧ netsL ls = b
  | 0, b, ls, h => by
    unfold takesL at h
    by_cases hb : b = []
    · rw [if_pos hb] at h
      simp only [Option.some.injEq] at h
      rw [← h, hb]; exact ⟨rfl, rfl⟩
    · rw [if_neg hb] at h; simp at h
  | k + 1, b, ls, h => by
    unfold takesL at h
    cases e : takeL b with
    | none => rw [e] at h; simp at h
    | some p =>
      rw [e] at h
      simp only [Option.map_eq_some_iff] at h
      obtain ⟨y, h1, rfl⟩ := h
      obtain ⟨h2, h3⟩ := takesL_form k _ _ h1
      refine ⟨by rw [List.length_cons, h2], ?_⟩
      rw [netsL_cons, h3, ← takeL_form e]

/-! Numbers as bytes -/
theorem putL_succ14 (N W : Nat) : putL N (W + 1) = putL (N / 256) W ++ [UInt8.ofNat N] := by
  unfold putL
  rw [List.range_succ, List.map_append, List.map_singleton, show W + 1 - 1 - W = 0 by omega, Nat.pow_zero, Nat.div_one]
  congr 1
  refine List.map_congr_left fun j hj => ?_
  rw [List.mem_range] at hj
  rw [show W + 1 - 1 - j = (W - 1 - j) + 1 by omega, Nat.pow_succ, Nat.mul_comm, ← Nat.div_div_eq_div_mul]
theorem getL_putL14 (W : Nat) : ∀ N, getL (putL N W) = N % 256 ^ W := by
  induction W with
  | zero => intro N; simp [putL, getL, Nat.mod_one]
  | succ W ih =>
    intro N
    rw [putL_succ14, getL_snoc, ih, Nat.pow_succ, UInt8.toNat_ofNat', Nat.mul_comm (256 ^ W) 256, Nat.mod_mul]
    omega
theorem putL_getL14 : ∀ (n : Nat) (l : List UInt8), l.length = n → putL (getL l) n = l
  | 0, l, h => by rw [List.length_eq_zero_iff.1 h]; rfl
  | n + 1, l, h => by
    have hne : l ≠ [] := by intro e; rw [e] at h; simp at h
    obtain ⟨es, x, rfl⟩ : ∃ es x, l = es ++ [x] := ⟨l.dropLast, l.getLast hne, (List.dropLast_concat_getLast hne).symm⟩
    have hel : es.length = n := by simpa using h
    rw [getL_snoc, putL_succ14, show (getL es * 256 + x.toNat) / 256 = getL es by have := x.toNat_lt; omega, putL_getL14 n es hel]
    congr 2
    apply UInt8.toNat_inj.1
    rw [UInt8.toNat_ofNat']
    have := x.toNat_lt
    omega
theorem putN_nat (n : Nat) : putN (n : Int) = n := by unfold putN; omega

/-- The number that a row is; 0: the row is too long for any. -/
def get14 (l : List UInt8) : Nat := if l.length ≤ 7 then getL l else 0
theorem get14_short {l : List UInt8} (h : l.length ≤ 7) : get14 l = getL l := by unfold get14; rw [if_pos h]
theorem put_get14 {l : List UInt8} {n : Nat} (h : l.length = n) (hn : n ≤ 7) : putL (putN (get14 l : Int)) n = l := by
  rw [putN_nat, get14_short (by omega), putL_getL14 n l h]
theorem get14_lt (l : List UInt8) : get14 l < 72057594037927936 := by
  unfold get14
  split
  · have h1 := getL_lt l
    have : 256 ^ l.length ≤ 256 ^ 7 := Nat.pow_le_pow_right (by omega) (by omega)
    omega
  · omega
/-- Bytes laid into n noughts. -/
def pad14 (n : Nat) (l : List UInt8) : List UInt8 := (l ++ List.replicate n 0).take n
theorem pad14_len (n : Nat) (l : List UInt8) : (pad14 n l).length = n := by unfold pad14; rw [List.length_take, List.length_append, List.length_replicate]; omega
theorem pad14_self {n : Nat} {l : List UInt8} (h : l.length = n) : pad14 n l = l := by unfold pad14; rw [List.take_append_of_le_length (by omega), List.take_of_length_le (by omega)]

/-! Four numbers and two rows of bytes: a layout (K, N, Size, Seg, Crypt, Shares), a version (Seq, K, N, Size, Salt, Root) -/
structure F14 where
  a : Int
  b : Int
  c : Int
  d : Int
  x : List UInt8
  y : List UInt8
deriving DecidableEq
def F14.rows (ws : Nat × Nat × Nat × Nat) (u : F14) : List (List UInt8) := [putL (putN u.a) ws.1, putL (putN u.b) ws.2.1, putL (putN u.c) ws.2.2.1, putL (putN u.d) ws.2.2.2, u.x, u.y]
def wsU : Nat × Nat × Nat × Nat := (1, 1, 4, 4)
def wsV : Nat × Nat × Nat × Nat := (4, 1, 1, 4)
def packU (u : F14) : List UInt8 := netsL (u.rows wsU)
def packV (u : F14) : List UInt8 := netsL (u.rows wsV)
def okU (u : F14) : Prop := 1 ≤ u.a ∧ u.a ≤ u.b ∧ u.b ≤ 16 ∧ 1 ≤ u.c ∧ u.c ≤ 1024 ∧ u.d = 64
def okV (u : F14) : Prop := 1 ≤ u.a ∧ u.a ≤ 1048576 ∧ 1 ≤ u.b ∧ u.b ≤ u.c ∧ u.c ≤ 16 ∧ u.d ≤ 1024
instance (u : F14) : Decidable (okU u) := by unfold okU; infer_instance
instance (u : F14) : Decidable (okV u) := by unfold okV; infer_instance
/-- What six rows are (p: how many bytes the fifth one has). -/
def of14 (p : Nat) (r0 r1 r2 r3 r4 r5 : List UInt8) : F14 := ⟨get14 r0, get14 r1, get14 r2, get14 r3, pad14 p r4, pad14 32 r5⟩
def fit14 (ws : Nat × Nat × Nat × Nat) (p : Nat) (r0 r1 r2 r3 r4 r5 : List UInt8) : Prop := r0.length = ws.1 ∧ r1.length = ws.2.1 ∧ r2.length = ws.2.2.1 ∧ r3.length = ws.2.2.2 ∧ r4.length = p ∧ r5.length = 32
instance (ws p r0 r1 r2 r3 r4 r5) : Decidable (fit14 ws p r0 r1 r2 r3 r4 r5) := by unfold fit14; infer_instance
theorem fit14_iff {ws : Nat × Nat × Nat × Nat} (hws : ws.1 ≤ 7 ∧ ws.2.1 ≤ 7 ∧ ws.2.2.1 ≤ 7 ∧ ws.2.2.2 ≤ 7) {p : Nat} (hp : p ≤ 1000) {r0 r1 r2 r3 r4 r5 : List UInt8} (hr : ∀ r ∈ [r0, r1, r2, r3, r4, r5], r.length ≤ 1000) :
    netsL ((of14 p r0 r1 r2 r3 r4 r5).rows ws) = netsL [r0, r1, r2, r3, r4, r5] ↔ fit14 ws p r0 r1 r2 r3 r4 r5 := by
  constructor
  · intro h
    have := netsL_inj (a := (of14 p r0 r1 r2 r3 r4 r5).rows ws) (b := [r0, r1, r2, r3, r4, r5]) (fun r hh => by
      simp only [F14.rows, of14, List.mem_cons, List.not_mem_nil, or_false] at hh
      rcases hh with rfl | rfl | rfl | rfl | rfl | rfl <;> simp only [putL_length, pad14_len] <;> omega) hr h
    simp only [F14.rows, of14, List.cons.injEq] at this
    obtain ⟨e0, e1, e2, e3, e4, e5, _⟩ := this
    exact ⟨by rw [← e0, putL_length], by rw [← e1, putL_length], by rw [← e2, putL_length], by rw [← e3, putL_length], by rw [← e4, pad14_len], by rw [← e5, pad14_len]⟩
  · rintro ⟨e0, e1, e2, e3, e4, e5⟩
    unfold F14.rows of14
    dsimp only
    rw [put_get14 e0 hws.1, put_get14 e1 hws.2.1, put_get14 e2 hws.2.2.1, put_get14 e3 hws.2.2.2, pad14_self e4, pad14_self e5]
def zero14 (p : Nat) : F14 := ⟨0, 0, 0, 0, List.replicate p 0, List.replicate 32 0⟩
/-- What bytes tell. -/
def un14 (ws : Nat × Nat × Nat × Nat) (p : Nat) (ok : F14 → Prop) [DecidablePred ok] (b : List UInt8) : Option F14 :=
  match takesN 6 b with
  | some [r0, r1, r2, r3, r4, r5] => if fit14 ws p r0 r1 r2 r3 r4 r5 ∧ ok (of14 p r0 r1 r2 r3 r4 r5) then some (of14 p r0 r1 r2 r3 r4 r5) else none
  | _ => none
def unU (b : List UInt8) : Option F14 := un14 wsU 32 okU b
def unV (b : List UInt8) : Option F14 := un14 wsV 16 okV b
theorem takes_six (b : List UInt8) : takesN 6 b = none ∨ ∃ r0 r1 r2 r3 r4 r5, takesN 6 b = some [r0, r1, r2, r3, r4, r5] ∧ netsL [r0, r1, r2, r3, r4, r5] = b := by
  cases e : takesN 6 b with
  | none => exact .inl rfl
  | some ls =>
    have e' : takesL 6 b = some ls := by unfold takesN at e; rw [if_neg (by omega)] at e; exact e
    obtain ⟨h1, h2⟩ := takesL_form 6 b ls e'
    match ls, h1 with
    | [r0, r1, r2, r3, r4, r5], _ => exact .inr ⟨r0, r1, r2, r3, r4, r5, rfl, h2⟩
theorem netL_le (l : List UInt8) : l.length ≤ (netL l).length := by rw [netL_eq]; simp; omega
theorem nets_le : ∀ (ls : List (List UInt8)), ∀ r ∈ ls, r.length ≤ (netsL ls).length
  | [], r, h => by simp at h
  | l :: ls, r, h => by
    rw [netsL_cons, List.length_append]
    rcases List.mem_cons.1 h with rfl | h
    · have := netL_le r; omega
    · have := nets_le ls r h; omega
end Go.Proofs.YtobealijkbnojaaDoor
