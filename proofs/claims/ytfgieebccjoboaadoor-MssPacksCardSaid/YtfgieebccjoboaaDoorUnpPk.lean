/- What is packed is read as it was; one byte fewer or more is none. -/
import Derived.Test.YtfgieebccjoboaaDoorMpI
import Derived.Test.YtfgieebccjoboaaDoorMpF
namespace Go.Proofs.YtfgieebccjoboaaDoor
open Go.RowKit

theorem chunks_flat : ∀ (hs : List (List UInt8)), (∀ r ∈ hs, r.length = 32) → atL (chunkL (flatL hs)) hs.length = hs
  | [], _ => rfl
  | x :: hs, h => by
    have hx := h x List.mem_cons_self
    have h0 : chunkL (flatL (x :: hs)) 0 = x := by
      unfold chunkL flatL
      rw [List.flatten_cons, Nat.mul_zero, List.drop_zero, List.take_append_of_le_length (by omega), ← hx, List.take_length]
    have hd : (flatL (x :: hs)).drop (32 * 1) = flatL hs := by
      unfold flatL
      rw [List.flatten_cons, Nat.mul_one, ← hx, List.drop_left]
    have h1 := atL_rest (flatL (x :: hs)) 1 hs.length
    rw [hd, chunks_flat hs (fun r hr => h r (List.mem_cons_of_mem _ hr))] at h1
    have h2 : atL (chunkL (flatL (x :: hs))) (1 + hs.length) = chunkL (flatL (x :: hs)) 0 :: (atL (chunkL (flatL (x :: hs))) (1 + hs.length)).drop 1 := by
      unfold atL
      rw [Nat.add_comm, List.range_succ_eq_map]
      simp
    rw [List.length_cons, Nat.add_comm, h2, ← h1, h0]
theorem flat_app (a b : List (List UInt8)) : flatL a ++ flatL b = flatL (a ++ b) := by simp [flatL]
theorem put1_nat (p : Nat) : put1 (p : Int) = [UInt8.ofNat p] := by
  unfold put1 putL putN
  rw [if_neg (by omega), show (List.range 1) = [0] from rfl]
  simp
theorem put2_nat (i : Nat) : put2 (i : Int) = [UInt8.ofNat (i / 256), UInt8.ofNat i] := by
  unfold put2 putL putN
  rw [if_neg (by omega), show (List.range 2) = [0, 1] from rfl]
  simp
theorem pack_form (p i : Nat) (sg pv : List (List UInt8)) : packL ⟨p, i, sg, pv⟩ = UInt8.ofNat p :: UInt8.ofNat (i / 256) :: UInt8.ofNat i :: flatL (sg ++ pv) := by
  unfold packL
  rw [put1_nat, put2_nat, List.append_assoc, List.append_assoc, flat_app]
  rfl
theorem pack_first (p i : Nat) (sg pv : List (List UInt8)) (hp : p ≤ 4) : ((packL ⟨p, i, sg, pv⟩).getD 0 0).toNat = p := by
  rw [pack_form]
  show (UInt8.ofNat p).toNat = p
  simp
  omega
theorem pack_len (p i : Nat) (sg pv : List (List UInt8)) (h1 : ∀ r ∈ sg, r.length = 32) (h2 : ∀ r ∈ pv, r.length = 32) (hl : sg.length = 67) (hpl : pv.length = p) : (packL ⟨p, i, sg, pv⟩).length = 3 + 32 * (67 + p) := by
  rw [pack_form]
  have := flatL_len (sg ++ pv) (fun r hr => (List.mem_append.1 hr).elim (h1 r) (h2 r))
  rw [List.length_append, hl, hpl] at this
  simp only [List.length_cons, this]
  omega
theorem unp_pack (p i : Nat) (sg pv : List (List UInt8)) (hp : p ≤ 4) (hi : i < 65536) (h1 : ∀ r ∈ sg, r.length = 32) (h2 : ∀ r ∈ pv, r.length = 32) (hl : sg.length = 67) (hpl : pv.length = p) :
    unpOK (packL ⟨p, i, sg, pv⟩) ∧ unpV (packL ⟨p, i, sg, pv⟩) = ⟨p, i, sg, pv⟩ := by
  have hf := pack_first p i sg pv hp
  have hn := pack_len p i sg pv h1 h2 hl hpl
  refine ⟨⟨by omega, by omega, by rw [hf, hn]⟩, ?_⟩
  have hc := chunks_flat (sg ++ pv) (fun r hr => (List.mem_append.1 hr).elim (h1 r) (h2 r))
  rw [List.length_append, hl, hpl] at hc
  unfold unpV
  rw [hf, pack_form]
  simp only [List.drop_succ_cons, List.drop_zero]
  rw [hc]
  have ha : (sg ++ pv).take 67 = sg := by rw [← hl, List.take_left]
  have hb : (sg ++ pv).drop 67 = pv := by rw [← hl, List.drop_left]
  rw [ha, hb]
  have hq : ((256 * ((UInt8.ofNat p :: UInt8.ofNat (i / 256) :: UInt8.ofNat i :: flatL (sg ++ pv)).getD 1 0).toNat + ((UInt8.ofNat p :: UInt8.ofNat (i / 256) :: UInt8.ofNat i :: flatL (sg ++ pv)).getD 2 0).toNat : Nat)) = i := by
    show 256 * (UInt8.ofNat (i / 256)).toNat + (UInt8.ofNat i).toNat = i
    simp
    omega
  rw [hq]
theorem unp_less {b : List UInt8} (hok : unpOK b) : ¬ unpOK (b.take (b.length - 1)) := by
  intro h
  have hl : (b.take (b.length - 1)).length = b.length - 1 := by rw [List.length_take]; omega
  have h0 : (b.take (b.length - 1)).getD 0 0 = b.getD 0 0 := by
    have := hok.1
    rw [List.getD_eq_getElem?_getD, List.getD_eq_getElem?_getD, List.getElem?_take_of_lt (by omega)]
  obtain ⟨a1, _, a3⟩ := hok
  obtain ⟨_, _, b3⟩ := h
  rw [hl, h0] at b3
  omega
theorem unp_more {b : List UInt8} (hok : unpOK b) (x : UInt8) : ¬ unpOK (b ++ [x]) := by
  intro h
  have h0 : (b ++ [x]).getD 0 0 = b.getD 0 0 := by
    have := hok.1
    rw [List.getD_eq_getElem?_getD, List.getD_eq_getElem?_getD, List.getElem?_append_left (by omega)]
  obtain ⟨_, _, b3⟩ := h
  rw [List.length_append, h0] at b3
  have := hok.2.2
  simp at b3
  omega
/-- A block of another type is another block. -/
theorem OwnH.row_off {w : World} {B g : Nat} {v : Value} {hs : List (List UInt8)} {Z : Array Value} {T : TypeId} (h : OwnH w B v hs) (hg : Blk w g Z T) (hT : T ≠ 29) (cs : Array Value) : OwnH (w.setRow g cs) B v hs := by
  refine ⟨h.1, h.2.1, ?_⟩
  rcases h.2.2 with h0 | ⟨b, cap, cur, h1, h2, h3, h4⟩
  · exact .inl h0
  · refine .inr ⟨b, cap, cur, h1, h2, ?_, h4⟩
    rw [setRow_other _ _ _ _ (fun e => ?_)]
    · exact h3
    · subst e
      have hg' : w.heap[b]? = some (.cells Z T (0, 0)) := hg
      rw [hg'] at h3
      injection h3 with h3
      injection h3 with _ h5
      exact hT h5
theorem yieldsIf_load_key {ops : Array Oper} {S : World → Prop} {o : Oper} {a : Act} (hw : Region.wanted o (yielded ops a.tmps) = true) (x : Operand) (ho : o.op = .load 23 x)
    (g : Nat) (hx : a.eval x = .pointer (some ⟨g, 0, none⟩)) (X : Array Value) (hz : X.size = 16) (hS : ∀ w, S w → Blk w g X 23) : YieldsIf Tryd.prog ops S o (.agg X) a := by
  have h := yieldsIf_load_mid (P := Tryd.prog) (ops := ops) (S := S) (op := o) (a := a) hw 23 x ho g 0 hx X.toList _ (fun w h j v hv => by
    rw [Nat.zero_add, (hS w h).cell j, ← Array.getElem?_toList]
    exact hv) Tryd.underlying23 rfl (by rw [Array.length_toList, hz]; kernel_rfl)
  simpa using h
theorem zero_sig9 (w : World) : (zeroValue 35).run Tryd.prog w = .ok (.agg sig0) w := by kernel_rfl
end Go.Proofs.YtfgieebccjoboaaDoor
