/- The library's Chunk: a text's parts of 32 bytes, one by one. -/
import Derived.RangeFuncNested
import Derived.RangeFuncBound
import Derived.RangeFuncCalls
import Derived.RangeFuncLeaves
import Derived.Shelf.Abstract
import Derived.Shelf.RegionOpen
import Derived.WalkKit
import Derived.OwnWalkIn
import Derived.TacticsInMore
import Derived.LoopNIn
import Derived.LoopIn
import Derived.Sort.QuietIn
import Derived.Test.YtndknifdajjalaaGreatDoorPStpH
namespace Go.Proofs.YtndknifdajjalaaGreatDoor
open Go.RowKit Go.Shelf
attribute [local go_sem] Oper.semAt_some
set_option maxRecDepth 100000

/-- The parts of a text of L bytes, by their numbers. -/
abbrev Ck (L : Nat) := { k : Nat // k * 32 < L }
def ckN (L : Nat) : Nat := (L + 31) / 32
def ckV (rb ro L : Nat) (x : Ck L) : Array Value := #[.slice (some ⟨rb, ro + x.1 * 32, none⟩) (min 32 (L - x.1 * 32)) (min 32 (L - x.1 * 32))]
def ckL {L : Nat} (pre : List (Ck L)) : List Nat := pre.map fun x => x.1
theorem ckL_snoc {L : Nat} (pre : List (Ck L)) (x : Ck L) : ckL (pre ++ [x]) = ckL pre ++ [x.1] := by simp [ckL]
theorem ckL_len {L : Nat} (pre : List (Ck L)) : (ckL pre).length = pre.length := by simp [ckL]
/-- Nothing has happened to either block. -/
def Both (a b : Nat) (A B : World) : Prop := B.heap[a]? = A.heap[a]? ∧ B.heap[b]? = A.heap[b]?
theorem Both.trans {a b : Nat} {A B C : World} (h : Both a b A B) (k : Both a b B C) : Both a b A C := ⟨k.1.trans h.1, k.2.trans h.2⟩
theorem cell_of_heap_eq {A B : World} {b : Nat} (h : B.heap[b]? = A.heap[b]?) (o : Nat) : B.cell? ⟨b, o, none⟩ = A.cell? ⟨b, o, none⟩ := by
  unfold World.cell?
  simp only [h]

theorem pchunk_in (a : Option Addr) (len cap : Nat) (w : World) :
    Calls Tryz.prog 95 #[.slice a len cap, .int .i64 32] w fun e w' => e = .returned (.func (.func 116) #[] #[.pointer (some ⟨w.heap.size, 0, none⟩), .pointer (some ⟨w.heap.size + 1, 0, none⟩)]) ∧ w' = (w.alloc (.cells #[.slice a len cap] 35)).alloc (.cells #[.int .i64 32] 3) := by
  go_enter Tryz.func95, Tryz.ntmps95
  go_wp2
  go_ret
  exact ⟨rfl, rfl⟩

set_option maxHeartbeats 2000000 in
theorem pchunk1_in (n : Nat) (hn : 1 ≤ n) (l Bs Bn rb ro L cp : Nat) (hL : 0 < L) (hLb : L ≤ 1000000) (hLc : L ≤ cp) (J Jx : List (Ck L) → World → Prop)
    (hY : ∀ pre x W, J pre W → pre.length < ckN L → YieldAt Fence.wide (n - 1) Tryz.prog l (ckV rb ro L x) W fun e W' =>
      (e = .returned (.bool true) ∧ J (pre ++ [x]) W' ∧ Both Bs Bn W W') ∨ (e = .returned (.bool false) ∧ Jx (pre ++ [x]) W'))
    (W : World) (hab : AbidesFrom W.heap.size J) (hBs : W.cell? ⟨Bs, 0, none⟩ = some (.slice (some ⟨rb, ro, none⟩) L cp)) (hBn : W.cell? ⟨Bn, 0, none⟩ = some (.int .i64 32)) (h0 : J [] W) :
    CallsIn Fence.wide n Tryz.prog 116 #[.func (.yield l) #[] #[], .pointer (some ⟨Bs, 0, none⟩), .pointer (some ⟨Bn, 0, none⟩)] W fun e W' => (∃ v, e = .returned v) ∧
      ((∃ ys, ckL ys = List.range (ckN L) ∧ J ys W') ∨ (∃ pre, (ckL pre = List.range pre.length ∧ pre.length ≤ ckN L) ∧ Jx pre W')) := by
  refine callsIn_of_wp Tryz.func116 rfl trivial ?_ rfl
  simp only [Tryz.ntmps116, List.size_toArray, List.length_cons, List.length_nil, Nat.reduceAdd, Nat.reduceSub, Array.replicate_succ, Array.replicate_zero, List.push_toArray, List.append_toArray, List.nil_append, List.cons_append]
  gi_wp2
  gi_loopw [4] (fun i wr => ∃ (k : Nat) (pre : List (Ck L)), k ≤ ckN L ∧ i = .int .i64 ((k * 32 : Nat) : Int) ∧ ckL pre = List.range k ∧ J pre wr ∧ Both Bs Bn W wr)
    (fun i _ => L + 32 - (intOf i).toNat)
  case atStart => exact ⟨0, [], Nat.zero_le _, rfl, rfl, h0, ⟨rfl, rfl⟩⟩
  case round =>
    obtain ⟨k, pre, hk, rfl, hpre, hJs, hnx⟩ := hrel
    have hpl : pre.length = k := by have := congrArg List.length hpre; rw [ckL_len] at this; simpa using this
    have c0 := (cell_of_heap_eq hnx.1 0).trans hBs
    have c1 := (cell_of_heap_eq hnx.2 0).trans hBn
    by_cases hlt : k * 32 < L
    · have hkn : k < ckN L := by unfold ckN; omega
      obtain ⟨m, hm⟩ : ∃ m, k * 32 = m := ⟨_, rfl⟩
      have HLT := Lib.hid hlt
      rw [hm] at hlt ⊢
      have hmi : (m : Int) < (L : Int) := by omega
      obtain ⟨ee, hee⟩ : ∃ ee, min 32 (L - m) = ee := ⟨_, rfl⟩
      have hmin : min 32 ((L - m : Nat) : Int) = (ee : Int) := by omega
      have he1 : 0 < ee := by omega
      have he2 : m + ee ≤ L := by omega
      gi_wp2
      gi_quiet (fail)
      all_goals
        rename_i nq
        have hJ2 : J pre (wr.drewN nq) := hab pre wr _ none hJs ⟨rfl, rfl, rfl, Nat.le_refl _, fun _ _ _ => rfl⟩ (fun r e => by cases e)
        have hnx2 : Both Bs Bn W (wr.drewN nq) := hnx
        clear hJs hnx c0 c1
        generalize wr.drewN nq = w2 at *
        have c0 := (cell_of_heap_eq hnx2.1 0).trans hBs
        have c1 := (cell_of_heap_eq hnx2.2 0).trans hBn
        obtain ⟨fn, tmps, assign, body, hy, hR⟩ := hY pre ⟨k, HLT.out⟩ w2 hJ2 (by omega)
        unfold ckV at hy
        dsimp only at hy
        rw [hm, hee] at hy
        have hme : IntKind.i64.wrap ((m : Int) + (ee : Int)) = ((m + ee : Nat) : Int) := by rw [IntWalk.i64_in _ (by omega)]; omega
        gi_wp2
        refine hR.mono ?_
        have hsn : ckL (pre ++ [⟨k, HLT.out⟩]) = List.range (k + 1) := by rw [ckL_snoc, hpre, List.range_succ]
        rintro e W3 (⟨rfl, hJ3, hk3⟩ | ⟨rfl, hJx3⟩)
        · have hnx3 := hnx2.trans hk3
          have d1 := (cell_of_heap_eq hnx3.2 0).trans hBn
          gi_wp2
          go_roundw
          case rel => exact ⟨k + 1, pre ++ [⟨k, HLT.out⟩], by omega, by rw [show ((k + 1) * 32 : Nat) = m + 32 by omega]; rfl, hsn, hJ3, hnx3⟩
          case measure => simp [intOf]; omega
        · gi_wp2
          refine bodyPost_ret (results_none rfl _ _ _) rfl ?_
          exact ⟨⟨_, rfl⟩, .inr ⟨_, ⟨by rw [hsn, List.length_append, hpl]; rfl, by rw [List.length_append, hpl]; exact hkn⟩, hJx3⟩⟩
    · have hge : ¬ ((k * 32 : Nat) : Int) < (L : Int) := by omega
      have hkk : k = ckN L := by unfold ckN at *; omega
      obtain ⟨m, hm⟩ : ∃ m, k * 32 = m := ⟨_, rfl⟩
      rw [hm] at hge ⊢
      gi_wp2
      go_end0
      exact ⟨⟨_, rfl⟩, .inl ⟨pre, by rw [hpre, hkk], hJs⟩⟩
end Go.Proofs.YtndknifdajjalaaGreatDoor
