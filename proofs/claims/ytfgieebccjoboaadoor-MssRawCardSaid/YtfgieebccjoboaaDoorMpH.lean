/- A region that draws its order, in a round of a loop over an iterator: as it goes outside of rounds. The library's Chunk of bytes, 32 at a time, as the program has it. The library's Concat of rows of hashes, as the program has it. Bytes as hashes, as the program takes them. -/
import Derived.Test.YtfgieebccjoboaaDoorFreeL
import Derived.OrdersIn
import Derived.RangeFuncBox
import Derived.RangeFuncCalls
import Derived.RangeFuncLeaves
import Derived.Test.YtfgieebccjoboaaDoorMssB
import Derived.Shelf.Abstract
import Derived.WalkKit
import Derived.OwnWalkIn
import Derived.TacticsInMore
import Derived.LoopNIn
import Derived.LoopIn
import Derived.Test.YtfgieebccjoboaaDoorMpB
import Derived.Lib.AppendZerosOnto
import Derived.Test.YtfgieebccjoboaaDoorMssU
import Derived.RangeFuncNested
namespace Go.Proofs.YtfgieebccjoboaaDoor
open Go.RowKit

theorem uponIn_of {l n : Nat} {P : Program} {o : Oper} {a : Act} {K : Act → World → Prop} {Q : Exit → Act → World → Prop} : ∀ {r : Result Next}, o.upon P a K Q r → o.uponIn (Fence.wide.inRound l) n P a K Q r
  | .ok (.value _) _, h => h
  | .ok .skip _, h => h
  | .ok (.defer _) _, h => h
  | .ok (.enter f args) w', h => ⟨fun hd => by simp [Fence.wide] at hd, CallsIn.inRound l (callsIn_wide.2 (Calls.mono h fun e w'' q => by cases e <;> exact q))⟩
  | .ok (.row row args) w', h => ⟨fun hd => by simp [Fence.wide] at hd, fun c cs _ => let ⟨v, w'', r, s⟩ := h c cs; ⟨v, w'', r, stepsIn_wide.2 s⟩⟩
  | .halt (.panic _) _, h => h
theorem wpOpIn_of {l n : Nat} {P : Program} {ops : Array Oper} {Q : Exit → Act → World → Prop} (hQ : ¬ LetsOut Q) (hd : ∀ o ∈ ops, ∀ c, o.op ≠ .defer c) {i : Nat} {K K' : Act → World → Prop} (hK : ∀ a w, K a w → K' a w) {a : Act} {w : World} (h : wpOp P ops Q i K a w) : wpOpIn (Fence.wide.inRound l) n P ops Q i K' a w := by
  unfold wpOp at h
  unfold wpOpIn
  cases ho : ops[i]? with
  | none => rw [ho] at h; exact hK _ _ h
  | some o =>
    rw [ho] at h
    simp only at h ⊢
    by_cases hw : Region.wanted o (yielded ops a.tmps) = true
    · rw [if_pos hw] at h ⊢
      rcases h with h | h
      · refine ⟨fun _ _ => trivial, ?_⟩
        rw [Fence.inRound_round, Oper.semAt_eq _ _ _ (hd o (Array.mem_of_getElem? ho))]
        exact uponIn_of (Oper.wp_mono hK h)
      · exact absurd h.2 hQ
    · rw [if_neg hw] at h ⊢
      exact ⟨fun _ _ => trivial, hK _ _ h⟩
theorem wpAnyIn_of {l n : Nat} {P : Program} {md : Region.Mode} {ops : Array Oper} {Q : Exit → Act → World → Prop} (hQ : ¬ LetsOut Q) (hd : ∀ o ∈ ops, ∀ c, o.op ≠ .defer c) : ∀ (fuel : Nat) (listed : Array Bool) (a : Act) (w : World), wpAny P md ops Q fuel listed a w → wpAnyIn (Fence.wide.inRound l) n P md ops Q fuel listed a w
  | 0, _, _, _, h => h
  | fuel + 1, _, _, _, h => ⟨h.1, fun i hi => wpOpIn_of hQ hd (fun a' w' h' => wpAnyIn_of hQ hd fuel _ a' w' h') (h.2 i hi)⟩
def noDefer (ops : Array Oper) : Bool := ops.all fun o => match o.op with | .defer _ => false | _ => true
theorem noDefer_spec {ops : Array Oper} (h : noDefer ops = true) : ∀ o ∈ ops, ∀ c, o.op ≠ .defer c := by
  intro o ho c hc
  unfold noDefer at h
  have := Array.all_eq_true_iff_forall_mem.1 h o ho
  rw [hc] at this
  cases this
section
variable {P : Program} {Q : Exit → Act → World → Prop}
theorem wpIn_region_loose {l0 n0 id : Nat} {l : List Oper} {a0 : Act} {w : World} (n g : Nat) (fr : Nat → Bool) (G : Nat → Value → World → Prop) (hm : P.follows .mixedOrders = true) (hsize : l.length = n + g)
    (hch : (plainB l.toArray a0.tmps.size && (Nat.beq g 0 || (Region.sinkB .any l.toArray n && Region.chainB .any l.toArray n)) && Region.seqB .any l.toArray g n (headDone n g)) = true) (hG : ∀ i v w w', G i v w → Below w.heap.size w w' → G i v w')
    (hs : StepsOKl P .any l.toArray n Q a0 w G fr 0 (l.take n))
    (ht : ∀ a w', Below w.heap.size w w' → Unwritten (l.take n).toArray a0 a → (∀ j, j < n → Known l.toArray G a w' j) → (∀ i j oi oj d d', i < n → j < n → i ≠ j → fr i = true → fr j = true → l[i]? = some oi → l[j]? = some oj → oi.dst = some d → oj.dst = some d' → a.tmps[d]? ≠ a.tmps[d']?) → wpList P l.toArray Q (l.drop n) a w') (hQ : ¬ LetsOut Q) (hd : noDefer l.toArray = true) : (Code.region id l.toArray true).wpIn (Fence.wide.inRound l0) n0 P Q a0 w := by
  simp only [Bool.and_eq_true, Bool.or_eq_true] at hch
  obtain ⟨⟨hp, hsk⟩, hsq⟩ := hch
  have H := wpAny_loose (P := P) (Q := Q) (md := .any) (V := w) (n := n) (g := g) (k := 0) (fr := fr) hsize hp (hsk.imp Nat.eq_of_beq_eq_true (fun h => ⟨sinkT_of h.1, h.2⟩)) hsq hG (fun i o hi ho => by
      have h1 : (l.take n)[i]? = some o := by rw [List.getElem?_take, if_pos hi]; exact ho
      have := hs.get i o h1
      rwa [Nat.zero_add] at this) (fun a w' hb hu hk listed hln hap => ht a w' hb hu hk fun i j oi oj d d' hi hj hne hfi hfj hoi hoj hdd hdd' => hap.2 i j oi oj d d' hne (hln i hi) (hln j hj) hfi hfj (by simpa using hoi) (by simpa using hoj) hdd hdd') n (Array.replicate l.toArray.size false) a0 { w with drawn := w.drawn + 1 } (fun i hi => absurd hi (Nat.not_lt_zero i)) (headsLeft_full _ n (by simp; omega))
    ⟨by simp, fun j oj _ hl => (by rw [getD_replicate_false] at hl; cases hl), fun t _ ht => getD_in (by simpa using ht) (getD_replicate_false _ _)⟩
    (Below.refl _ _).drew ⟨rfl, rfl, fun _ _ => rfl⟩ (fun j hj => (by rw [getD_replicate_false] at hj; cases hj)) ⟨fun j _ _ hj => (by rw [getD_replicate_false] at hj; cases hj), fun i j _ _ _ _ _ hi => (by rw [getD_replicate_false] at hi; cases hi)⟩
  rw [show n + g = l.toArray.size by simp; omega] at H
  exact wpIn_region_any hm (wpAnyIn_of hQ (noDefer_spec hd) _ _ _ _ H)
end
end Go.Proofs.YtfgieebccjoboaaDoor
namespace Go.Proofs.YtfgieebccjoboaaDoor
open Go.RowKit Go.Shelf

attribute [local go_sem] Oper.semAt_some

/-- What a round keeps: the two cells that the iterator reads. -/
def KpC (Bs Bn : Nat) (W W' : World) : Prop := W'.cell? ⟨Bs, 0, none⟩ = W.cell? ⟨Bs, 0, none⟩ ∧ W'.cell? ⟨Bn, 0, none⟩ = W.cell? ⟨Bn, 0, none⟩
theorem kpC_t {Bs Bn : Nat} {A B C : World} (h : KpC Bs Bn A B) (k : KpC Bs Bn B C) : KpC Bs Bn A C := ⟨k.1.trans h.1, k.2.trans h.2⟩
theorem kpC_b {Bs Bn : Nat} {w : World} (h1 : Bs < w.heap.size) (h2 : Bn < w.heap.size) (W : World) (l : Nat) (o o' : Obj) (hl : w.heap.size ≤ l) (h : W.heap[l]? = some o) (_ : o.isCells = false) (_ : o.isWalk = false) : KpC Bs Bn W (W.putObj l o') := by
  have hlt := (Array.getElem?_eq_some_iff.1 h).1
  have hb : Below w.heap.size W (W.putObj l o') := (Below.refl _ W).grown (grownBy_putObj' W l o') (by omega) (fun k e => by cases e; omega)
  exact ⟨hb.cell (p := ⟨Bs, 0, none⟩) h1, hb.cell (p := ⟨Bn, 0, none⟩) h2⟩
set_option maxRecDepth 100000 in
theorem run_sub_i (b o n c i : Nat) (W : World) (h1 : i < c) (h2 : i ≤ n) :
    (Instr.slice 24 (.slice (some ⟨b, o, none⟩) n c) (some (.int .i64 (i : Int))) none none).run Tryd.prog W = .ok (.slice (some ⟨b, o + i, none⟩) (n - i) (c - i)) W := by
  obtain ⟨j, hj, hsz⟩ := infoByte
  rw [run_slice_l W 24 (some ⟨b, o, none⟩) n c Tryd.underlying24 .i64 (i : Int) (by omega) (by omega)]
  rw [show Tryd.prog.elem 24 = 5 from by kernel_rfl]
  have hne : ¬ c = i := by omega
  simp [sizeOf, typeInfo, hj, hsz, sliced, Addr.add, hne]
set_option maxRecDepth 100000 in
theorem run_sub_full (b o n c i e : Nat) (W : World) (he : e = i + 32) (h1 : e ≤ c) :
    (Instr.slice 24 (.slice (some ⟨b, o, none⟩) n c) (some (.int .i64 (i : Int))) (some (.int .i64 (e : Int))) (some (.int .i64 (e : Int)))).run Tryd.prog W = .ok (.slice (some ⟨b, o + i, none⟩) 32 32) W := by
  obtain ⟨j, hj, hsz⟩ := infoByte
  rw [run_slice_lhm W 24 (some ⟨b, o, none⟩) n c Tryd.underlying24 .i64 .i64 .i64 (i : Int) (e : Int) (e : Int) (by omega) (by omega) (by omega) (by omega)]
  rw [show Tryd.prog.elem 24 = 5 from by kernel_rfl]
  have hne : ¬ e = i := by omega
  have h32 : e - i = 32 := by omega
  simp [sizeOf, typeInfo, hj, hsz, sliced, Addr.add, hne, h32]
set_option maxRecDepth 100000 in
set_option maxHeartbeats 2000000 in
theorem chunk1_in (n : Nat) (hn : 1 ≤ n) (l Bs Bn b off len cap K : Nat) (A : Option Addr) (hA : 0 < len → A = some ⟨b, off, none⟩) (hK : len = 32 * K) (hlen : len ≤ 100000) (hcap : len ≤ cap) (J Jx : List Nat → World → Prop) (hJd : ∀ pre W q, J pre W → J pre (W.drewN q))
    (hY : ∀ k W, k < K → J (List.range k) W → YieldAt Fence.wide (n - 1) Tryd.prog l #[.slice (some ⟨b, off + 32 * k, none⟩) 32 32] W fun e W' =>
      (e = .returned (.bool true) ∧ J (List.range k ++ [k]) W' ∧ KpC Bs Bn W W') ∨ (e = .returned (.bool false) ∧ Jx (List.range k ++ [k]) W'))
    (W : World) (hs : W.cell? ⟨Bs, 0, none⟩ = some (.slice A len cap)) (hn2 : W.cell? ⟨Bn, 0, none⟩ = some (.int .i64 32)) (h0 : J [] W) :
    CallsIn Fence.wide n Tryd.prog 122 #[.func (.yield l) #[] #[], .pointer (some ⟨Bs, 0, none⟩), .pointer (some ⟨Bn, 0, none⟩)] W fun e W' => (∃ v, e = .returned v) ∧
      ((∃ ys, ys = List.range K ∧ J ys W') ∨ (∃ pre, (∃ k, k ≤ K ∧ pre = List.range k) ∧ Jx pre W')) := by
  have HK := Lib.hid hK
  clear hK
  refine callsIn_of_wp Tryd.func122 rfl trivial ?_ rfl
  simp only [Tryd.ntmps122, List.size_toArray, List.length_cons, List.length_nil, Nat.reduceAdd, Nat.reduceSub, Array.replicate_succ, Array.replicate_zero, List.push_toArray, List.append_toArray, List.nil_append, List.cons_append]
  gi_wp2
  gi_loopw [4] (fun i wr => ∃ k : Nat, k ≤ K ∧ i = .int .i64 ((32 * k : Nat) : Int) ∧ J (List.range k) wr ∧ wr.cell? ⟨Bs, 0, none⟩ = some (.slice A len cap) ∧ wr.cell? ⟨Bn, 0, none⟩ = some (.int .i64 32))
    (fun i _ => len - (intOf i).toNat)
  case atStart => exact ⟨0, Nat.zero_le _, rfl, h0, hs, hn2⟩
  case round =>
    obtain ⟨k, hk, rfl, hJs, hcs, hcn⟩ := hrel
    obtain ⟨i, hi⟩ : ∃ i, 32 * k = i := ⟨_, rfl⟩
    rw [hi]
    have HI := Lib.hid hi
    clear hi
    by_cases hlt : i < len
    · have hii : (i : Int) < (len : Int) := by omega
      have HY := Lib.hid (fun q => hY k (wr.drewN q) (by have := HI.out; have := HK.out; omega) (hJd _ _ q hJs))
      obtain rfl := hA (by omega)
      obtain ⟨L, hL⟩ : ∃ L, len - i = L := ⟨_, rfl⟩
      obtain ⟨C, hC⟩ : ∃ C, cap - i = C := ⟨_, rfl⟩
      obtain ⟨e, he⟩ : ∃ e, i + 32 = e := ⟨_, rfl⟩
      have hee : (i : Int) + 32 = (e : Int) := by omega
      have hmn : min (32 : Int) (L : Int) = 32 := by have := HI.out; have := HK.out; omega
      have hq1 : ∀ W, (Instr.slice 24 (.slice (some ⟨b, off, none⟩) len cap) (some (.int .i64 (i : Int))) none none).run Tryd.prog W = .ok (.slice (some ⟨b, off + i, none⟩) L C) W := fun W => by rw [← hL, ← hC]; exact run_sub_i b off len cap i W (by omega) (by omega)
      have hq2 : ∀ W, (Instr.slice 24 (.slice (some ⟨b, off, none⟩) len cap) (some (.int .i64 (i : Int))) (some (.int .i64 (e : Int))) (some (.int .i64 (e : Int)))).run Tryd.prog W = .ok (.slice (some ⟨b, off + i, none⟩) 32 32) W := fun W => run_sub_full b off len cap i e W he.symm (by have := HI.out; have := HK.out; omega)
      have hLb : L ≤ 100000 := by omega
      have hcap2 : (i : Int) ≤ (cap : Int) := by omega
      have HE2 := Lib.hid he
      clear hL hC he
      gi_wp2
      refine wpIn_wide.2 ?_
      go_quiet (fail)
      obtain ⟨fn, tmps, assign, body, hy, hR⟩ := HY.out nq
      rw [HI.out] at hy
      have hcs2 : (wr.drewN nq).cell? ⟨Bs, 0, none⟩ = some (.slice (some ⟨b, off, none⟩) len cap) := hcs
      have hcn2 : (wr.drewN nq).cell? ⟨Bn, 0, none⟩ = some (.int .i64 32) := hcn
      have HCS := Lib.hid hcs2
      have HCN := Lib.hid hcn2
      have HRR := Lib.hid hR
      clear hR hcs hcn
      generalize wr.drewN nq = wd at *
      gi_wp2
      refine (HRR.out).mono ?_
      rintro e W3 (⟨rfl, hJ3, hk3⟩ | ⟨rfl, hJx3⟩)
      · have hcs3 : W3.cell? ⟨Bs, 0, none⟩ = some (.slice (some ⟨b, off, none⟩) len cap) := hk3.1.trans HCS.out
        have hcn3 : W3.cell? ⟨Bn, 0, none⟩ = some (.int .i64 32) := hk3.2.trans HCN.out
        clear hcs2 hcn2
        gi_wp2
        go_roundw
        case rel => exact ⟨k + 1, by have := HI.out; have := HK.out; omega, by have := HI.out; have := HE2.out; congr 1; omega, by rw [List.range_succ]; exact hJ3, hcs3, hcn3⟩
        case measure => simp [intOf]; omega
      · clear hcs2 hcn2
        gi_wp2
        refine bodyPost_ret (results_none rfl _ _ _) rfl ?_
        exact ⟨⟨_, rfl⟩, .inr ⟨_, ⟨k + 1, by have := HI.out; have := HK.out; omega, List.range_succ.symm⟩, hJx3⟩⟩
    · have HE := Lib.hid (show k = K by have := HI.out; have := HK.out; omega)
      have hni : ¬ (i : Int) < (len : Int) := by omega
      gi_wp2
      go_end0
      exact ⟨⟨_, rfl⟩, .inl (by rw [← HE.out]; exact hJs)⟩
set_option maxRecDepth 100000 in
set_option maxHeartbeats 1000000 in
theorem chunk_in (n : Nat) (A : Option Addr) (len cap : Nat) (w : World) :
    CallsIn Fence.wide n Tryd.prog 102 #[.slice A len cap, .int .i64 32] w fun e w' => e = .returned (.func (.func 122) #[] #[.pointer (some ⟨w.heap.size, 0, none⟩), .pointer (some ⟨w.heap.size + 1, 0, none⟩)]) ∧ w' = (w.alloc (.cells #[.slice A len cap] 24)).alloc (.cells #[.int .i64 32] 3) := by
  refine callsIn_wide.2 ?_
  go_enter Tryd.func102, Tryd.ntmps102
  go_wp2_with fail
  go_ret
  exact ⟨rfl, rfl⟩
theorem chunk_stops (n : Nat) (hn : 1 ≤ n) (Bs Bn b off len cap K : Nat) (A : Option Addr) (hA : 0 < len → A = some ⟨b, off, none⟩) (hK : len = 32 * K) (hlen : len ≤ 100000) (hcap : len ≤ cap) (w : World) (hBs : Bs < w.heap.size) (hBn : Bn < w.heap.size)
    (hs : w.cell? ⟨Bs, 0, none⟩ = some (.slice A len cap)) (hn2 : w.cell? ⟨Bn, 0, none⟩ = some (.int .i64 32)) :
    SeqStopsK Fence.wide n Tryd.prog 122 #[.pointer (some ⟨Bs, 0, none⟩), .pointer (some ⟨Bn, 0, none⟩)] (fun x : { x : Nat // x < K } => #[.slice (some ⟨b, off + 32 * x.1, none⟩) 32 32]) (KpC Bs Bn) (fun ys => ys.map (·.1) = List.range K) (fun _ => True) K w := fun l J Jx W hW hJ _ hY h0 => by
  refine (chunk1_in n hn l Bs Bn b off len cap K A hA hK hlen hcap (fun pre W => ∃ p : List { x : Nat // x < K }, p.map (·.1) = pre ∧ J p W) (fun _ W => ∃ p : List { x : Nat // x < K }, Jx p W) ?_ ?_ W ((hW.cell (p := ⟨Bs, 0, none⟩) hBs).trans hs) ((hW.cell (p := ⟨Bn, 0, none⟩) hBn).trans hn2) ⟨[], rfl, h0⟩).mono ?_
  · rintro pre W1 q ⟨p, hp, hj⟩
    exact ⟨p, hp, hJ p W1 _ none hj ⟨rfl, rfl, rfl, Nat.le_refl _, fun _ _ _ => rfl⟩ (fun r e => by cases e)⟩
  · rintro k W1 hk ⟨p, hp, hj⟩
    have hl : p.length = k := by rw [← List.length_map (f := fun x : { x : Nat // x < K } => x.1), hp, List.length_range]
    obtain ⟨fn, tmps, assign, body, hy, hR⟩ := hY p ⟨k, hk⟩ W1 hj (by omega)
    refine ⟨fn, tmps, assign, body, hy, hR.mono ?_⟩
    rintro e W' (⟨he, hj2, hkp⟩ | ⟨he, hx⟩)
    · exact .inl ⟨he, ⟨p ++ [⟨k, hk⟩], by rw [List.map_append, hp]; rfl, hj2⟩, hkp⟩
    · exact .inr ⟨he, ⟨_, hx⟩⟩
  · rintro e W' ⟨he, ⟨ys, rfl, p, hp, hj⟩ | ⟨pre, _, p, hx⟩⟩
    · exact ⟨he, .inl ⟨p, hp, hj⟩⟩
    · exact ⟨he, .inr ⟨p, trivial, hx⟩⟩
end Go.Proofs.YtfgieebccjoboaaDoor
namespace Go.Proofs.YtfgieebccjoboaaDoor
open Go.RowKit

set_option maxRecDepth 100000 in
theorem run_cut_none (W : World) : (Instr.slice 33 (.slice none 0 0) none (some (.int .i64 0)) none).run Tryd.prog W = .ok (.slice none 0 0) W := by
  obtain ⟨j, z, hj, _, _, hsz, _⟩ := hash_parts
  rw [run_slice_h W 33 none 0 0 Tryd.underlying33 .i64 0 (by omega) (by omega)]
  rw [show Tryd.prog.elem 33 = 29 from by kernel_rfl]
  simp [sizeOf, typeInfo, hj, hsz, sliced]
set_option maxRecDepth 100000 in
theorem run_cut_zero (g n c : Nat) (W : World) : (Instr.slice 33 (.slice (some ⟨g, 0, none⟩) n c) none (some (.int .i64 0)) none).run Tryd.prog W = .ok (.slice (some ⟨g, 0, none⟩) 0 c) W := by
  obtain ⟨j, z, hj, _, _, hsz, _⟩ := hash_parts
  rw [run_slice_h W 33 (some ⟨g, 0, none⟩) n c Tryd.underlying33 .i64 0 (by omega) (by omega)]
  rw [show Tryd.prog.elem 33 = 29 from by kernel_rfl]
  simp [sizeOf, typeInfo, hj, hsz, sliced, Addr.add]
set_option maxRecDepth 100000 in
set_option maxHeartbeats 1000000 in
theorem grow9_some (n : Nat) (w : World) (h1 : 1 ≤ n) (h2 : n ≤ 10000) :
    Calls Tryd.prog 103 #[.slice none 0 0, .int .i64 (n : Int)] w fun e w' => ∃ v, e = .returned v ∧ OwnH w' w.heap.size v [] ∧ Below w.heap.size w w' := by
  obtain ⟨i0, z, hi, hz0, hzs, hz1, hz2⟩ := hash_parts
  have hold : (Builtin.firstCells i0.size 0 (.slice none 0 0)).run Tryd.prog w.drew = .ok ([] : List Value).toArray w.drew := run_firstCells_none w.drew i0.size 0 0 0
  have hrz := fun ty => Lib.run_append_grow_zeros (P := Tryd.prog) w 33 3 ty 29 i0 z .i64 .i64 Tryd.underlying33 Tryd.underlying3 hi hz0 none 0 0 [] hold n h1 (by rw [hz1]; decide) (by omega) (by omega) (by rw [hz2]; omega) (growslice_fits (by omega) (by rw [hz2]; omega))
  rw [Nat.zero_add] at hrz
  have hge := grownCap_ge w n 0 29
  have hcm := grownCap_le_maxLen w n 0 29 (by unfold maxLen; omega)
  obtain ⟨cs, hcs⟩ : ∃ cs, ([] : List Value).toArray ++ Builtin.zeroCells z.cells n ++ Builtin.zeroCells z.cells (grownCap w n 0 29 - n) = cs := ⟨_, rfl⟩
  have HCS := Lib.hid (show cs.size = grownCap w n 0 29 * 32 by
    rw [← hcs, Array.size_append, Array.size_append, size_zeroCells, size_zeroCells, hzs]
    simp
    omega)
  rw [hcs] at hrz
  generalize grownCap w n 0 29 = cp at *
  have hni : (0 : Int) < (n : Int) := by omega
  have hnn : ¬ (n : Int) < 0 := by omega
  have hq0 := run_cut_none
  have hq1 := run_cut_zero
  clear hold hi hz0 hz1 hz2 hcs hzs
  go_enter Tryd.func103, Tryd.ntmps103
  go_wp2_with (at_builtin; refine Lib.wpList_append_run _ rfl _ _ _ _ rfl _ _ rfl rfl _ _ (hrz _) ?_)
  go_ret
  refine ⟨_, rfl, ⟨(fun r hr => by cases hr), rfl, .inr ⟨w.heap.size, cp, cs, rfl, Nat.le_refl _, heap_alloc_new w.drew _, Nat.zero_le _, hcm, HCS.out, rfl⟩⟩, ((Below.refl _ _).drew).alloc (Nat.le_refl _) _⟩
theorem grow9_zero (w : World) :
    Calls Tryd.prog 103 #[.slice none 0 0, .int .i64 0] w fun e w' => ∃ v, e = .returned v ∧ OwnH w' w.heap.size v [] ∧ Below w.heap.size w w' := by
  go_enter Tryd.func103, Tryd.ntmps103
  go_wp2_with fail
  go_ret
  exact ⟨_, rfl, OwnH.nil _ _, Below.refl _ _⟩
theorem grow9_any (n : Nat) (w : World) (h2 : n ≤ 10000) :
    Calls Tryd.prog 103 #[.slice none 0 0, .int .i64 (n : Int)] w fun e w' => ∃ v, e = .returned v ∧ OwnH w' w.heap.size v [] ∧ Below w.heap.size w w' := by
  rcases Nat.eq_zero_or_pos n with rfl | h
  · exact grow9_zero w
  · exact grow9_some n w h h2
/-- Rows of hashes, one behind the other. -/
def catQ (ls : List (List (List UInt8))) (k : Nat) : List (List UInt8) := (ls.take k).flatten
theorem catQ_succ {ls : List (List (List UInt8))} {k : Nat} (h : k < ls.length) : catQ ls (k + 1) = catQ ls k ++ ls[k] := by
  unfold catQ
  rw [List.take_succ_eq_append_getElem h, List.flatten_append]
  simp
theorem catQ_all (ls : List (List (List UInt8))) : catQ ls ls.length = ls.flatten := by unfold catQ; rw [List.take_length]
theorem catQ_le (ls : List (List (List UInt8))) (k : Nat) : (catQ ls k).length ≤ ls.flatten.length := by
  have : ls.flatten = catQ ls k ++ (ls.drop k).flatten := by unfold catQ; rw [← List.flatten_append, List.take_append_drop]
  rw [this, List.length_append]; omega
/-- A slice of slices of hashes, as it is read. -/
def RdQ (w : World) (C : Nat) (A : Option Addr) (ls : List (List (List UInt8))) : Prop :=
  ls = [] ∨ ∃ b off, A = some ⟨b, off, none⟩ ∧ b < C ∧ ∀ i (h : i < ls.length), ∃ A' c, w.cell? ⟨b, off + i, none⟩ = some (.slice A' ls[i].length c) ∧ ls[i].length ≤ c ∧ (∀ r ∈ ls[i], r.length = 32) ∧ RdH w C A' ls[i]
theorem RdQ.at_ {w : World} {C : Nat} {A : Option Addr} {ls : List (List (List UInt8))} (h : RdQ w C A ls) (k : Nat) (hk : k < ls.length) :
    ∃ b off A' c, A = some ⟨b, off, none⟩ ∧ b < C ∧ w.cell? ⟨b, off + k, none⟩ = some (.slice A' ls[k].length c) ∧ ls[k].length ≤ c ∧ (∀ r ∈ ls[k], r.length = 32) ∧ RdH w C A' ls[k] := by
  rcases h with rfl | ⟨b, off, rfl, hb, hc⟩
  · simp at hk
  · obtain ⟨A', c, h1, h2, h3, h4⟩ := hc k hk
    exact ⟨b, off, A', c, rfl, hb, h1, h2, h3, h4⟩
set_option maxRecDepth 100000 in
set_option maxHeartbeats 2000000 in
theorem concat9_any (A : Option Addr) (n c m C : Nat) (ls : List (List (List UInt8))) (w : World) (hn : ls.length = n) (hm : ls.flatten.length = m) (h1 : m ≤ 10000) (h2 : n ≤ 1000) (hC : C ≤ w.heap.size) (hr : RdQ w C A ls) :
    Calls Tryd.prog 69 #[.slice A n c] w fun e w' => ∃ v, e = .returned v ∧ OwnH w' w.heap.size v ls.flatten ∧ Below w.heap.size w w' := by
  have HN := Lib.hid hn
  have HM := Lib.hid hm
  have HG := Lib.hid (grow9_any m w h1)
  have HLE := Lib.hid (catQ_le ls)
  clear hn hm
  go_enter Tryd.func69, Tryd.ntmps69
  go_wp2_with fail
  go_loop [3, 5, 11] (fun z _ t => ∃ k : Nat, k ≤ n ∧ t = .int .i64 k ∧ z = .int .i64 ((catQ ls k).length : Int)) (fun _ _ t => n - (intOf t).toNat)
  case atStart => exact ⟨0, by omega, rfl, rfl⟩
  case round =>
    obtain ⟨k, hk, rfl, rfl⟩ := hrel
    by_cases hlt : k < n
    · have hii : (k : Int) < (n : Int) := by omega
      have hil : k < ls.length := by rw [HN.out]; exact hlt
      obtain ⟨b, off, A1, c1, rfl, hbs, hc, hlc, hcm, hrd⟩ := hr.at_ k hil
      have HSC := Lib.hid (catQ_succ hil)
      have HL1 := Lib.hid (HLE.out (k + 1))
      rw [HSC.out, List.length_append, HM.out] at HL1
      obtain ⟨p, hp⟩ : ∃ p, (catQ ls k).length = p := ⟨_, rfl⟩
      obtain ⟨q, hq⟩ : ∃ q, ls[k].length = q := ⟨_, rfl⟩
      have HPQ := Lib.hid (show (catQ ls (k + 1)).length = p + q by rw [HSC.out, List.length_append, hp, hq])
      rw [hq] at hc
      rw [hp, hq] at HL1
      rw [hp]
      have hpq := HL1.out
      have hpq2 : (p : Int) + (q : Int) ≤ 100000 := by omega
      have hneg : ¬ (p : Int) + (q : Int) < 0 := by omega
      clear hp hq hrd hlc HSC HL1 hil hcm
      go_wp2_with fail
      go_round
      case rel => exact ⟨k + 1, by omega, by go_num, by rw [HPQ.out]; go_num⟩
      case measure => simp [intOf]; omega
    · obtain rfl : k = n := by omega
      have HCA := Lib.hid (show (catQ ls k).length = m by rw [← HN.out, catQ_all, HM.out])
      rw [HCA.out]
      have hni : ¬ (k : Int) < (k : Int) := by omega
      go_wp2_with fail
      with_reducible refine (HG.out).mono ?_
      rintro e w1 ⟨v, rfl, hown, hb1⟩
      have HO1 := Lib.hid hown
      clear hown HG
      go_wp2_with fail
      clear hni
      go_loopw [6, 8, 27] (fun u _ t wr => ∃ j : Nat, j ≤ k ∧ t = .int .i64 j ∧ Below w.heap.size w wr ∧ Hid (OwnH wr w.heap.size u (catQ ls j))) (fun _ _ t _ => k - (intOf t).toNat)
      case atStart => exact ⟨0, by omega, rfl, hb1, HO1⟩
      case round =>
        clear hb1 HO1
        obtain ⟨j, hj, rfl, hbel, HO⟩ := hrel
        by_cases hjk : j < k
        · have hji : (j : Int) < (k : Int) := by omega
          have hjl : j < ls.length := by rw [HN.out]; exact hjk
          obtain ⟨b, off, A1, c1, rfl, hbs, hc, hlc, hcm, hrd⟩ := hr.at_ j hjl
          have HSC := Lib.hid (catQ_succ hjl)
          have HL1 := Lib.hid (HLE.out (j + 1))
          rw [HSC.out, List.length_append, HM.out] at HL1
          have hcc := (hbel.cell (p := ⟨b, off + j, none⟩) (Nat.lt_of_lt_of_le hbs hC)).trans hc
          have HRD := Lib.hid (hrd.below hbel hC)
          obtain ⟨q, hq⟩ : ∃ q, ls[j].length = q := ⟨_, rfl⟩
          have HQ := Lib.hid hq
          have HCM := Lib.hid hcm
          rw [hq] at hcc
          rw [hq] at HL1
          have hle := hbel.size
          have HOE := Lib.hid (fun v' w' (h : OwnH w' w.heap.size v' (catQ ls j ++ ls[j])) => (show OwnH w' w.heap.size v' (catQ ls (j + 1)) by rw [HSC.out]; exact h))
          obtain ⟨ct, hct⟩ : ∃ x, catQ ls j = x := ⟨_, rfl⟩
          rw [hct] at HO HOE HL1
          have hpq := HL1.out
          generalize ls[j] = row at *
          clear hc hrd hlc hq hjl HSC HL1 hct hcm
          go_wp2_with (at_builtin; refine wpList_append_hashes rfl _ _ rfl w.heap.size _ ct rfl HO.out C A1 q c1 row rfl HQ.out HCM.out HRD.out (by omega) hle ?_)
          intro v2 w2 hown2 hbn2
          have HO2 := Lib.hid (HOE.out v2 w2 hown2)
          have hbel2 : Below w.heap.size w w2 := hbel.trans hbn2
          clear hown2 hbn2 HO HOE HRD hbel hcc hle
          go_wp2_with fail
          go_roundw
          case rel => exact ⟨j + 1, by omega, by go_num, hbel2, HO2⟩
          case measure => simp [intOf]; omega
        · obtain rfl : j = k := by omega
          have HO2 := Lib.hid HO.out
          have HFL := Lib.hid (show catQ ls j = ls.flatten by rw [← HN.out, catQ_all])
          rw [HFL.out] at HO2
          have hni : ¬ (j : Int) < (j : Int) := by omega
          clear HO
          go_wp2_with fail
          go_ret
          exact ⟨_, rfl, HO2.out, hbel⟩
end Go.Proofs.YtfgieebccjoboaaDoor
namespace Go.Proofs.YtfgieebccjoboaaDoor
open Go.RowKit Go.Shelf

attribute [local go_sem] Oper.semAt_some

/-- The value is a slice of one hash, which lies in a block of its own. -/
def Spec.hb (x : List UInt8) : Spec := .any (fun v w => ∃ g, v = .slice (some ⟨g, 0, none⟩) 1 1 ∧ Blk w g (u8A x) 29) (fun _ _ _ h hb => by
  obtain ⟨g, h1, h2⟩ := h
  exact ⟨g, h1, h2.below hb h2.lt⟩)
theorem step_build_blk {Q : Exit → Act → World → Prop} {o : Oper} {a : Act} {w : World} {x : Operand} (ho : o.op = .buildSlice 33 1 #[(0, x)]) (h : List UInt8) (hl : h.length = 32) (hx : a.eval x = .agg (u8A h)) :
    o.wp Tryd.prog a w (fun a' w' => ∃ v, a' = a.put o.dst v ∧ (∃ g, v = .slice (some ⟨g, 0, none⟩) 1 1 ∧ Blk w' g (u8A h) 29) ∧ Below w.heap.size w w') Q := by
  obtain ⟨i, z, hi, hzz, hzs, hsz, hby⟩ := hash_parts
  refine wp_buildSlice (P := Tryd.prog) 33 29 1 #[(0, x)] ho (u8A h) i z Tryd.underlying33 hi hzz (by rw [hsz]; decide) (by rw [hsz]; decide) ?_
    ⟨_, rfl, ⟨_, rfl, Blk.new _ _ _⟩, (Below.refl _ _).alloc (Nat.le_refl _) _⟩
  rw [hsz]
  have e : ((#[(0, x)] : Array (Nat × Operand)).map fun (i, x) => (i, a.eval x)).toList = [(0, .agg (u8A h))] := by simp [hx]
  rw [e]
  exact fill_hash (u8A h) ((u8A_size _).trans hl) _ (by simp)
theorem Boxed.below {W W' : World} {B : Nat} {t : TypeId} {v : Value} (hb : Below W.heap.size W W') (h : Boxed W B t v) : Boxed W' B t v := (hb.block B h.lt).trans h
theorem run_array_at (b off : Nat) (W : World) : (Instr.arrayAt 29 (.slice (some ⟨b, off, none⟩) 32 32)).run Tryd.prog W = .ok (.pointer (some ⟨b, off, none⟩)) W := by
  simp [Instr.arrayAt, run_underlying Tryd.underlying29]
/-- What a round does that appends a hash to a boxed row. -/
theorem round9 {W w' w7 : World} {B n₀ k m : Nat} {v v' : Value} {xs ys : List Value} (hb : Below W.heap.size W w') (hv : Boxed W B 33 v) (hrow : w'.ownsRow n₀ 29 32 v k xs) (hn₀ : n₀ ≤ W.heap.size) (hB : n₀ ≤ B) (hown : w7.ownsRow n₀ 29 32 v' m ys) (hg : w'.grownBy w7 v.ownBlock) :
    Boxed w7 B 33 v ∧ Boxed (w7.setCell ⟨B, 0, none⟩ v') B 33 v' ∧ (w7.setCell ⟨B, 0, none⟩ v').ownsRow n₀ 29 32 v' m ys ∧ KeepsOthers W (w7.setCell ⟨B, 0, none⟩ v') ∧ Below n₀ W (w7.setCell ⟨B, 0, none⟩ v') ∧
      ∀ {T : TypeId} {u : Value} {Bx : Nat}, Bx ≠ B → T ≠ 29 → Boxed W Bx T u → Boxed (w7.setCell ⟨B, 0, none⟩ v') Bx T u := by
  have hne : 33 ≠ 29 := by decide
  have hv' := Boxed.below hb hv
  have hv1 : Boxed w7 B 33 v := hv'.kept hg (hv'.not_row hne hrow)
  refine ⟨hv1, hv1.set v', hown.kept (grownBy_setCell' w7 B v') (.inr (hv1.not_row hne hown).symm), ?_, ?_, ?_⟩
  · have k1 : KeepsOthers W w' := ⟨hb.size, fun k o hk _ => (hb.block k (Array.getElem?_eq_some_iff.1 hk).1).trans hk⟩
    refine (k1.trans (KeepsOthers.of_grownBy hg fun j o ej hj => ?_)).trans (KeepsOthers.setCell _ _ _)
    rcases hrow.2 with ⟨rfl, _⟩ | ⟨g, cap, cur, rfl, _, hgb, _⟩
    · simp [Value.ownBlock] at ej
    · obtain rfl : g = j := by simpa [Value.ownBlock] using ej
      rw [hgb] at hj; cases hj; rfl
  · exact ((hb.mono hn₀).grown hg (Nat.le_trans hn₀ hb.size) (fun j ej => (hrow.lt j ej).1)).setCell (p := ⟨B, 0, none⟩) hB v'
  · intro T u Bx hBx hT h
    have h2 := Boxed.below hb h
    exact (h2.kept hg (h2.not_row hT hrow)).kept (grownBy_setCell' w7 B v') (fun e => hBx (by cases e; rfl))
/-- The hashes that have come. -/
def hsL {K : Nat} (bl : List UInt8) (pre : List { x : Nat // x < K }) : List (List UInt8) := pre.map fun x => chunkL bl x.1
theorem hsL_len {K : Nat} (bl : List UInt8) (pre : List { x : Nat // x < K }) : (hsL bl pre).length = pre.length := List.length_map _
theorem hsL_snoc {K : Nat} (bl : List UInt8) (pre : List { x : Nat // x < K }) (x : { x : Nat // x < K }) : hsL bl (pre ++ [x]) = hsL bl pre ++ [chunkL bl x.1] := by simp [hsL]
theorem hsL_32 {K : Nat} {bl : List UInt8} (h : bl.length = 32 * K) (pre : List { x : Nat // x < K }) : ∀ r ∈ hsL bl pre, r.length = 32 := fun r hr => by
  obtain ⟨x, _, rfl⟩ := List.mem_map.1 hr
  exact chunkL_len h x.2
theorem hsL_all {K : Nat} (bl : List UInt8) {pre : List { x : Nat // x < K }} (h : pre.map (·.1) = List.range K) : hsL bl pre = atL (chunkL bl) K := by
  unfold hsL atL
  rw [← h, List.map_map]
  rfl
theorem rows_own (B n₀ : Nat) {K : Nat} (bl : List UInt8) : Own (fun (s : List { x : Nat // x < K }) W => ∃ v, Boxed W B 33 v ∧ W.ownsRow n₀ 29 32 v s.length ((hsL bl s).flatMap Lib.byteCells)) := by
  rintro s X Y row ⟨v, hv, hr⟩ hg hrow
  obtain ⟨v', a, b, _⟩ := holdsRow_own n₀ B 33 29 32 (fun (s : List { x : Nat // x < K }) => s.length) (fun s => (hsL bl s).flatMap Lib.byteCells) (fun _ _ => True) s X Y row ⟨v, hv, hr, trivial⟩ hg hrow
  exact ⟨v', a, b⟩
theorem Own.both {β : Type} {I I' : β → World → Prop} (h : Own I) (h' : Own I') : Own (fun s W => I s W ∧ I' s W) := fun s W W' row hs hg hr => ⟨h s W W' row hs.1 hg hr, h' s W W' row hs.2 hg hr⟩
set_option maxRecDepth 100000 in
set_option maxHeartbeats 4000000 in
theorem phashesof9_any (A : Option Addr) (n c K : Nat) (bl : List UInt8) (w : World) (hn : bl.length = n) (hc : n ≤ c) (h1 : n ≤ 100000) (hK : n = 32 * K) (hr : Rd w w.heap.size A bl) :
    Calls Tryd.prog 66 #[.slice A n c] w fun e w' => ∃ v, e = .returned v ∧ OwnH w' w.heap.size v (atL (chunkL bl) K) ∧ Below w.heap.size w w' := by
  have hbo : ∃ b off, (0 < n → A = some ⟨b, off, none⟩) ∧ (0 < n → b < w.heap.size) ∧ ∀ x, x < K → w.rangeAt b (off + 32 * x) (Lib.byteCells (chunkL bl x)) := by
    rcases hr with h0 | ⟨b, off, hA, hb, hcs⟩
    · rw [h0] at hn
      exact ⟨0, 0, fun h => by simp at hn; omega, fun h => by simp at hn; omega, fun x hx => by simp at hn; omega⟩
    · refine ⟨b, off, fun _ => hA, fun _ => hb, fun x hx j u hu => ?_⟩
      have hjl : j < (Lib.byteCells (chunkL bl x)).length := (List.getElem?_eq_some_iff.1 hu).1
      rw [Lib.byteCells_length, chunkL_len (by rw [hn, hK]) hx] at hjl
      have e : (chunkL bl x)[j]? = bl[32 * x + j]? := by
        unfold chunkL
        rw [List.getElem?_take, if_pos hjl, List.getElem?_drop]
      have hlt : 32 * x + j < bl.length := by omega
      have h2 := hcs (32 * x + j) hlt
      rw [show off + 32 * x + j = off + (32 * x + j) by omega]
      rw [h2]
      rw [← hu]
      unfold Lib.byteCells
      rw [List.getElem?_map, e, List.getElem?_eq_getElem hlt]
      rfl
  obtain ⟨b, off, hA, hbw, hrg⟩ := hbo
  have HBL := Lib.hid (show bl.length = 32 * K by rw [hn, hK])
  have HRG := Lib.hid hrg
  have HKK := Lib.hid hK
  have HBW := Lib.hid hbw
  clear hrg hr hn hbw hK
  refine (callsIn_wide (n := 6)).1 ?_
  refine callsIn_of_wp_marks Tryd.func66 rfl trivial ?_ rfl
  simp only [Tryd.ntmps66, List.size_toArray, List.length_cons, List.length_nil, Nat.reduceAdd, Nat.reduceSub, Array.replicate_succ, Array.replicate_zero, List.push_toArray, List.append_toArray, List.nil_append, List.cons_append]
  gi_wp2_with (refine ⟨trivial, ?_⟩; gi_at_call 102; refine (chunk_in _ _ _ _ _).mono ?_; rintro e w' ⟨rfl, rfl⟩)
  have bO := (((Boxed.new w 33 (.slice none 0 0)).alloc (.cells #[.slice A n c] 24))).alloc (.cells #[.int .i64 32] 3)
  have hB0 : Below w.heap.size w (((w.alloc (.cells #[.slice none 0 0] 33)).alloc (.cells #[.slice A n c] 24)).alloc (.cells #[.int .i64 32] 3)) := (((Below.refl _ w).alloc (Nat.le_refl _) _).alloc (by simp) _).alloc (by simp; omega) _
  have bS := (Boxed.new (w.alloc (.cells #[.slice none 0 0] 33)) 24 (.slice A n c)).alloc (.cells #[.int .i64 32] 3)
  have bN := Boxed.new ((w.alloc (.cells #[.slice none 0 0] 33)).alloc (.cells #[.slice A n c] 24)) 3 (.int .i64 32)
  rw [World.size_alloc] at bS
  rw [World.size_alloc, World.size_alloc] at bN
  obtain ⟨g3, hg3⟩ : ∃ g, w.heap.size = g := ⟨_, rfl⟩
  obtain ⟨gs, hgs⟩ : ∃ g, w.heap.size + 1 = g := ⟨_, rfl⟩
  obtain ⟨gn, hgn⟩ : ∃ g, w.heap.size + 1 + 1 = g := ⟨_, rfl⟩
  have HG3 := Lib.hid hg3
  have HGG := Lib.hid (show g3 + 1 = gs ∧ g3 + 2 = gn by omega)
  have hsz0 : (((w.alloc (.cells #[.slice none 0 0] 33)).alloc (.cells #[.slice A n c] 24)).alloc (.cells #[.int .i64 32] 3)).heap.size = w.heap.size + 3 := by simp
  generalize hw0 : ((w.alloc (.cells #[.slice none 0 0] 33)).alloc (.cells #[.slice A n c] 24)).alloc (.cells #[.int .i64 32] 3) = w0 at *
  rw [hgs] at bS
  rw [hgn] at bN
  have HS0 := Lib.hid hsz0
  rw [hgn, hgs]
  rw [hg3] at bO
  have hlts : gs < w0.heap.size := bS.lt
  have hltn : gn < w0.heap.size := bN.lt
  have HB0 := Lib.hid hB0
  have HG3' : w.heap.size = g3 := hg3
  clear hw0 hsz0 hgs hgn hg3
  rw [HG3'] at hB0 ⊢
  refine wpIn_rangeFunc_ownG rfl (by decide) (gf := 122) (lb := #[.pointer (some ⟨gs, 0, none⟩), .pointer (some ⟨gn, 0, none⟩)]) rfl trivial (enters_of Tryd.func122 (by kernel_rfl) rfl)
    (chunk_stops (6 - 1) (by decide) gs gn b off n c K A hA HKK.out h1 hc w0 hlts hltn bS.cell bN.cell) kpC_t (kpC_b hlts hltn) (Below.refl _ _) (fun _ => rfl)
    (fun pre W => ((∃ v, Boxed W g3 33 v ∧ W.ownsRow g3 29 32 v pre.length ((hsL bl pre).flatMap Lib.byteCells)) ∧ Boxed W gs 24 (.slice A n c) ∧ Boxed W gn 3 (.int .i64 32)) ∧ Below g3 w W)
    (fun _ _ _ => False)
    (OwnFrom.and (Own.from (Own.both (rows_own g3 g3 bl) (Own.both (boxed_own gs 24 (fun _ => .slice A n c)) (boxed_own gn 3 (fun _ => .int .i64 32)))) _) (ownFrom_below (by omega) (by have := HS0.out; omega)))
    (fun _ _ _ _ _ hs _ _ => hs)
    ⟨⟨⟨_, bO, World.ownsRow_nil _ _ _ _⟩, bS, bN⟩, hB0⟩
    (fun x => { tmps := #[.slice A n c, undef, .slice none 0 0, .pointer (some ⟨g3, 0, none⟩), .slice (some ⟨b, off + 32 * x.1, none⟩) 32 32, .slice A n c, .func (.func 122) #[] #[.pointer (some ⟨gs, 0, none⟩), .pointer (some ⟨gn, 0, none⟩)], .slice (some ⟨b, off + 32 * x.1, none⟩) 32 32, undef, undef, undef, undef, undef, undef, undef], defers := [] }) ?assign ?body ?done ?stop
  case assign =>
    intro l x W K hK
    gi_wp2
    exact hK
  case body =>
    rintro l pre x W ⟨⟨⟨v, hv, hrow⟩, hbs, hbn⟩, hB⟩ hlt
    obtain ⟨Av, cv, rfl, _, _⟩ := OwnH.form (hs := hsL bl pre) (B := g3) (w := W) ⟨hsL_32 HBL.out pre, by rw [hsL_len]; exact hrow⟩ (hsL_len bl pre)
    obtain ⟨xv, hxv⟩ : ∃ y, chunkL bl x.1 = y := ⟨_, rfl⟩
    obtain ⟨Y, hY⟩ : ∃ y, u8A xv = y := ⟨_, rfl⟩
    have HXV := Lib.hid hxv
    have HXE := Lib.hid hY
    have HXL := Lib.hid (show xv.length = 32 by rw [← hxv]; exact chunkL_len HBL.out x.2)
    have HRX := Lib.hid (fun W' (hW : Below W.heap.size W W') => (show W'.rangeAt b (off + 32 * x.1) (Lib.byteCells xv) from by
      rw [← hxv]
      have h0 : b < g3 := by
        have h2 := HBW.out (by have := HKK.out; have := x.2; omega)
        omega
      exact rangeAt_keep (HRG.out x.1 x.2) fun j => (hB.trans (hW.mono (by have := hB.size; omega))).cell (p := ⟨b, _, none⟩) h0))
    have HVC := Lib.hid (fun W' (hW : Below W.heap.size W W') => (show W'.cell? ⟨g3, 0, none⟩ = some (.slice Av pre.length cv) from (hW.cell (p := ⟨g3, 0, none⟩) hv.lt).trans hv.cell))
    have hpl : pre.length ≤ 10000 := by have := HKK.out; omega
    clear hxv hY
    gi_wp2
    refine wpIn_region_loose 5 2 (fun i => false) (promises [.is (.slice Av pre.length cv), .is (.slice (some ⟨b, off + 32 * x.1, none⟩) 32 32), .is (.pointer (some ⟨b, off + 32 * x.1, none⟩)), .is (.agg Y), .hb xv]) (by kernel_rfl) rfl (by kernel_rfl) (fun i v w w' h hb => Spec.keep h hb) ⟨?_, ?_, ?_, ?_, ?_, trivial⟩ ?_ (by rintro ⟨_, _, h⟩; exact h) (by kernel_rfl)
    · refine StepOKl.of ?_
      intro ac w hb hu hk
      refine ⟨wanted_none rfl, ?_⟩
      have e3 : ac.eval (.tmp 3) = .pointer (some ⟨g3, 0, none⟩) := hu.is (t := 3) (by kernel_rfl)
      have hc := HVC.out w hb
      refine step_value (w' := w) (v := .slice Av pre.length cv) ?_ (Below.refl _ _) rfl
      generalize ac.eval = ρ at e3 ⊢
      go_simp
    · refine StepOKl.of ?_
      intro ac w hb hu hk
      refine ⟨wanted_none rfl, ?_⟩
      have e4 : ac.eval (.tmp 4) = .slice (some ⟨b, off + 32 * x.1, none⟩) 32 32 := hu.is (t := 4) (by kernel_rfl)
      exact step_value (BigFrame.run_move (.tmp 4) rfl w) (Below.refl _ _) e4
    · refine StepOKl.of ?_
      intro ac w hb hu hk
      refine ⟨wanted_none rfl, ?_⟩
      have e9 : ac.eval (.tmp 9) = (.slice (some ⟨b, off + 32 * x.1, none⟩) 32 32) := (hk ⟨1, .data⟩ (by simp) rfl).is rfl rfl
      refine step_value (w' := w) (v := .pointer (some ⟨b, off + 32 * x.1, none⟩)) ?_ (Below.refl _ _) rfl
      have hq := run_array_at b (off + 32 * x.1) w
      generalize ac.eval = ρ at e9 ⊢
      go_simp
    · refine StepOKl.of ?_
      intro ac w hb hu hk
      refine ⟨wanted_none rfl, ?_⟩
      have e10 : ac.eval (.tmp 10) = (.pointer (some ⟨b, off + 32 * x.1, none⟩)) := (hk ⟨2, .data⟩ (by simp) rfl).is rfl rfl
      exact step_value (run_load_hash (.tmp 10) rfl b (off + 32 * x.1) e10 xv HXL.out (HRX.out w hb) HXE.out) (Below.refl _ _) rfl
    · refine StepOKl.of ?_
      intro ac w hb hu hk
      refine ⟨wanted_none rfl, ?_⟩
      have e11 : ac.eval (.tmp 11) = (.agg Y) := (hk ⟨3, .data⟩ (by simp) rfl).is rfl rfl
      exact step_build_blk rfl xv HXL.out (by rw [HXE.out]; exact e11)
    · intro ac w' hb hu hk hap
      obtain ⟨_, h8, rfl⟩ := (hk 0 (by decide)).put rfl rfl
      obtain ⟨_, h9, rfl⟩ := (hk 1 (by decide)).put rfl rfl
      obtain ⟨_, h10, rfl⟩ := (hk 2 (by decide)).put rfl rfl
      obtain ⟨_, h11, rfl⟩ := (hk 3 (by decide)).put rfl rfl
      obtain ⟨_, h12, ⟨g12, rfl, hG12⟩⟩ := (hk 4 (by decide)).put rfl rfl
      clear hap
      have hF : AllPuts ac.tmps ((8, _) :: (9, _) :: (10, _) :: (11, _) :: (12, _) :: []) := ⟨h8, h9, h10, h11, h12, trivial⟩
      obtain rfl := frame_puts hu (by kernel_rfl) hF
      simp only [puts, Act.put, List.setIfInBounds_toArray, List.set_cons_zero, List.set_cons_succ, List.drop_succ_cons, List.drop_zero]
      clear hk hu hF h8 h9 h10 h11 h12
      have HBX := Lib.hid hG12
      have HRW := Lib.hid (show OwnH w' g3 (.slice Av pre.length cv) (hsL bl pre) from ⟨hsL_32 HBL.out pre, by rw [hsL_len]; exact own_keepK hrow hb⟩)
      have HBB := Lib.hid hb
      have hvw := (hb.cell (p := ⟨g3, 0, none⟩) hv.lt).trans hv.cell
      have hvf := ((Boxed.below hb hv).frozen)
      have hB3 : g3 ≤ W.heap.size := by have := hB.size; omega
      have hsz : g3 ≤ w'.heap.size := Nat.le_trans hB3 hb.size
      clear hb hG12
      go_wp2_with (at_builtin; refine wpList_append_hashG rfl _ _ rfl g3 _ (hsL bl pre) rfl HRW.out g12 xv HXL.out HBX.out rfl (by rw [hsL_len]; omega) hsz ?_)
      intro v7 w7 hown7 hg7
      obtain ⟨q1, q2, q3, q4, q5, q6⟩ := round9 HBB.out hv HRW.out.2 hB3 (Nat.le_refl _) hown7.2 hg7
      rw [show (hsL bl pre ++ [xv]) = hsL bl (pre ++ [x]) by rw [hsL_snoc, HXV.out]] at q3
      rw [hsL_len] at q3
      have q9 := q3
      rw [List.length_append, List.length_singleton] at q9
      obtain ⟨g', cap', rfl⟩ := ownsRow_succ q9
      clear q9
      have hc7 := q1.cell
      have hf7 := q1.frozen
      go_wp2_with fail
      have hb1 := q6 (show gs ≠ g3 by have := HGG.out; omega) (by decide) hbs
      have hb2 := q6 (show gn ≠ g3 by have := HGG.out; omega) (by decide) hbn
      exact ⟨q4.from _, ⟨hb1.cell.trans hbs.cell.symm, hb2.cell.trans hbn.cell.symm⟩, ⟨⟨_, q2, q3⟩, hb1, hb2⟩, hB.trans q5⟩
  case done =>
    rintro D ys W hD hys ⟨⟨⟨v, hv, hrow⟩, _, _⟩, hB⟩ hK
    have hc := hv.cell
    gi_wp2
    refine ⟨by simp, .inl ⟨_, _, rfl, run_takeDeferred hK, ?_⟩⟩
    rw [HG3']
    refine ⟨_, results_tmp rfl _ _ _, v, rfl, ?_, hB.trans (belowK_b (w := w) (Nat.le_of_eq HG3.out.symm) W D _ _ (by have := HS0.out; omega) hK rfl rfl)⟩
    rw [← hsL_all bl hys]
    exact ⟨hsL_32 HBL.out ys, by rw [hsL_len]; exact ownsRow_putObj hrow _ hK rfl⟩
  case stop =>
    rintro D c pre W _ _ h _
    exact h.elim
end Go.Proofs.YtfgieebccjoboaaDoor
