/- Explanations that are built of their parts. -/
import Derived.Test.YtfgieebccjoboaaDoorMssTr
import Derived.Test.YtfgieebccjoboaaDoorMpK
import Derived.Test.YtfgieebccjoboaaDoorLaw
namespace Go.Proofs.YtfgieebccjoboaaDoor
open Go.RowKit

/-- An explanation of nothing (as in XMpX: a law takes this text or that one). -/
def forge0 : Array Value := forgeA none none 0 0 0 0 false 0 0 0 zeroH
theorem forge0_size : forge0.size = 38 := by unfold forge0 forgeA; rw [Array.size_append, u8A_size]; rfl
theorem forgeA_one (A B : Option Addr) (n c m d : Nat) (lk : Bool) (lf ch pl : Int) (v : List UInt8) : (forgeA A B n c m d lk lf ch pl v).all (·.oneCell') = true := by
  unfold forgeA
  rw [Array.all_append, u8A_one]
  simp [Value.oneCell']
theorem proofV_len9 (sd : List UInt8) (k i : Nat) : (proofV (pubsL sd (2 ^ k)) i).length = k := by rw [proofV_len, pubsL_len, tree.high_pow]
/-- A leak, as cells. -/
abbrev leakA (lf ch pl : Int) (v : List UInt8) : Array Value := forgeA none none 0 0 0 0 true lf ch pl v
theorem built_leak_p (lf ch pl : Int) (v : List UInt8) (hv : v.length = 32) : Tryd.prog.built 43 [(1, .bool true), (2, .int .i64 lf), (3, .int .i64 ch), (4, .int .i64 pl), (5, .agg (u8A v))] = some (leakA lf ch pl v) := by
  rcases v with _ | ⟨x0, v⟩
  · simp at hv
  rcases v with _ | ⟨x1, v⟩
  · simp at hv
  rcases v with _ | ⟨x2, v⟩
  · simp at hv
  rcases v with _ | ⟨x3, v⟩
  · simp at hv
  rcases v with _ | ⟨x4, v⟩
  · simp at hv
  rcases v with _ | ⟨x5, v⟩
  · simp at hv
  rcases v with _ | ⟨x6, v⟩
  · simp at hv
  rcases v with _ | ⟨x7, v⟩
  · simp at hv
  rcases v with _ | ⟨x8, v⟩
  · simp at hv
  rcases v with _ | ⟨x9, v⟩
  · simp at hv
  rcases v with _ | ⟨x10, v⟩
  · simp at hv
  rcases v with _ | ⟨x11, v⟩
  · simp at hv
  rcases v with _ | ⟨x12, v⟩
  · simp at hv
  rcases v with _ | ⟨x13, v⟩
  · simp at hv
  rcases v with _ | ⟨x14, v⟩
  · simp at hv
  rcases v with _ | ⟨x15, v⟩
  · simp at hv
  rcases v with _ | ⟨x16, v⟩
  · simp at hv
  rcases v with _ | ⟨x17, v⟩
  · simp at hv
  rcases v with _ | ⟨x18, v⟩
  · simp at hv
  rcases v with _ | ⟨x19, v⟩
  · simp at hv
  rcases v with _ | ⟨x20, v⟩
  · simp at hv
  rcases v with _ | ⟨x21, v⟩
  · simp at hv
  rcases v with _ | ⟨x22, v⟩
  · simp at hv
  rcases v with _ | ⟨x23, v⟩
  · simp at hv
  rcases v with _ | ⟨x24, v⟩
  · simp at hv
  rcases v with _ | ⟨x25, v⟩
  · simp at hv
  rcases v with _ | ⟨x26, v⟩
  · simp at hv
  rcases v with _ | ⟨x27, v⟩
  · simp at hv
  rcases v with _ | ⟨x28, v⟩
  · simp at hv
  rcases v with _ | ⟨x29, v⟩
  · simp at hv
  rcases v with _ | ⟨x30, v⟩
  · simp at hv
  rcases v with _ | ⟨x31, v⟩
  · simp at hv
  rcases v with _ | ⟨y, v⟩
  · kernel_rfl
  · simp at hv
set_option maxHeartbeats 4000000 in
theorem wp_build_leak_p {o : Oper} {a : Act} {w : World} {K : Act → World → Prop} {Q : Exit → Act → World → Prop} (x2 x3 x4 x5 : Operand) (ho : o.op = .build 43 #[(1, .const (.bool true)), (2, x2), (3, x3), (4, x4), (5, x5)])
    (lf ch pl : Int) (v : List UInt8) (hv : v.length = 32) (V : Array Value) (hV : u8A v = V) (h2 : a.eval x2 = .int .i64 lf) (h3 : a.eval x3 = .int .i64 ch) (h4 : a.eval x4 = .int .i64 pl) (h5 : a.eval x5 = .agg V) (FA : Array Value) (hF : leakA lf ch pl v = FA)
    (h : K (a.put o.dst (.agg FA)) w) : o.wp Tryd.prog a w K Q := by
  subst hV
  have hb : Tryd.prog.built 43 ((#[(1, .const (.bool true)), (2, x2), (3, x3), (4, x4), (5, x5)] : Array (Nat × Operand)).map fun (i, x) => (i, a.eval x)).toList = some FA := by
    rw [← hF]
    simp only [List.map_toArray, List.map_cons, List.map_nil, h2, h3, h4, h5]
    exact built_leak_p lf ch pl v hv
  refine wp_build (P := Tryd.prog) 43 _ ho (by rw [hb]; rfl) ?_
  rw [hb]
  exact h
theorem wpList_build_leak_p {w : World} {ops : Array Oper} {rest : List Oper} {o : Oper} {a : Act} {Q : Exit → Act → World → Prop} (hgd : o.guard = none) (x2 x3 x4 x5 : Operand) (ho : o.op = .build 43 #[(1, .const (.bool true)), (2, x2), (3, x3), (4, x4), (5, x5)])
    (lf ch pl : Int) (v : List UInt8) (hv : v.length = 32) (V : Array Value) (hV : u8A v = V) (h2 : a.eval x2 = .int .i64 lf) (h3 : a.eval x3 = .int .i64 ch) (h4 : a.eval x4 = .int .i64 pl) (h5 : a.eval x5 = .agg V) (FA : Array Value) (hF : leakA lf ch pl v = FA)
    (hk : wpList Tryd.prog ops Q rest (a.put o.dst (.agg FA)) w) : wpList Tryd.prog ops Q (o :: rest) a w :=
  wpList_plain hgd fun _ hK => wp_build_leak_p x2 x3 x4 x5 ho lf ch pl v hv V hV h2 h3 h4 h5 FA hF (hK _ _ hk)
theorem built_leak_r (lf ch pl : Int) (v : List UInt8) (hv : v.length = 32) : Tryd.prog.built 50 [(1, .bool true), (2, .int .i64 lf), (3, .int .i64 ch), (4, .int .i64 pl), (5, .agg (u8A v))] = some (leakA lf ch pl v) := by
  rcases v with _ | ⟨x0, v⟩
  · simp at hv
  rcases v with _ | ⟨x1, v⟩
  · simp at hv
  rcases v with _ | ⟨x2, v⟩
  · simp at hv
  rcases v with _ | ⟨x3, v⟩
  · simp at hv
  rcases v with _ | ⟨x4, v⟩
  · simp at hv
  rcases v with _ | ⟨x5, v⟩
  · simp at hv
  rcases v with _ | ⟨x6, v⟩
  · simp at hv
  rcases v with _ | ⟨x7, v⟩
  · simp at hv
  rcases v with _ | ⟨x8, v⟩
  · simp at hv
  rcases v with _ | ⟨x9, v⟩
  · simp at hv
  rcases v with _ | ⟨x10, v⟩
  · simp at hv
  rcases v with _ | ⟨x11, v⟩
  · simp at hv
  rcases v with _ | ⟨x12, v⟩
  · simp at hv
  rcases v with _ | ⟨x13, v⟩
  · simp at hv
  rcases v with _ | ⟨x14, v⟩
  · simp at hv
  rcases v with _ | ⟨x15, v⟩
  · simp at hv
  rcases v with _ | ⟨x16, v⟩
  · simp at hv
  rcases v with _ | ⟨x17, v⟩
  · simp at hv
  rcases v with _ | ⟨x18, v⟩
  · simp at hv
  rcases v with _ | ⟨x19, v⟩
  · simp at hv
  rcases v with _ | ⟨x20, v⟩
  · simp at hv
  rcases v with _ | ⟨x21, v⟩
  · simp at hv
  rcases v with _ | ⟨x22, v⟩
  · simp at hv
  rcases v with _ | ⟨x23, v⟩
  · simp at hv
  rcases v with _ | ⟨x24, v⟩
  · simp at hv
  rcases v with _ | ⟨x25, v⟩
  · simp at hv
  rcases v with _ | ⟨x26, v⟩
  · simp at hv
  rcases v with _ | ⟨x27, v⟩
  · simp at hv
  rcases v with _ | ⟨x28, v⟩
  · simp at hv
  rcases v with _ | ⟨x29, v⟩
  · simp at hv
  rcases v with _ | ⟨x30, v⟩
  · simp at hv
  rcases v with _ | ⟨x31, v⟩
  · simp at hv
  rcases v with _ | ⟨y, v⟩
  · kernel_rfl
  · simp at hv
set_option maxHeartbeats 4000000 in
theorem wp_build_leak_r {o : Oper} {a : Act} {w : World} {K : Act → World → Prop} {Q : Exit → Act → World → Prop} (x2 x3 x4 x5 : Operand) (ho : o.op = .build 50 #[(1, .const (.bool true)), (2, x2), (3, x3), (4, x4), (5, x5)])
    (lf ch pl : Int) (v : List UInt8) (hv : v.length = 32) (V : Array Value) (hV : u8A v = V) (h2 : a.eval x2 = .int .i64 lf) (h3 : a.eval x3 = .int .i64 ch) (h4 : a.eval x4 = .int .i64 pl) (h5 : a.eval x5 = .agg V) (FA : Array Value) (hF : leakA lf ch pl v = FA)
    (h : K (a.put o.dst (.agg FA)) w) : o.wp Tryd.prog a w K Q := by
  subst hV
  have hb : Tryd.prog.built 50 ((#[(1, .const (.bool true)), (2, x2), (3, x3), (4, x4), (5, x5)] : Array (Nat × Operand)).map fun (i, x) => (i, a.eval x)).toList = some FA := by
    rw [← hF]
    simp only [List.map_toArray, List.map_cons, List.map_nil, h2, h3, h4, h5]
    exact built_leak_r lf ch pl v hv
  refine wp_build (P := Tryd.prog) 50 _ ho (by rw [hb]; rfl) ?_
  rw [hb]
  exact h
theorem wpList_build_leak_r {w : World} {ops : Array Oper} {rest : List Oper} {o : Oper} {a : Act} {Q : Exit → Act → World → Prop} (hgd : o.guard = none) (x2 x3 x4 x5 : Operand) (ho : o.op = .build 50 #[(1, .const (.bool true)), (2, x2), (3, x3), (4, x4), (5, x5)])
    (lf ch pl : Int) (v : List UInt8) (hv : v.length = 32) (V : Array Value) (hV : u8A v = V) (h2 : a.eval x2 = .int .i64 lf) (h3 : a.eval x3 = .int .i64 ch) (h4 : a.eval x4 = .int .i64 pl) (h5 : a.eval x5 = .agg V) (FA : Array Value) (hF : leakA lf ch pl v = FA)
    (hk : wpList Tryd.prog ops Q rest (a.put o.dst (.agg FA)) w) : wpList Tryd.prog ops Q (o :: rest) a w :=
  wpList_plain hgd fun _ hK => wp_build_leak_r x2 x3 x4 x5 ho lf ch pl v hv V hV h2 h3 h4 h5 FA hF (hK _ _ hk)
theorem built_leak2 (v : List UInt8) (hv : v.length = 32) : Tryd.prog.built 43 [(1, .bool true), (2, .int .i64 2), (5, .agg (u8A v))] = some (leakA 2 0 0 v) := by
  rcases v with _ | ⟨x0, v⟩
  · simp at hv
  rcases v with _ | ⟨x1, v⟩
  · simp at hv
  rcases v with _ | ⟨x2, v⟩
  · simp at hv
  rcases v with _ | ⟨x3, v⟩
  · simp at hv
  rcases v with _ | ⟨x4, v⟩
  · simp at hv
  rcases v with _ | ⟨x5, v⟩
  · simp at hv
  rcases v with _ | ⟨x6, v⟩
  · simp at hv
  rcases v with _ | ⟨x7, v⟩
  · simp at hv
  rcases v with _ | ⟨x8, v⟩
  · simp at hv
  rcases v with _ | ⟨x9, v⟩
  · simp at hv
  rcases v with _ | ⟨x10, v⟩
  · simp at hv
  rcases v with _ | ⟨x11, v⟩
  · simp at hv
  rcases v with _ | ⟨x12, v⟩
  · simp at hv
  rcases v with _ | ⟨x13, v⟩
  · simp at hv
  rcases v with _ | ⟨x14, v⟩
  · simp at hv
  rcases v with _ | ⟨x15, v⟩
  · simp at hv
  rcases v with _ | ⟨x16, v⟩
  · simp at hv
  rcases v with _ | ⟨x17, v⟩
  · simp at hv
  rcases v with _ | ⟨x18, v⟩
  · simp at hv
  rcases v with _ | ⟨x19, v⟩
  · simp at hv
  rcases v with _ | ⟨x20, v⟩
  · simp at hv
  rcases v with _ | ⟨x21, v⟩
  · simp at hv
  rcases v with _ | ⟨x22, v⟩
  · simp at hv
  rcases v with _ | ⟨x23, v⟩
  · simp at hv
  rcases v with _ | ⟨x24, v⟩
  · simp at hv
  rcases v with _ | ⟨x25, v⟩
  · simp at hv
  rcases v with _ | ⟨x26, v⟩
  · simp at hv
  rcases v with _ | ⟨x27, v⟩
  · simp at hv
  rcases v with _ | ⟨x28, v⟩
  · simp at hv
  rcases v with _ | ⟨x29, v⟩
  · simp at hv
  rcases v with _ | ⟨x30, v⟩
  · simp at hv
  rcases v with _ | ⟨x31, v⟩
  · simp at hv
  rcases v with _ | ⟨y, v⟩
  · kernel_rfl
  · simp at hv
theorem wp_build_leak2 {o : Oper} {a : Act} {w : World} {K : Act → World → Prop} {Q : Exit → Act → World → Prop} (x5 : Operand) (ho : o.op = .build 43 #[(1, .const (.bool true)), (2, .const (.int .i64 2)), (5, x5)])
    (v : List UInt8) (hv : v.length = 32) (V : Array Value) (hV : u8A v = V) (h5 : a.eval x5 = .agg V) (FA : Array Value) (hF : leakA 2 0 0 v = FA)
    (h : K (a.put o.dst (.agg FA)) w) : o.wp Tryd.prog a w K Q := by
  subst hV
  have hb : Tryd.prog.built 43 ((#[(1, .const (.bool true)), (2, .const (.int .i64 2)), (5, x5)] : Array (Nat × Operand)).map fun (i, x) => (i, a.eval x)).toList = some FA := by
    rw [← hF]
    simp only [List.map_toArray, List.map_cons, List.map_nil, h5]
    exact built_leak2 v hv
  refine wp_build (P := Tryd.prog) 43 _ ho (by rw [hb]; rfl) ?_
  rw [hb]
  exact h
theorem leakA_size {lf ch pl : Int} {v : List UInt8} (hv : v.length = 32) : (leakA lf ch pl v).size = 38 := by unfold leakA forgeA; rw [Array.size_append, u8A_size, hv]; rfl
theorem zero_forge9 (w : World) : (zeroValue 43).run Tryd.prog w = .ok (.agg forge0) w := by kernel_rfl
/-- What a leaf's own message leaves of its chain is no leak. -/
theorem leak_was (sd : List UInt8) {l : Nat} (hl : l < 2) {ch : Nat} {m : List UInt8} (hm : m ≠ []) (v : List UInt8) :
    decide (holdsX sd 1 (oneL 2 l m) true (l : Int) (ch : Int) (((digH (msgH m)).getD ch 0 : Nat) : Int) v [] []) = false := by
  refine decide_eq_false fun h => ?_
  have hmsg : msgV (oneL 2 l m) 1 (l : Int) = m := by
    rw [msgV_in (by show (l : Int) < ((2 : Nat) : Int); omega)]
    unfold signedV
    rw [if_neg (by omega), Int.toNat_natCast, oneL_at m hl]
  rcases h.2.2.2 with h | ⟨_, h⟩
  · simp [isBr] at h
  · rw [hmsg] at h
    rcases h.2 with h | h
    · exact hm h
    · rw [Int.toNat_natCast, Int.toNat_natCast] at h
      omega
theorem leak_is (sd : List UInt8) {l k : Nat} (hk : k < 2) (hlk : l ≠ k) {ch : Nat} (hch : ch < 67) {m : List UInt8} {d : Nat} (hd : d ≤ 15) :
    decide (holdsX sd 1 (oneL 2 l m) true (k : Int) (ch : Int) (d : Int) (alongH d (startH sd (k : Int) (ch : Int))) [] []) = true := by
  have hmsg : msgV (oneL 2 l m) 1 (k : Int) = [] := by
    rw [msgV_in (by show (k : Int) < ((2 : Nat) : Int); omega)]
    unfold signedV
    rw [if_neg (by omega), Int.toNat_natCast, oneL_off m hlk]
  refine decide_eq_true ⟨⟨by omega, by show (k : Int) < ((2 : Nat) : Int); omega⟩, ⟨by omega, by omega⟩, ⟨by omega, by omega⟩, .inr ⟨rfl, ?_, .inl hmsg⟩⟩
  rw [Int.toNat_natCast]
theorem leak_out (sd : List UInt8) (rows : List (List UInt8)) (v : List UInt8) : decide (holdsX sd 1 rows true 2 0 0 v [] []) = false :=
  decide_eq_false fun h => by
    have := h.1.2
    have h2 : cntN 1 = 2 := rfl
    rw [h2] at this
    omega
theorem leak_both (sd : List UInt8) (rows : List (List UInt8)) (lf ch pl : Int) (v : List UInt8) : decide (holdsX sd 1 rows true lf ch pl v [] []) = decide (holdsP sd 1 rows true lf ch pl v [] []) := by
  refine decide_eq_decide.2 ⟨fun ⟨⟨a1, a2⟩, ⟨b1, b2⟩, ⟨c1, c2⟩, h⟩ => ⟨a1, a2, b1, b2, c1, c2, ?_⟩, fun ⟨a1, a2, b1, b2, c1, c2, h⟩ => ⟨⟨a1, a2⟩, ⟨b1, b2⟩, ⟨c1, c2⟩, .inr ⟨rfl, ?_⟩⟩⟩
  · rw [if_pos rfl]
    rcases h with h | ⟨_, h⟩
    · simp [isBr] at h
    · unfold secP at h
      rwa [msgV_in a2] at h
  · rw [if_pos rfl] at h
    unfold secP
    rwa [msgV_in a2]
end Go.Proofs.YtfgieebccjoboaaDoor
