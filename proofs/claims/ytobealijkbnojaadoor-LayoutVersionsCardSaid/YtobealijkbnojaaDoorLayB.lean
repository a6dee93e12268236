/- Layouts and versions: copies into their arrays, what is built, loads, two compared; number, isCode. -/
import Derived.Test.YtobealijkbnojaaDoorLayA
import Derived.Deep.CutRange
import Derived.Laws.CopyOwn
namespace Go.Proofs.YtobealijkbnojaaDoor
open Go.RowKit
set_option maxRecDepth 100000

/-! Copies into the arrays -/
theorem f14L_laysX {p : Nat} {u : F14} (h : u.wf p) (l : List UInt8) (hl : l.length ≤ p) : splice (f14L u) 4 (Lib.byteCells l) = f14L { u with x := l ++ u.x.drop l.length } := by
  obtain ⟨a, b, c, d, x, y⟩ := u
  have h1 : x.length = p := h.1
  unfold splice f14L
  simp only [List.take_succ_cons, List.take_zero, Lib.byteCells_length, List.cons_append, List.nil_append]
  rw [show 4 + l.length = (((l.length + 1) + 1) + 1) + 1 by omega]
  simp only [List.drop_succ_cons]
  rw [List.drop_append_of_le_length (by rw [Lib.byteCells_length]; omega)]
  simp [Lib.byteCells, List.map_drop]
theorem f14L_laysY {p : Nat} {u : F14} (h : u.wf p) (l : List UInt8) (hl : l.length ≤ 32) : splice (f14L u) (4 + p) (Lib.byteCells l) = f14L { u with y := l ++ u.y.drop l.length } := by
  obtain ⟨a, b, c, d, x, y⟩ := u
  have h1 : x.length = p := h.1
  have h2 : y.length = 32 := h.2
  unfold splice f14L
  simp only [Lib.byteCells_length]
  rw [show 4 + p = (((p + 1) + 1) + 1) + 1 by omega, show p + 1 + 1 + 1 + 1 + l.length = ((((p + l.length) + 1) + 1) + 1) + 1 by omega]
  simp only [List.take_succ_cons, List.drop_succ_cons]
  rw [List.take_append_of_le_length (by rw [Lib.byteCells_length]; omega), List.take_of_length_le (by rw [Lib.byteCells_length]; omega), List.drop_append, List.drop_of_length_le (by rw [Lib.byteCells_length]; omega), Lib.byteCells_length, h1, show p + l.length - p = l.length by omega]
  simp [Lib.byteCells, List.map_drop]
/-- Bytes laid over noughts. -/
theorem lay_pad (n : Nat) (l : List UInt8) : l.take n ++ (List.replicate n (0 : UInt8)).drop (l.take n).length = pad14 n l := by
  unfold pad14
  rw [List.take_append, List.take_replicate, List.drop_replicate, List.length_take]
  congr 2
  omega
theorem wpList_copy_x14 {w : World} {ops : Array Oper} {rest : List Oper} {o : Oper} {a : Act} {Q : Exit → Act → World → Prop} (hgd : o.guard = none) (d s : Operand)
    (ho : o.op = .call { callee := .builtin .copy, args := #[d, s], argTypes := #[24, 24] }) (T : TypeId) (p g : Nat) (u : F14) (hF : FAt T p w g u) (hx0 : u.x = List.replicate p 0)
    (C : Nat) (A : Option Addr) (m e : Nat) (l : List UInt8) (hd : a.eval d = .slice (some ⟨g, 4, none⟩) p p) (hs : a.eval s = .slice A m e) (hl : l.length = m) (hr : Rd w C A l) (B : Nat) (w0 : World) (hb : Below B w0 w) (hBg : B ≤ g)
    (h : ∀ w', FAt T p w' g { u with x := pad14 p l } → Below B w0 w' → wpList Tryd.prog ops Q rest (a.put o.dst (goInt ((min m p : Nat) : Int))) w') : wpList Tryd.prog ops Q (o :: rest) a w := by
  subst hl
  have hlen : (Lib.byteCells (l.take p)).length = min l.length p := by rw [Lib.byteCells_length, List.length_take, Nat.min_comm]
  refine wpList_copy_splice hgd d s 24 24 ho 5 Tryd.underlying24 (by kernel_rfl) (some ⟨g, 4, none⟩) A p p l.length e hd hs g 4 (f14L u) T hF.blk (Lib.byteCells (l.take p)) hlen (fun hpos => ?_) (by rw [hlen, f14L_len hF.wf]; omega) (Lib.byteCells_one _) B w0 hb hBg fun w' hg hbb => ?_
  · refine ⟨rfl, ?_⟩
    have hn0 : l ≠ [] := by rintro rfl; simp [Lib.byteCells] at hpos
    obtain ⟨ad, rfl⟩ : ∃ ad, A = some ad := by
      rcases hr with hr | ⟨b, o', hA, _⟩
      · exact absurd hr hn0
      · exact ⟨_, hA⟩
    exact ⟨ad, rfl, (hr.take _).cells⟩
  · have hg' := hg.out
    rw [f14L_laysX hF.wf _ (by rw [List.length_take]; omega), hx0, lay_pad] at hg'
    have := h w' ⟨hg', by rw [F14.wf]; exact ⟨pad14_len _ _, hF.wf.2⟩⟩ hbb
    rwa [hlen]
theorem wpList_copy_y14 {w : World} {ops : Array Oper} {rest : List Oper} {o : Oper} {a : Act} {Q : Exit → Act → World → Prop} (hgd : o.guard = none) (d s : Operand)
    (ho : o.op = .call { callee := .builtin .copy, args := #[d, s], argTypes := #[24, 24] }) (T : TypeId) (p g : Nat) (u : F14) (hF : FAt T p w g u) (hy0 : u.y = List.replicate 32 0)
    (C : Nat) (A : Option Addr) (m e : Nat) (l : List UInt8) (hd : a.eval d = .slice (some ⟨g, 4 + p, none⟩) 32 32) (hs : a.eval s = .slice A m e) (hl : l.length = m) (hr : Rd w C A l) (B : Nat) (w0 : World) (hb : Below B w0 w) (hBg : B ≤ g)
    (h : ∀ w', FAt T p w' g { u with y := pad14 32 l } → Below B w0 w' → wpList Tryd.prog ops Q rest (a.put o.dst (goInt ((min m 32 : Nat) : Int))) w') : wpList Tryd.prog ops Q (o :: rest) a w := by
  subst hl
  have hlen : (Lib.byteCells (l.take 32)).length = min l.length 32 := by rw [Lib.byteCells_length, List.length_take, Nat.min_comm]
  refine wpList_copy_splice hgd d s 24 24 ho 5 Tryd.underlying24 (by kernel_rfl) (some ⟨g, 4 + p, none⟩) A 32 32 l.length e hd hs g (4 + p) (f14L u) T hF.blk (Lib.byteCells (l.take 32)) hlen (fun hpos => ?_) (by rw [hlen, f14L_len hF.wf]; omega) (Lib.byteCells_one _) B w0 hb hBg fun w' hg hbb => ?_
  · refine ⟨rfl, ?_⟩
    have hn0 : l ≠ [] := by rintro rfl; simp [Lib.byteCells] at hpos
    obtain ⟨ad, rfl⟩ : ∃ ad, A = some ad := by
      rcases hr with hr | ⟨b, o', hA, _⟩
      · exact absurd hr hn0
      · exact ⟨_, hA⟩
    exact ⟨ad, rfl, (hr.take _).cells⟩
  · have hg' := hg.out
    rw [f14L_laysY hF.wf _ (by rw [List.length_take]; omega), hy0, lay_pad] at hg'
    have := h w' ⟨hg', by rw [F14.wf]; exact ⟨hF.wf.1, pad14_len _ _⟩⟩ hbb
    rwa [hlen]

/-! What is built, loaded -/
theorem zero14_wf (p : Nat) : (zero14 p).wf p := ⟨List.length_replicate, List.length_replicate⟩
theorem built_U0 : Tryd.prog.built 40 [] = some (f14A (zero14 32)) := by kernel_rfl
theorem built_V0 : Tryd.prog.built 57 [] = some (f14A (zero14 16)) := by kernel_rfl
theorem built_U4 (a b c d : Int) : Tryd.prog.built 40 [(0, .int .i64 a), (1, .int .i64 b), (2, .int .i64 c), (3, .int .i64 d)] = some (f14A ⟨a, b, c, d, List.replicate 32 0, List.replicate 32 0⟩) := by kernel_rfl
theorem built_V4 (a b c d : Int) : Tryd.prog.built 57 [(0, .int .i64 a), (1, .int .i64 b), (2, .int .i64 c), (3, .int .i64 d)] = some (f14A ⟨a, b, c, d, List.replicate 16 0, List.replicate 32 0⟩) := by kernel_rfl
theorem size_U : (Tryd.prog.info? 40).map (·.size) = some 68 := by kernel_rfl
theorem size_V : (Tryd.prog.info? 57).map (·.size) = some 52 := by kernel_rfl
theorem wpList_build_14 {w : World} {ops : Array Oper} {rest : List Oper} {o : Oper} {a : Act} {Q : Exit → Act → World → Prop} (hw : Region.wanted o (yielded ops a.tmps) = true) (T : TypeId) (xs : Array (Nat × Operand)) (ho : o.op = .build T xs) (L : List (Nat × Value)) (hL : (xs.map fun (i, x) => (i, a.eval x)).toList = L)
    (Z Y : Array Value) (hb : Tryd.prog.built T L = some Y) (hZ : Y = Z)
    (hk : wpList Tryd.prog ops Q rest (a.put o.dst (.agg Z)) w) : wpList Tryd.prog ops Q (o :: rest) a w := by
  subst hZ
  refine wpList_step fun K hK => ?_
  rw [if_pos hw]
  have hb' : Tryd.prog.built T (xs.map fun (i, x) => (i, a.eval x)).toList = some Y := by rw [hL]; exact hb
  refine wp_build (P := Tryd.prog) T xs ho (by rw [hb']; rfl) ?_
  rw [hb']
  exact hK _ _ hk
theorem results_cell_tmp14 {P : Program} {fn : Func} {p q : Tmp} {ty : TypeId} (h : fn.results = #[.cell p ty, .tmp q]) (tmps : Array Value) (w : World) (g : Nat) (t : TypeId) (cs : Array Value) (fr : Nat × Nat) (d : TypeDesc) (v : Value)
    (hp : tmps.getD p undef = .pointer (some ⟨g, 0, none⟩)) (hv : tmps.getD q undef = v) (hg : w.heap[g]? = some (.cells cs t fr))
    (hu : P.underlying ty = some d) (hd : (match d with | .struct _ | .array _ _ => true | _ => false) = true) (hi : (P.info? ty).map (·.size) = some cs.size) :
    (results fn tmps).run P w = .ok (.tuple #[.agg cs, v]) w := by
  have hp' : tmps[p]?.getD undef = .pointer (some ⟨g, 0, none⟩) := by simpa using hp
  have hv' : tmps[q]?.getD undef = v := by simpa using hv
  simp [results, h, hp', hv', asAddr, run_loadVar_row w g t ty cs fr d hg hu hd hi]

section
variable {P : Program}
theorem wpList_load_when14 {w : World} {ops : Array Oper} {rest : List Oper} {o : Oper} {a : Act} {Q : Exit → Act → World → Prop} (hw : Region.wanted o (yielded ops a.tmps) = true) (ty : TypeId) (x : Operand) (ho : o.op = .load ty x)
    (g : Nat) (hx : a.eval x = .pointer (some ⟨g, 0, none⟩)) (t : TypeId) (cs : Array Value) (d : TypeDesc) (hg : Blk w g cs t) (hu : P.underlying ty = some d) (hd : (match d with | .struct _ | .array _ _ => true | _ => false) = true) (hi : (P.info? ty).map (·.size) = some cs.size)
    (hk : wpList P ops Q rest (a.put o.dst (.agg cs)) w) : wpList P ops Q (o :: rest) a w :=
  wpList_step fun K hK => by
    rw [if_pos hw]
    exact wp_load_row ty x ho g hx t cs (0, 0) d hg hu hd hi (hK _ _ hk)
end
/-! number, isCode -/
theorem pnumber_any (A : Option Addr) (n c B : Nat) (l : List UInt8) (w : World) (hn : l.length = n) (h1 : n ≤ maxLen) (ha : Rd w B A l) :
    Calls Tryd.prog 43 #[.slice A n c] w fun e w' => e = .returned (.int .i64 (get14 l : Int)) ∧ w = w' := by
  have hg := get_any A n c B l w hn h1 ha
  have e : (if n ≤ 7 then getL l else 0 : Nat) = get14 l := by unfold get14; rw [hn]
  rw [e] at hg
  generalize get14 l = G at *
  generalize decide (n ≤ 7) = D at *
  go_enter Tryd.func43, Tryd.ntmps43
  go_wp2_with (refine hg.mono ?_; rintro e w2 ⟨rfl, rfl⟩)
  go_ret
  exact ⟨rfl, rfl⟩
theorem piscode_any (k n : Int) (w : World) : Calls Tryd.prog 44 #[.int .i64 k, .int .i64 n] w fun e w' => e = .returned (.bool (decide (1 ≤ k ∧ k ≤ n ∧ n ≤ 16))) ∧ w = w' := by
  go_enter Tryd.func44, Tryd.ntmps44
  by_cases h1 : 1 ≤ k
  · by_cases h2 : k ≤ n
    · by_cases h3 : n ≤ 16
      · go_wp2_with fail
        go_ret
        refine ⟨?_, rfl⟩
        simp_all <;> omega
      · go_wp2_with fail
        go_ret
        refine ⟨?_, rfl⟩
        simp_all <;> omega
    · go_wp2_with fail
      go_ret
      refine ⟨?_, rfl⟩
      simp_all <;> omega
  · go_wp2_with fail
    go_ret
    refine ⟨?_, rfl⟩
    simp_all <;> omega

/-! Two of them, one and the same -/
theorem part_int (w : World) (xs : Array Value) (i : Nat) (v : Int) (h : xs[i]? = some (.int .i64 v)) : (part 3 xs i).run Tryd.prog w = .ok (.int .i64 v) w := by
  simp [part, isAgg, run_underlying Tryd.underlying3, h]
theorem part_arr (T : TypeId) (n : Nat) (e : TypeId) (hu : Tryd.prog.underlying T = some (.array n e)) (hs : (Tryd.prog.info? T).map (·.size) = some n) (w : World) (xs : Array Value) (o : Nat) (l : List UInt8) (h : xs.extract o (o + n) = u8A l) : (part T xs o).run Tryd.prog w = .ok (.agg (u8A l)) w := by
  have hs2 : (sizeOf T).run Tryd.prog w = .ok n w := by
    cases hq : Tryd.prog.info? T with
    | none => rw [hq] at hs; simp at hs
    | some j =>
      rw [run_sizeOf w hq]
      rw [hq] at hs
      simp only [Option.map_some, Option.some.injEq] at hs
      rw [show Tryd.prog.cellsOf T = n by simp [Program.cellsOf, hq, hs]]
  simp only [part, isAgg, Sem.run_bind, run_underlying hu, Result.andThen_ok, Sem.run_pure, if_true, hs2, h]
theorem f14A_exX {p : Nat} {u : F14} (h : u.wf p) : (f14A u).extract 4 (4 + p) = u8A u.x := by
  apply Array.ext'
  unfold f14A f14L u8A
  simp only [List.extract_toArray, List.extract_eq_take_drop, List.drop_succ_cons, List.drop_zero]
  rw [show 4 + p - 4 = p by omega, List.take_append_of_le_length (by rw [Lib.byteCells_length, h.1]; exact Nat.le_refl _), List.take_of_length_le (by rw [Lib.byteCells_length, h.1]; exact Nat.le_refl _)]
theorem f14A_exY {p : Nat} {u : F14} (h : u.wf p) : (f14A u).extract (4 + p) (4 + p + 32) = u8A u.y := by
  apply Array.ext'
  unfold f14A f14L u8A
  simp only [List.extract_toArray, List.extract_eq_take_drop]
  rw [show 4 + p + 32 - (4 + p) = 32 by omega, show 4 + p = (((p + 1) + 1) + 1) + 1 by omega]
  simp only [List.drop_succ_cons]
  rw [List.drop_append, List.drop_of_length_le (by rw [Lib.byteCells_length, h.1]; exact Nat.le_refl _), Lib.byteCells_length, h.1, Nat.sub_self, List.drop_zero, List.nil_append, List.take_of_length_le (by rw [Lib.byteCells_length, h.2]; exact Nat.le_refl _)]
/-! Six rows in memory -/
theorem BV14.at_ {w : World} {B : Nat} {A : Option Addr} {l : List UInt8} {c : Nat} (h1 : l.length ≤ c) (h2 : c ≤ maxLen) (h3 : Rd w B A l) (hB : B ≤ w.heap.size) : BV14 w A l.length c l := ⟨rfl, h1, h2, h3.more hB⟩
theorem six_of {w : World} {A : Option Addr} {r0 r1 r2 r3 r4 r5 : List UInt8} (h : RdR w w.heap.size A [r0, r1, r2, r3, r4, r5]) :
    ∃ g o A0 A1 A2 A3 A4 A5 c0 c1 c2 c3 c4 c5, A = some ⟨g, o, none⟩ ∧ g < w.heap.size ∧
      (w.cell? ⟨g, o, none⟩ = some (.slice A0 r0.length c0) ∧ w.cell? ⟨g, o + 1, none⟩ = some (.slice A1 r1.length c1) ∧ w.cell? ⟨g, o + 2, none⟩ = some (.slice A2 r2.length c2) ∧ w.cell? ⟨g, o + 3, none⟩ = some (.slice A3 r3.length c3) ∧ w.cell? ⟨g, o + 4, none⟩ = some (.slice A4 r4.length c4) ∧ w.cell? ⟨g, o + 5, none⟩ = some (.slice A5 r5.length c5)) ∧
      BV14 w A0 r0.length c0 r0 ∧ BV14 w A1 r1.length c1 r1 ∧ BV14 w A2 r2.length c2 r2 ∧ BV14 w A3 r3.length c3 r3 ∧ BV14 w A4 r4.length c4 r4 ∧ BV14 w A5 r5.length c5 r5 := by
  rcases h with h | ⟨g, o, rfl, hg, hc⟩
  · simp at h
  · obtain ⟨A0, c0, a0, b0, d0, e0⟩ := hc 0 (by simp)
    obtain ⟨A1, c1, a1, b1, d1, e1⟩ := hc 1 (by simp)
    obtain ⟨A2, c2, a2, b2, d2, e2⟩ := hc 2 (by simp)
    obtain ⟨A3, c3, a3, b3, d3, e3⟩ := hc 3 (by simp)
    obtain ⟨A4, c4, a4, b4, d4, e4⟩ := hc 4 (by simp)
    obtain ⟨A5, c5, a5, b5, d5, e5⟩ := hc 5 (by simp)
    exact ⟨g, o, A0, A1, A2, A3, A4, A5, c0, c1, c2, c3, c4, c5, rfl, hg, ⟨a0, a1, a2, a3, a4, a5⟩, .at_ b0 d0 e0 (Nat.le_refl _), .at_ b1 d1 e1 (Nat.le_refl _), .at_ b2 d2 e2 (Nat.le_refl _), .at_ b3 d3 e3 (Nat.le_refl _), .at_ b4 d4 e4 (Nat.le_refl _), .at_ b5 d5 e5 (Nat.le_refl _)⟩
theorem run_build_14 {P : Program} {w : World} {ρ : Operand → Value} {o : Oper} (T : TypeId) (xs : Array (Nat × Operand)) (ho : o.op = .build T xs) (L : List (Nat × Value)) (hL : (xs.map fun (i, x) => (i, ρ x)).toList = L) (Y Z : Array Value) (hb : P.built T L = some Y) (hZ : Y = Z) : (execOp ρ o).run P w = .ok (.value (.agg Z)) w := by
  subst hZ
  unfold execOp
  simp only [ho, Sem.run_bind, Sem.run_pure]
  rw [run_build w T _ Y (by rw [hL]; exact hb)]
  rfl
theorem zero_U (w : World) : (zeroValue 40).run Tryd.prog w = .ok (.agg (f14A (zero14 32))) w := by kernel_rfl
theorem zero_V (w : World) : (zeroValue 57).run Tryd.prog w = .ok (.agg (f14A (zero14 16))) w := by kernel_rfl
theorem equal14_any (A B : Option Addr) (n m c d C D : Nat) (l k : List UInt8) (w : World) (hn : l.length = n) (hm : k.length = m) (ha : Rd w C A l) (hb : Rd w D B k) :
    Calls Tryd.prog 45 #[.slice A n c, .slice B m d] w fun e w' => e = .returned (.bool (l == k)) ∧ w = w' := by
  have h1 := run_string_rd (P := Tryd.prog) 24 9 5 Tryd.underlying24 Tryd.underlying5 Tryd.underlying9 _ _ n c l hn ha
  have h2 := run_string_rd (P := Tryd.prog) 24 9 5 Tryd.underlying24 Tryd.underlying5 Tryd.underlying9 _ _ m d k hm hb
  go_enter Tryd.func45, Tryd.ntmps45
  go_wp2_with fail
  go_ret
  exact ⟨rfl, rfl⟩
theorem FAt.start {T : TypeId} {p : Nat} {w w' : World} {g : Nat} {u : F14} (hg : Blk w g (f14A u) T) (hw : u.wf p) (h : w = w') : FAt T p w' g u := by subst h; exact ⟨hg, hw⟩
end Go.Proofs.YtobealijkbnojaaDoor
