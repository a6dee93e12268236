/- Layouts and versions as values of a law: two compared, one handed in. -/
import Derived.Test.YtobealijkbnojaaDoorLayB
import Derived.Test.YtobealijkbnojaaDoorHashB2
import Derived.ChangeArms
namespace Go.Proofs.YtobealijkbnojaaDoor
open Go.RowKit Go.ChangeShapes Go.WideShapes Go.ChangeAt Go.Deep
set_option maxRecDepth 100000

theorem un14_wf {ws : Nat × Nat × Nat × Nat} {p : Nat} {ok : F14 → Prop} [DecidablePred ok] (b : List UInt8) : ((un14 ws p ok b).getD (zero14 p)).wf p := by
  unfold un14
  split
  · split
    · exact ⟨pad14_len _ _, pad14_len _ _⟩
    · exact zero14_wf p
  · exact zero14_wf p
theorem unU_wf (b : List UInt8) : ((unU b).getD (zero14 32)).wf 32 := un14_wf b
theorem unV_wf (b : List UInt8) : ((unV b).getD (zero14 16)).wf 16 := un14_wf b
theorem netL_short {l : List UInt8} (h : l.length ≤ 99) : (netL l).length ≤ l.length + 4 := by
  rw [netL_eq]
  have h2 : (Lib.decDigits l.length).length ≤ 2 := by
    by_cases h10 : l.length < 10
    · rw [Lib.decDigits_one h10]; simp
    · rw [Lib.decDigits_two h10 (by omega)]; simp
  simp
  omega
theorem rows14_len {ws : Nat × Nat × Nat × Nat} {p : Nat} {u : F14} (hw : u.wf p) (hp : p ≤ 32) (h : ws.1 ≤ 4 ∧ ws.2.1 ≤ 4 ∧ ws.2.2.1 ≤ 4 ∧ ws.2.2.2 ≤ 4) : (netsL (u.rows ws)).length ≤ 104 := by
  have h4 := netL_short (l := u.x) (by have := hw.1; omega)
  have h5 := netL_short (l := u.y) (by have := hw.2; omega)
  have g0 := netL_short (l := putL (putN u.a) ws.1) (by rw [putL_length]; omega)
  have g1 := netL_short (l := putL (putN u.b) ws.2.1) (by rw [putL_length]; omega)
  have g2 := netL_short (l := putL (putN u.c) ws.2.2.1) (by rw [putL_length]; omega)
  have g3 := netL_short (l := putL (putN u.d) ws.2.2.2) (by rw [putL_length]; omega)
  rw [putL_length] at g0 g1 g2 g3
  have := hw.1
  have := hw.2
  simp only [F14.rows, netsL, List.map_cons, List.map_nil, List.flatten_cons, List.flatten_nil, List.length_append, List.length_nil]
  omega
theorem packU_len {u : F14} (hw : u.wf 32) : (packU u).length ≤ 1000 := by
  have := rows14_len (ws := wsU) hw (by omega) (by decide)
  unfold packU
  omega
theorem packV_len {u : F14} (hw : u.wf 16) : (packV u).length ≤ 1000 := by
  have := rows14_len (ws := wsV) hw (by omega) (by decide)
  unfold packV
  omega
theorem f14A_at (u : F14) : (f14A u)[0]? = some (.int .i64 u.a) ∧ (f14A u)[1]? = some (.int .i64 u.b) ∧ (f14A u)[2]? = some (.int .i64 u.c) ∧ (f14A u)[3]? = some (.int .i64 u.d) := ⟨rfl, rfl, rfl, rfl⟩
theorem hashSize14 : (Tryd.prog.info? 26).map (·.size) = some 32 := by kernel_rfl
theorem keySize14 : (Tryd.prog.info? 23).map (·.size) = some 16 := by kernel_rfl
theorem run_key_same14 (W : World) (d : Nat) (x : List UInt8) (hx : x.length = 16) : (Op.equalIn (d + 2) 23 (.agg (u8A x)) (.agg (u8A x))).run Tryd.prog W = .ok true W := by
  obtain ⟨i, hi, _⟩ := infoByte
  rw [run_equalIn_array W (d + 1) (u8A x) (u8A x) Tryd.underlying23 hi, show Tryd.prog.cellsOf 5 = 1 from by kernel_rfl, run_items W x x d _ (fun j hj => by have := List.mem_range.1 hj; omega), all_upto 16 x x hx hx, decide_eq_true rfl]
theorem run_hash_same14 (W : World) (d : Nat) (x : List UInt8) (hx : x.length = 32) : (Op.equalIn (d + 2) 26 (.agg (u8A x)) (.agg (u8A x))).run Tryd.prog W = .ok true W := by
  obtain ⟨i, hi, _⟩ := infoByte
  rw [run_equalIn_array W (d + 1) (u8A x) (u8A x) Tryd.underlying26 hi, show Tryd.prog.cellsOf 5 = 1 from by kernel_rfl, run_items W x x d _ (fun j hj => by have := List.mem_range.1 hj; omega), all_upto 32 x x hx hx, decide_eq_true rfl]
theorem run_ueb_same (W : World) (u : F14) (hw : u.wf 32) : (Op.equalIn 10000 40 (.agg (f14A u)) (.agg (f14A u))).run Tryd.prog W = .ok true W := by
  have hS : Tryd.prog.underlying 40 = some (.struct (Tryd.prog.fieldsOf 40)) := by kernel_rfl
  have hp : Tryd.prog.stoodInHeld 40 = false := by kernel_rfl
  obtain ⟨a0, a1, a2, a3⟩ := f14A_at u
  have h4 := fun (w : World) => part_arr 26 32 _ Tryd.underlying26 hashSize14 w (f14A u) 4 u.x (f14A_exX hw)
  have h5 := fun (w : World) => part_arr 26 32 _ Tryd.underlying26 hashSize14 w (f14A u) 36 u.y (f14A_exY hw)
  rw [show (10000 : Nat) = 9999 + 1 from rfl, run_equalIn_agg W 9999 40 _ _ hS hp]
  simp only [Program.fieldsOf, Tryd.underlying40]
  simp [Op.eqFields, part_int _ _ _ _ a0, part_int _ _ _ _ a1, part_int _ _ _ _ a2, part_int _ _ _ _ a3, h4, h5, run_equalIn_int _ 9998 3 .i64 .i64 _ _ Tryd.underlying3, run_hash_same14 _ 9997 u.x hw.1, run_hash_same14 _ 9997 u.y hw.2]
theorem run_version_same (W : World) (u : F14) (hw : u.wf 16) : (Op.equalIn 10000 57 (.agg (f14A u)) (.agg (f14A u))).run Tryd.prog W = .ok true W := by
  have hS : Tryd.prog.underlying 57 = some (.struct (Tryd.prog.fieldsOf 57)) := by kernel_rfl
  have hp : Tryd.prog.stoodInHeld 57 = false := by kernel_rfl
  obtain ⟨a0, a1, a2, a3⟩ := f14A_at u
  have h4 := fun (w : World) => part_arr 23 16 _ Tryd.underlying23 keySize14 w (f14A u) 4 u.x (f14A_exX hw)
  have h5 := fun (w : World) => part_arr 26 32 _ Tryd.underlying26 hashSize14 w (f14A u) 20 u.y (f14A_exY hw)
  rw [show (10000 : Nat) = 9999 + 1 from rfl, run_equalIn_agg W 9999 57 _ _ hS hp]
  simp only [Program.fieldsOf, Tryd.underlying57]
  simp [Op.eqFields, part_int _ _ _ _ a0, part_int _ _ _ _ a1, part_int _ _ _ _ a2, part_int _ _ _ _ a3, h4, h5, run_equalIn_int _ 9998 3 .i64 .i64 _ _ Tryd.underlying3, run_key_same14 _ 9997 u.x hw.1, run_hash_same14 _ 9997 u.y hw.2]

theorem take_one14 {l : List Value} {i : Nat} {v : Value} (h : List.take 1 (List.drop i l) = [v]) : l.drop i = v :: l.drop (i + 1) := by
  rw [← List.drop_drop]
  generalize List.drop i l = r at *
  cases r with
  | nil => simp at h
  | cons x r => simp at h; subst h; simp
theorem open_ueb {H : Type} {enc : TypeId × Value → H} {W : World} {r : Reach} {base : Nat} {v : Value} {d : DataW H} {p : List MemPlace} (hval : Value.okWide Tryd.prog W r base 40 v) (h : DataW.Trod enc Tryd.prog W 0 (fun _ => true) true 40 v d p) :
    ∃ u : F14, v = .agg (f14A u) ∧ u.wf 32 ∧ u.bd := by
  obtain ⟨cs, rfl, hsz⟩ : ∃ cs, v = .agg cs ∧ cs.size = Tryd.prog.cellsOf 40 := by
    unfold Value.okWide at hval
    rw [Tryd.underlying40] at hval
    obtain ⟨cs, h1, h2, _⟩ := hval
    exact ⟨cs, h1, h2⟩
  have h4 : Tryd.prog.cellsOf 40 = 68 := by kernel_rfl
  rw [h4] at hsz
  obtain ⟨l⟩ := cs
  have hsz : l.length = 68 := hsz
  obtain ⟨fuel, hf⟩ := h
  obtain ⟨xs, n, _, hx, hl, hlen, hall⟩ := DataW.trod_struct Tryd.underlying40 hf
  have e1 : Tryd.prog.cellsOf 3 = 1 := by kernel_rfl
  have e4 : Tryd.prog.cellsOf 26 = 32 := by kernel_rfl
  have k0 : DataW.trod enc Tryd.prog W 0 (fun _ => true) true n 3 (List.take 1 (List.drop 0 l)) = xs[0]? := by
    have h := hall 0 _ rfl
    change DataW.trod enc Tryd.prog W 0 (fun _ => true) true n 3 (List.take (Tryd.prog.cellsOf 3) (List.drop 0 l)) = xs[0]? at h
    rw [e1] at h
    exact h
  have k1 : DataW.trod enc Tryd.prog W 0 (fun _ => true) true n 3 (List.take 1 (List.drop 1 l)) = xs[1]? := by
    have h := hall 1 _ rfl
    change DataW.trod enc Tryd.prog W 0 (fun _ => true) true n 3 (List.take (Tryd.prog.cellsOf 3) (List.drop 1 l)) = xs[1]? at h
    rw [e1] at h
    exact h
  have k2 : DataW.trod enc Tryd.prog W 0 (fun _ => true) true n 3 (List.take 1 (List.drop 2 l)) = xs[2]? := by
    have h := hall 2 _ rfl
    change DataW.trod enc Tryd.prog W 0 (fun _ => true) true n 3 (List.take (Tryd.prog.cellsOf 3) (List.drop 2 l)) = xs[2]? at h
    rw [e1] at h
    exact h
  have k3 : DataW.trod enc Tryd.prog W 0 (fun _ => true) true n 3 (List.take 1 (List.drop 3 l)) = xs[3]? := by
    have h := hall 3 _ rfl
    change DataW.trod enc Tryd.prog W 0 (fun _ => true) true n 3 (List.take (Tryd.prog.cellsOf 3) (List.drop 3 l)) = xs[3]? at h
    rw [e1] at h
    exact h
  have k4 : DataW.trod enc Tryd.prog W 0 (fun _ => true) true n 26 (List.take 32 (List.drop 4 l)) = xs[4]? := by
    have h := hall 4 _ rfl
    change DataW.trod enc Tryd.prog W 0 (fun _ => true) true n 26 (List.take (Tryd.prog.cellsOf 26) (List.drop 4 l)) = xs[4]? at h
    rw [e4] at h
    exact h
  have k5 : DataW.trod enc Tryd.prog W 0 (fun _ => true) true n 26 (List.take 32 (List.drop 36 l)) = xs[5]? := by
    have h := hall 5 _ rfl
    change DataW.trod enc Tryd.prog W 0 (fun _ => true) true n 26 (List.take (Tryd.prog.cellsOf 26) (List.drop 36 l)) = xs[5]? at h
    rw [e4] at h
    exact h
  match xs, hlen with
  | [y0, y1, y2, y3, y4, y5], _ =>
    simp only [List.getElem?_cons_zero, List.getElem?_cons_succ] at k0 k1 k2 k3 k4 k5
    obtain ⟨a, q0, w0⟩ := DataW.trod_int Tryd.underlying3 k0
    obtain ⟨b, q1, w1⟩ := DataW.trod_int Tryd.underlying3 k1
    obtain ⟨c, q2, w2⟩ := DataW.trod_int Tryd.underlying3 k2
    obtain ⟨dd, q3, w3⟩ := DataW.trod_int Tryd.underlying3 k3
    obtain ⟨x, q4, l4⟩ := array_cells Tryd.underlying26 (by simp [hsz]) k4
    obtain ⟨y, q5, l5⟩ := array_cells Tryd.underlying26 (by simp [hsz]) k5
    refine ⟨⟨a, b, c, dd, x, y⟩, ?_, ⟨l4, l5⟩, ⟨bounds_i64 w0.2, bounds_i64 w1.2, bounds_i64 w2.2, bounds_i64 w3.2⟩⟩
    show Value.agg ⟨l⟩ = Value.agg ⟨f14L _⟩
    congr 2
    have d0 := take_one14 q0
    have d1 := take_one14 q1
    have d2 := take_one14 q2
    have d3 := take_one14 q3
    have d4 : l.drop 4 = Lib.byteCells x ++ l.drop 36 := by
      rw [← q4, show (36 : Nat) = 4 + 32 from rfl, ← List.drop_drop]
      exact (List.take_append_drop 32 _).symm
    have d5 : l.drop 36 = Lib.byteCells y ++ l.drop 68 := by
      rw [← q5, show (68 : Nat) = 36 + 32 from rfl, ← List.drop_drop]
      exact (List.take_append_drop 32 _).symm
    have d6 : l.drop 68 = [] := List.drop_eq_nil_of_le (by omega)
    unfold f14L
    dsimp only
    rw [List.drop_zero] at d0
    rw [d0, d1, d2, d3, d4, d5, d6, List.append_nil]
theorem open_version {H : Type} {enc : TypeId × Value → H} {W : World} {r : Reach} {base : Nat} {v : Value} {d : DataW H} {p : List MemPlace} (hval : Value.okWide Tryd.prog W r base 57 v) (h : DataW.Trod enc Tryd.prog W 0 (fun _ => true) true 57 v d p) :
    ∃ u : F14, v = .agg (f14A u) ∧ u.wf 16 ∧ u.bd := by
  obtain ⟨cs, rfl, hsz⟩ : ∃ cs, v = .agg cs ∧ cs.size = Tryd.prog.cellsOf 57 := by
    unfold Value.okWide at hval
    rw [Tryd.underlying57] at hval
    obtain ⟨cs, h1, h2, _⟩ := hval
    exact ⟨cs, h1, h2⟩
  have h4 : Tryd.prog.cellsOf 57 = 52 := by kernel_rfl
  rw [h4] at hsz
  obtain ⟨l⟩ := cs
  have hsz : l.length = 52 := hsz
  obtain ⟨fuel, hf⟩ := h
  obtain ⟨xs, n, _, hx, hl, hlen, hall⟩ := DataW.trod_struct Tryd.underlying57 hf
  have e1 : Tryd.prog.cellsOf 3 = 1 := by kernel_rfl
  have e3 : Tryd.prog.cellsOf 23 = 16 := by kernel_rfl
  have e4 : Tryd.prog.cellsOf 26 = 32 := by kernel_rfl
  have k0 : DataW.trod enc Tryd.prog W 0 (fun _ => true) true n 3 (List.take 1 (List.drop 0 l)) = xs[0]? := by
    have h := hall 0 _ rfl
    change DataW.trod enc Tryd.prog W 0 (fun _ => true) true n 3 (List.take (Tryd.prog.cellsOf 3) (List.drop 0 l)) = xs[0]? at h
    rw [e1] at h
    exact h
  have k1 : DataW.trod enc Tryd.prog W 0 (fun _ => true) true n 3 (List.take 1 (List.drop 1 l)) = xs[1]? := by
    have h := hall 1 _ rfl
    change DataW.trod enc Tryd.prog W 0 (fun _ => true) true n 3 (List.take (Tryd.prog.cellsOf 3) (List.drop 1 l)) = xs[1]? at h
    rw [e1] at h
    exact h
  have k2 : DataW.trod enc Tryd.prog W 0 (fun _ => true) true n 3 (List.take 1 (List.drop 2 l)) = xs[2]? := by
    have h := hall 2 _ rfl
    change DataW.trod enc Tryd.prog W 0 (fun _ => true) true n 3 (List.take (Tryd.prog.cellsOf 3) (List.drop 2 l)) = xs[2]? at h
    rw [e1] at h
    exact h
  have k3 : DataW.trod enc Tryd.prog W 0 (fun _ => true) true n 3 (List.take 1 (List.drop 3 l)) = xs[3]? := by
    have h := hall 3 _ rfl
    change DataW.trod enc Tryd.prog W 0 (fun _ => true) true n 3 (List.take (Tryd.prog.cellsOf 3) (List.drop 3 l)) = xs[3]? at h
    rw [e1] at h
    exact h
  have k4 : DataW.trod enc Tryd.prog W 0 (fun _ => true) true n 23 (List.take 16 (List.drop 4 l)) = xs[4]? := by
    have h := hall 4 _ rfl
    change DataW.trod enc Tryd.prog W 0 (fun _ => true) true n 23 (List.take (Tryd.prog.cellsOf 23) (List.drop 4 l)) = xs[4]? at h
    rw [e3] at h
    exact h
  have k5 : DataW.trod enc Tryd.prog W 0 (fun _ => true) true n 26 (List.take 32 (List.drop 20 l)) = xs[5]? := by
    have h := hall 5 _ rfl
    change DataW.trod enc Tryd.prog W 0 (fun _ => true) true n 26 (List.take (Tryd.prog.cellsOf 26) (List.drop 20 l)) = xs[5]? at h
    rw [e4] at h
    exact h
  match xs, hlen with
  | [y0, y1, y2, y3, y4, y5], _ =>
    simp only [List.getElem?_cons_zero, List.getElem?_cons_succ] at k0 k1 k2 k3 k4 k5
    obtain ⟨a, q0, w0⟩ := DataW.trod_int Tryd.underlying3 k0
    obtain ⟨b, q1, w1⟩ := DataW.trod_int Tryd.underlying3 k1
    obtain ⟨c, q2, w2⟩ := DataW.trod_int Tryd.underlying3 k2
    obtain ⟨dd, q3, w3⟩ := DataW.trod_int Tryd.underlying3 k3
    obtain ⟨x, q4, l4⟩ := array_cells Tryd.underlying23 (by simp [hsz]) k4
    obtain ⟨y, q5, l5⟩ := array_cells Tryd.underlying26 (by simp [hsz]) k5
    refine ⟨⟨a, b, c, dd, x, y⟩, ?_, ⟨l4, l5⟩, ⟨bounds_i64 w0.2, bounds_i64 w1.2, bounds_i64 w2.2, bounds_i64 w3.2⟩⟩
    show Value.agg ⟨l⟩ = Value.agg ⟨f14L _⟩
    congr 2
    have d0 := take_one14 q0
    have d1 := take_one14 q1
    have d2 := take_one14 q2
    have d3 := take_one14 q3
    have d4 : l.drop 4 = Lib.byteCells x ++ l.drop 20 := by
      rw [← q4, show (20 : Nat) = 4 + 16 from rfl, ← List.drop_drop]
      exact (List.take_append_drop 16 _).symm
    have d5 : l.drop 20 = Lib.byteCells y ++ l.drop 52 := by
      rw [← q5, show (52 : Nat) = 20 + 32 from rfl, ← List.drop_drop]
      exact (List.take_append_drop 32 _).symm
    have d6 : l.drop 52 = [] := List.drop_eq_nil_of_le (by omega)
    unfold f14L
    dsimp only
    rw [List.drop_zero] at d0
    rw [d0, d1, d2, d3, d4, d5, d6, List.append_nil]
end Go.Proofs.YtobealijkbnojaaDoor
