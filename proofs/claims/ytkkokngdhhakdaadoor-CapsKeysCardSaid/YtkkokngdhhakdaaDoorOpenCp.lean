/- A capability handed in: a struct with two arrays and a slice of bytes. -/
import Derived.Test.YtkkokngdhhakdaaDoorCapM
import Derived.Test.YtkkokngdhhakdaaDoorHashB2
import Derived.ChangeArms
namespace Go.Proofs.YtkkokngdhhakdaaDoor
open Go.RowKit Go.ChangeShapes Go.WideShapes Go.ChangeAt Go.Deep

/-- A capability's 53 cells, X its Lit. -/
def capL (c : Cap13) (X : Value) : List Value := Value.int .i64 c.kind :: (Lib.byteCells c.key ++ (Lib.byteCells c.fp ++ [Value.int .i64 c.k, Value.int .i64 c.n, Value.int .i64 c.size, X]))
def capA (c : Cap13) (X : Value) : Array Value := (capL c X).toArray
theorem capL_len {c : Cap13} (hw : c.wf) (X : Value) : (capL c X).length = 53 := by
  unfold capL
  simp [Lib.byteCells_length, hw.1, hw.2]
theorem capA_size {c : Cap13} (hw : c.wf) (X : Value) : (capA c X).size = 53 := by
  unfold capA
  simp [capL_len hw]

def Bd64 (i : Int) : Prop := -9223372036854775808 ≤ i ∧ i ≤ 9223372036854775807
def Cap13.bd (c : Cap13) : Prop := Bd64 c.kind ∧ Bd64 c.k ∧ Bd64 c.n ∧ Bd64 c.size

theorem bytes_trodC {H : Type} {enc : TypeId × Value → H} {W : World} {n : Nat} {c : Value} {x : DataW H × List MemPlace} (h : DataW.trod enc Tryd.prog W 0 (fun _ => true) true n 26 [c] = some x) :
    ∃ A m k l, c = .slice A m k ∧ l.length = m ∧ m ≤ k ∧ k ≤ maxLen ∧ Rd W W.heap.size A l := by
  rcases open_ints Tryd.underlying26 Tryd.underlying5 cellsByte h with ⟨e, _⟩ | ⟨b, len2, cap2, zs, e, _, hl2, hm2, hz2, _, hcell, hwz⟩
  · simp at e
    exact ⟨none, 0, 0, [], e, rfl, Nat.le_refl _, Nat.zero_le _, .inl rfl⟩
  · simp at e
    obtain ⟨l, e1, e2⟩ := rd_of_ints hcell hwz len2 (by simp at hz2; omega)
    exact ⟨some b, len2, cap2, l, e, e1, hl2, hm2, e2⟩

theorem take_one {l : List Value} {i : Nat} {v : Value} (h : List.take 1 (List.drop i l) = [v]) : l.drop i = v :: l.drop (i + 1) := by
  rw [← List.drop_drop]
  generalize List.drop i l = r at *
  cases r with
  | nil => simp at h
  | cons x r => simp at h; subst h; simp
set_option maxRecDepth 100000 in
theorem open_cap {H : Type} {enc : TypeId × Value → H} {W : World} {r : Reach} {base : Nat} {v : Value} {d : DataW H} {p : List MemPlace} (hval : Value.okWide Tryd.prog W r base 28 v) (h : DataW.Trod enc Tryd.prog W 0 (fun _ => true) true 28 v d p) :
    ∃ c A m cc, v = .agg (capA c (.slice A m cc)) ∧ c.wf ∧ c.bd ∧ c.lit.length = m ∧ m ≤ cc ∧ cc ≤ maxLen ∧ Rd W W.heap.size A c.lit := by
  obtain ⟨cs, rfl, hsz⟩ : ∃ cs, v = .agg cs ∧ cs.size = Tryd.prog.cellsOf 28 := by
    unfold Value.okWide at hval
    rw [Tryd.underlying28] at hval
    obtain ⟨cs, h1, h2, _⟩ := hval
    exact ⟨cs, h1, h2⟩
  have h4 : Tryd.prog.cellsOf 28 = 53 := by kernel_rfl
  rw [h4] at hsz
  obtain ⟨l⟩ := cs
  have hsz : l.length = 53 := hsz
  obtain ⟨fuel, hf⟩ := h
  obtain ⟨xs, n, _, hx, hl, hlen, hall⟩ := DataW.trod_struct Tryd.underlying28 hf
  have e1 : Tryd.prog.cellsOf 3 = 1 := by kernel_rfl
  have e2 : Tryd.prog.cellsOf 26 = 1 := by kernel_rfl
  have e3 : Tryd.prog.cellsOf 23 = 16 := by kernel_rfl
  have e4 : Tryd.prog.cellsOf 25 = 32 := by kernel_rfl
  have k0 : DataW.trod enc Tryd.prog W 0 (fun _ => true) true n 3 (List.take 1 (List.drop 0 l)) = xs[0]? := by
    have h := hall 0 _ rfl
    change DataW.trod enc Tryd.prog W 0 (fun _ => true) true n 3 (List.take (Tryd.prog.cellsOf 3) (List.drop 0 l)) = xs[0]? at h
    rw [e1] at h
    exact h
  have k1 : DataW.trod enc Tryd.prog W 0 (fun _ => true) true n 23 (List.take 16 (List.drop 1 l)) = xs[1]? := by
    have h := hall 1 _ rfl
    change DataW.trod enc Tryd.prog W 0 (fun _ => true) true n 23 (List.take (Tryd.prog.cellsOf 23) (List.drop 1 l)) = xs[1]? at h
    rw [e3] at h
    exact h
  have k2 : DataW.trod enc Tryd.prog W 0 (fun _ => true) true n 25 (List.take 32 (List.drop 17 l)) = xs[2]? := by
    have h := hall 2 _ rfl
    change DataW.trod enc Tryd.prog W 0 (fun _ => true) true n 25 (List.take (Tryd.prog.cellsOf 25) (List.drop 17 l)) = xs[2]? at h
    rw [e4] at h
    exact h
  have k3 : DataW.trod enc Tryd.prog W 0 (fun _ => true) true n 3 (List.take 1 (List.drop 49 l)) = xs[3]? := by
    have h := hall 3 _ rfl
    change DataW.trod enc Tryd.prog W 0 (fun _ => true) true n 3 (List.take (Tryd.prog.cellsOf 3) (List.drop 49 l)) = xs[3]? at h
    rw [e1] at h
    exact h
  have k4 : DataW.trod enc Tryd.prog W 0 (fun _ => true) true n 3 (List.take 1 (List.drop 50 l)) = xs[4]? := by
    have h := hall 4 _ rfl
    change DataW.trod enc Tryd.prog W 0 (fun _ => true) true n 3 (List.take (Tryd.prog.cellsOf 3) (List.drop 50 l)) = xs[4]? at h
    rw [e1] at h
    exact h
  have k5 : DataW.trod enc Tryd.prog W 0 (fun _ => true) true n 3 (List.take 1 (List.drop 51 l)) = xs[5]? := by
    have h := hall 5 _ rfl
    change DataW.trod enc Tryd.prog W 0 (fun _ => true) true n 3 (List.take (Tryd.prog.cellsOf 3) (List.drop 51 l)) = xs[5]? at h
    rw [e1] at h
    exact h
  have k6 : DataW.trod enc Tryd.prog W 0 (fun _ => true) true n 26 (List.take 1 (List.drop 52 l)) = xs[6]? := by
    have h := hall 6 _ rfl
    change DataW.trod enc Tryd.prog W 0 (fun _ => true) true n 26 (List.take (Tryd.prog.cellsOf 26) (List.drop 52 l)) = xs[6]? at h
    rw [e2] at h
    exact h
  match xs, hlen with
  | [y0, y1, y2, y3, y4, y5, y6], _ =>
    simp only [List.getElem?_cons_zero, List.getElem?_cons_succ] at k0 k1 k2 k3 k4 k5 k6
    obtain ⟨kind, q0, w0⟩ := DataW.trod_int Tryd.underlying3 k0
    obtain ⟨kk, q3, w3⟩ := DataW.trod_int Tryd.underlying3 k3
    obtain ⟨nn, q4, w4⟩ := DataW.trod_int Tryd.underlying3 k4
    obtain ⟨sz, q5, w5⟩ := DataW.trod_int Tryd.underlying3 k5
    obtain ⟨key, q1, l1⟩ := array_cells Tryd.underlying23 (by simp [hsz]) k1
    obtain ⟨fp, q2, l2⟩ := array_cells Tryd.underlying25 (by simp [hsz]) k2
    obtain ⟨X, hX⟩ : ∃ X, List.take 1 (List.drop 52 l) = [X] := by
      rw [List.drop_eq_getElem_cons (show 52 < l.length by omega)]
      exact ⟨_, rfl⟩
    rw [hX] at k6
    obtain ⟨A, m, cc, lit, rfl, b1, b2, b3, b4⟩ := bytes_trodC k6
    refine ⟨⟨kind, key, fp, kk, nn, sz, lit⟩, A, m, cc, ?_, ⟨l1, l2⟩, ⟨bounds_i64 w0.2, bounds_i64 w3.2, bounds_i64 w4.2, bounds_i64 w5.2⟩, b1, b2, b3, b4⟩
    show Value.agg ⟨l⟩ = Value.agg ⟨capL _ _⟩
    congr 2
    have d0 := take_one q0
    have d3 := take_one q3
    have d4 := take_one q4
    have d5 := take_one q5
    have d6 := take_one hX
    have d1 : l.drop 1 = Lib.byteCells key ++ l.drop 17 := by
      rw [← q1, show (17 : Nat) = 1 + 16 from rfl, ← List.drop_drop]
      exact (List.take_append_drop 16 _).symm
    have d2 : l.drop 17 = Lib.byteCells fp ++ l.drop 49 := by
      rw [← q2, show (49 : Nat) = 17 + 32 from rfl, ← List.drop_drop]
      exact (List.take_append_drop 32 _).symm
    have d7 : l.drop 53 = [] := List.drop_eq_nil_of_le (by omega)
    unfold capL
    dsimp only
    rw [List.drop_zero] at d0
    rw [d0, d1, d2, d3, d4, d5, d6, d7]
end Go.Proofs.YtkkokngdhhakdaaDoor
