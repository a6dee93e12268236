/- Get of the program and of the document answer the same number: the bytes as base-256 digits; more than seven are none. Parts of a slice of bytes. -/
import Derived.Test.YtobealijkbnojaaDoorProg
import Derived.Test.YtobealijkbnojaaDoorMem
import Derived.Test.YtobealijkbnojaaDoorBits
import Derived.Test.YtobealijkbnojaaDoorNet
import Derived.Deep.MidRow
import Derived.Test.YtobealijkbnojaaDoorKeep
namespace Go.Proofs.YtobealijkbnojaaDoor
open Go.RowKit

/-- The bytes as a number. -/
def getL (l : List UInt8) : Nat := l.foldl (fun a x => a * 256 + x.toNat) 0

theorem getL_snoc (l : List UInt8) (x : UInt8) : getL (l ++ [x]) = getL l * 256 + x.toNat := by simp [getL]
theorem getL_take (l : List UInt8) (k : Nat) (h : k < l.length) : getL (l.take (k + 1)) = getL (l.take k) * 256 + l[k].toNat := by
  rw [List.take_succ_eq_append_getElem h, getL_snoc]
theorem getL_lt (l : List UInt8) : getL l < 256 ^ l.length := by
  suffices h : ∀ k, k ≤ l.length → getL (l.take k) < 256 ^ k by simpa using h l.length (Nat.le_refl _)
  intro k
  induction k with
  | zero => intro _; simp [getL]
  | succ k ih =>
    intro hk
    have hk' : k < l.length := by omega
    rw [getL_take l k hk', Nat.pow_succ]
    have := ih (by omega)
    have := l[k].toNat_lt
    omega

set_option maxHeartbeats 400000 in
theorem get_any (A : Option Addr) (n c B : Nat) (l : List UInt8) (w : World) (hn : l.length = n) (h1 : n ≤ maxLen) (ha : Rd w B A l) :
    Calls Tryd.prog 77 #[.slice A n c] w fun e w' => e = .returned (.tuple #[.int .i64 ((if n ≤ 7 then getL l else 0 : Nat) : Int), .bool (decide (n ≤ 7))]) ∧ w = w' := by
  unfold maxLen at h1
  by_cases h7 : n ≤ 7
  · have HN := Lib.hid hn
    have H1 := Lib.hid (show (if n ≤ 7 then getL l else 0) = getL l from if_pos h7)
    have H2 := Lib.hid (show decide (n ≤ 7) = true from decide_eq_true h7)
    rw [H1.out, H2.out]
    clear hn
    go_enter Tryd.func77, Tryd.ntmps77
    go_wp2
    go_loop [4, 12] (fun v i => ∃ k : Nat, k ≤ n ∧ i = .int .i64 k ∧ v = .int .i64 ((getL (l.take k) : Nat) : Int)) (fun _ i => n - (intOf i).toNat)
    case atStart => exact ⟨0, Nat.zero_le _, rfl, rfl⟩
    case round =>
      obtain ⟨k, hk, rfl, rfl⟩ := hrel
      by_cases hlt : k < n
      · have hl1 : k < l.length := by rw [HN.out]; exact hlt
        obtain ⟨b, off, rfl, _, hc⟩ := ha.at_ k hl1
        have HG := Lib.hid (getL_take l k hl1)
        have hx := l[k].toNat_lt
        have hg : getL (l.take k) < 256 ^ 6 := Nat.lt_of_lt_of_le (getL_lt _) (Nat.pow_le_pow_right (by omega) (by simp; omega))
        generalize getL (l.take k) = h at *
        generalize l[k] = x at *
        have hor := or_byte h x.toNat (by omega) hx
        clear hl1
        go_wp2
        go_round
        case rel => exact ⟨k + 1, by omega, by go_num, by rw [HG.out]; go_num⟩
        case measure => simp [intOf]; omega
      · have HG := Lib.hid (show getL (l.take k) = getL l by rw [List.take_of_length_le (by rw [HN.out]; omega)])
        have hge : ¬ (k : Int) < (n : Int) := by omega
        generalize getL (l.take k) = h at *
        go_wp2
        go_ret2
        exact ⟨by rw [← HG.out]; rfl, rfl⟩
  · have H1 := Lib.hid (show (if n ≤ 7 then getL l else 0) = 0 from if_neg h7)
    have H2 := Lib.hid (show decide (n ≤ 7) = false from decide_eq_false h7)
    rw [H1.out, H2.out]
    clear hn
    go_enter Tryd.func77, Tryd.ntmps77
    go_wp2
    go_ret2
    exact ⟨rfl, rfl⟩

set_option maxHeartbeats 400000 in
theorem rget_any (A : Option Addr) (n c B : Nat) (l : List UInt8) (w : World) (hn : l.length = n) (h1 : n ≤ maxLen) (ha : Rd w B A l) :
    Calls Tryd.prog 53 #[.slice A n c] w fun e w' => e = .returned (.tuple #[.int .i64 ((if n ≤ 7 then getL l else 0 : Nat) : Int), .bool (decide (n ≤ 7))]) ∧ w = w' := by
  unfold maxLen at h1
  by_cases h7 : n ≤ 7
  · have HN := Lib.hid hn
    have H1 := Lib.hid (show (if n ≤ 7 then getL l else 0) = getL l from if_pos h7)
    have H2 := Lib.hid (show decide (n ≤ 7) = true from decide_eq_true h7)
    rw [H1.out, H2.out]
    clear hn
    go_enter Tryd.func53, Tryd.ntmps53
    go_wp2
    go_loop [4, 11] (fun v i => ∃ k : Nat, k ≤ n ∧ i = .int .i64 k ∧ v = .int .i64 ((getL (l.take k) : Nat) : Int)) (fun _ i => n - (intOf i).toNat)
    case atStart => exact ⟨0, Nat.zero_le _, rfl, rfl⟩
    case round =>
      obtain ⟨k, hk, rfl, rfl⟩ := hrel
      by_cases hlt : k < n
      · have hl1 : k < l.length := by rw [HN.out]; exact hlt
        obtain ⟨b, off, rfl, _, hc⟩ := ha.at_ k hl1
        have HG := Lib.hid (getL_take l k hl1)
        have hx := l[k].toNat_lt
        have hg : getL (l.take k) < 256 ^ 6 := Nat.lt_of_lt_of_le (getL_lt _) (Nat.pow_le_pow_right (by omega) (by simp; omega))
        generalize getL (l.take k) = h at *
        generalize l[k] = x at *
        clear hl1
        go_wp2
        go_round
        case rel => exact ⟨k + 1, by omega, by go_num, by rw [HG.out]; go_num⟩
        case measure => simp [intOf]; omega
      · have HG := Lib.hid (show getL (l.take k) = getL l by rw [List.take_of_length_le (by rw [HN.out]; omega)])
        have hge : ¬ (k : Int) < (n : Int) := by omega
        generalize getL (l.take k) = h at *
        go_wp2
        go_ret2
        exact ⟨by rw [← HG.out]; rfl, rfl⟩
  · have H1 := Lib.hid (show (if n ≤ 7 then getL l else 0) = 0 from if_neg h7)
    have H2 := Lib.hid (show decide (n ≤ 7) = false from decide_eq_false h7)
    rw [H1.out, H2.out]
    clear hn
    go_enter Tryd.func53, Tryd.ntmps53
    go_wp2
    go_ret2
    exact ⟨rfl, rfl⟩
end Go.Proofs.YtobealijkbnojaaDoor
namespace Go.Proofs.YtobealijkbnojaaDoor
open Go.RowKit

/-- Where a part of a slice lies. -/
def partA (A : Option Addr) (l c : Nat) : Option Addr := if c = l then A else A.map (·.add l)
theorem sizeByte4 : (Tryd.prog.info? 5).map (·.size) = some 1 := by kernel_rfl
set_option maxRecDepth 100000 in
theorem run_part_lh (A : Option Addr) (n c l h : Nat) (W : World) (h1 : l ≤ h) (h2 : h ≤ c) :
    (Instr.slice 24 (.slice A n c) (some (.int .i64 (l : Int))) (some (.int .i64 (h : Int))) none).run Tryd.prog W = .ok (.slice (partA A l c) (h - l) (c - l)) W := by
  have hz := sizeByte4
  cases hq : Tryd.prog.info? 5 with
  | none => simp [hq] at hz
  | some j =>
    have hj : j.size = 1 := by simpa [hq] using hz
    rw [run_slice_lh W 24 A n c Tryd.underlying24 .i64 .i64 _ _ (by omega) (by omega) (by omega)]
    rw [show Tryd.prog.elem 24 = 5 from by kernel_rfl]
    simp [sizeOf, typeInfo, hq, hj, sliced, partA]
set_option maxRecDepth 100000 in
theorem run_part_l (A : Option Addr) (n c l : Nat) (W : World) (h1 : l ≤ n) :
    (Instr.slice 24 (.slice A n c) (some (.int .i64 (l : Int))) none none).run Tryd.prog W = .ok (.slice (partA A l c) (n - l) (c - l)) W := by
  have hz := sizeByte4
  cases hq : Tryd.prog.info? 5 with
  | none => simp [hq] at hz
  | some j =>
    have hj : j.size = 1 := by simpa [hq] using hz
    rw [run_slice_l W 24 A n c Tryd.underlying24 .i64 _ (by omega) (by omega)]
    rw [show Tryd.prog.elem 24 = 5 from by kernel_rfl]
    simp [sizeOf, typeInfo, hq, hj, sliced, partA]
set_option maxRecDepth 100000 in
theorem run_part_h (A : Option Addr) (n c h : Nat) (W : World) (h2 : h ≤ c) :
    (Instr.slice 24 (.slice A n c) none (some (.int .i64 (h : Int))) none).run Tryd.prog W = .ok (.slice A h c) W := by
  have hz := sizeByte4
  cases hq : Tryd.prog.info? 5 with
  | none => simp [hq] at hz
  | some j =>
    have hj : j.size = 1 := by simpa [hq] using hz
    rw [run_slice_h W 24 A n c Tryd.underlying24 .i64 _ (by omega) (by omega)]
    rw [show Tryd.prog.elem 24 = 5 from by kernel_rfl]
    simp [sizeOf, typeInfo, hq, hj, sliced]
    cases A with
    | none => simp
    | some ad =>
      intro _
      obtain ⟨b, o, s⟩ := ad
      cases s <;> simp [Addr.add]
theorem Rd.part {w : World} {B : Nat} {A : Option Addr} {L : List UInt8} (hr : Rd w B A L) (l h c : Nat) (h1 : l ≤ h) (h2 : h ≤ c) : Rd w B (partA A l c) ((L.take h).drop l) := by
  unfold partA
  by_cases hcl : c = l
  · exact .inl (List.drop_of_length_le (by rw [List.length_take]; omega))
  · rw [if_neg hcl]
    rcases hr with rfl | ⟨b, off, rfl, hb, hc⟩
    · exact .inl (by simp)
    · refine .inr ⟨b, off + l, by simp [Addr.add_mid], hb, fun i hi => ?_⟩
      simp only [List.length_drop, List.length_take] at hi
      rw [List.getElem_drop, List.getElem_take, Nat.add_assoc]
      exact hc (l + i) (by omega)
theorem Rd.rest {w : World} {B : Nat} {A : Option Addr} {L : List UInt8} {n : Nat} (hr : Rd w B A L) (l c : Nat) (hn : L.length = n) (h1 : l ≤ n) (h2 : n ≤ c) : Rd w B (partA A l c) (L.drop l) := by
  have := hr.part l n c h1 h2
  rwa [List.take_of_length_le (by omega)] at this
theorem OwnB.less {w : World} {B B' : Nat} {e : TypeId} {v : Value} {n : Nat} {l : List UInt8} (h : OwnB w B e v n l) (hB : B' ≤ B) : OwnB w B' e v n l := by
  refine ⟨h.1, ?_⟩
  rcases h.2 with h | ⟨g, cap, full, e1, e2, rest⟩
  · exact .inl h
  · exact .inr ⟨g, cap, full, e1, by omega, rest⟩
end Go.Proofs.YtobealijkbnojaaDoor
