/- The program's store: slices.IndexFunc over its entries; find. -/
import Derived.Test.YtffllpjlghehiaaDoorStpB
namespace Go.Proofs.YtffllpjlghehiaaDoor
open Go.RowKit
set_option maxRecDepth 100000

/-- Entries in memory, or none. -/
def EntAt (w : World) (died : Bool) (b n : Nat) (E : Nat → Ent) : Prop := died = false → Blk w b (entA n E) 80
def cntE (died : Bool) (n : Nat) : Nat := if died then 0 else n
theorem entsV_eq (died : Bool) (b n : Nat) : entsV died b n = .slice (if died then none else some ⟨b, 0, none⟩) (cntE died n) (cntE died n) := by cases died <;> rfl

theorem firstE_first {p : Nat → Bool} {k : Nat} : ∀ {n : Nat}, k < n → p k = true → (∀ j, j < k → p j = false) → firstE n p = some k
  | 0, h, _, _ => by omega
  | n + 1, h, hp, hb => by
    unfold firstE
    rw [List.range_succ, List.find?_append]
    by_cases e : k = n
    · subst e
      have h1 : (List.range k).find? p = none := firstE_none hb
      rw [h1, List.find?_cons_of_pos hp]; rfl
    · have h1 : (List.range n).find? p = some k := firstE_first (by omega) hp hb
      rw [h1]; rfl

set_option maxHeartbeats 1000000 in
theorem pindex_live {w : World} {b n : Nat} {E : Nat → Ent} (h : Blk w b (entA n E) 80) (hn : n ≤ 4096) (f : Nat) (lb : Array Value) (p : Ent → Bool)
    (eg : ∀ args w, (callFunc f args).run Tryd.prog w = .ok (.enter f args) w) (hp : TellsE f lb p w) :
    Calls Tryd.prog 38 #[.slice (some ⟨b, 0, none⟩) n n, .func (.func f) #[] lb] w fun e w' => e = .returned (.int .i64 (idxE (firstE n fun i => p (E i)))) ∧ Below w.heap.size w w' := by
  have HB := Lib.hid h
  have HP := Lib.hid hp
  have hblt := h.lt
  obtain ⟨r, hr⟩ : ∃ r, idxE (firstE n fun i => p (E i)) = r := ⟨_, rfl⟩
  have HR := Lib.hid hr
  rw [hr]
  clear h hp hr
  go_enter Tryd.func38, Tryd.ntmps38
  go_wp2
  go_loopw [8] (fun i wr => ∃ k : Nat, k ≤ n ∧ i = .int .i64 k ∧ Hid (∀ j, j < k → p (E j) = false) ∧ Below w.heap.size w wr) (fun i _ => n - (intOf i).toNat)
  case atStart => exact ⟨0, Nat.zero_le _, rfl, Lib.hid (fun j hj => by omega), Below.refl _ _⟩
  case round =>
    obtain ⟨k, hk, rfl, HN, hbel⟩ := hrel
    by_cases hlt : k < n
    · have hki : (k : Int) < (n : Int) := by omega
      have hB := HB.out.below hbel hblt
      obtain ⟨v0, v1, v2, hv⟩ : ∃ v0 v1 v2, entV (E k) = [v0, v1, v2] := by cases E k <;> exact ⟨_, _, _, rfl⟩
      have e0 : wr.cell? ⟨b, k * 3, none⟩ = some v0 := (hB.cell _).trans ((entA_at E hlt (j := 0) (by omega)).trans (by rw [hv]; rfl))
      have e1 : wr.cell? ⟨b, k * 3 + 1, none⟩ = some v1 := (hB.cell _).trans ((entA_at E hlt (j := 1) (by omega)).trans (by rw [hv]; rfl))
      have e2 : wr.cell? ⟨b, k * 3 + 2, none⟩ = some v2 := (hB.cell _).trans ((entA_at E hlt (j := 2) (by omega)).trans (by rw [hv]; rfl))
      have HC := Lib.hid (HP.out wr (E k) hbel)
      rw [hv] at HC
      have HE := Lib.hid (show p (E k) = true → r = (k : Int) from fun hp => by
        rw [← HR.out, firstE_first hlt hp HN.out]; rfl)
      obtain ⟨t, ht⟩ : ∃ t, p (E k) = t := ⟨_, rfl⟩
      rw [ht] at HC HE
      have HT := Lib.hid ht
      clear ht
      clear hv hB
      go_wp2_with fail
      with_reducible refine HC.out.mono ?_
      rintro e w1 ⟨rfl, hb1⟩
      have hbel1 := Below.then hbel hb1
      cases t with
      | true =>
        obtain rfl := HE.out rfl
        go_wp2_with fail
        go_ret
        exact ⟨rfl, hbel1⟩
      | false =>
        go_wp2_with fail
        go_roundw
        case rel => exact ⟨k + 1, by omega, by go_num, Lib.hid (fun j hj => by
          by_cases e : j = k
          · subst e; exact HT.out
          · exact HN.out j (by omega)), hbel1⟩
        case measure => simp [intOf]; omega
    · have hge : ¬ (k : Int) < (n : Int) := by omega
      have e : firstE n (fun i => p (E i)) = none := firstE_none fun j hj => HN.out j (by omega)
      obtain rfl : r = -1 := by rw [← HR.out, e]; rfl
      clear e
      go_wp2
      go_ret
      exact ⟨rfl, hbel⟩
theorem pindex_nil (f : Nat) (lb : Array Value) (w : World) :
    Calls Tryd.prog 38 #[.slice none 0 0, .func (.func f) #[] lb] w fun e w' => e = .returned (.int .i64 (-1)) ∧ w = w' := by
  go_enter Tryd.func38, Tryd.ntmps38
  go_wp2
  go_loopw [8] (fun i wr => i = .int .i64 0 ∧ w = wr) (fun i _ => 0)
  case atStart => exact ⟨rfl, rfl⟩
  case round =>
    obtain ⟨rfl, rfl⟩ := hrel
    go_wp2
    go_ret
    exact ⟨rfl, rfl⟩

/-! ### find, and its closure -/
theorem tells_has (name : List UInt8) (B : Nat) (w : World) (hB : B < w.heap.size) (hc : w.cell? ⟨B, 0, none⟩ = some (.string ⟨name.toArray⟩)) :
    TellsE 56 #[.pointer (some ⟨B, 0, none⟩)] (hasName name) w := fun W x hb => by
  have hc' : W.cell? ⟨B, 0, none⟩ = some (.string ⟨name.toArray⟩) := (hb.cell (p := ⟨B, 0, none⟩) hB).trans hc
  have hBW : B < W.heap.size := Nat.lt_of_lt_of_le hB hb.size
  have hne : B ≠ W.heap.size := by omega
  have hbn : Below W.heap.size W W := Below.refl _ _
  cases x with
  | none =>
    show Calls _ _ #[.agg #[.bool false, .string ⟨#[]⟩, .int .i64 0], .pointer (some ⟨B, 0, none⟩)] W _
    go_enter Tryd.func56, Tryd.ntmps56
    go_wp2
    go_ret
    exact ⟨rfl, hbn.alloc (Nat.le_refl _) _⟩
  | some x =>
    show Calls _ _ #[.agg #[.bool true, .string ⟨x.1.toArray⟩, .int .i64 (x.2 : Int)], .pointer (some ⟨B, 0, none⟩)] W _
    go_enter Tryd.func56, Tryd.ntmps56
    go_wp2
    go_ret
    exact ⟨congrArg (fun t => Ending.returned (.bool t)) (show (x.1 == name) = hasName name (some x) from by simp only [hasName]; exact Bool.eq_iff_iff.2 (by simp)), hbn.alloc (Nat.le_refl _) _⟩
theorem tells_free (w : World) : TellsE 39 #[] (fun x => x.isNone) w := fun W x hb => by
  have hbn : Below W.heap.size W W := Below.refl _ _
  cases x with
  | none =>
    show Calls _ _ #[.agg #[.bool false, .string ⟨#[]⟩, .int .i64 0]] W _
    go_enter Tryd.func39, Tryd.ntmps39
    go_wp2
    go_ret
    exact ⟨rfl, hbn.alloc (Nat.le_refl _) _⟩
  | some x =>
    show Calls _ _ #[.agg #[.bool true, .string ⟨x.1.toArray⟩, .int .i64 (x.2 : Int)]] W _
    go_enter Tryd.func39, Tryd.ntmps39
    go_wp2
    go_ret
    exact ⟨rfl, hbn.alloc (Nat.le_refl _) _⟩
set_option maxHeartbeats 1000000 in
theorem psfind_live {w : World} {q p g b c : Nat} {s : Dsk} {R n : Nat} {E : Nat → Ent} (h : SP w q p g b c s R n E false) (name : List UInt8) :
    Calls Tryd.prog 35 #[.pointer (some ⟨q, 0, none⟩), .string ⟨name.toArray⟩] w fun e w' => e = .returned (.int .i64 (idxE (firstE n fun i => hasName name (E i)))) ∧ Below w.heap.size w w' := by
  have hb1 : Below w.heap.size w (w.alloc (.cells #[.string ⟨name.toArray⟩] 9)) := (Below.refl _ _).alloc (Nat.le_refl _) _
  have h1 := h.below hb1
  have HC := Lib.hid (pindex_live (h1.ents rfl) h.size.2.1 56 #[.pointer (some ⟨w.heap.size, 0, none⟩)] (hasName name) (enters_of Tryd.func56 (by kernel_rfl) rfl) (tells_has name w.heap.size _ (by simp) (by simp)))
  obtain ⟨d0, d1, d2, d3⟩ := h1.cells
  have d2' : (w.alloc (.cells #[.string ⟨name.toArray⟩] 9)).cell? ⟨q, 2, none⟩ = some (.slice (some ⟨b, 0, none⟩) n n) := d2
  have HB1 := Lib.hid hb1
  clear h h1 hb1 d0 d1 d2 d3
  go_enter Tryd.func35, Tryd.ntmps35
  go_wp2_with fail
  with_reducible refine HC.out.mono ?_
  rintro e w1 ⟨rfl, hb2⟩
  go_wp2_with fail
  go_ret
  exact ⟨rfl, Below.then HB1.out hb2⟩
theorem psfind_dead {w : World} {q p g b c : Nat} {s : Dsk} {R n : Nat} {E : Nat → Ent} (h : SP w q p g b c s R n E true) (name : List UInt8) :
    Calls Tryd.prog 35 #[.pointer (some ⟨q, 0, none⟩), .string ⟨name.toArray⟩] w fun e w' => e = .returned (.int .i64 (-1)) ∧ Below w.heap.size w w' := by
  have hb1 : Below w.heap.size w (w.alloc (.cells #[.string ⟨name.toArray⟩] 9)) := (Below.refl _ _).alloc (Nat.le_refl _) _
  have h1 := h.below hb1
  have HC := Lib.hid (pindex_nil 56 #[.pointer (some ⟨w.heap.size, 0, none⟩)] (w.alloc (.cells #[.string ⟨name.toArray⟩] 9)))
  obtain ⟨d0, d1, d2, d3⟩ := h1.cells
  have d2' : (w.alloc (.cells #[.string ⟨name.toArray⟩] 9)).cell? ⟨q, 2, none⟩ = some (.slice none 0 0) := d2
  have HB1 := Lib.hid hb1
  clear h h1 hb1 d0 d1 d2 d3
  go_enter Tryd.func35, Tryd.ntmps35
  go_wp2_with fail
  with_reducible refine HC.out.mono ?_
  rintro e w1 ⟨rfl, rfl⟩
  go_wp2_with fail
  go_ret
  exact ⟨rfl, HB1.out⟩
end Go.Proofs.YtffllpjlghehiaaDoor
