/- StoreDrops: the names of letters. -/
import Derived.Test.YtffllpjlghehiaaDoorLaw11B
namespace Go.Proofs.YtffllpjlghehiaaDoor
open Go.RowKit
set_option maxRecDepth 100000

def nmD (i : Nat) : List UInt8 := [UInt8.ofNat (97 + i)]
theorem nmD_inj {i j : Nat} (hi : i < 100) (hj : j < 100) (e : nmD i = nmD j) : i = j := by
  have h1 : UInt8.ofNat (97 + i) = UInt8.ofNat (97 + j) := by unfold nmD at e; exact List.head_eq_of_cons_eq e
  have h2 := congrArg UInt8.toNat h1
  simp only [UInt8.toNat_ofNat'] at h2
  omega
theorem nmD_two (i : Nat) (a b : UInt8) (l : List UInt8) : nmD i ≠ a :: b :: l := by
  unfold nmD
  intro e
  have := congrArg List.length e
  simp at this
/-- Records under the names of the first k letters. -/
structure Lets (L : List (Rec11 × Nat)) (k : Nat) : Prop where
  rising : Rising L
  len : L.length = k
  told : ∀ i, i < k → (oldE L (nmD i)).map (·.1.data) = some [UInt8.ofNat i]
  only : ∀ nm, (oldE L nm).isSome = true → ∃ i, i < k ∧ nm = nmD i
theorem Lets.nil : Lets [] 0 := ⟨List.Pairwise.nil, rfl, fun i h => absurd h (by omega), fun nm h => by cases h⟩
theorem Lets.put {L : List (Rec11 × Nat)} {k : Nat} (h : Lets L k) (hk : k < 100) (j : Nat) : Lets (putE L (Sto.newR ⟨L, false⟩ (nmD k) [UInt8.ofNat k], j)) (k + 1) := by
  have hr : Rising (Sto.l ⟨L, false⟩) := h.rising
  have hn : oldE L (nmD k) = none := by
    cases ho : oldE L (nmD k) with
    | none => rfl
    | some x =>
      obtain ⟨i, hi, e⟩ := h.only (nmD k) (by rw [ho]; rfl)
      have := nmD_inj (by omega) (by omega) e
      omega
  refine ⟨putE_rising _ h.rising, ?_, fun i hi => ?_, fun nm hm => ?_⟩
  · have := told_len (t := ⟨L, false⟩) (nmD k) [UInt8.ofNat k] j hn
    rw [this]
    show L.length + 1 = k + 1
    rw [h.len]
  · by_cases e : i = k
    · subst e
      exact told_same (t := ⟨L, false⟩) hr (nmD i) [UInt8.ofNat i] j
    · have hne : nmD i ≠ nmD k := fun e' => e (nmD_inj (by omega) (by omega) e')
      rw [get_put_other (t := ⟨L, false⟩) hr (nmD k) [UInt8.ofNat k] j hne]
      exact h.told i (by omega)
  · rcases (told_isSome (t := ⟨L, false⟩) hr (nmD k) [UInt8.ofNat k] j nm).1 hm with e | e
    · exact ⟨k, by omega, e⟩
    · obtain ⟨i, hi, e2⟩ := h.only nm e
      exact ⟨i, by omega, e2⟩
/-- Behind the put of another name: the letters are there, and nothing but them and it. -/
structure Letters (L : List (Rec11 × Nat)) (k : Nat) : Prop where
  told : ∀ i, i < k → (oldE L (nmD i)).map (·.1.data) = some [UInt8.ofNat i]
  none_ : oldE L [110, 111, 110, 101] = none
theorem Lets.letters {L : List (Rec11 × Nat)} {k : Nat} (h : Lets L k) : Letters L k := ⟨h.told, by
  cases ho : oldE L [110, 111, 110, 101] with
  | none => rfl
  | some x =>
    obtain ⟨i, _, e⟩ := h.only [110, 111, 110, 101] (by rw [ho]; rfl)
    exact absurd e.symm (nmD_two i _ _ _)⟩
theorem Lets.zz {L : List (Rec11 × Nat)} {k : Nat} (h : Lets L k) (j : Nat) : Letters (putE L (Sto.newR ⟨L, false⟩ [122, 122] [], j)) k := by
  have hr : Rising (Sto.l ⟨L, false⟩) := h.rising
  refine ⟨fun i hi => ?_, ?_⟩
  · rw [get_put_other (t := ⟨L, false⟩) hr [122, 122] [] j (nmD_two i _ _ _)]
    exact h.told i hi
  · rw [get_put_other (t := ⟨L, false⟩) hr [122, 122] [] j (by decide)]
    exact h.letters.none_
theorem Letters.some {L : List (Rec11 × Nat)} {k i : Nat} (h : Letters L k) (hi : i < k) : ∃ x, oldE L (nmD i) = some x := by
  have := h.told i hi
  cases ho : oldE L (nmD i) with
  | none => rw [ho] at this; cases this
  | some x => exact ⟨x, rfl⟩
/-- A put into a full store. -/
theorem lputfull {w : World} {q p g b c : Nat} {s : Dsk} {R n m : Nat} {t : Sto} (h : ST w q p g b c s R n m t) (hL : Live t s R n m) (hm : m + 1 < 4294967296) {nb : ByteArray} (name : List UInt8) (hnb : nb = ⟨name.toArray⟩) (htab : Pow10 w.heap.size w) (h1 : name.length ≤ 900) (hf : name.length + 19 ≤ R * 32) (hroom : t.l.length = n) :
    Calls Tryd.prog 15 #[.pointer (some ⟨q, 0, none⟩), .string nb, .slice none 0 0] w fun e w' => e = .returned (.int .i64 3) ∧ ST w' q p g b c s R n (m + 1) t ∧ Chg (fourS q p g b) w w' := by
  subst hnb
  have hfit := fits_small (R := R) (name := name) (data := []) (by omega) (by simp) (by simpa using hf)
  refine (psput_any h hm name [] none 0 0 rfl (by omega) (by unfold maxLen; omega) (Rd.nil _ _ _) htab (by omega) (by omega)).mono ?_
  rintro e w' ⟨rfl, S, C⟩
  rcases put_live hL hm hfit with ⟨_, hp⟩ | ⟨h0, _⟩
  · rw [hp] at S ⊢
    exact ⟨rfl, S, C⟩
  · omega
/-- What a letter's record is behind a drop of one. -/
theorem get_letter {t : Sto} {L : List (Rec11 × Nat)} {k v i : Nat} {K : Int} (h : Letters t.l k) (hT : Told t L (nmD v) none K) (hv : v < k) (hk : k < 100) (hi : i < k) :
    Sto.get ⟨L, false⟩ (nmD i) = some [UInt8.ofNat i] ∧ (i = v → K = 8) ∨ (Sto.get ⟨L, false⟩ (nmD i) = none ∧ i = v) := by
  unfold Sto.get
  rw [if_neg (by simp)]
  by_cases e : i = v
  · subst e
    rcases hT.this with h' | ⟨h1, h'⟩
    · exact .inr ⟨h', rfl⟩
    · left
      refine ⟨?_, fun _ => h1⟩
      show (oldE L (nmD i)).map _ = _
      rw [h']
      exact h.told i hi
  · left
    refine ⟨?_, fun e' => absurd e' e⟩
    show (oldE L (nmD i)).map _ = _
    rw [hT.other _ fun e' => e (nmD_inj (by omega) (by omega) e')]
    exact h.told i hi
set_option maxHeartbeats 1000000 in
theorem name_any (i : Nat) (hi : i < 4) (w : World) : Calls Tryd.prog 31 #[.int .i64 i] w fun e w' => e = .returned (.string ⟨(nmD i).toArray⟩) ∧ Below w.heap.size w w' := by
  have hb : Below w.heap.size w (w.alloc (.cells #[.int .u8 ((UInt8.ofNat (97 + i)).toNat : Int)] 5)) := (Below.refl _ _).alloc (Nat.le_refl _) _
  have hk := Rd.of_blk (bs := nmD i) (Blk.new w #[.int .u8 ((UInt8.ofNat (97 + i)).toNat : Int)] 5)
  have KS := str_rd _ 1 1 (nmD i) _ rfl hk
  have hw : IntKind.u8.wrap (97 + (i : Int)) = ((UInt8.ofNat (97 + i)).toNat : Int) := by
    match i, hi with
    | 0, _ => rfl
    | 1, _ => rfl
    | 2, _ => rfl
    | 3, _ => rfl
  obtain ⟨x, hx⟩ : ∃ x : Int, ((UInt8.ofNat (97 + i)).toNat : Int) = x := ⟨_, rfl⟩
  rw [hx] at hw hb KS
  obtain ⟨y, hy⟩ : ∃ y : List UInt8, nmD i = y := ⟨_, rfl⟩
  rw [hy] at KS ⊢
  clear hx hk hy
  go_enter Tryd.func31, Tryd.ntmps31
  go_wp2_with fail
  go_ret
  exact ⟨rfl, hb⟩
end Go.Proofs.YtffllpjlghehiaaDoor
