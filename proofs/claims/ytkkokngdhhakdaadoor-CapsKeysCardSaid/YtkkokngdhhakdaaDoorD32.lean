/- Bytes of letters, as plain lists: what Bytes32 reads from any state on; reading undoes writing, and nothing else is read. -/
import Derived.Test.YtkkokngdhhakdaaDoorB32
namespace Go.Proofs.YtkkokngdhhakdaaDoor

/-- A letter's place in the alphabet; 32: it has none. -/
def val (c : UInt8) : Nat := abc.findIdx (· == c)

theorem val_le (c : UInt8) : val c ≤ 32 := List.findIdx_le_length
theorem val_letter : ∀ k, k < 32 → val (letter k) = k := by decide
theorem letter_val (c : UInt8) (h : val c < 32) : letter (val c) = c := by
  have hl : val c < abc.length := h
  have := List.findIdx_getElem (w := hl) (p := (· == c)) (xs := abc)
  unfold letter
  rw [List.getD_eq_getElem?_getD, List.getElem?_eq_getElem hl]
  exact beq_iff_eq.1 this

/-- What is read from a state on: the bytes, and what is held in the end; none: a letter that is none. -/
def dec (h b : Nat) : List UInt8 → Option (List UInt8 × Nat × Nat)
  | [] => some ([], h, b)
  | c :: r =>
    if 32 ≤ val c then none
    else if 8 ≤ b + 5 then (dec ((h * 32 + val c) % 2 ^ (b + 5 - 8)) (b + 5 - 8) r).map fun x => (UInt8.ofNat ((h * 32 + val c) / 2 ^ (b + 5 - 8)) :: x.1, x.2)
    else dec (h * 32 + val c) (b + 5) r

/-- Letters as one number, bytes as one number. -/
def numL : List UInt8 → Nat
  | [] => 0
  | c :: r => val c * 32 ^ r.length + numL r
def numB : List UInt8 → Nat
  | [] => 0
  | c :: r => c.toNat * 256 ^ r.length + numB r

theorem numB_lt : ∀ l : List UInt8, numB l < 256 ^ l.length
  | [] => by simp [numB]
  | c :: r => by
    have h1 := numB_lt r
    have h2 := c.toNat_lt
    have h3 : c.toNat * 256 ^ r.length + 256 ^ r.length ≤ 256 * 256 ^ r.length := by
      rw [← Nat.succ_mul]; exact Nat.mul_le_mul_right _ (by omega)
    simp only [numB, List.length_cons, Nat.pow_succ]
    omega

theorem numB_inj : ∀ {a b : List UInt8}, a.length = b.length → numB a = numB b → a = b
  | [], [], _, _ => rfl
  | [], _ :: _, h, _ => by simp at h
  | _ :: _, [], h, _ => by simp at h
  | x :: a, y :: b, h, e => by
    have hl : a.length = b.length := by simpa using h
    simp only [numB, hl] at e
    have h1 := numB_lt a
    have h2 := numB_lt b
    rw [hl] at h1
    have hp : 0 < 256 ^ b.length := Nat.pow_pos (by omega)
    have e1 : x.toNat = y.toNat := by
      have d1 : (x.toNat * 256 ^ b.length + numB a) / 256 ^ b.length = x.toNat := by
        rw [Nat.mul_comm, Nat.mul_add_div hp, Nat.div_eq_of_lt h1, Nat.add_zero]
      have d2 : (y.toNat * 256 ^ b.length + numB b) / 256 ^ b.length = y.toNat := by
        rw [Nat.mul_comm, Nat.mul_add_div hp, Nat.div_eq_of_lt h2, Nat.add_zero]
      rw [← d1, ← d2, e]
    rw [e1] at e
    rw [UInt8.toNat_inj.1 e1, numB_inj hl (by omega)]

/-- All letters are of the alphabet. -/
def Good (s : List UInt8) : Prop := ∀ c ∈ s, val c < 32

theorem numL_lt : ∀ {s : List UInt8}, Good s → numL s < 32 ^ s.length
  | [], _ => by simp [numL]
  | c :: r, h => by
    have h1 := numL_lt (s := r) (fun x hx => h x (List.mem_cons_of_mem _ hx))
    have h2 := h c (List.mem_cons_self ..)
    have h3 : val c * 32 ^ r.length + 32 ^ r.length ≤ 32 * 32 ^ r.length := by
      rw [← Nat.succ_mul]; exact Nat.mul_le_mul_right _ (by omega)
    simp only [numL, List.length_cons, Nat.pow_succ]
    omega

theorem numL_inj : ∀ {a b : List UInt8}, Good a → Good b → a.length = b.length → numL a = numL b → a = b
  | [], [], _, _, _, _ => rfl
  | [], _ :: _, _, _, h, _ => by simp at h
  | _ :: _, [], _, _, h, _ => by simp at h
  | x :: a, y :: b, ga, gb, h, e => by
    have hl : a.length = b.length := by simpa using h
    have ga' : Good a := fun z hz => ga z (List.mem_cons_of_mem _ hz)
    have gb' : Good b := fun z hz => gb z (List.mem_cons_of_mem _ hz)
    simp only [numL, hl] at e
    have h1 := numL_lt ga'
    have h2 := numL_lt gb'
    rw [hl] at h1
    have hp : 0 < 32 ^ b.length := Nat.pow_pos (by omega)
    have e1 : val x = val y := by
      have d1 : (val x * 32 ^ b.length + numL a) / 32 ^ b.length = val x := by
        rw [Nat.mul_comm, Nat.mul_add_div hp, Nat.div_eq_of_lt h1, Nat.add_zero]
      have d2 : (val y * 32 ^ b.length + numL b) / 32 ^ b.length = val y := by
        rw [Nat.mul_comm, Nat.mul_add_div hp, Nat.div_eq_of_lt h2, Nat.add_zero]
      rw [← d1, ← d2, e]
    have exy : x = y := by
      rw [← letter_val x (ga x (List.mem_cons_self ..)), ← letter_val y (gb y (List.mem_cons_self ..)), e1]
    rw [e1] at e
    rw [exy, numL_inj ga' gb' hl (by omega)]

theorem pow_32 (k : Nat) : 32 ^ k = 2 ^ (5 * k) := by rw [Nat.pow_mul]
theorem pow_256 (k : Nat) : 256 ^ k = 2 ^ (8 * k) := by rw [Nat.pow_mul]

/-- What is read, as numbers. -/
theorem dec_num : ∀ (s : List UInt8) (h b : Nat) (o : List UInt8) (h' b' : Nat), b < 8 → h < 2 ^ b → dec h b s = some (o, h', b') →
    Good s ∧ b + 5 * s.length = 8 * o.length + b' ∧ h * 32 ^ s.length + numL s = numB o * 2 ^ b' + h' ∧ b' < 8 ∧ h' < 2 ^ b'
  | [], h, b, o, h', b', hb, hh, e => by
    simp only [dec, Option.some.injEq, Prod.mk.injEq] at e
    obtain ⟨rfl, rfl, rfl⟩ := e
    exact ⟨fun c hc => by simp at hc, by simp, by simp [numL, numB], hb, hh⟩
  | c :: r, h, b, o, h', b', hb, hh, e => by
    rw [dec] at e
    by_cases hc : 32 ≤ val c
    · rw [if_pos hc] at e; cases e
    rw [if_neg hc] at e
    have hv : h * 32 + val c < 2 ^ (b + 5) := by rw [Nat.pow_add]; omega
    by_cases h8 : 8 ≤ b + 5
    · rw [if_pos h8] at e
      obtain ⟨⟨o1, h1, b1⟩, e1, e2⟩ := Option.map_eq_some_iff.1 e
      simp only [Prod.mk.injEq] at e2
      obtain ⟨rfl, rfl, rfl⟩ := e2
      obtain ⟨g, l1, n1, k1, k2⟩ := dec_num r _ _ _ _ _ (by omega) (Nat.mod_lt _ (Nat.two_pow_pos _)) e1
      refine ⟨fun x hx => ?_, by simp only [List.length_cons]; omega, ?_, k1, k2⟩
      · rcases List.mem_cons.1 hx with rfl | hx
        · omega
        · exact g x hx
      · have hq : (h * 32 + val c) / 2 ^ (b + 5 - 8) < 256 := by
          have : h * 32 + val c < 2 ^ (b + 5 - 8) * 2 ^ 8 := by rw [← Nat.pow_add, show b + 5 - 8 + 8 = b + 5 from by omega]; exact hv
          exact Nat.div_lt_of_lt_mul this
        have hd := Nat.div_add_mod (h * 32 + val c) (2 ^ (b + 5 - 8))
        have hq2 : (UInt8.ofNat ((h * 32 + val c) / 2 ^ (b + 5 - 8))).toNat = (h * 32 + val c) / 2 ^ (b + 5 - 8) := by
          rw [UInt8.toNat_ofNat']; exact Nat.mod_eq_of_lt hq
        generalize (h * 32 + val c) / 2 ^ (b + 5 - 8) = q at *
        generalize (h * 32 + val c) % 2 ^ (b + 5 - 8) = m at *
        simp only [numL, numB, List.length_cons, hq2, Nat.pow_succ]
        have hpow : 2 ^ (b + 5 - 8) * 32 ^ r.length = 256 ^ o1.length * 2 ^ b1 := by
          rw [pow_32, pow_256, ← Nat.pow_add, ← Nat.pow_add, l1]
        calc h * (32 ^ r.length * 32) + (val c * 32 ^ r.length + numL r) = (h * 32 + val c) * 32 ^ r.length + numL r := by
              rw [Nat.add_mul, Nat.mul_assoc, Nat.mul_comm 32 (32 ^ r.length), Nat.add_assoc]
          _ = q * (2 ^ (b + 5 - 8) * 32 ^ r.length) + (m * 32 ^ r.length + numL r) := by
              rw [← hd, Nat.add_mul, Nat.mul_comm (2 ^ (b + 5 - 8)) q, Nat.mul_assoc, Nat.add_assoc]
          _ = (q * 256 ^ o1.length + numB o1) * 2 ^ b1 + h1 := by
              rw [hpow, n1, Nat.add_mul, Nat.mul_assoc, Nat.add_assoc]
    · rw [if_neg h8] at e
      obtain ⟨g, l1, n1, k1, k2⟩ := dec_num r _ _ _ _ _ (by omega) hv e
      refine ⟨fun x hx => ?_, by simp only [List.length_cons]; omega, ?_, k1, k2⟩
      · rcases List.mem_cons.1 hx with rfl | hx
        · omega
        · exact g x hx
      · simp only [numL, List.length_cons, Nat.pow_succ]
        rw [← n1, Nat.add_mul, Nat.mul_assoc, Nat.mul_comm 32 (32 ^ r.length), Nat.add_assoc]

/-- What is written, as numbers. -/
theorem enc_num (l : List UInt8) (h b : Nat) (hb : b < 13) (hh : h < 2 ^ b) : Good (encFrom h b l) ∧ ∃ p, p < 5 ∧ 5 * (encFrom h b l).length = b + 8 * l.length + p ∧ numL (encFrom h b l) = (h * 256 ^ l.length + numB l) * 2 ^ p := by
  induction h, b, l using encFrom.induct with
  | case1 h b l hb5 ih =>
    obtain ⟨g, p, hp, hl, hn⟩ := ih (by omega) (Nat.mod_lt _ (Nat.two_pow_pos _))
    rw [encFrom_drain hb5]
    have hq : h / 2 ^ (b - 5) < 32 := by
      have : h < 2 ^ (b - 5) * 2 ^ 5 := by rw [← Nat.pow_add, show b - 5 + 5 = b from by omega]; exact hh
      exact Nat.div_lt_of_lt_mul this
    have hv := val_letter _ hq
    have hd := Nat.div_add_mod h (2 ^ (b - 5))
    generalize h / 2 ^ (b - 5) = q at *
    generalize h % 2 ^ (b - 5) = m at *
    generalize encFrom m (b - 5) l = r at *
    refine ⟨fun x hx => ?_, p, hp, by simp only [List.length_cons]; omega, ?_⟩
    · rcases List.mem_cons.1 hx with rfl | hx
      · omega
      · exact g x hx
    · have hpow : 32 ^ r.length = 2 ^ (b - 5) * 256 ^ l.length * 2 ^ p := by
        rw [pow_32, pow_256, ← Nat.pow_add, ← Nat.pow_add, hl]
      simp only [numL, hv]
      rw [hn, hpow, ← hd]
      simp only [Nat.add_mul, Nat.mul_assoc, Nat.mul_left_comm, Nat.add_assoc]
  | case2 h b hb5 h0 =>
    rw [encFrom_last (by omega) h0]
    have hq : h * 2 ^ (5 - b) < 32 := by
      have h5 : 2 ^ b * 2 ^ (5 - b) = 2 ^ 5 := by rw [← Nat.pow_add, show b + (5 - b) = 5 from by omega]
      have h6 := Nat.mul_lt_mul_of_pos_right hh (Nat.two_pow_pos (5 - b))
      omega
    have hv := val_letter _ hq
    refine ⟨fun x hx => ?_, 5 - b, by omega, by simp; omega, ?_⟩
    · rw [List.mem_singleton.1 hx]; omega
    · simp [numL, numB, hv]
  | case3 h b hb5 h0 =>
    have e0 : b = 0 := by omega
    subst e0
    rw [encFrom_end]
    have h1 : h = 0 := by simpa using hh
    subst h1
    exact ⟨fun x hx => by simp at hx, 0, by omega, by simp, by simp [numL, numB]⟩
  | case4 h b hb5 x r ih =>
    have hx := x.toNat_lt
    obtain ⟨g, p, hp, hl, hn⟩ := ih (by omega) (by rw [Nat.pow_add]; omega)
    rw [encFrom_cons (by omega)]
    refine ⟨g, p, hp, by simp only [List.length_cons]; omega, ?_⟩
    rw [hn]
    simp only [numB, List.length_cons, Nat.pow_succ]
    congr 1
    rw [Nat.add_mul, Nat.mul_assoc, Nat.mul_comm 256 (256 ^ r.length), Nat.add_assoc]

/-- Letters that are all of the alphabet are read. -/
theorem dec_good : ∀ (s : List UInt8) (h b : Nat), Good s → ∃ o h' b', dec h b s = some (o, h', b')
  | [], h, b, _ => ⟨[], h, b, rfl⟩
  | c :: r, h, b, g => by
    have hc := g c (List.mem_cons_self ..)
    have g' : Good r := fun z hz => g z (List.mem_cons_of_mem _ hz)
    rw [dec, if_neg (by omega)]
    by_cases h8 : 8 ≤ b + 5
    · rw [if_pos h8]
      obtain ⟨o, h', b', e⟩ := dec_good r ((h * 32 + val c) % 2 ^ (b + 5 - 8)) (b + 5 - 8) g'
      exact ⟨_, h', b', by rw [e]; rfl⟩
    · rw [if_neg h8]
      exact dec_good r _ _ g'

/-- What Bytes32 answers. -/
def bytes32 (s : List UInt8) : Option (List UInt8) :=
  match dec 0 0 s with
  | none => none
  | some (o, h, b) => if 5 ≤ b ∨ h ≠ 0 then none else some o

/-- The document's check is the program's: writing gives the letters back just where nothing but noughts, fewer than five, is held in the end. -/
theorem check_iff {s o : List UInt8} {h b : Nat} (e : dec 0 0 s = some (o, h, b)) : enc o = s ↔ ¬ (5 ≤ b ∨ h ≠ 0) := by
  obtain ⟨g, hl, hn, hb, hh⟩ := dec_num s 0 0 o h b (by omega) (by simp) e
  obtain ⟨g2, p, hp, hl2, hn2⟩ := enc_num o 0 0 (by omega) (by simp)
  have g2' : Good (enc o) := g2
  have hl2' : 5 * (enc o).length = 0 + 8 * o.length + p := hl2
  have hn2' : numL (enc o) = (0 * 256 ^ o.length + numB o) * 2 ^ p := hn2
  simp only [Nat.zero_mul, Nat.zero_add] at hn hn2' hl hl2'
  constructor
  · intro he
    rw [he] at hl2' hn2'
    have hpb : p = b := by omega
    subst hpb
    omega
  · intro hc
    have h0 : h = 0 := by omega
    subst h0
    have hpb : p = b := by omega
    subst hpb
    exact numL_inj g2' g (by omega) (by omega)

theorem bytes32_some {s o : List UInt8} (h : bytes32 s = some o) : enc o = s := by
  unfold bytes32 at h
  split at h
  · cases h
  · rename_i o' h' b' e
    by_cases hc : 5 ≤ b' ∨ h' ≠ 0
    · rw [if_pos hc] at h; cases h
    · rw [if_neg hc] at h
      injection h with h
      subst h
      exact (check_iff e).2 hc

theorem bytes32_enc (l : List UInt8) : bytes32 (enc l) = some l := by
  obtain ⟨g, p, hp, hl, hn⟩ := enc_num l 0 0 (by omega) (by simp)
  have g' : Good (enc l) := g
  have hl' : 5 * (enc l).length = 0 + 8 * l.length + p := hl
  have hn' : numL (enc l) = (0 * 256 ^ l.length + numB l) * 2 ^ p := hn
  obtain ⟨o, h, b, e⟩ := dec_good (enc l) 0 0 g'
  obtain ⟨_, hl2, hn2, hb, hh⟩ := dec_num (enc l) 0 0 o h b (by omega) (by simp) e
  simp only [Nat.zero_mul, Nat.zero_add] at hn' hn2 hl' hl2
  have hol : o.length = l.length := by omega
  have hpb : p = b := by omega
  subst hpb
  have hp0 := Nat.two_pow_pos p
  have hh0 : h = 0 ∧ numB o = numB l := by
    have e1 : numB l * 2 ^ p = numB o * 2 ^ p + h := by omega
    have d1 : (numB o * 2 ^ p + h) / 2 ^ p = numB o := by
      rw [Nat.mul_comm, Nat.mul_add_div hp0, Nat.div_eq_of_lt hh, Nat.add_zero]
    have d2 : numB l * 2 ^ p / 2 ^ p = numB l := Nat.mul_div_cancel _ hp0
    have e2 : numB o = numB l := by rw [← d1, ← e1, d2]
    rw [e2] at e1
    exact ⟨by omega, e2⟩
  unfold bytes32
  rw [e]
  obtain ⟨rfl, e2⟩ := hh0
  simp only
  rw [if_neg (by omega), numB_inj hol e2]

theorem enc_inj {a b : List UInt8} (h : enc a = enc b) : a = b := by
  have := bytes32_enc a
  rw [h, bytes32_enc b] at this
  injection this with this
  exact this.symm

/-- Where the document stops: at the same letter, or where its own letters are others. -/
theorem bytes32_ref (s : List UInt8) : bytes32 s = match dec 0 0 s with | none => none | some (o, _, _) => if enc o = s then some o else none := by
  unfold bytes32
  split
  · rfl
  · rename_i o h b e
    have := check_iff e
    show _ = if enc o = s then some o else none
    by_cases hc : 5 ≤ b ∨ h ≠ 0
    · rw [if_pos hc, if_neg (fun he => this.1 he hc)]
    · rw [if_neg hc, if_pos (this.2 hc)]
end Go.Proofs.YtkkokngdhhakdaaDoor
