/- Capabilities as plain data: which may be, their texts, the pieces of a text between colons, and that a text's pieces give the capability back. Mathematics alone. -/
import Derived.Test.YtkkokngdhhakdaaDoorNet
import Derived.Test.YtkkokngdhhakdaaDoorBytes32
import Derived.Lib.SplitLaws
import Derived.Lib.AtoiTie
namespace Go.Proofs.YtkkokngdhhakdaaDoor
open Go.RowKit

structure Cap13 where
  kind : Int
  key : List UInt8
  fp : List UInt8
  k : Int
  n : Int
  size : Int
  lit : List UInt8

def key0 : List UInt8 := List.replicate 16 0
def hash0 : List UInt8 := List.replicate 32 0
def cap0 : Cap13 := ⟨0, key0, hash0, 0, 0, 0, []⟩

def FileK (k : Int) : Prop := k = 1 ∨ k = 2
instance (k : Int) : Decidable (FileK k) := inferInstanceAs (Decidable (_ ∨ _))

def Cap13.none3 (c : Cap13) : Prop := c.k = 0 ∧ c.n = 0 ∧ c.size = 0
instance (c : Cap13) : Decidable c.none3 := inferInstanceAs (Decidable (_ ∧ _))

/-- A capability that may be. -/
def Cap13.ok (c : Cap13) : Prop :=
  if FileK c.kind then 1 ≤ c.k ∧ c.k ≤ c.n ∧ c.n ≤ 16 ∧ 1 ≤ c.size ∧ c.size ≤ 1024 ∧ c.lit = []
  else if c.kind = 3 then c.none3 ∧ c.key = key0 ∧ c.fp = hash0 ∧ c.lit.length ≤ 64
  else (4 ≤ c.kind ∧ c.kind ≤ 9) ∧ c.none3 ∧ c.lit = []
instance (c : Cap13) : Decidable c.ok := by unfold Cap13.ok; infer_instance

def VerK (k : Int) : Prop := k = 2 ∨ k = 6 ∨ k = 9
instance (k : Int) : Decidable (VerK k) := inferInstanceAs (Decidable (_ ∨ _))
def WriK (k : Int) : Prop := k = 4 ∨ k = 7
instance (k : Int) : Decidable (WriK k) := inferInstanceAs (Decidable (_ ∨ _))
def Cap13.reads (c : Cap13) : Prop := c.ok ∧ ¬ VerK c.kind
instance (c : Cap13) : Decidable c.reads := inferInstanceAs (Decidable (_ ∧ _))
def Cap13.writes (c : Cap13) : Prop := c.ok ∧ WriK c.kind
instance (c : Cap13) : Decidable c.writes := inferInstanceAs (Decidable (_ ∧ _))

theorem Cap13.ok_kind {c : Cap13} (h : c.ok) : 1 ≤ c.kind ∧ c.kind ≤ 9 := by
  unfold Cap13.ok at h
  by_cases hf : FileK c.kind
  · rcases hf with hf | hf <;> omega
  · rw [if_neg hf] at h
    by_cases h3 : c.kind = 3
    · omega
    · rw [if_neg h3] at h
      have := h.1
      omega

/-- The words of kinds. -/
def words13 : List (List UInt8) := [[], [102, 105, 108, 101], [102, 105, 108, 101, 45, 118, 101, 114, 105, 102, 121], [108, 105, 116], [115, 108, 111, 116], [115, 108, 111, 116, 45, 114, 101, 97, 100], [115, 108, 111, 116, 45, 118, 101, 114, 105, 102, 121], [100, 105, 114], [100, 105, 114, 45, 114, 101, 97, 100], [100, 105, 114, 45, 118, 101, 114, 105, 102, 121]]
def wordL (k : Int) : List UInt8 := words13.getD k.toNat []

def dd13 (i : Int) : List UInt8 := Lib.decDigits i.toNat

/-- A text's pieces. -/
def Cap13.pieces (c : Cap13) : List (List UInt8) :=
  if c.kind = 3 then [[97, 117], wordL c.kind, enc c.lit]
  else if FileK c.kind then [[97, 117], wordL c.kind, enc c.key, enc c.fp, dd13 c.k, dd13 c.n, dd13 c.size]
  else [[97, 117], wordL c.kind, enc c.key, enc c.fp]

def join58 : List (List UInt8) → List UInt8
  | [] => []
  | [a] => a
  | a :: b :: r => a ++ 58 :: join58 (b :: r)

def Cap13.text (c : Cap13) : List UInt8 := join58 c.pieces

/-- No colon in it. -/
def NoC (l : List UInt8) : Prop := ∀ x ∈ l, x ≠ 58

theorem noC_good {l : List UInt8} (h : Good l) : NoC l := by
  intro x hx e
  have := h x hx
  rw [e] at this
  exact absurd this (by decide)
theorem noC_enc (l : List UInt8) : NoC (enc l) := noC_good (enc_num l 0 0 (by omega) (by simp)).1
theorem noC_dec (u : Nat) : NoC (Lib.decDigits u) := by
  intro x hx e
  have := dec_all_digits u x hx
  rw [e] at this
  exact absurd this (by decide)
theorem noC_words : ∀ l ∈ words13, NoC l := by unfold NoC; decide
theorem noC_word (k : Int) : NoC (wordL k) := by
  unfold wordL
  by_cases h : k.toNat < words13.length
  · rw [List.getD_eq_getElem?_getD, List.getElem?_eq_getElem h]
    exact noC_words _ (List.getElem_mem h)
  · rw [List.getD_eq_getElem?_getD, List.getElem?_eq_none (by omega)]
    intro x hx; cases hx

theorem Cap13.noC (c : Cap13) : ∀ p ∈ c.pieces, NoC p := by
  have hau : NoC [97, 117] := by unfold NoC; decide
  unfold Cap13.pieces
  split
  · intro p hp
    simp only [List.mem_cons, List.not_mem_nil, or_false] at hp
    rcases hp with rfl | rfl | rfl
    · exact hau
    · exact noC_word _
    · exact noC_enc _
  · split
    · intro p hp
      simp only [List.mem_cons, List.not_mem_nil, or_false] at hp
      rcases hp with rfl | rfl | rfl | rfl | rfl | rfl | rfl
      · exact hau
      · exact noC_word _
      · exact noC_enc _
      · exact noC_enc _
      · exact noC_dec _
      · exact noC_dec _
      · exact noC_dec _
    · intro p hp
      simp only [List.mem_cons, List.not_mem_nil, or_false] at hp
      rcases hp with rfl | rfl | rfl | rfl
      · exact hau
      · exact noC_word _
      · exact noC_enc _
      · exact noC_enc _

/-! Cut at colons -/
theorem index_noC : ∀ (a r : List UInt8), NoC a → Lib.index (a ++ 58 :: r) [58] = (a.length : Int)
  | [], r, _ => by simp [Lib.index, List.isPrefixOf]
  | x :: a, r, h => by
    have hx : x ≠ 58 := h x (List.mem_cons_self ..)
    have ih := index_noC a r (fun y hy => h y (List.mem_cons_of_mem _ hy))
    rw [List.cons_append, Lib.index, ih]
    have : ([58] : List UInt8).isPrefixOf (x :: (a ++ 58 :: r)) = false := by simp [List.isPrefixOf, Ne.symm hx]
    rw [this]
    simp
theorem index_noC_end : ∀ (a : List UInt8), NoC a → Lib.index a [58] = -1
  | [], _ => by simp [Lib.index]
  | x :: a, h => by
    have hx : x ≠ 58 := h x (List.mem_cons_self ..)
    have ih := index_noC_end a (fun y hy => h y (List.mem_cons_of_mem _ hy))
    rw [Lib.index, ih]
    have : ([58] : List UInt8).isPrefixOf (x :: a) = false := by simp [List.isPrefixOf, Ne.symm hx]
    rw [this]
    simp

theorem split_pieces : ∀ (ps : List (List UInt8)) (m : Nat), ps ≠ [] → (∀ p ∈ ps, NoC p) → ps.length ≤ m + 1 → Lib.splitK [58] 0 m (join58 ps) = ps
  | [], _, h, _, _ => absurd rfl h
  | [a], 0, _, _, _ => rfl
  | [a], m + 1, _, h, _ => by
    rw [join58, Lib.splitK, index_noC_end a (h a (List.mem_singleton_self a))]
    rfl
  | a :: b :: r, 0, _, _, hl => by simp at hl
  | a :: b :: r, m + 1, _, h, hl => by
    have hi := index_noC a (join58 (b :: r)) (h a (List.mem_cons_self ..))
    rw [join58, Lib.splitK, hi, if_neg (by simp)]
    have e1 : ((a.length : Int)).toNat = a.length := by omega
    rw [e1]
    have e2 : (a ++ 58 :: join58 (b :: r)).drop (a.length + ([58] : List UInt8).length) = join58 (b :: r) := by
      rw [List.drop_append]
      simp
    have e3 : (a ++ 58 :: join58 (b :: r)).take (a.length + 0) = a := by simp
    rw [e2, e3, split_pieces (b :: r) m (by simp) (fun p hp => h p (List.mem_cons_of_mem _ hp)) (by simp at hl ⊢; omega)]

/-- All pieces between colons. -/
def cut58 : List UInt8 → List (List UInt8)
  | [] => [[]]
  | x :: l => if x = 58 then [] :: cut58 l else match cut58 l with
    | [] => [[x]]
    | p :: r => (x :: p) :: r

theorem cut58_ne (l : List UInt8) : cut58 l ≠ [] := by
  cases l with
  | nil => simp [cut58]
  | cons x l =>
    unfold cut58
    split
    · simp
    · split <;> simp
theorem cut58_end : ∀ a : List UInt8, NoC a → cut58 a = [a]
  | [], _ => rfl
  | x :: a, h => by
    have hx : x ≠ 58 := h x (List.mem_cons_self ..)
    rw [cut58, if_neg hx, cut58_end a (fun y hy => h y (List.mem_cons_of_mem _ hy))]
theorem cut58_app : ∀ (a r : List UInt8), NoC a → cut58 (a ++ 58 :: r) = a :: cut58 r
  | [], r, _ => by rw [List.nil_append, cut58, if_pos rfl]
  | x :: a, r, h => by
    have hx : x ≠ 58 := h x (List.mem_cons_self ..)
    rw [List.cons_append, cut58, if_neg hx, cut58_app a r (fun y hy => h y (List.mem_cons_of_mem _ hy))]
theorem cut58_pieces : ∀ (ps : List (List UInt8)), ps ≠ [] → (∀ p ∈ ps, NoC p) → cut58 (join58 ps) = ps
  | [], h, _ => absurd rfl h
  | [a], _, h => by rw [join58, cut58_end a (h a (List.mem_singleton_self a))]
  | a :: b :: r, _, h => by
    rw [join58, cut58_app a _ (h a (List.mem_cons_self ..)), cut58_pieces (b :: r) (by simp) (fun p hp => h p (List.mem_cons_of_mem _ hp))]

/-! Numbers -/
theorem digitVal_isDig {x : UInt8} (h : isDig x = true) : Lib.digitVal x = some (x.toNat - 48) := by
  unfold Lib.digitVal
  rw [if_pos (by simpa [isDig] using h)]
theorem decFrom_fold : ∀ (ds : List UInt8) (v : Nat), (∀ x ∈ ds, isDig x = true) → Lib.decFrom v ds = some (ds.foldl (fun a x => a * 10 + (x.toNat - 48)) v)
  | [], v, _ => rfl
  | x :: ds, v, h => by
    rw [Lib.decFrom, digitVal_isDig (h x (List.mem_cons_self ..))]
    exact decFrom_fold ds _ (fun y hy => h y (List.mem_cons_of_mem _ hy))
theorem dec_ne13 (u : Nat) : Lib.decDigits u ≠ [] := by
  intro h
  have := Lib.decDigits_length u
  rw [h] at this
  have h2 : 1 ≤ Lib.nDigits u := by rw [Lib.nDigits]; split <;> omega
  simp at this
  omega
theorem atoi_dec (u : Nat) : Lib.atoi (Lib.decDigits u) = some (u : Int) := by
  have hd := dec_all_digits u
  have hf := decFrom_fold _ 0 hd
  rw [dec_fold] at hf
  have hne := dec_ne13 u
  cases hl : Lib.decDigits u with
  | nil => exact absurd hl hne
  | cons b r =>
    rw [hl] at hd hf
    have hb := hd b (List.mem_cons_self ..)
    have h45 : (b == 45) = false := by
      rw [beq_eq_false_iff_ne]
      intro e; rw [e] at hb; exact absurd hb (by decide)
    have h43 : (b == 43) = false := by
      rw [beq_eq_false_iff_ne]
      intro e; rw [e] at hb; exact absurd hb (by decide)
    rw [Lib.atoi, h45, h43, if_neg (by simp), if_neg (by simp), Lib.decNat, if_neg (by simp), hf]
    rfl

/-- What Atoi makes of a text, error or none. -/
def atoiV (l : List UInt8) : Int := match Lib.atoiAll l with
  | .ok v => v
  | .range => Lib.atoiSat l
  | _ => 0
theorem atoiV_dec (i : Int) (h0 : 0 ≤ i) (h1 : i ≤ 1024) : atoiV (dd13 i) = i := by
  have hl : (dd13 i).length ≤ 18 := by
    unfold dd13
    rw [Lib.decDigits_length]
    have : Lib.nDigits i.toNat ≤ 5 := by
      rw [Lib.nDigits]; split; omega
      rw [Lib.nDigits]; split; omega
      rw [Lib.nDigits]; split; omega
      rw [Lib.nDigits]; split; omega
      omega
    omega
  unfold atoiV
  rw [Lib.atoiAll_short _ hl]
  unfold dd13
  rw [atoi_dec]
  show ((i.toNat : Nat) : Int) = i
  omega

/-- The document's own number: at most seven digits are read; a letter that is no digit makes 0. -/
def numFrom : Nat → Nat → List UInt8 → Nat
  | _, n, [] => n
  | 0, n, _ => n
  | j + 1, n, x :: l => if isDig x then numFrom j (10 * n + (x.toNat - 48)) l else 0
theorem numFrom_fold : ∀ (j n : Nat) (ds : List UInt8), (∀ x ∈ ds, isDig x = true) → ds.length ≤ j → numFrom j n ds = ds.foldl (fun a x => a * 10 + (x.toNat - 48)) n
  | 0, n, [], _, _ => rfl
  | 0, n, x :: l, _, h => by simp at h
  | j + 1, n, [], _, _ => rfl
  | j + 1, n, x :: l, hd, h => by
    rw [numFrom, if_pos (hd x (List.mem_cons_self ..)), numFrom_fold j _ l (fun y hy => hd y (List.mem_cons_of_mem _ hy)) (by simp at h; omega), List.foldl_cons, Nat.mul_comm]
def numV (l : List UInt8) : Int := (numFrom 7 0 l : Nat)
theorem numV_dec (i : Int) (h0 : 0 ≤ i) (h1 : i ≤ 1024) : numV (dd13 i) = i := by
  have hl : (dd13 i).length ≤ 7 := by
    unfold dd13
    rw [Lib.decDigits_length]
    rw [Lib.nDigits]; split; omega
    rw [Lib.nDigits]; split; omega
    rw [Lib.nDigits]; split; omega
    rw [Lib.nDigits]; split; omega
    omega
  unfold numV
  rw [numFrom_fold 7 0 (dd13 i) (dec_all_digits _) hl]
  unfold dd13
  rw [dec_fold]
  omega

/-! What a text may be the text of -/
/-- The first n bytes, noughts behind. -/
def padC (n : Nat) (l : List UInt8) : List UInt8 := l.take n ++ List.replicate (n - l.length) 0
theorem padC_len (n : Nat) (l : List UInt8) : (padC n l).length = n := by
  unfold padC
  rw [List.length_append, List.length_take, List.length_replicate]
  omega
theorem padC_full {n : Nat} {l : List UInt8} (h : l.length = n) : padC n l = l := by
  unfold padC
  rw [← h]
  simp

/-- A word's place among the words; -1: none. -/
def kindOf (p : List UInt8) : Int := if words13.findIdx (· == p) < words13.length then ((words13.findIdx (· == p) : Nat) : Int) else -1

theorem kindOf_word (k : Int) (h0 : 0 ≤ k) (h1 : k ≤ 9) : kindOf (wordL k) = k := by
  obtain ⟨n, rfl⟩ : ∃ n : Nat, k = (n : Int) := ⟨k.toNat, by omega⟩
  have : ∀ n : Nat, n < 10 → kindOf (wordL (n : Int)) = (n : Int) := by decide
  exact this n (by omega)

/-- The program's guess. -/
def guess13 (ps : List (List UInt8)) : Cap13 :=
  if kindOf (ps.getD 1 []) = 3 then ⟨3, key0, hash0, 0, 0, 0, ans (ps.getD 2 [])⟩
  else ⟨kindOf (ps.getD 1 []), padC 16 (ans (ps.getD 2 [])), padC 32 (ans (ps.getD 3 [])), atoiV (ps.getD 4 []), atoiV (ps.getD 5 []), atoiV (ps.getD 6 []), []⟩

def Cap13.wf (c : Cap13) : Prop := c.key.length = 16 ∧ c.fp.length = 32

theorem ans_enc (l : List UInt8) : ans (enc l) = l := by
  unfold ans
  rw [bytes32_enc]
  rfl

theorem atoiV_nil : atoiV [] = 0 := rfl

theorem ok_three {c : Cap13} (h : c.ok) (h3 : c.kind = 3) : c = ⟨3, key0, hash0, 0, 0, 0, c.lit⟩ := by
  unfold Cap13.ok Cap13.none3 at h
  rw [if_neg (by unfold FileK; omega), if_pos h3] at h
  obtain ⟨kind, key, fp, k, n, size, lit⟩ := c
  dsimp only at h h3 ⊢
  obtain ⟨⟨rfl, rfl, rfl⟩, rfl, rfl, _⟩ := h
  rw [h3]
theorem ok_fileK {c : Cap13} (h : c.ok) (hf : FileK c.kind) : 1 ≤ c.k ∧ c.k ≤ c.n ∧ c.n ≤ 16 ∧ 1 ≤ c.size ∧ c.size ≤ 1024 ∧ c.lit = [] := by
  unfold Cap13.ok at h
  rwa [if_pos hf] at h
theorem ok_slotK {c : Cap13} (h : c.ok) (h3 : c.kind ≠ 3) (hf : ¬ FileK c.kind) : c = ⟨c.kind, c.key, c.fp, 0, 0, 0, []⟩ := by
  unfold Cap13.ok Cap13.none3 at h
  rw [if_neg hf, if_neg h3] at h
  obtain ⟨kind, key, fp, k, n, size, lit⟩ := c
  dsimp only at h ⊢
  obtain ⟨_, ⟨rfl, rfl, rfl⟩, rfl⟩ := h
  rfl
theorem pieces_three {c : Cap13} (h3 : c.kind = 3) : c.pieces = [[97, 117], wordL 3, enc c.lit] := by
  unfold Cap13.pieces
  rw [if_pos h3, h3]
theorem pieces_file {c : Cap13} (h3 : c.kind ≠ 3) (hf : FileK c.kind) : c.pieces = [[97, 117], wordL c.kind, enc c.key, enc c.fp, dd13 c.k, dd13 c.n, dd13 c.size] := by
  unfold Cap13.pieces
  rw [if_neg h3, if_pos hf]
theorem pieces_slot {c : Cap13} (h3 : c.kind ≠ 3) (hf : ¬ FileK c.kind) : c.pieces = [[97, 117], wordL c.kind, enc c.key, enc c.fp] := by
  unfold Cap13.pieces
  rw [if_neg h3, if_neg hf]

theorem guess_pieces {c : Cap13} (hw : c.wf) (h : c.ok) : guess13 c.pieces = c := by
  have hk := c.ok_kind h
  have hkw := kindOf_word c.kind (by omega) (by omega)
  unfold guess13
  by_cases h3 : c.kind = 3
  · rw [pieces_three h3]
    simp only [List.getD_cons_succ, List.getD_cons_zero]
    rw [h3] at hkw
    rw [if_pos hkw, ans_enc]
    exact (ok_three h h3).symm
  · by_cases hf : FileK c.kind
    · obtain ⟨h1, h2, h4, h5, h6, h7⟩ := ok_fileK h hf
      rw [pieces_file h3 hf]
      simp only [List.getD_cons_succ, List.getD_cons_zero]
      rw [hkw, if_neg h3, ans_enc, ans_enc, padC_full hw.1, padC_full hw.2, atoiV_dec c.k (by omega) (by omega), atoiV_dec c.n (by omega) (by omega), atoiV_dec c.size (by omega) (by omega), ← h7]
    · rw [pieces_slot h3 hf]
      simp only [List.getD_cons_succ, List.getD_cons_zero, List.getD_nil]
      rw [hkw, if_neg h3, ans_enc, ans_enc, padC_full hw.1, padC_full hw.2, atoiV_nil]
      exact (ok_slotK h h3 hf).symm

/-- The document's guess. -/
def rguess13 (ps : List (List UInt8)) : Cap13 :=
  let kd : Int := if 1 ≤ kindOf (ps.getD 1 []) then kindOf (ps.getD 1 []) else 0
  if kd = 3 then ⟨3, key0, hash0, 0, 0, 0, ans (ps.getD 2 [])⟩
  else if (ans (ps.getD 2 [])).length = 16 ∧ 3 < ps.length then
    (if FileK kd ∧ 6 < ps.length then ⟨kd, ans (ps.getD 2 []), padC 32 (ans (ps.getD 3 [])), numV (ps.getD 4 []), numV (ps.getD 5 []), numV (ps.getD 6 []), []⟩
     else ⟨kd, ans (ps.getD 2 []), padC 32 (ans (ps.getD 3 [])), 0, 0, 0, []⟩)
  else ⟨kd, key0, hash0, 0, 0, 0, []⟩

theorem rguess_pieces {c : Cap13} (hw : c.wf) (h : c.ok) : rguess13 c.pieces = c := by
  have hk := c.ok_kind h
  have hkw := kindOf_word c.kind (by omega) (by omega)
  unfold rguess13
  dsimp only
  by_cases h3 : c.kind = 3
  · rw [pieces_three h3]
    simp only [List.getD_cons_succ, List.getD_cons_zero]
    rw [h3] at hkw
    rw [hkw, if_pos (show (1 : Int) ≤ 3 by decide), if_pos rfl, ans_enc]
    exact (ok_three h h3).symm
  · by_cases hf : FileK c.kind
    · obtain ⟨h1, h2, h4, h5, h6, h7⟩ := ok_fileK h hf
      rw [pieces_file h3 hf]
      simp only [List.getD_cons_succ, List.getD_cons_zero]
      rw [hkw, if_pos (show 1 ≤ c.kind by omega), if_neg h3, ans_enc, ans_enc, if_pos ⟨hw.1, by simp⟩, if_pos ⟨hf, by simp⟩, padC_full hw.2, numV_dec c.k (by omega) (by omega), numV_dec c.n (by omega) (by omega), numV_dec c.size (by omega) (by omega), ← h7]
    · rw [pieces_slot h3 hf]
      simp only [List.getD_cons_succ, List.getD_cons_zero, List.getD_nil]
      rw [hkw, if_pos (show 1 ≤ c.kind by omega), if_neg h3, ans_enc, ans_enc, if_pos ⟨hw.1, by simp⟩, if_neg (fun h => hf h.1), padC_full hw.2]
      exact (ok_slotK h h3 hf).symm

/-- What Parse answers. -/
def parse13 (s : List UInt8) : Option Cap13 :=
  let c := guess13 (Lib.splitK [58] 0 6 s)
  if c.ok ∧ c.text = s then some c else none
def rparse13 (s : List UInt8) : Option Cap13 :=
  let c := rguess13 (cut58 s)
  if c.ok ∧ c.text = s then some c else none

theorem Cap13.pieces_ne (c : Cap13) : c.pieces ≠ [] := by unfold Cap13.pieces; split; simp; split <;> simp
theorem Cap13.pieces_len (c : Cap13) : c.pieces.length ≤ 7 := by unfold Cap13.pieces; split; simp; split <;> simp

theorem kindOf_nonneg_or (p : List UInt8) : -1 ≤ kindOf p ∧ kindOf p ≤ 9 := by
  unfold kindOf
  split
  · rename_i h
    have : words13.length = 10 := rfl
    omega
  · omega
theorem guess_wf (ps : List (List UInt8)) : (guess13 ps).wf := by
  unfold guess13
  split
  · exact ⟨rfl, rfl⟩
  · exact ⟨padC_len _ _, padC_len _ _⟩
theorem rguess_wf (ps : List (List UInt8)) : (rguess13 ps).wf := by
  unfold rguess13
  dsimp only
  generalize (if 1 ≤ kindOf (ps.getD 1 []) then kindOf (ps.getD 1 []) else 0) = kd
  by_cases h3 : kd = 3
  · rw [if_pos h3]; exact ⟨rfl, rfl⟩
  · rw [if_neg h3]
    by_cases h : (ans (ps.getD 2 [])).length = 16 ∧ 3 < ps.length
    · rw [if_pos h]
      by_cases h' : FileK kd ∧ 6 < ps.length
      · rw [if_pos h']; exact ⟨h.1, padC_len _ _⟩
      · rw [if_neg h']; exact ⟨h.1, padC_len _ _⟩
    · rw [if_neg h]; exact ⟨rfl, rfl⟩

theorem parse_text {c : Cap13} (hw : c.wf) (h : c.ok) : parse13 c.text = some c := by
  unfold parse13 Cap13.text
  rw [split_pieces c.pieces 6 c.pieces_ne c.noC c.pieces_len, guess_pieces hw h, if_pos ⟨h, rfl⟩]
theorem rparse_text {c : Cap13} (hw : c.wf) (h : c.ok) : rparse13 c.text = some c := by
  unfold rparse13 Cap13.text
  rw [cut58_pieces c.pieces c.pieces_ne c.noC, rguess_pieces hw h, if_pos ⟨h, rfl⟩]
theorem parse_some {s : List UInt8} {c : Cap13} (h : parse13 s = some c) : c.ok ∧ c.text = s ∧ c.wf := by
  unfold parse13 at h
  dsimp only at h
  split at h
  · rename_i hc
    injection h with h
    subst h
    exact ⟨hc.1, hc.2, guess_wf _⟩
  · cases h
theorem rparse_some {s : List UInt8} {c : Cap13} (h : rparse13 s = some c) : c.ok ∧ c.text = s ∧ c.wf := by
  unfold rparse13 at h
  dsimp only at h
  split at h
  · rename_i hc
    injection h with h
    subst h
    exact ⟨hc.1, hc.2, rguess_wf _⟩
  · cases h
theorem parse_same (s : List UInt8) : parse13 s = rparse13 s := by
  cases h : parse13 s with
  | some c =>
    obtain ⟨h1, h2, h3⟩ := parse_some h
    rw [← h2, rparse_text h3 h1]
  | none =>
    cases h' : rparse13 s with
    | none => rfl
    | some c =>
      obtain ⟨h1, h2, h3⟩ := rparse_some h'
      rw [← h2, parse_text h3 h1] at h
      cases h
theorem text_inj {a b : Cap13} (ha : a.wf) (hb : b.wf) (h : a.ok) (h' : b.ok) (e : a.text = b.text) : a = b := by
  have h1 := parse_text ha h
  rw [e, parse_text hb h'] at h1
  injection h1 with h1
  exact h1.symm

/-- How long a text is. -/
theorem nd_small {u : Nat} (h : u ≤ 1024) : (Lib.decDigits u).length ≤ 4 := by
  rw [Lib.decDigits_length]
  rw [Lib.nDigits]; split; omega
  rw [Lib.nDigits]; split; omega
  rw [Lib.nDigits]; split; omega
  rw [Lib.nDigits]; split; omega
  omega
end Go.Proofs.YtkkokngdhhakdaaDoor
