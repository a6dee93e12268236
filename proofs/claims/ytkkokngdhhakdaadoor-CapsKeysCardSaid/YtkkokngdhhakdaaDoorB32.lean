/- Letters of bytes, as plain lists: what Base32 writes from any state on. -/
namespace Go.Proofs.YtkkokngdhhakdaaDoor

/-- The alphabet's bytes. -/
def abc : List UInt8 := [97, 98, 99, 100, 101, 102, 103, 104, 105, 106, 107, 108, 109, 110, 111, 112, 113, 114, 115, 116, 117, 118, 119, 120, 121, 122, 50, 51, 52, 53, 54, 55]
def letter (k : Nat) : UInt8 := abc.getD k 0

/-- What is still to be written: b binary digits are held in h; the bytes of l are to come. -/
def encFrom (h b : Nat) (l : List UInt8) : List UInt8 :=
  if 5 ≤ b then letter (h / 2 ^ (b - 5)) :: encFrom (h % 2 ^ (b - 5)) (b - 5) l
  else match l with
    | [] => if 0 < b then [letter (h * 2 ^ (5 - b))] else []
    | x :: r => encFrom (h * 256 + x.toNat) (b + 8) r
termination_by 16 * l.length + b
decreasing_by all_goals simp_wf; all_goals omega

theorem encFrom_drain {h b : Nat} (hb : 5 ≤ b) (l : List UInt8) : encFrom h b l = letter (h / 2 ^ (b - 5)) :: encFrom (h % 2 ^ (b - 5)) (b - 5) l := by
  rw [encFrom.eq_def, if_pos hb]
theorem encFrom_cons {h b : Nat} (hb : b < 5) (x : UInt8) (r : List UInt8) : encFrom h b (x :: r) = encFrom (h * 256 + x.toNat) (b + 8) r := by
  rw [encFrom.eq_def, if_neg (by omega)]
theorem encFrom_last {h b : Nat} (hb : b < 5) (h0 : 0 < b) : encFrom h b [] = [letter (h * 2 ^ (5 - b))] := by
  rw [encFrom.eq_def, if_neg (by omega)]; simp [h0]
theorem encFrom_end (h : Nat) : encFrom h 0 [] = [] := by
  rw [encFrom.eq_def, if_neg (by omega)]; simp

def enc (l : List UInt8) : List UInt8 := encFrom 0 0 l

theorem encFrom_length (l : List UInt8) (h b : Nat) : (encFrom h b l).length = (8 * l.length + b + 4) / 5 := by
  induction h, b, l using encFrom.induct with
  | case1 h b l hb ih => rw [encFrom_drain hb, List.length_cons, ih]; omega
  | case2 h b hb h0 => rw [encFrom_last (by omega) h0]; simp; omega
  | case3 h b hb h0 => (obtain rfl : b = 0 := (by omega)); rw [encFrom_end]; simp
  | case4 h b hb x r ih => rw [encFrom_cons (by omega), ih]; simp; omega

theorem enc_length (l : List UInt8) : (enc l).length = (8 * l.length + 4) / 5 := encFrom_length l 0 0
end Go.Proofs.YtkkokngdhhakdaaDoor
