/- Put of the program and of the document answer the same bytes: the number's lowest so many base-256 digits, the greatest first. -/
import Derived.Test.YtclmnpfmodlnjaaProg
import Derived.Test.YtclmnpfmodlnjaaMem
import Derived.WalkLawsBesides
namespace Go.Proofs.Ytclmnpfmodlnjaa
open Go.RowKit

theorem info5 : (Try.prog.info? 5).map (fun i => (i.zero, i.size, i.bytes)) = some (some (.int .u8 0), 1, 1) := by kernel_rfl

/-- The number N as W bytes, the greatest first. -/
def putL (N W : Nat) : List UInt8 := (List.range W).map fun s => UInt8.ofNat (N / 256 ^ (W - 1 - s))
theorem putL_length (N W : Nat) : (putL N W).length = W := by simp [putL]

/-- The cells from t on are the number's. -/
def Filled (N W t : Nat) (xs : List Value) : Prop := ∀ s, t ≤ s → s < W → xs[s]? = some (.int .u8 ((N / 256 ^ (W - 1 - s) % 256 : Nat) : Int))

theorem Filled.top (N W : Nat) (xs : List Value) : Filled N W W xs := fun s h1 h2 => by omega
theorem Filled.down {N W t : Nat} {xs : List Value} (h : Filled N W (t + 1) xs) (hl : xs.length = W) (ht : t < W) {u : Value} (hu : u = .int .u8 ((N / 256 ^ (W - 1 - t) % 256 : Nat) : Int)) : Filled N W t (xs.set t u) := fun s h1 h2 => by
  by_cases e : t = s
  · subst e; rw [List.getElem?_set_self (by omega), hu]
  · rw [List.getElem?_set_ne e]; exact h s (by omega) h2
theorem Filled.all {N W : Nat} {xs : List Value} (h : Filled N W 0 xs) (hl : xs.length = W) : xs = Lib.byteCells (putL N W) := by
  apply List.ext_getElem?
  intro s
  by_cases hs : s < W
  · rw [h s (Nat.zero_le _) hs]
    unfold Lib.byteCells putL
    simp [hs]
  · rw [List.getElem?_eq_none (by omega), List.getElem?_eq_none (by simp [Lib.byteCells, putL]; omega)]

theorem pow_step (N W t : Nat) (ht : t < W) : N / 256 ^ (W - (t + 1)) / 256 = N / 256 ^ (W - t) := by
  rw [Nat.div_div_eq_div_mul, ← Nat.pow_succ, Nat.succ_eq_add_one, show W - (t + 1) + 1 = W - t from by omega]



/-- The number that is put, and the width that it is put at. -/
def putN (n : Int) : Nat := (if n < 0 then 0 else n).toNat
def putW (wd : Int) : Nat := (if 8 < (if wd < 0 then 0 else wd) then 8 else (if wd < 0 then 0 else wd)).toNat

theorem putW_le (wd : Int) : putW wd ≤ 8 := by unfold putW; split <;> split <;> omega
theorem putN_le (n : Int) (h : n ≤ 9223372036854775807) : putN n ≤ 9223372036854775807 := by unfold putN; split <;> omega

end Go.Proofs.Ytclmnpfmodlnjaa
