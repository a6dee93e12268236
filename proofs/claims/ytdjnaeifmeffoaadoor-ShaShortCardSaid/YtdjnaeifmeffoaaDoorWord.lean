/- Bit operations on words of 32 digits. -/
import Derived.Test.YtdjnaeifmeffoaaDoorSha
import Derived.Test.YtdjnaeifmeffoaaDoorBlk
namespace Go.Proofs.YtdjnaeifmeffoaaDoor
open Go.RowKit

theorem u32_wraps (n : Int) (h0 : 0 ≤ n) (h1 : n < 2 ^ 32) : IntKind.u32.wrap n = n := by rw [IntKind.wrap_u32]; omega
theorem or_u32 (a b : Nat) (ha : a < 4294967296) (hb : b < 4294967296) : bits .or .u32 (a : Int) (b : Int) = ((a ||| b : Nat) : Int) :=
  (bits_nat .u32 32 (by decide) u32_wraps a b ha hb).2
theorem and_u32 (a b : Nat) (ha : a < 4294967296) (hb : b < 4294967296) : bits .and .u32 (a : Int) (b : Int) = ((a &&& b : Nat) : Int) :=
  (bits_nat .u32 32 (by decide) u32_wraps a b ha hb).1
theorem xor_u32 (a b : Nat) (ha : a < 4294967296) (hb : b < 4294967296) : bits .xor .u32 (a : Int) (b : Int) = ((a ^^^ b : Nat) : Int) := by
  have ha' : a % 2 ^ 32 = a := Nat.mod_eq_of_lt ha
  have hb' : b % 2 ^ 32 = b := Nat.mod_eq_of_lt hb
  have hk : IntKind.u32.bits = 32 := rfl
  simp only [bits, hk, BitVec.ofInt_natCast, BitVec.toNat_xor, BitVec.toNat_ofNat, ha', hb']
  exact u32_wraps _ (by omega) (by have := xor_lt ha hb; omega)

theorem not_u32 (e : Nat) (h : e < 4294967296) : bits .xor .u32 IntKind.u32.max (e : Int) = ((4294967295 - e : Nat) : Int) := by
  have hm : IntKind.u32.max = ((4294967295 : Nat) : Int) := by decide
  rw [hm, xor_u32 _ _ (by decide) h]
  have h1 : (BitVec.allOnes 32 ^^^ BitVec.ofNat 32 e) = ~~~(BitVec.ofNat 32 e) := by rw [BitVec.allOnes_xor]
  have h2 := congrArg BitVec.toNat h1
  rw [BitVec.toNat_xor, BitVec.toNat_not, BitVec.toNat_allOnes, BitVec.toNat_ofNat, Nat.mod_eq_of_lt (show e < 2 ^ 32 from h)] at h2
  exact congrArg _ h2
theorem chs_val (e f g : Nat) (he : e < 4294967296) (hf : f < 4294967296) (hg : g < 4294967296) :
    bits .xor .u32 (bits .and .u32 (e : Int) (f : Int)) (bits .and .u32 (bits .xor .u32 IntKind.u32.max (e : Int)) (g : Int)) = (chs e f g : Int) := by
  rw [not_u32 e he, and_u32 _ _ he hf, and_u32 _ _ (by omega) hg, xor_u32 _ _ (and_lt hf) (and_lt hg)]
  rfl
theorem maj_val (a b c : Nat) (ha : a < 4294967296) (hb : b < 4294967296) (hc : c < 4294967296) :
    bits .xor .u32 (bits .xor .u32 (bits .and .u32 (a : Int) (b : Int)) (bits .and .u32 (a : Int) (c : Int))) (bits .and .u32 (b : Int) (c : Int)) = (maj a b c : Int) := by
  rw [and_u32 _ _ ha hb, and_u32 _ _ ha hc, and_u32 _ _ hb hc, xor_u32 _ _ (and_lt hb) (and_lt hc), xor_u32 _ _ (xor_lt (and_lt hb) (and_lt hc)) (and_lt hc)]
  rfl
def h8 (H : H8) : Array Value := u32A (list8 H)
theorem h8_size (H : H8) : (h8 H).size = 8 := rfl
theorem h8_one (H : H8) : (h8 H).all (·.oneCell') = true := u32A_one _
theorem kL_len : kL.length = 64 := rfl
theorem kL_get (j : Nat) (h : j < 64) : (u32Cells kL).toArray[j]? = some (.int .u32 (((kL.getD j 0).toNat : Nat) : Int)) ∧ (kL.getD j 0).toNat < 4294967296 := by
  have hj : j < kL.length := h
  have hm := kL_lt kL[j] (List.getElem_mem hj)
  have e : kL.getD j 0 = kL[j] := by rw [List.getD_eq_getElem?_getD, List.getElem?_eq_getElem hj]; rfl
  rw [e]
  refine ⟨?_, by omega⟩
  rw [show ((kL[j].toNat : Nat) : Int) = kL[j] from by omega]
  simp [u32Cells, hj]
end Go.Proofs.YtdjnaeifmeffoaaDoor
