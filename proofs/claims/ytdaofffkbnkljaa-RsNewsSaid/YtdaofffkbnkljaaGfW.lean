/- The document's example of chapter 4; a field in a world that has only grown. -/
import Derived.Test.YtdaofffkbnkljaaGfS
import Derived.Test.YtdaofffkbnkljaaGfD
namespace Go.Proofs.Ytdaofffkbnkljaa
open Go.RowKit

theorem example4 : mulU 2 128 = 29 := by
  have h2 : (2 : UInt8) = xpU 1 := by kernel_rfl
  have h7 : (128 : UInt8) = xpU 7 := by kernel_rfl
  have h8 : xpU (1 + 7) = 29 := by kernel_rfl
  rw [h2, h7, mulU_xp, h8]
theorem byte_of {a : Int} (h0 : 0 ≤ a) (h1 : a ≤ 255) : ∃ x : UInt8, a = (x.toNat : Int) :=
  ⟨UInt8.ofNat a.toNat, by rw [UInt8.toNat_ofNat', Nat.mod_eq_of_lt (by omega)]; omega⟩

/-- Since W there are only new things, among them a field at g. -/
def Fdd (W : World) (g : Nat) (w : World) : Prop := FdAt w g ∧ Below W.heap.size W w
theorem Fdd.drewN {W w : World} {g : Nat} (h : Fdd W g w) (q : Nat) : Fdd W g (w.drewN q) := ⟨h.1.drewN q, below_drewN h.2 q⟩
theorem lnew (W : World) : Calls Try.prog 34 #[] W fun e w' => ∃ g, e = .returned (.pointer (some ⟨g, 0, none⟩)) ∧ Fdd W g w' :=
  (fnew_any W).mono fun _ _ ⟨g, he, _, hf, hb⟩ => ⟨g, he, hf, hb⟩
theorem lmul {W w : World} {g : Nat} (h : Fdd W g w) (a b : UInt8) :
    Calls Try.prog 70 #[.pointer (some ⟨g, 0, none⟩), .int .u8 (a.toNat : Int), .int .u8 (b.toNat : Int)] w fun e w' => e = .returned (.int .u8 ((mulU a b).toNat : Int)) ∧ Fdd W g w' :=
  (fmul_any g a b w h.1).mono fun _ _ ⟨he, q, hq⟩ => ⟨he, hq ▸ h.drewN q⟩
theorem linv {W w : World} {g : Nat} (h : Fdd W g w) (a : UInt8) :
    Calls Try.prog 71 #[.pointer (some ⟨g, 0, none⟩), .int .u8 (a.toNat : Int)] w fun e w' => e = .returned (.int .u8 ((ivU a).toNat : Int)) ∧ Fdd W g w' :=
  (finv_any g a w h.1).mono fun _ _ ⟨he, hq⟩ => ⟨he, hq ▸ h⟩
theorem lpow {W w : World} {g : Nat} (h : Fdd W g w) (a : UInt8) (n : Int) (hn : -9223372036854775808 ≤ n ∧ n < 9223372036854775808) :
    Calls Try.prog 49 #[.pointer (some ⟨g, 0, none⟩), .int .u8 (a.toNat : Int), .int .i64 n] w fun e w' => e = .returned (.int .u8 ((fpU a n).toNat : Int)) ∧ Fdd W g w' :=
  (fpow_any g a n w hn h.1).mono fun _ _ ⟨he, q, hq⟩ => ⟨he, hq ▸ h.drewN q⟩
theorem ldot {W w : World} {g : Nat} (h : Fdd W g w) (A B : Option Addr) (n m c d C D : Nat) (l k : List UInt8) (hn : l.length = n) (hm : k.length = m) (h1 : n ≤ maxLen) (h2 : m ≤ maxLen) (ha : Rd w C A l) (hb : Rd w D B k) :
    Calls Try.prog 54 #[.pointer (some ⟨g, 0, none⟩), .slice A n c, .slice B m d] w fun e w' => e = .returned (.int .u8 ((dotU l k (min n m)).toNat : Int)) ∧ ∃ q, w' = w.drewN q :=
  fdot_any g A B n m c d C D l k w hn hm h1 h2 ha hb h.1
end Go.Proofs.Ytdaofffkbnkljaa
