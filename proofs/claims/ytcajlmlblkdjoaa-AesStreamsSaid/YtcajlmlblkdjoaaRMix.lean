/- A piece of a function's code, taken out of the translation by its number, so that a theorem can speak of it without its text. One byte of a mixed column: the document's region, by itself. -/
import Derived.Test.YtcajlmlblkdjoaaProg
import Derived.Test.YtcajlmlblkdjoaaRExpand
import Derived.Test.YtcajlmlblkdjoaaAesB
import Derived.IntWalk
namespace Go.Proofs.Ytcajlmlblkdjoaa
def regionOf (k : Nat) : Code → Option Code
  | .region id ops b => bif Nat.beq id k then some (.region id ops b) else none
  | .seq a b => match regionOf k a with
    | some c => some c
    | none => regionOf k b
  | .block _ c => regionOf k c
  | .loop c => regionOf k c
  | .scope c => regionOf k c
  | .cond _ a b => match regionOf k a with
    | some c => some c
    | none => regionOf k b
  | _ => none
end Go.Proofs.Ytcajlmlblkdjoaa
namespace Go.Proofs.Ytcajlmlblkdjoaa
open Go.RowKit

set_option maxRecDepth 100000 in
noncomputable def mixReg : Code := (Try.f29.body.bind (regionOf 26)).getD .skip
set_option maxRecDepth 1000000 in
set_option maxHeartbeats 20000000 in
theorem mix_reg {c0 c1 c2 c3 c4 c5 c6 c7 c8 c9 c11 c12 c16 c17 c18 c19 c20 c21 c22 c23 c24 c25 c26 c27 c28 c29 c30 c31 c32 c33 c34 c35 c36 c37 c38 c39 c40 c41 c42 c43 c44 c45 c46 c47 c48 c49 c50 c51 c52 c53 c54 c55 c56 c57 c58 c59 c60 c61 c62 c63 c64 c65 c66 c67 c68 c69 c70 c71 c72 c73 c74 c75 c76 c77 c78 c79 c80 c81 c82 c83 c84 c85 c86 c87 c88 c89 c90 c91 c92 c93 c94 c95 c96 c97 c98 c99 c100 c101 c102 c103 c104 c105 c106 c107 c108 c109 c110 c111 c112 c113 c114 c115 c116 c117 c118 c119 c120 c121 c122 c123 c124 c125 c126 c127 c128 c129 c130 c131 c132 c133 c134 c135 c136 c137 c138 c139 c140 c141 c142 c143 c144 : Value} {yb tb c i : Nat} {y0 : List UInt8} {wr : World} {Q : Exit → Act → World → Prop} (hlt4 : c < 4) (hi4 : i < 4) (hyt : yb < tb) (HY0 : Hid (y0.length = 16)) (HY : Hid (Blk wr yb (u8A (part (mixU y0) y0 (4 * c + i))) 22)) (HT : Hid (Blk wr tb (u8A (colU y0 c)) 61))
    (hQ : ∀ (u93 u94 u95 u96 u97 u98 u99 u100 u101 u102 u103 u104 u105 u106 u107 u108 u109 u110 u111 u112 u113 u114 u115 u116 u117 u118 u119 u120 u121 u122 u123 u124 u125 u126 : Value), Q .normal ⟨List.toArray (c0 :: c1 :: c2 :: c3 :: c4 :: c5 :: c6 :: c7 :: c8 :: c9 :: .pointer (some ⟨yb, 0, none⟩) :: c11 :: c12 :: .int .i64 (c : Int) :: .pointer (some ⟨tb, 0, none⟩) :: .int .i64 (i : Int) :: c16 :: c17 :: c18 :: c19 :: c20 :: c21 :: c22 :: c23 :: c24 :: c25 :: c26 :: c27 :: c28 :: c29 :: c30 :: c31 :: c32 :: c33 :: c34 :: c35 :: c36 :: c37 :: c38 :: c39 :: c40 :: c41 :: c42 :: c43 :: c44 :: c45 :: c46 :: c47 :: c48 :: c49 :: c50 :: c51 :: c52 :: c53 :: c54 :: c55 :: c56 :: c57 :: c58 :: c59 :: c60 :: c61 :: c62 :: c63 :: c64 :: c65 :: c66 :: c67 :: c68 :: c69 :: c70 :: c71 :: c72 :: c73 :: c74 :: c75 :: c76 :: c77 :: c78 :: c79 :: c80 :: c81 :: c82 :: c83 :: c84 :: c85 :: c86 :: c87 :: c88 :: c89 :: c90 :: c91 :: c92 :: u93 :: u94 :: u95 :: u96 :: u97 :: u98 :: u99 :: u100 :: u101 :: u102 :: u103 :: u104 :: u105 :: u106 :: u107 :: u108 :: u109 :: u110 :: u111 :: u112 :: u113 :: u114 :: u115 :: u116 :: u117 :: u118 :: u119 :: u120 :: u121 :: u122 :: u123 :: u124 :: u125 :: u126 :: c127 :: c128 :: c129 :: c130 :: c131 :: c132 :: c133 :: c134 :: c135 :: c136 :: c137 :: c138 :: c139 :: c140 :: c141 :: c142 :: c143 :: c144 :: []), []⟩ ((wr.setCell ⟨yb, 4 * c + i, none⟩ (.int .u8 (((mixU y0).getD (4 * c + i) 0).toNat : Int))).drew)) :
    Code.wp Try.prog mixReg Q ⟨List.toArray (c0 :: c1 :: c2 :: c3 :: c4 :: c5 :: c6 :: c7 :: c8 :: c9 :: .pointer (some ⟨yb, 0, none⟩) :: c11 :: c12 :: .int .i64 (c : Int) :: .pointer (some ⟨tb, 0, none⟩) :: .int .i64 (i : Int) :: c16 :: c17 :: c18 :: c19 :: c20 :: c21 :: c22 :: c23 :: c24 :: c25 :: c26 :: c27 :: c28 :: c29 :: c30 :: c31 :: c32 :: c33 :: c34 :: c35 :: c36 :: c37 :: c38 :: c39 :: c40 :: c41 :: c42 :: c43 :: c44 :: c45 :: c46 :: c47 :: c48 :: c49 :: c50 :: c51 :: c52 :: c53 :: c54 :: c55 :: c56 :: c57 :: c58 :: c59 :: c60 :: c61 :: c62 :: c63 :: c64 :: c65 :: c66 :: c67 :: c68 :: c69 :: c70 :: c71 :: c72 :: c73 :: c74 :: c75 :: c76 :: c77 :: c78 :: c79 :: c80 :: c81 :: c82 :: c83 :: c84 :: c85 :: c86 :: c87 :: c88 :: c89 :: c90 :: c91 :: c92 :: c93 :: c94 :: c95 :: c96 :: c97 :: c98 :: c99 :: c100 :: c101 :: c102 :: c103 :: c104 :: c105 :: c106 :: c107 :: c108 :: c109 :: c110 :: c111 :: c112 :: c113 :: c114 :: c115 :: c116 :: c117 :: c118 :: c119 :: c120 :: c121 :: c122 :: c123 :: c124 :: c125 :: c126 :: c127 :: c128 :: c129 :: c130 :: c131 :: c132 :: c133 :: c134 :: c135 :: c136 :: c137 :: c138 :: c139 :: c140 :: c141 :: c142 :: c143 :: c144 :: []), []⟩ wr := by
  have hii : (i : Int) < 4 := by omega
  obtain ⟨n, hn⟩ : ∃ n, 4 * c + i = n := ⟨_, rfl⟩
  have n0 : (0 : Int) ≤ 4 * (c : Int) + (i : Int) := by omega
  have n1 : 4 * (c : Int) + (i : Int) < 16 := by omega
  have n2 : (4 * (c : Int) + (i : Int)).toNat = n := by omega
  have hn16 : n < 16 := by omega
  rw [hn] at HY hQ
  have HMX := Lib.hid (show (mixU y0).getD n 0 = mixAt (colU y0 c) i by rw [mixU_at y0 hn16, show n / 4 = c by omega, show n % 4 = i by omega])
  obtain ⟨j1, hj1⟩ : ∃ j, (i + 1) % 4 = j := ⟨_, rfl⟩
  obtain ⟨j2, hj2⟩ : ∃ j, (i + 2) % 4 = j := ⟨_, rfl⟩
  obtain ⟨j3, hj3⟩ : ∃ j, (i + 3) % 4 = j := ⟨_, rfl⟩
  have l4 : (colU y0 c).length = 4 := rfl
  have a0 := HT.out.byteAt (i := i) (by rw [l4]; exact hi4)
  have a1 := HT.out.byteAt (i := j1) (by rw [l4]; omega)
  have a2 := HT.out.byteAt (i := j2) (by rw [l4]; omega)
  have a3 := HT.out.byteAt (i := j3) (by rw [l4]; omega)
  have HMA := Lib.hid (show mixAt (colU y0 c) i = twU ((colU y0 c).getD i 0) ^^^ twU ((colU y0 c).getD j1 0) ^^^ (colU y0 c).getD j1 0 ^^^ (colU y0 c).getD j2 0 ^^^ (colU y0 c).getD j3 0 by unfold mixAt; rw [hj1, hj2, hj3])
  have hf := HY.out.frozen n
  obtain ⟨o, ho⟩ : ∃ old, wr.cell? ⟨yb, n, none⟩ = some old := ⟨_, HY.out.byteAt (i := n) (by rw [part_len (mixU_len y0) HY0.out (by omega)]; exact hn16)⟩
  have r1 : ((i : Int) + 1).tmod 4 = ((i : Int) + 1) % 4 := Int.tmod_eq_emod_of_nonneg (by omega)
  have r2 : ((i : Int) + 2).tmod 4 = ((i : Int) + 2) % 4 := Int.tmod_eq_emod_of_nonneg (by omega)
  have r3 : ((i : Int) + 3).tmod 4 = ((i : Int) + 3) % 4 := Int.tmod_eq_emod_of_nonneg (by omega)
  have p1 : (0 : Int) ≤ ((i : Int) + 1) % 4 := by omega
  have p2 : (0 : Int) ≤ ((i : Int) + 2) % 4 := by omega
  have p3 : (0 : Int) ≤ ((i : Int) + 3) % 4 := by omega
  have s1 : ((i : Int) + 1) % 4 < 4 := by omega
  have s2 : ((i : Int) + 2) % 4 < 4 := by omega
  have s3 : ((i : Int) + 3) % 4 < 4 := by omega
  have u1 : (((i : Int) + 1) % 4).toNat = j1 := by omega
  have u2 : (((i : Int) + 2) % 4).toNat = j2 := by omega
  have u3 : (((i : Int) + 3) % 4).toNat = j3 := by omega
  have HKS := Lib.hid (fun (v : Value) => (⟨((HT.out.other (p := ⟨yb, n, none⟩) (by simp; omega) v).cell i).trans ((HT.out.cell i).symm.trans a0), ((HT.out.other (p := ⟨yb, n, none⟩) (by simp; omega) v).cell j1).trans ((HT.out.cell j1).symm.trans a1), ((HT.out.other (p := ⟨yb, n, none⟩) (by simp; omega) v).cell j2).trans ((HT.out.cell j2).symm.trans a2), ((HT.out.other (p := ⟨yb, n, none⟩) (by simp; omega) v).cell j3).trans ((HT.out.cell j3).symm.trans a3)⟩ : (wr.setCell ⟨yb, n, none⟩ v).cell? ⟨tb, i, none⟩ = some (.int .u8 (((colU y0 c).getD i 0).toNat : Int)) ∧ (wr.setCell ⟨yb, n, none⟩ v).cell? ⟨tb, j1, none⟩ = some (.int .u8 (((colU y0 c).getD j1 0).toNat : Int)) ∧ (wr.setCell ⟨yb, n, none⟩ v).cell? ⟨tb, j2, none⟩ = some (.int .u8 (((colU y0 c).getD j2 0).toNat : Int)) ∧ (wr.setCell ⟨yb, n, none⟩ v).cell? ⟨tb, j3, none⟩ = some (.int .u8 (((colU y0 c).getD j3 0).toNat : Int))))
  have HKD := Lib.hid (⟨a0, a1, a2, a3⟩ : wr.cell? ⟨tb, i, none⟩ = some (.int .u8 (((colU y0 c).getD i 0).toNat : Int)) ∧ wr.cell? ⟨tb, j1, none⟩ = some (.int .u8 (((colU y0 c).getD j1 0).toNat : Int)) ∧ wr.cell? ⟨tb, j2, none⟩ = some (.int .u8 (((colU y0 c).getD j2 0).toNat : Int)) ∧ wr.cell? ⟨tb, j3, none⟩ = some (.int .u8 (((colU y0 c).getD j3 0).toNat : Int)))
  generalize (colU y0 c).getD i 0 = b0 at *
  generalize (colU y0 c).getD j1 0 = b1 at *
  generalize (colU y0 c).getD j2 0 = b2 at *
  generalize (colU y0 c).getD j3 0 = b3 at *
  have HV := Lib.hid (xor5_val (twU b0) (twU b1) b1 b2 b3)
  have k0 : IntKind.i64.wrap (4 * (c : Int)) = 4 * (c : Int) := IntWalk.i64_in _ (by omega)
  have kn : IntKind.i64.wrap (4 * (c : Int) + (i : Int)) = 4 * (c : Int) + (i : Int) := IntWalk.i64_in _ (by omega)
  have k1 : IntKind.i64.wrap ((i : Int) + 1) = (i : Int) + 1 := IntWalk.i64_in _ (by omega)
  have k2 : IntKind.i64.wrap ((i : Int) + 2) = (i : Int) + 2 := IntWalk.i64_in _ (by omega)
  have k3 : IntKind.i64.wrap ((i : Int) + 3) = (i : Int) + 3 := IntWalk.i64_in _ (by omega)
  have HQ := Lib.hid hQ
  clear hn hj1 hj2 hj3 l4 a0 a1 a2 a3 hQ
  conv => arg 2; whnf
  refine wp_region_noPanic ?_
  go_region_held3 (fun W => W.cell? ⟨tb, i, none⟩ = some (.int .u8 (b0.toNat : Int)) ∧ W.cell? ⟨tb, j1, none⟩ = some (.int .u8 (b1.toNat : Int)) ∧ W.cell? ⟨tb, j2, none⟩ = some (.int .u8 (b2.toNat : Int)) ∧ W.cell? ⟨tb, j3, none⟩ = some (.int .u8 (b3.toNat : Int)))
    ((first | assumption | exact HKD.out | exact HKS.out _))
    ((first | (go_at_call 39; (with_reducible refine (rtwice_any _ _).mono ?_); rintro e w' ⟨rfl, rfl⟩)))
  refine NoPanic.normal ?_
  have h := HQ.out
  rw [HMX.out, HMA.out, ← HV.out] at h
  exact h _ _ _ _ _ _ _ _ _ _ _ _ _ _ _ _ _ _ _ _ _ _ _ _ _ _ _ _ _ _ _ _ _ _
end Go.Proofs.Ytcajlmlblkdjoaa
