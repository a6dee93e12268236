/- Blobs cut; two decodings of the same blobs. -/
import Derived.Test.YtdaofffkbnkljaaRsV
import Derived.Test.YtdaofffkbnkljaaBlobs
namespace Go.Proofs.Ytdaofffkbnkljaa
open Go.RowKit

def cutB (bs : List (Int × List UInt8)) (s j : Nat) : List (Int × List UInt8) := (bs.take j).map fun x => (x.1, x.2.take s)
theorem cutB_len (bs : List (Int × List UInt8)) (s : Nat) {j : Nat} (h : j ≤ bs.length) : (cutB bs s j).length = j := by
  simp [cutB, h]
theorem cutB_succ (bs : List (Int × List UInt8)) (s : Nat) {j : Nat} (h : j < bs.length) : cutB bs s (j + 1) = cutB bs s j ++ [(nuI bs j, (daB bs j).take s)] := by
  have e : bs.getD j (0, []) = bs[j] := by simp [List.getD_eq_getElem?_getD, h]
  unfold cutB nuI daB
  rw [List.take_succ_eq_append_getElem h, List.map_append, e]
  rfl
theorem cutB_small (bs : List (Int × List UInt8)) (s j : Nat) : ∀ i, i < (cutB bs s j).length → (daB (cutB bs s j) i).length ≤ s := fun i h => by
  have e : (cutB bs s j).getD i (0, []) = (cutB bs s j)[i] := by simp [List.getD_eq_getElem?_getD, h]
  unfold daB
  rw [e]
  simp only [cutB, List.getElem_map, List.length_take]
  omega
/-- What the program may answer and what the document's own code may, of the same blobs. -/
theorem dec_like {G : Mx} {k n : Nat} {bs : List (Int × List UInt8)} {er : Int} {ok : Bool} {out out' : List UInt8} (h : DecP G k n bs er out) (h' : DecR G k n bs ok out') : (ok = false ∧ er = 1 ∧ out = []) ∨ (ok = true ∧ er = 0 ∧ out' = out) := by
  rcases h with ⟨h1, h2, h3⟩ | ⟨h1, h2, r, h3, h4⟩
  · rcases h' with ⟨_, h5, h6⟩ | ⟨h5, _⟩
    · exact .inl ⟨h5, h2, h3⟩
    · exact absurd h5 h1
  · rcases h' with ⟨h5, _⟩ | ⟨_, h5, s, h6, h7⟩
    · exact absurd h1 h5
    · exact .inr ⟨h5, h2, by rw [h4, h7]; exact decL_congr (h3.only' h6)⟩
theorem decP_small {G : Mx} {k n s : Nat} {bs : List (Int × List UInt8)} {er : Int} {out : List UInt8} (hk : k ≤ 16) (hs : ∀ i, i < bs.length → (daB bs i).length ≤ s) (h : DecP G k n bs er out) : out.length ≤ 16 * s := by
  rcases h with ⟨_, _, rfl⟩ | ⟨h1, _, r, _, rfl⟩
  · exact Nat.zero_le _
  · rw [decL_len]
    rcases Nat.eq_zero_or_pos k with h0 | h0
    · subst h0; simp
    · exact Nat.mul_le_mul hk (hs 0 (by rw [h1.1]; exact h0))
end Go.Proofs.Ytdaofffkbnkljaa
