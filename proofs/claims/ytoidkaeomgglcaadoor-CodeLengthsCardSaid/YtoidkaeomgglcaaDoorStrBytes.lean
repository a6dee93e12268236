/- A string as a new byte slice, one byte of which is then written. -/
import Derived.Test.YtoidkaeomgglcaaDoorMem
import Derived.Lib.ConvBytes
namespace Go.Proofs.YtoidkaeomgglcaaDoor
open Go.RowKit

theorem run_bytes_of_str {P : Program} (w : World) (src dst e : TypeId) (s : ByteArray) (l : List UInt8) (hsl : s.data.toList = l) {u : TypeDesc}
    (hs : P.underlying src = some u) (hd : P.underlying dst = some (.slice e)) (he : P.underlying e = some (.int .u8)) :
    ∃ c w', (convert src dst (.string s)).run P w = .ok (.slice (some ⟨w.heap.size, 0, none⟩) l.length c) w' ∧ l.length ≤ c ∧ Below w.heap.size w w' ∧ w.heap.size < w'.heap.size ∧
      (∀ j (h : j < l.length), w'.cell? ⟨w.heap.size, j, none⟩ = some (.int .u8 (l[j].toNat : Int))) ∧ ∀ j, j < l.length → w'.frozen? ⟨w.heap.size, j, none⟩ = false := by
  subst hsl
  have hlen : s.data.toList.length = s.size := by simp
  refine ⟨grownCap w s.size 0 e, Lib.bytesWorld w e s, by rw [hlen]; exact Lib.run_convert_string_bytes w src dst e s hs hd he, by rw [hlen]; exact grownCap_ge _ _ _ _, ?_, ?_, ?_, ?_⟩
  · exact ⟨rfl, rfl, rfl, by rw [Lib.bytesWorld_size]; omega, fun k hk => Lib.bytesWorld_at_old w e s k hk⟩
  · rw [Lib.bytesWorld_size]; omega
  · intro j h
    rw [Lib.bytesWorld_cell w e s j (by omega), List.getD_eq_getElem?_getD, List.getElem?_eq_getElem h]
    rfl
  · intro j h
    have hn := Lib.bytesWorld_at_new w e s
    have hsz : j < (Lib.bytesCells w e s).size := by
      unfold Lib.bytesCells
      simp
      omega
    unfold World.frozen?
    rw [hn]
    simp
    omega

/-- After one byte is written. -/
theorem Rd.stored {w : World} {g : Nat} {l : List UInt8} (hg : g < w.heap.size) (hc : ∀ j (h : j < l.length), w.cell? ⟨g, j, none⟩ = some (.int .u8 (l[j].toNat : Int))) (i : Nat) (hi : i < l.length) (x : UInt8) (k : Int) (hk : k = (x.toNat : Int)) :
    Rd (w.setCell ⟨g, i, none⟩ (.int .u8 k)) (w.setCell ⟨g, i, none⟩ (.int .u8 k)).heap.size (some ⟨g, 0, none⟩) (l.set i x) := by
  subst hk
  refine .inr ⟨g, 0, rfl, by simpa [World.setCell] using hg, fun j hj => ?_⟩
  have hj' : j < l.length := by simpa using hj
  rw [Nat.zero_add]
  by_cases e : i = j
  · subst e
    rw [List.getElem_set_self]
    exact World.cell?_setCell_same w ⟨g, i, none⟩ _ (hc i hi)
  · rw [List.getElem_set_ne e, World.cell?_setCell_other w ⟨g, i, none⟩ ⟨g, j, none⟩ _ (by intro h; injection h with h1 h2; exact e h2)]
    exact hc j hj'
end Go.Proofs.YtoidkaeomgglcaaDoor
