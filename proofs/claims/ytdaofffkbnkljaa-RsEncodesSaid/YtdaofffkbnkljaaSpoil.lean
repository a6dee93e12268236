/- Spoil turns a row's cells, its spare ones too, and nothing else; rows of one's own, spoiled one by one. -/
import Derived.Test.YtdaofffkbnkljaaRsV
import Derived.Test.YtdaofffkbnkljaaKeep
namespace Go.Proofs.Ytdaofffkbnkljaa
open Go.RowKit

theorem byteI_of (n : Int) : ∃ y : UInt8, n % 256 = (y.toNat : Int) := ⟨UInt8.ofNat (n % 256).toNat, by rw [UInt8.toNat_ofNat']; omega⟩
theorem xorI_byte (a b : Int) : ∃ y : UInt8, bits .xor .u8 a b = (y.toNat : Int) := by
  unfold bits
  simp only
  rw [IntKind.wrap_u8]
  exact byteI_of _
/-- Only block g has changed, and holds c bytes still. -/
def Turned (w : World) (g c : Nat) (w' : World) : Prop := (∃ fl : List UInt8, fl.length = c ∧ Blk w' g (u8A fl) 5) ∧ w'.heap.size = w.heap.size ∧ ∀ j, j ≠ g → w'.heap[j]? = w.heap[j]?
def SpoilEnd (W : World) (B g c : Nat) (e : Ending) (w' : World) : Prop := e = .returned (.tuple #[]) ∧ Turned W g c w' ∧ Below B W w'
set_option maxHeartbeats 1000000 in
theorem spoil_one (g n cap B : Nat) (full : List UInt8) (w : World) (hf : full.length = cap) (hnc : n ≤ cap) (hcm : cap ≤ maxLen) (hg : Blk w g (u8A full) 5) (hB : B ≤ g) :
    Calls Try.prog 27 #[.slice (some ⟨g, 0, none⟩) n cap] w (SpoilEnd w B g cap) := by
  have HF := Lib.hid hf
  have HG := Lib.hid hg
  unfold maxLen at hcm
  clear hf hg
  go_enter Try.func27, Try.ntmps27
  go_wp2
  go_loopw [10] (fun i wr => ∃ (k : Nat) (fl : List UInt8), k ≤ cap ∧ i = .int .i64 k ∧ Hid (fl.length = cap) ∧ Hid (Blk wr g (u8A fl) 5) ∧ Below B w wr ∧ Hid (wr.heap.size = w.heap.size ∧ ∀ j, j ≠ g → wr.heap[j]? = w.heap[j]?)) (fun i _ => cap - (intOf i).toNat)
  case atStart => exact ⟨0, full, Nat.zero_le _, rfl, HF, HG, Below.refl _ _, Lib.hid ⟨rfl, fun _ _ => rfl⟩⟩
  case round =>
    clear HF HG
    obtain ⟨k, fl, hk, rfl, HF, HG, hbel, HO⟩ := hrel
    by_cases hlt : k < cap
    · have hki : (k : Int) < (cap : Int) := by omega
      have hc := HG.out.byteAt (i := k) (by rw [HF.out]; exact hlt)
      have hfz := HG.out.frozen k
      generalize fl.getD k 0 = x at *
      have hx := x.toNat_lt
      go_wp2_with fail
      obtain ⟨y, hy⟩ := xorI_byte (x.toNat : Int) 119
      have HG2 := Lib.hid (HG.out.put k hy)
      have HF2 := Lib.hid (show (fl.set k y).length = cap by rw [List.length_set]; exact HF.out)
      have HO2 := Lib.hid (show (wr.setCell ⟨g, k, none⟩ (.int .u8 (bits .xor .u8 (x.toNat : Int) 119))).heap.size = w.heap.size ∧ ∀ j, j ≠ g → (wr.setCell ⟨g, k, none⟩ (.int .u8 (bits .xor .u8 (x.toNat : Int) 119))).heap[j]? = w.heap[j]? from
        ⟨by rw [show (wr.setCell ⟨g, k, none⟩ (.int .u8 (bits .xor .u8 (x.toNat : Int) 119))).heap.size = wr.heap.size by simp]; exact HO.out.1, fun j hj => (Below.heap_setCell wr ⟨g, k, none⟩ _ j hj).trans (HO.out.2 j hj)⟩)
      have hbel2 : Below B w (wr.setCell ⟨g, k, none⟩ (.int .u8 (bits .xor .u8 (x.toNat : Int) 119))) := hbel.setCell hB _
      go_roundw
      case rel => exact ⟨k + 1, fl.set k y, by omega, by go_num, HF2, HG2, hbel2, HO2⟩
      case measure => simp [intOf]; omega
    · obtain rfl : k = cap := by omega
      have hki : ¬ (k : Int) < (k : Int) := by omega
      go_wp2_with fail
      go_end0
      exact ⟨rfl, ⟨⟨fl, HF.out, HG.out⟩, HO.out⟩, hbel⟩
set_option maxHeartbeats 400000 in
theorem spoil_none (w : World) :
    Calls Try.prog 27 #[.slice none 0 0] w fun e w' => e = .returned (.tuple #[]) ∧ w = w' := by
  go_enter Try.func27, Try.ntmps27
  go_wp2
  go_loopw [10] (fun i wr => i = .int .i64 0 ∧ w = wr) (fun _ _ => 0)
  case atStart => exact ⟨rfl, rfl⟩
  case round =>
    obtain ⟨rfl, rfl⟩ := hrel
    go_wp2_with fail
    go_end0
    exact ⟨rfl, rfl⟩
/-- n slices lie at block h, each nil or with all its room in bytes, from block B on. -/
def Spoils (w : World) (B h n m : Nat) : Prop :=
  B ≤ h ∧ ∃ cs, Blk w h cs 22 ∧ ∀ i, i < n → ∃ A c, cs[i]? = some (.slice A m c) ∧ ((A = none ∧ m = 0 ∧ c = 0) ∨ ∃ (g : Nat) (full : List UInt8), A = some ⟨g, 0, none⟩ ∧ B ≤ g ∧ full.length = c ∧ m ≤ c ∧ c ≤ maxLen ∧ Blk w g (u8A full) 5)
theorem Spoils.turned {w w' : World} {B h n m g c : Nat} (hs : Spoils w B h n m) (ht : Turned w g c w') {full : List UInt8} (hg : Blk w g (u8A full) 5) (hc : full.length = c) : Spoils w' B h n m := by
  obtain ⟨h1, cs, h2, h3⟩ := hs
  obtain ⟨⟨fl, q1, q2⟩, _, q3⟩ := ht
  have hne : h ≠ g := blk_apart h2 hg tys_ne
  refine ⟨h1, cs, (q3 h hne).trans h2, fun i hi => ?_⟩
  obtain ⟨A, c', h4, h5⟩ := h3 i hi
  refine ⟨A, c', h4, ?_⟩
  rcases h5 with h5 | ⟨g', full', rfl, h6, h7, h8, h9, h10⟩
  · exact .inl h5
  · by_cases e : g' = g
    · subst e
      have e2 := hg.symm.trans h10
      injection e2 with e2
      injection e2 with e2
      have e3 : full.length = full'.length := by
        have := congrArg Array.size e2
        rwa [u8A_size, u8A_size] at this
      exact .inr ⟨g', fl, rfl, h6, by omega, h8, h9, q2⟩
    · exact .inr ⟨g', full', rfl, h6, h7, h8, h9, (q3 g' e).trans h10⟩
theorem Spoils.on {w w' : World} {B h n m : Nat} (hs : Spoils w B h n m) (hb : Below w.heap.size w w') : Spoils w' B h n m := by
  obtain ⟨h1, cs, h2, h3⟩ := hs
  refine ⟨h1, cs, h2.below hb h2.lt, fun i hi => ?_⟩
  obtain ⟨A, c, h4, h5⟩ := h3 i hi
  refine ⟨A, c, h4, ?_⟩
  rcases h5 with h5 | ⟨g, full, q1, q2, q3, q4, q5, q6⟩
  · exact .inl h5
  · exact .inr ⟨g, full, q1, q2, q3, q4, q5, q6.below hb q6.lt⟩
/-- What lay below block B lies there still. -/
def Since (B : Nat) (w0 w : World) : Prop := Below B w0 w ∧ B ≤ w.heap.size
theorem Since.on {B : Nat} {w0 w w' : World} (h : Since B w0 w) (hb : Below w.heap.size w w') : Since B w0 w' := ⟨h.1.trans (hb.mono h.2), Nat.le_trans h.2 hb.size⟩
theorem MO.spoils {w : World} {B n m : Nat} {v : Value} {ls : List (List UInt8)} (h : MO w B v ls) (hn : ls.length = n) (h0 : 0 < n) (hm : ∀ r ∈ ls, r.length = m) : ∃ g c, v = .slice (some ⟨g, 0, none⟩) n c ∧ n ≤ c ∧ Spoils w B g n m := by
  subst hn
  obtain ⟨vs, h1, h2, h3⟩ := h
  rcases h1.2 with ⟨rfl, e⟩ | ⟨g, cap, cur, rfl, hb, hg, hc, hcm, hs, ht⟩
  · omega
  · refine ⟨g, cap, rfl, hc, hb, cur, hg, fun i hi => ?_⟩
    obtain ⟨A, c, q1, q2, q3, q4⟩ := h3 i hi
    have hmi : ls[i].length = m := hm _ (List.getElem_mem _)
    rw [hmi] at q1 q3 q4
    refine ⟨A, c, ?_, ?_⟩
    · have e := congrArg (fun l : List Value => l[i]?) ht
      simp only [q1, Nat.mul_one] at e
      rwa [List.getElem?_take, if_pos hi, Array.getElem?_toList] at e
    · rcases q4.2 with ⟨hv, hz⟩ | ⟨g', cap', full, hv, hb', hg', hnc, hcm', hf, _⟩
      · injection hv with e1 e2 e3
        exact .inl ⟨e1, e2, e3⟩
      · injection hv with e1 e2 e3
        subst e3
        exact .inr ⟨g', full, e1, hb', hf, hnc, hcm', hg'⟩
end Go.Proofs.Ytdaofffkbnkljaa
