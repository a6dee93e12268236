/- Net of the document writes what the program's writes. -/
import Derived.Test.YtdjnaeifmeffoaaDoorDigits
import Derived.Test.YtdjnaeifmeffoaaDoorMarked
namespace Go.Proofs.YtdjnaeifmeffoaaDoor
open Go.RowKit

set_option maxHeartbeats 1000000 in
theorem rnet_any (m c : Nat) (A : Option Addr) (l : List UInt8) (w : World) (hl : l.length = m) (h1 : m ≤ 1000000) (hb : Rd w w.heap.size A l) :
    Calls Tryd.prog 24 #[.slice A m c] w fun e w' => ∃ A' c', e = .returned (.slice A' (netL l).length c') ∧ (netL l).length ≤ c' ∧ Rd w' w'.heap.size A' (netL l) ∧ Below w.heap.size w w' := by
  obtain ⟨i0, hi, hz0, hz1, hz2⟩ := info_parts info5
  have HL := Lib.hid hl
  have hdl := decDigits_len m (by simp; omega)
  have hit : Lib.itoa (m : Int) = Lib.decDigits m := by unfold Lib.itoa; rw [if_neg (by omega)]; simp
  have hnet : netL l = Lib.decDigits m ++ [58] ++ l ++ [44] := by unfold netL; rw [hl, hit]
  obtain ⟨out, ho⟩ : ∃ x, netL l = x := ⟨_, rfl⟩
  rw [ho] at hnet ⊢
  obtain ⟨ds, hds⟩ : ∃ x, Lib.decDigits m = x := ⟨_, rfl⟩
  have HD := Lib.hid hds
  rw [hds] at hdl hnet
  have HNET := Lib.hid hnet
  clear hl hit hnet hds ho
  go_enter Tryd.func24, Tryd.ntmps24
  go_wp2_with fail
  refine (digits_any (m + 1) m _ (by omega) (by omega)).mono ?_
  rintro e w1 ⟨rfl, hb1⟩
  rw [HD.out]
  obtain ⟨v2, w2, hcv, hown2, hb2⟩ := run_bytes_M (P := Tryd.prog) (w := w1) 9 22 5 ds (by omega) Tryd.underlying9 Tryd.underlying22 Tryd.underlying5
  have hbel2 := Below.then hb1 hb2
  have hs1 := hb1.size
  have hs2 := hb2.size
  have HO2 := Lib.hid hown2
  clear hown2 hb2
  go_wp2_with (at_builtin; refine wpList_append_M rfl _ _ 22 rfl w1.heap.size 5 i0 Tryd.underlying22 hi hz0 hz1 hz2 _ _ ds rfl (HO2.out.alloc _) _ _ 1 1 [58] rfl rfl (Rd.one w2 5 58 58 rfl) (by omega) (by simp; omega) ?_)
  intro v3 w3 hown3 hg3
  have hbel3 : Below w.heap.size w w3 := (hbel2.alloc hbel2.size _).grown hg3 (by have := hbel2.size; simp; omega) (fun k hk => Nat.le_trans hs1 (HO2.out.lt k hk))
  have hs3 : w1.heap.size ≤ w3.heap.size := by have := hg3.size; simp at this; omega
  have HO3 := Lib.hid hown3
  clear hown3 hg3 hcv
  go_wp2_with (at_builtin; refine wpList_append_M rfl _ _ 22 rfl w1.heap.size 5 i0 Tryd.underlying22 hi hz0 hz1 hz2 _ _ _ rfl HO3.out _ A m c l rfl HL.out (hb.on hbel3) (by omega) hs3 ?_)
  intro v4 w4 hown4 hg4
  have hbel4 : Below w.heap.size w w4 := hbel3.grown hg4 hbel3.size (fun k hk => Nat.le_trans hs1 (HO3.out.lt k hk))
  have hs4 : w1.heap.size ≤ w4.heap.size := Nat.le_trans hs3 hg4.size
  have HO4 := Lib.hid hown4
  clear hown4 hg4
  go_wp2_with (at_builtin; refine wpList_append_M rfl _ _ 22 rfl w1.heap.size 5 i0 Tryd.underlying22 hi hz0 hz1 hz2 _ _ _ rfl (HO4.out.alloc _) _ _ 1 1 [44] rfl rfl (Rd.one w4 5 44 44 rfl) (by omega) (by simp; omega) ?_)
  intro v5 w5 hown5 hg5
  have hbel5 : Below w.heap.size w w5 := (hbel4.alloc hbel4.size _).grown hg5 (by have := hbel4.size; simp; omega) (fun k hk => Nat.le_trans hs1 (HO4.out.lt k hk))
  have key : ∀ (n' : Nat) (xl : List UInt8), OwnM w5 w1.heap.size 5 v5 n' xl → xl = out → ∃ A' c', v5 = .slice A' out.length c' ∧ out.length ≤ c' ∧ Rd w5 w5.heap.size A' out := by
    rintro n' xl h rfl
    have hl := h.1
    subst hl
    have h' := h
    obtain ⟨_, g, cap, cur, fz, rfl, _, _, _, hnc, _⟩ := h'
    exact ⟨_, cap, rfl, hnc, h.rd⟩
  obtain ⟨A', c', rfl, hc', hr'⟩ := key _ _ hown5 (by rw [HNET.out]; simp)
  have HR := Lib.hid hr'
  have HC := Lib.hid hc'
  clear hown5 hg5 key hr' hc'
  go_wp2_with fail
  go_ret
  exact ⟨A', c', rfl, HC.out, HR.out, hbel5⟩
end Go.Proofs.YtdjnaeifmeffoaaDoor
