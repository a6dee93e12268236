/- The program's store: Put, whole; Names. -/
import Derived.Sort.OwnSorted
import Derived.Test.YtndknifdajjalaaGreatDoorPStpO
namespace Go.Proofs.YtndknifdajjalaaGreatDoor
open Go.RowKit Go.Sort
set_option maxRecDepth 100000

theorem psput_any {w : World} {q p g b c : Nat} {s : Dsk} {R n m : Nat} {t : Sto} (h : ST w q p g b c s R n m t) (hm : m + 1 < 4294967296) (name data : List UInt8) (A : Option Addr) (k d : Nat) (hl : data.length = k) (hkd : k ≤ d) (hdm : d ≤ maxLen) (hr : Rd w w.heap.size A data) (htab : Pow10 w.heap.size w) (h1 : name.length ≤ 1000) (h2 : k ≤ 1000) :
    Calls Tryz.prog 32 #[.pointer (some ⟨q, 0, none⟩), .string ⟨name.toArray⟩, .slice A k d] w (CallPost w q p g b c R n (m + 1) (t.put s R n name data)) := by
  have hD := put_done h.good hm name data
  unfold CallPost
  unfold Sto.put Sto.putL at hD
  unfold Sto.put
  have hs := h.sp
  have more : Good t s R n (m + 1) := ⟨h.good.geo, h.good.clean, fun i r hr => Nat.le_succ_of_le (h.good.nums i r hr)⟩
  have keep : ∀ {w' : World}, Below w.heap.size w w' → ST w' q p g b c s R n (m + 1) t := fun B => ⟨h.sp.below B, Nat.lt_of_lt_of_le h.bl B.size, more, h.live⟩
  cases hd : t.died with
  | true =>
    rw [if_pos rfl]
    rw [hd] at hs
    refine (put_dead hs _ A k d).mono ?_
    rintro e w' ⟨rfl, rfl⟩
    exact ⟨rfl, keep (Below.refl _ _), Chg.refl _ _⟩
  | false =>
    rw [hd, if_neg (by simp)] at hD
    rw [if_neg (by simp)]
    rw [hd] at hs
    have hf := psfits_any hs name data A k d hl hkd hdm hr htab h1 h2
    cases hfit : fitsR R name data with
    | false =>
      rw [hfit] at hf
      rw [if_pos rfl]
      refine (put_nofit hs _ A k d hf).mono ?_
      rintro e w' ⟨rfl, B⟩
      exact ⟨rfl, keep B, .of_below B⟩
    | true =>
      rw [hfit] at hf
      rw [hfit, if_neg (by simp)] at hD
      rw [if_neg (by simp)]
      obtain ⟨_, _, f3⟩ := of_decide_eq_true hfit
      have hfree := free_first h.good hd
      have hfind := find_first h.good hd name
      have hc := (h.good.clean hd).1
      cases hj : freeSlot n t.l with
      | none =>
        rw [hj] at hfree
        refine (put_full hs _ A k d hf hfree).mono ?_
        rintro e w' ⟨rfl, B⟩
        exact ⟨rfl, keep B, .of_below B⟩
      | some j =>
        rw [hj] at hfree hD
        dsimp only at hD ⊢
        have hjn := (freeSlot_some hj).1
        cases ho : oldE t.l name with
        | none =>
          rw [ho] at hfind
          have hnr : t.newR name data = ⟨name, 1, data⟩ := by unfold Sto.newR; rw [ho]; rfl
          rw [hnr] at hD
          rw [ho] at hD
          have hput : putSt R j (recL ⟨name, 1, data⟩) none = textW R j (recL ⟨name, 1, data⟩) (((recL ⟨name, 1, data⟩).length + 31) / 32) ++ [(j * (R + 1), [1])] := rfl
          have eq : (Option.map (fun x : Rec11 × Nat => x.2) none) = none := rfl
          simp only [Option.map_none, Option.getD_none] at hD ⊢
          rw [hput] at hD ⊢
          obtain ⟨X, hX⟩ : ∃ X, s.all (n * (R + 1)) (textW R j (recL ⟨name, 1, data⟩) (((recL ⟨name, 1, data⟩).length + 31) / 32) ++ [(j * (R + 1), [1])]) = X := ⟨_, rfl⟩
          rw [hX] at hD ⊢
          refine (put_new hs h.bl name data A k d hl hkd hdm hr htab h1 h2 hf hfree hfind hX f3).mono ?_
          rintro e w' ⟨p1, p2, C⟩
          have hbl : b < w'.heap.size := Nat.lt_of_lt_of_le h.bl C.size
          cases hx2 : X.2 with
          | false =>
            rw [hx2, if_neg (by simp)] at hD
            rw [if_neg (by simp)]
            obtain ⟨rfl, S⟩ := p1 hx2
            exact ⟨rfl, ⟨S.congr (fun e => by cases e), hbl, hD.good, fun e => by cases e⟩, C⟩
          | true =>
            rw [hx2, if_pos rfl] at hD
            rw [if_pos rfl]
            obtain ⟨rfl, S⟩ := p2 hx2
            have hv := put_view hc (hD.good.clean rfl).1 hj (r := ⟨name, 1, data⟩)
            dsimp only at hv
            rw [ho] at hv
            exact ⟨rfl, ⟨S.congr (fun _ => hv), hbl, hD.good, fun _ => (hD.yes rfl).2.1⟩, C⟩
        | some x =>
          rw [ho] at hfind
          obtain ⟨o1, o2⟩ := oldE_some ho
          have hx := (hc.1.2 x).1 o1
          have hnr : t.newR name data = ⟨name, x.1.num + 1, data⟩ := by unfold Sto.newR; rw [ho]; rfl
          rw [hnr] at hD
          rw [ho] at hD
          have hput : putSt R j (recL ⟨name, x.1.num + 1, data⟩) (some x.2) = (textW R j (recL ⟨name, x.1.num + 1, data⟩) (((recL ⟨name, x.1.num + 1, data⟩).length + 31) / 32) ++ [(j * (R + 1), [1])]) ++ [(x.2 * (R + 1), [])] := by
            unfold putSt
            rw [List.append_assoc]; rfl
          simp only [Option.map_some, Option.getD_some] at hD ⊢
          rw [hput] at hD ⊢
          obtain ⟨X, hX⟩ : ∃ X, s.all (n * (R + 1)) (textW R j (recL ⟨name, x.1.num + 1, data⟩) (((recL ⟨name, x.1.num + 1, data⟩).length + 31) / 32) ++ [(j * (R + 1), [1])]) = X := ⟨_, rfl⟩
          have hnum := h.good.nums _ _ hx.2.1
          have hlen : (recL ⟨name, x.1.num + 1, data⟩).length ≤ R * 32 := by rw [recL_len name _ 1 data]; exact f3
          have hve : viewE s.B R x.2 = some (x.1.name, x.1.num) := view_in hc o1
          refine (put_old hs h.bl name data A k d hl hkd hdm hr htab h1 h2 hf hfree hfind hve (by omega) hX hlen).mono ?_
          rintro e w' ⟨p1, p2, C⟩
          have hbl : b < w'.heap.size := Nat.lt_of_lt_of_le h.bl C.size
          rw [Dsk.all_append, hX] at hD ⊢
          cases hx2 : X.2 with
          | false =>
            rw [hx2, if_neg (show ¬ (false = true) by simp)] at hD
            rw [if_neg (show ¬ (false = true) by simp)]
            rw [hx2, if_neg (show ¬ (false = true) by simp)] at hD
            rw [hx2, if_neg (show ¬ (false = true) by simp)]
            obtain ⟨rfl, S⟩ := p1 hx2
            exact ⟨rfl, ⟨S.congr (fun e => by cases e), hbl, hD.good, fun e => by cases e⟩, C⟩
          | true =>
            rw [hx2, if_pos rfl] at hD
            rw [if_pos rfl]
            obtain ⟨rfl, S⟩ := p2 hx2
            have hpl := (h.sp.place hx.1 (Nat.zero_le R)).1
            have hcode := code_fit (s := X.1) (N := n * (R + 1)) (i := x.2 * (R + 1)) (by omega) (m := 0) (by omega)
            have hall : X.1.all (n * (R + 1)) [(x.2 * (R + 1), [])] = (X.1.next (n * (R + 1)) ((x.2 * (R + 1) : Nat) : Int) [], decide (X.1.code (n * (R + 1)) ((x.2 * (R + 1) : Nat) : Int) 0 = 0)) := all_snoc (a := []) rfl
            rw [hall] at hD ⊢
            rcases hcode with hk | hk
            · rw [hk] at S hD ⊢
              rw [if_pos (by simp)] at hD ⊢
              have hv := put_view hc (hD.good.clean rfl).1 hj (r := ⟨name, x.1.num + 1, data⟩)
              dsimp only at hv
              rw [ho] at hv
              exact ⟨rfl, ⟨S.congr (fun _ => hv), hbl, hD.good, fun _ => (hD.yes rfl).2.1⟩, C⟩
            · rw [hk] at S hD ⊢
              rw [if_neg (by simp)] at hD ⊢
              exact ⟨rfl, ⟨S.congr (fun e => by cases e), hbl, hD.good, fun e => by cases e⟩, C⟩
end Go.Proofs.YtndknifdajjalaaGreatDoor
