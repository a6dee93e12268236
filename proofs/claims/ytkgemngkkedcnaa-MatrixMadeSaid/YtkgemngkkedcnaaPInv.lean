/- The program's Rows; bytes copied by the library's Clone. The program's inverse of a matrix. -/
import Derived.Test.YtkgemngkkedcnaaPMul2
import Derived.Test.YtkgemngkkedcnaaShelf
import Derived.Test.YtkgemngkkedcnaaPBegin
import Derived.Test.YtkgemngkkedcnaaPAdd
namespace Go.Proofs.Ytkgemngkkedcnaa
open Go.RowKit

theorem clone_any (A : Option Addr) (n c C : Nat) (l : List UInt8) (w : World) (hn : l.length = n) (h0 : 1 ≤ n) (h1 : n ≤ 1000) (hr : Rd w C A l) :
    Calls Try.prog 35 #[.slice A n c] w fun e w' => ∃ A' c', e = .returned (.slice A' n c') ∧ n ≤ c' ∧ c' ≤ maxLen ∧ w'.ownsRow w.heap.size 5 1 (.slice A' n c') n (Lib.byteCells l) ∧ Below w.heap.size w w' := by
  rcases hr with rfl | ⟨b, off, rfl, hb, hc⟩
  · simp at hn; omega
  · refine (Try.bytes_Clone_at ⟨b, off, none⟩ n c (l.map fun x => (x.toNat : Int)) w (by rw [List.length_map, hn]) (by omega) (fun i hi => ?_)).mono ?_
    · have hil : i < l.length := by omega
      rw [Addr.add_lit, hc i hil]
      simp [List.getD_eq_getElem?_getD, hil]
    · rintro e w' ⟨v', rfl, h2, _, h3⟩
      have h2 : w'.ownsRow w.heap.size 5 1 v' n (Lib.byteCells l) := by
        have e : (l.map fun x => (x.toNat : Int)).map (Value.int .u8) = Lib.byteCells l := by simp [Lib.byteCells]
        rw [← e]; exact h2
      obtain ⟨A', c', rfl, h4, h5⟩ := own_caps h2
      exact ⟨A', c', rfl, h4, h5, h2, h3⟩

theorem rowsOK_no {ls : List (List UInt8)} {ns : List Int} (h : ¬ rowsOK ls ns) : rowsE ls ns = 1 ∧ rowsS ls ns = [] := ⟨if_neg h, if_neg h⟩
def pickL (ls : List (List UInt8)) (ns : List Int) : List (List UInt8) := ns.map fun n => ls.getD n.toNat []
theorem pickL_succ (ls : List (List UInt8)) {ns : List Int} {j : Nat} (h : j < ns.length) {k : Nat} (hk : ns[j] = (k : Int)) (hl : k < ls.length) : pickL ls (ns.take (j + 1)) = pickL ls (ns.take j) ++ [ls[k]] := by
  unfold pickL
  rw [List.take_succ_eq_append_getElem h, List.map_append, List.map_singleton, hk, Int.toNat_natCast, List.getD_eq_getElem?_getD, List.getElem?_eq_getElem hl]; rfl
set_option maxRecDepth 100000 in
set_option maxHeartbeats 4000000 in
theorem prows_any {w : World} {x y : Value} {ls : List (List UInt8)} {ns : List Int} (hx : MV w x ls) (hy : IV w y ns) (hsm : ns.length ≤ 1000) :
    Calls Try.prog 14 #[x, y] w fun e w' => ∃ v, e = .returned (.tuple #[v, .int .i64 (rowsE ls ns)]) ∧ MV w' v (rowsS ls ns) ∧ Below w.heap.size w w' := by
  obtain ⟨X, c, rfl, hc, hr⟩ := hx
  obtain ⟨Y, d, rfl, hd, hs⟩ := hy
  obtain ⟨i1, hi', hz0', hz1', hz2'⟩ := info_parts infoSlice
  have HMAY := Lib.hid (pmay_any X ls.length c ls w rfl hr)
  by_cases h1 : IsMx ls
  · rw [show decide (IsMx ls) = true from decide_eq_true h1] at HMAY
    obtain ⟨n, hn⟩ : ∃ n, ls.length = n := ⟨_, rfl⟩
    obtain ⟨q, hq⟩ : ∃ q, ns.length = q := ⟨_, rfl⟩
    have HN := Lib.hid hn
    have HQ := Lib.hid hq
    have HMX := Lib.hid h1
    have hn16 : n ≤ 16 := by have := h1.2.1; omega
    rw [hn] at HMAY ⊢
    rw [hq] at hsm ⊢
    by_cases h2 : q = 0
    · have HE := Lib.hid (rowsOK_no (ls := ls) (ns := ns) fun h => by have := h.2.1; omega)
      subst h2
      clear hr hs h1 hc hd hn hq
      go_enter Try.func14, Try.ntmps14
      go_wp2_with fail
      with_reducible refine (HMAY.out).mono ?_
      rintro e w1 ⟨rfl, rfl⟩
      clear HMAY
      go_wp2_with fail
      go_ret2
      exact ⟨_, by rw [HE.out.1]; rfl, by rw [HE.out.2]; exact MV.nil _, Below.refl _ _⟩
    · have hqe : ((q : Int) == 0) = false := beq_eq_false_iff_ne.2 (by omega)
      clear h1 hc hd hn hq
      go_enter Try.func14, Try.ntmps14
      go_wp2_with fail
      with_reducible refine (HMAY.out).mono ?_
      rintro e w1 ⟨rfl, rfl⟩
      clear HMAY
      go_wp2_with fail
      go_loopw [6, 19] (fun v t wr => ∃ (j : Nat) (vs : List Value), j ≤ q ∧ t = .int .i64 j ∧ Hid (wr.ownsRow w.heap.size 22 1 v j vs) ∧ Hid (sliceOwn wr w.heap.size 5 vs (pickL ls (ns.take j))) ∧ Hid (∀ i (h : i < ns.length), i < j → 0 ≤ ns[i] ∧ ns[i] < ls.length) ∧ Below w.heap.size w wr) (fun _ t _ => q - (intOf t).toNat)
      case atStart => exact ⟨0, [], by omega, rfl, Lib.hid (World.ownsRow_nil _ _ _ _), Lib.hid ⟨rfl, fun i h => by simp [pickL] at h⟩, Lib.hid (fun i h h2 => by omega), Below.refl _ _⟩
      case round =>
        obtain ⟨j, vs, hj, rfl, HO, HS, HP, hbel⟩ := hrel
        by_cases hlt : j < q
        · have hji : (j : Int) < (q : Int) := by omega
          have hjl : j < ns.length := by rw [HQ.out]; exact hlt
          obtain ⟨b2, off2, rfl, hb2, hcz⟩ := hs.at_ j hjl
          have hcz2 := (hbel.cell (p := ⟨b2, off2 + j, none⟩) hb2).trans hcz
          obtain ⟨z, hz⟩ : ∃ z, ns[j] = z := ⟨_, rfl⟩
          rw [hz] at hcz2
          by_cases hin : 0 ≤ z ∧ z < (n : Int)
          · obtain ⟨k, rfl⟩ : ∃ k : Nat, z = (k : Int) := ⟨z.toNat, by omega⟩
            have hkn : k < n := by omega
            have hkl : k < ls.length := by rw [HN.out]; exact hkn
            have HPS := Lib.hid (pickL_succ ls hjl hz hkl)
            have HP2 := Lib.hid (show ∀ i (h : i < ns.length), i < j + 1 → 0 ≤ ns[i] ∧ ns[i] < ls.length from fun i h h2 => by
              by_cases e : i = j
              · subst e; rw [hz, HN.out]; exact ⟨by omega, by omega⟩
              · exact HP.out i h (by omega))
            obtain ⟨b, off, A1, c1, rfl, hbs, hcx, hlc, hcm, hrd⟩ := hr.at_ k hkl
            have hcc := (hbel.cell (p := ⟨b, off + k, none⟩) hbs).trans hcx
            obtain ⟨s, hsl⟩ : ∃ s, ls[k].length = s := ⟨_, rfl⟩
            have hs16 : 1 ≤ s ∧ s ≤ 16 := by
              have := HMX.out.2.2 k hkl
              unfold rowOK at this
              omega
            have HSL := Lib.hid hsl
            rw [hsl] at hcc
            have hki : (k : Int) < (n : Int) := by omega
            have d1 : decide ((k : Int) < 0) = false := decide_eq_false (by omega)
            have d2 : decide ((n : Int) ≤ (k : Int)) = false := decide_eq_false (by omega)
            have d3 : decide (n ≤ k) = false := decide_eq_false (by omega)
            have HRD := Lib.hid (hrd.below hbel (Nat.le_refl _))
            generalize ls[k] = row at *
            have hle := hbel.size
            obtain ⟨hs1, hs2⟩ := hs16
            clear hz hcz hjl hkl hcx hrd hlc hsl hin HP
            go_wp2_with fail
            with_reducible refine (clone_any A1 s c1 w.heap.size row wr HSL.out hs1 (by omega) HRD.out).mono ?_
            rintro e w4 ⟨A4, c4, rfl, hc41, hc42, hown4, hb4⟩
            have HO4 := Lib.hid (own_keep HO.out hb4)
            have hbel4 := hbel.trans (hb4.mono hle)
            have hle4 := hbel4.size
            have hal : Below w4.heap.size w4 (w4.alloc (.cells #[.slice A4 s c4] 22)) := (Below.refl _ _).alloc (Nat.le_refl _) _
            have HN4 := Lib.hid (own_keep (own_base hown4 hle) hal)
            have HS4 := Lib.hid (fun w5 (hg : (w4.alloc (.cells #[.slice A4 s c4] 22)).grownBy w5 _) => HS.out.grow (hb4.trans (hal.mono hb4.size)) (own_keep HO4.out hal) hg HN4.out HSL.out hc41 hc42)
            clear hown4 hbel hcc hb4
            go_wp2_with (at_builtin; refine wpList_append_one rfl _ _ 24 rfl w.heap.size 22 i1 Try.underlying24 hi' hz0' hz1' hz2' _ j vs rfl w4 A4 s c4 rfl HO4.out rfl (by omega) hle4 ?_)
            intro v5 w5 hown5 hg5
            have HS5 := Lib.hid (HS4.out w5 hg5)
            rw [← HPS.out] at HS5
            have HO5 := Lib.hid hown5
            have hbel5 : Below w.heap.size w w5 := (hbel4.trans (hal.mono hle4)).grown hg5 (by simp; omega) (fun k hk => (HO4.out.lt k hk).1)
            clear hown5 hg5 hal HS4 HN4 HO4 HS HO hbel4 hle4 hle HRD HPS
            go_wp2_with fail
            go_roundw
            case rel => exact ⟨j + 1, _, by omega, by go_num, HO5, HS5, HP2, hbel5⟩
            case measure => simp [intOf]; omega
          · have HE := Lib.hid (rowsOK_no (ls := ls) (ns := ns) fun h => hin (by
              have := h.2.2 j hjl
              rw [hz, HN.out] at this
              exact this))
            clear hz hcz hjl HP HO HS
            by_cases hneg : z < 0
            · have d1 : decide (z < 0) = true := decide_eq_true hneg
              go_wp2_with fail
              go_ret2
              exact ⟨_, by rw [HE.out.1]; rfl, by rw [HE.out.2]; exact MV.nil _, hbel⟩
            · have d1 : decide (z < 0) = false := decide_eq_false hneg
              have d2 : decide ((n : Int) ≤ z) = true := decide_eq_true (by omega)
              clear hin
              go_wp2_with fail
              go_ret2
              exact ⟨_, by rw [HE.out.1]; rfl, by rw [HE.out.2]; exact MV.nil _, hbel⟩
        · obtain rfl : j = q := by omega
          have HOK := Lib.hid (show rowsE ls ns = 0 ∧ rowsS ls ns = pickL ls ns by
            have ok : rowsOK ls ns := ⟨HMX.out, by rw [HQ.out]; omega, fun i hi => HP.out i hi (by rw [← HQ.out]; exact hi)⟩
            exact ⟨if_pos ok, if_pos ok⟩)
          have HT := Lib.hid (show ns.take j = ns from List.take_of_length_le (by rw [HQ.out]; exact Nat.le_refl _))
          rw [HT.out] at HS
          obtain ⟨A', c', rfl, hkc, _⟩ := own_caps HO.out
          have HR := Lib.hid (MV.mk (show (pickL ls ns).length = j by rw [← HQ.out]; simp [pickL]) hkc (RdR.of_own HO.out HS.out.vals (Nat.le_refl _)))
          have hni : ¬ (j : Int) < (j : Int) := by omega
          clear HO HS HP
          go_wp2_with fail
          go_ret2
          exact ⟨_, by rw [HOK.out.1]; rfl, by rw [HOK.out.2]; exact HR.out, hbel⟩
  · rw [show decide (IsMx ls) = false from decide_eq_false h1] at HMAY
    have HE := Lib.hid (rowsOK_no (ls := ls) (ns := ns) fun h => h1 h.1)
    generalize ls.length = n at *
    generalize ns.length = q at *
    clear h1 hr hs hc hd
    go_enter Try.func14, Try.ntmps14
    go_wp2_with fail
    with_reducible refine (HMAY.out).mono ?_
    rintro e w1 ⟨rfl, rfl⟩
    clear HMAY
    go_wp2_with fail
    go_ret2
    exact ⟨_, by rw [HE.out.1]; rfl, by rw [HE.out.2]; exact MV.nil _, Below.refl _ _⟩
end Go.Proofs.Ytkgemngkkedcnaa
namespace Go.Proofs.Ytkgemngkkedcnaa
open Go.RowKit

theorem part_row (f : Mx) (n r : Nat) : (rowL f 0 (n + n) r).drop n = rowL f n n r := by
  rw [rowL_drop, Nat.zero_add, Nat.add_sub_cancel]
set_option maxRecDepth 100000 in
set_option maxHeartbeats 4000000 in
theorem behind_any {w : World} {B s fd g n d cap : Nat} {β γ : Nat → Nat} {f : Mx} (h : Swp w B s fd g β γ n d cap f) (hd : n + n = d) (h1 : 1 ≤ n) (h16 : n ≤ 16) :
    Calls Try.prog 40 #[.pointer (some ⟨s, 0, none⟩), .int .i64 (n : Int)] w fun e w' => ∃ v, e = .returned v ∧ MV w' v (rowsL f n n n) ∧ Below w.heap.size w w' := by
  obtain ⟨i1, hi', hz0', hz1', hz2'⟩ := info_parts infoSlice
  have h0 := h.rows
  have H := Lib.hid h
  have HD := Lib.hid hd
  have hnd : n ≤ d := by omega
  have hd32 : d ≤ 32 := by omega
  clear h hd
  go_enter Try.func40, Try.ntmps40
  go_wp2_with fail
  clear h0
  go_loopw [5, 13] (fun v t wr => ∃ (r : Nat) (vs : List Value), r ≤ n ∧ t = .int .i64 r ∧ Hid (wr.ownsRow w.heap.size 22 1 v r vs) ∧ Hid (sliceOwn wr w.heap.size 5 vs (rowsL f n n r)) ∧ Below w.heap.size w wr) (fun _ t _ => n - (intOf t).toNat)
  case atStart => exact ⟨0, [], by omega, rfl, Lib.hid (World.ownsRow_nil _ _ _ _), Lib.hid ⟨rfl, fun i h => by simp [rowsL] at h⟩, Below.refl _ _⟩
  case round =>
    obtain ⟨r, vs, hr, rfl, HO, HS, hbel⟩ := hrel
    by_cases hlt : r < n
    · have hrci : (r : Int) < (n : Int) := by omega
      have hM := H.out.mx.below hbel
      have hh := hM.header hlt
      have hpt := fun W => run_part_l (some ⟨β r, 0, none⟩) d (γ r) n W hnd
      have HRW := Lib.hid ((hM.row hlt).rest n (γ r) (rowL_len _ _ _ _) hnd (hM.rows r hlt).2.1)
      have hdn : d - n = n := by have := HD.out; omega
      rw [rowL_drop, Nat.zero_add, hdn] at HRW
      simp only [hdn] at hpt
      have HSN := Lib.hid (rowsL_succ f n n r)
      have HRL := Lib.hid (rowL_len f n n r)
      have hle := hbel.size
      generalize γ r - n = gr at *
      generalize partA (some ⟨β r, 0, none⟩) n (γ r) = Ar at *
      generalize rowL f n n r = row at *
      clear hM hdn
      go_wp2_with fail
      with_reducible refine (clone_any Ar n gr wr.heap.size row wr HRL.out h1 (by omega) HRW.out).mono ?_
      rintro e w4 ⟨A4, c4, rfl, hc41, hc42, hown4, hb4⟩
      have HO4 := Lib.hid (own_keep HO.out hb4)
      have hbel4 := hbel.trans (hb4.mono hle)
      have hle4 := hbel4.size
      have hal : Below w4.heap.size w4 (w4.alloc (.cells #[.slice A4 n c4] 22)) := (Below.refl _ _).alloc (Nat.le_refl _) _
      have HN4 := Lib.hid (own_keep (own_base hown4 hle) hal)
      have HS4 := Lib.hid (fun w5 (hg : (w4.alloc (.cells #[.slice A4 n c4] 22)).grownBy w5 _) => HS.out.grow (hb4.trans (hal.mono hb4.size)) (own_keep HO4.out hal) hg HN4.out HRL.out hc41 hc42)
      clear hown4 hbel hb4 hh hpt HRW
      go_wp2_with (at_builtin; refine wpList_append_one rfl _ _ 24 rfl w.heap.size 22 i1 Try.underlying24 hi' hz0' hz1' hz2' _ r vs rfl w4 A4 n c4 rfl HO4.out rfl (by omega) hle4 ?_)
      intro v5 w5 hown5 hg5
      have HS5 := Lib.hid (HS4.out w5 hg5)
      rw [← HSN.out] at HS5
      have HO5 := Lib.hid hown5
      have hbel5 : Below w.heap.size w w5 := (hbel4.trans (hal.mono hle4)).grown hg5 (by simp; omega) (fun k hk => (HO4.out.lt k hk).1)
      clear hown5 hg5 hal HS4 HN4 HO4 HS HO hbel4 hle4 hle HSN
      go_wp2_with fail
      go_roundw
      case rel => exact ⟨r + 1, _, by omega, by go_num, HO5, HS5, hbel5⟩
      case measure => simp [intOf]; omega
    · obtain rfl : r = n := by omega
      obtain ⟨A', c', rfl, hkc, _⟩ := own_caps HO.out
      have HR := Lib.hid (MV.mk (rowsL_len f r r r) hkc (RdR.of_own HO.out HS.out.vals (Nat.le_refl _)))
      have hni : ¬ (r : Int) < (r : Int) := by omega
      clear HO HS
      go_wp2_with fail
      go_ret
      exact ⟨_, rfl, HR.out, hbel⟩

theorem steps_any (w : World) :
    Calls Try.prog 39 #[] w fun e w' => e = .returned (.slice (some ⟨w.heap.size, 0, none⟩) 3 3) ∧ w' = w.alloc (.cells #[.func (.func 57) #[] #[], .func (.func 58) #[] #[], .func (.func 59) #[] #[]] 64) := by
  go_enter Try.func39, Try.ntmps39
  go_wp2_with fail
  go_ret
  exact ⟨rfl, rfl⟩

/-- Ahead of step j of column c. -/
def Stage (n c : Nat) (a : Mx) (j : Nat) (f : Mx) : Prop :=
  (j = 0 ∧ GInv n c a f) ∨ (j = 1 ∧ GInv n c a f ∧ f c c ≠ 0) ∨ (j = 2 ∧ GInv n c a f ∧ f c c = 1) ∨ (j = 3 ∧ GInv n (c + 1) a f)
theorem Stage.zero {n c : Nat} {a f : Mx} (h : Stage n c a 0 f) : GInv n c a f := by
  rcases h with ⟨_, h⟩ | ⟨h, _⟩ | ⟨h, _⟩ | ⟨h, _⟩
  · exact h
  all_goals omega
theorem Stage.one {n c : Nat} {a f : Mx} (h : Stage n c a 1 f) : GInv n c a f ∧ f c c ≠ 0 := by
  rcases h with ⟨h, _⟩ | ⟨_, h⟩ | ⟨h, _⟩ | ⟨h, _⟩
  · omega
  · exact h
  all_goals omega
theorem Stage.two {n c : Nat} {a f : Mx} (h : Stage n c a 2 f) : GInv n c a f ∧ f c c = 1 := by
  rcases h with ⟨h, _⟩ | ⟨h, _⟩ | ⟨_, h⟩ | ⟨h, _⟩
  · omega
  · omega
  · exact h
  · omega
theorem Stage.three {n c : Nat} {a f : Mx} (h : Stage n c a 3 f) : GInv n (c + 1) a f := by
  rcases h with ⟨h, _⟩ | ⟨h, _⟩ | ⟨h, _⟩ | ⟨_, h⟩
  · omega
  · omega
  · omega
  · exact h
theorem Swp.below {w w' : World} {B s fd g n d cap : Nat} {β γ : Nat → Nat} {f : Mx} (h : Swp w B s fd g β γ n d cap f) (hb : Below w.heap.size w w') (hB : B ≤ w.heap.size) : Swp w' B s fd g β γ n d cap f :=
  h.kept ((Kept.refl B w).on hb hB) (h.mx.below hb)
theorem funT_ne : (64 : TypeId) ≠ 5 ∧ (64 : TypeId) ≠ 22 := by decide
def stepsA : Array Value := #[.func (.func 57) #[] #[], .func (.func 58) #[] #[], .func (.func 59) #[] #[]]
/-- What is answered of an inverse. -/
def InvEnd (W : World) (ls : List (List UInt8)) (e : Ending) (w' : World) : Prop :=
  ∃ v er rs, e = .returned (.tuple #[v, .int .i64 er]) ∧ InvSpec ls er rs ∧ MV w' v rs ∧ Below W.heap.size W w'

set_option maxRecDepth 100000 in
set_option maxHeartbeats 8000000 in
theorem pinv_yes {w : World} {X : Option Addr} {n c0 : Nat} {ls : List (List UInt8)} (hn : ls.length = n) (hr : RdR w w.heap.size X ls) (h1 : IsMx ls) (h2 : (ls.getD 0 []).length = n) :
    Calls Try.prog 19 #[.slice X n c0] w (InvEnd w ls) := by
  have HMAY := Lib.hid (pmay_any X n c0 ls w hn hr)
  rw [show decide (IsMx ls) = true from decide_eq_true h1] at HMAY
  have hn1 : 1 ≤ n := by have := h1.1; omega
  have hn16 : n ≤ 16 := by have := h1.2.1; omega
  have HBEG := Lib.hid (begin_any X n c0 ls w hn (fun r h => (h1.rows r h).trans h2) hn1 hn16 hr)
  have HOK := Lib.hid (show sqOK ls from ⟨h1, by rw [hn, h2]⟩)
  have HN := Lib.hid hn
  obtain ⟨b, off, A0, cc, rfl, hb, hcell⟩ := h1.first hr
  rw [h2] at hcell
  obtain ⟨a, ha⟩ : ∃ a, entM ls = a := ⟨_, rfl⟩
  rw [ha] at HBEG
  have HA := Lib.hid ha
  have hne : ((n : Int) != (n : Int)) = false := by simp
  have hn0 : 0 < n := hn1
  have hni : (0 : Int) < (n : Int) := by omega
  obtain ⟨d, hd⟩ : ∃ d, n + n = d := ⟨_, rfl⟩
  rw [hd] at HBEG
  have HD := Lib.hid hd
  have hd32 : d ≤ 32 := by omega
  have hnd : n ≤ d := by omega
  obtain ⟨B, hB⟩ : ∃ B, w.heap.size = B := ⟨_, rfl⟩
  have HB := Lib.hid hB
  clear hn hr h1 h2 ha hd
  go_enter Try.func19, Try.ntmps19
  go_wp2_with fail
  with_reducible refine (HMAY.out).mono ?_
  rintro e w1 ⟨rfl, rfl⟩
  clear HMAY
  go_wp2_with fail
  with_reducible refine (HBEG.out).mono ?_
  rintro e w1 ⟨s, rfl, ⟨fd, g, β, γ, cap, hcap, hsw, hS⟩, hb1⟩
  rw [hB] at hS hb1
  have HS := Lib.hid hS
  have HG := Lib.hid (show GInv n 0 a (besideM n a) from ginv_start fun _ _ _ _ => rfl)
  clear HBEG hS hcell hne hsw hb hB
  go_wp2_with fail
  go_loopw [24] (fun t wr => ∃ (c : Nat) (β γ : Nat → Nat) (f : Mx), c ≤ n ∧ t = .int .i64 c ∧ Below B w wr ∧ Hid (Swp wr B s fd g β γ n d cap f) ∧ Hid (GInv n c a f)) (fun t _ => n - (intOf t).toNat)
  case atStart => exact ⟨0, β, γ, _, by omega, rfl, hb1, HS, HG⟩
  case round =>
    clear hb1 HS HG
    obtain ⟨c, β, γ, f, hc, rfl, hbel, HS, HG⟩ := hrel
    have HBW := Lib.hid (show B ≤ wr.heap.size from Nat.le_trans HS.out.mx.base (Nat.le_of_lt (by obtain ⟨cur, h1, _⟩ := HS.out.mx.head; exact h1.lt)))
    by_cases hlt : c < n
    · have hci : (c : Int) < (n : Int) := by omega
      have hcd : c < d := by omega
      go_wp2_with fail
      with_reducible refine (steps_any wr).mono ?_
      rintro e w2 ⟨rfl, hw2⟩
      have hal : Below wr.heap.size wr w2 := by rw [hw2]; exact (Below.refl _ _).alloc (Nat.le_refl _) _
      have HT := Lib.hid (show Blk w2 wr.heap.size stepsA 64 by rw [hw2]; exact Blk.new _ _ _)
      have HS2 := Lib.hid (HS.out.below hal HBW.out)
      have hbel2 := hbel.trans (hal.mono HBW.out)
      have HST := Lib.hid (show Stage n c a 0 f from .inl ⟨rfl, HG.out⟩)
      obtain ⟨k, hk⟩ : ∃ k, wr.heap.size = k := ⟨_, rfl⟩
      rw [hk] at HT ⊢
      clear hw2 hal hbel HS HG hk
      go_wp2_with fail
      go_loopw [29] (fun t wq => ∃ (j : Nat) (β γ : Nat → Nat) (f : Mx), j ≤ 3 ∧ t = .int .i64 j ∧ Below B w wq ∧ Hid (Blk wq k stepsA 64) ∧ Hid (Swp wq B s fd g β γ n d cap f) ∧ Hid (Stage n c a j f)) (fun t _ => 3 - (intOf t).toNat)
      case atStart => exact ⟨0, β, γ, f, by omega, rfl, hbel2, HT, HS2, HST⟩
      case round =>
        clear hbel2 HT HS2 HST
        obtain ⟨j, β, γ, f, hj, rfl, hbel, HT, HS, HST⟩ := hrel
        by_cases h0 : j = 0
        · subst h0
          have hcf : wr.cell? ⟨k, 0, none⟩ = some (.func (.func 57) #[] #[]) := HT.out.cell 0
          go_wp2_with fail
          with_reducible refine (lift_any HS.out hlt hn16 hcd).mono ?_
          rintro e w4 ⟨⟨rfl, p, β', γ', hcp, hpn, hz, hs4⟩ | ⟨rfl, hz⟩, hk4⟩
          · have HS4 := Lib.hid hs4
            have HT4 := Lib.hid (hk4.2.2 _ _ _ funT_ne.1 funT_ne.2 HT.out)
            have hbel4 := hbel.trans hk4.1
            have HST4 := Lib.hid (show Stage n c a 1 (swM c p f) from .inr (.inl ⟨rfl, ginv_swap HST.out.zero hlt hpn hcp, by rw [swM_at]; unfold swI; rw [if_pos rfl]; exact hz⟩))
            clear hs4 hk4 hbel hcf HT HS HST hz
            go_wp2_with fail
            go_roundw
            case rel => exact ⟨1, β', γ', _, by omega, by rfl, hbel4, HT4, HS4, HST4⟩
            case measure => simp [intOf]
          · have HE := Lib.hid (show InvSpec ls 4 [] from .inr (.inr ⟨HOK.out, rfl, rfl, by rw [HN.out, HA.out]; exact ginv_fail HST.out.zero hlt hz⟩))
            have hbel4 := hbel.trans hk4.1
            clear hk4 hbel hcf HT HS HST hz
            go_wp2_with fail
            go_ret2
            exact ⟨_, 4, [], rfl, HE.out, MV.nil _, by rw [HB.out]; exact hbel4⟩
        · by_cases h1 : j = 1
          · subst h1
            have hcf : wr.cell? ⟨k, 1, none⟩ = some (.func (.func 58) #[] #[]) := HT.out.cell 1
            clear h0
            go_wp2_with fail
            with_reducible refine (scale_any HS.out hlt hcd hd32).mono ?_
            rintro e w4 ⟨rfl, hs4, hk4⟩
            have HS4 := Lib.hid hs4
            have HT4 := Lib.hid (hk4.2.2 _ _ _ funT_ne.1 funT_ne.2 HT.out)
            have hbel4 := hbel.trans hk4.1
            have HST4 := Lib.hid (show Stage n c a 2 (scM c (ivU (f c c)) f) from .inr (.inr (.inl ⟨rfl, ginv_scale HST.out.one.1 hlt (ivU_ne HST.out.one.2), by rw [scM_same, ivU_mul HST.out.one.2]⟩)))
            clear hs4 hk4 hbel hcf HT HS HST
            go_wp2_with fail
            go_roundw
            case rel => exact ⟨2, β, γ, _, by omega, by rfl, hbel4, HT4, HS4, HST4⟩
            case measure => simp [intOf]
          · by_cases h2 : j = 2
            · subst h2
              have hcf : wr.cell? ⟨k, 2, none⟩ = some (.func (.func 59) #[] #[]) := HT.out.cell 2
              clear h0 h1
              go_wp2_with fail
              with_reducible refine (wipe_any HS.out hlt hcd hd32 hn16).mono ?_
              rintro e w4 ⟨rfl, hs4, hk4⟩
              have HS4 := Lib.hid hs4
              have HT4 := Lib.hid (hk4.2.2 _ _ _ funT_ne.1 funT_ne.2 HT.out)
              have hbel4 := hbel.trans hk4.1
              have HST4 := Lib.hid (show Stage n c a 3 (adM c n f) from .inr (.inr (.inr ⟨rfl, ginv_add HST.out.two.1 hlt HST.out.two.2⟩)))
              clear hs4 hk4 hbel hcf HT HS HST
              go_wp2_with fail
              go_roundw
              case rel => exact ⟨3, β, γ, _, by omega, by rfl, hbel4, HT4, HS4, HST4⟩
              case measure => simp [intOf]
            · obtain rfl : j = 3 := by omega
              have HG2 := Lib.hid HST.out.three
              clear h0 h1 h2 HT HST
              go_wp2_with fail
              go_roundw
              case rel => exact ⟨c + 1, β, γ, f, by omega, by go_num, hbel, HS, HG2⟩
              case measure => simp [intOf]; omega
    · obtain rfl : c = n := by omega
      have HBH := Lib.hid (behind_any HS.out HD.out hn1 hn16)
      have HE := Lib.hid (show InvSpec ls 0 (rowsL f c c c) from .inr (.inl ⟨HOK.out, rfl, by rw [HN.out]; exact sqL_rows _ _ _, by
        rw [HN.out, HA.out]
        exact (ginv_end HG.out).of_alike (fun _ _ _ _ => rfl) (s := entM (rowsL f c c c)) (fun i j hi hj => (rowsL_ent f c c c hi hj).symm)⟩))
      have hnn : ¬ (c : Int) < (c : Int) := by omega
      clear HS HG
      go_wp2_with fail
      with_reducible refine (HBH.out).mono ?_
      rintro e w4 ⟨v, rfl, hv, hb4⟩
      have HV := Lib.hid hv
      have HBB := Lib.hid (show Below w.heap.size w w4 by rw [HB.out]; exact hbel.trans (hb4.mono HBW.out))
      clear hv hb4 hbel HBH
      go_wp2_with fail
      go_ret2
      exact ⟨v, 0, _, rfl, HE.out, HV.out, HBB.out⟩
theorem pinv_any {w : World} {x : Value} {ls : List (List UInt8)} (hx : MV w x ls) :
    Calls Try.prog 19 #[x] w fun e w' => ∃ v er rs, e = .returned (.tuple #[v, .int .i64 er]) ∧ InvSpec ls er rs ∧ MV w' v rs ∧ Below w.heap.size w w' := by
  obtain ⟨X, c, rfl, hc, hr⟩ := hx
  obtain ⟨n, hn⟩ : ∃ n, ls.length = n := ⟨_, rfl⟩
  rw [hn]
  by_cases h1 : IsMx ls
  · by_cases h2 : (ls.getD 0 []).length = n
    · exact pinv_yes hn hr h1 h2
    · have HE := Lib.hid (show InvSpec ls 1 [] from .inl ⟨fun h => h2 (by rw [← hn]; exact h.2.symm), rfl, rfl⟩)
      have HMAY := Lib.hid (pmay_any X n c ls w hn hr)
      rw [show decide (IsMx ls) = true from decide_eq_true h1] at HMAY
      obtain ⟨b, off, A0, cc, rfl, hb, hcell⟩ := h1.first hr
      have hn0 : 0 < n := by have := h1.1; omega
      have hne : ((n : Int) != ((ls.getD 0 []).length : Int)) = true := by simp only [bne_iff_ne, ne_eq]; omega
      generalize (ls.getD 0 []).length = k at *
      clear h1 h2 hn hr hc
      go_enter Try.func19, Try.ntmps19
      go_wp2_with fail
      with_reducible refine (HMAY.out).mono ?_
      rintro e w1 ⟨rfl, rfl⟩
      clear HMAY
      go_wp2_with fail
      go_ret2
      exact ⟨_, 1, [], rfl, HE.out, MV.nil _, Below.refl _ _⟩
  · have HE := Lib.hid (show InvSpec ls 1 [] from .inl ⟨fun h => h1 h.1, rfl, rfl⟩)
    have HMAY := Lib.hid (pmay_any X n c ls w hn hr)
    rw [show decide (IsMx ls) = false from decide_eq_false h1] at HMAY
    clear h1 hn hr hc
    go_enter Try.func19, Try.ntmps19
    go_wp2_with fail
    with_reducible refine (HMAY.out).mono ?_
    rintro e w1 ⟨rfl, rfl⟩
    clear HMAY
    go_wp2_with fail
    go_ret2
    exact ⟨_, 1, [], rfl, HE.out, MV.nil _, Below.refl _ _⟩
end Go.Proofs.Ytkgemngkkedcnaa
