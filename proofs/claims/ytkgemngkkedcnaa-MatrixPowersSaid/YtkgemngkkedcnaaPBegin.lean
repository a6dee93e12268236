/- The program's inverse in the making: how it begins. -/
import Derived.Test.YtkgemngkkedcnaaPSwp
import Derived.Test.YtkgemngkkedcnaaStepA
import Derived.Test.YtkgemngkkedcnaaFreeL
namespace Go.Proofs.Ytkgemngkkedcnaa
open Go.RowKit

/-- append of one slice value, which lies in a block of its own, onto a row of the call's own. -/
theorem wpList_append_one' {P : Program} {w : World} {ops : Array Oper} {rest : List Oper} {o : Oper} {a : Act} {Q : Exit → Act → World → Prop} (hgd : o.guard = none) (s x : Operand) (t : TypeId)
    (ho : o.op = .call { callee := .builtin .append, args := #[s, x], argTypes := #[t, t] })
    (base : Nat) (e : TypeId) (i : TypeInfo) (ht : P.underlying t = some (.slice e)) (hi : P.info? e = some i) (hz : i.zero = some (.slice none 0 0)) (hsize : i.size = 1) (hby : i.bytes = 24)
    (v : Value) (n : Nat) (xs : List Value) (hs : a.eval s = v) (hown : w.ownsRow base e 1 v n xs) (b : Nat) (A : Option Addr) (m c : Nat) (hb : w.heap[b]? = some (.cells #[.slice A m c] e (0, 0))) (hx : a.eval x = .slice (some ⟨b, 0, none⟩) 1 1)
    (hlim : n + 1 ≤ 1000000) (hbase : base ≤ w.heap.size)
    (h : ∀ v' w', w'.ownsRow base e 1 v' (n + 1) (xs ++ [.slice A m c]) → w.grownBy w' v.ownBlock → wpList P ops Q rest (a.put o.dst v') w') : wpList P ops Q (o :: rest) a w := by
  refine wpList_append_own (P := P) _ hgd s x t ho base e i (.slice none 0 0) 1 24 ht hi hz hsize hby rfl (by omega) v n xs hs hown ⟨b, 0, none⟩ 1 1 [.slice A m c] hx rfl (fun j u hj => ?_) (fun u hu => ?_) (by unfold maxLen; omega) (by omega) hbase (fun v' w' h1 h2 _ => h v' w' h1 h2)
  · exact World.news_of_block hb j u (by simpa using hj)
  · simp at hu
    subst hu
    rfl
theorem rdr_pair (w : World) (A B : Option Addr) {n m c e : Nat} {l k : List UInt8} (hl : l.length = n) (hc : n ≤ c) (hcm : c ≤ maxLen) (hk : k.length = m) (he : m ≤ e) (hem : e ≤ maxLen) (h1 : Rd w w.heap.size A l) (h2 : Rd w w.heap.size B k) :
    RdR (w.alloc (.cells #[.slice A n c, .slice B m e] 22)) (w.alloc (.cells #[.slice A n c, .slice B m e] 22)).heap.size (some ⟨w.heap.size, 0, none⟩) [l, k] := by
  subst hl hk
  have hal : Below w.heap.size w (w.alloc (.cells #[.slice A l.length c, .slice B k.length e] 22)) := (Below.refl _ _).alloc (Nat.le_refl _) _
  refine .inr ⟨w.heap.size, 0, rfl, (Blk.new w _ _).lt, fun i hi => ?_⟩
  have hb := (Blk.new w #[.slice A l.length c, .slice B k.length e] 22).cell i
  rw [Nat.zero_add]
  match i, hi with
  | 0, _ => exact ⟨A, c, hb, hc, hcm, (h1.below hal (Nat.le_refl _)).more hal.size⟩
  | 1, _ => exact ⟨B, e, hb, he, hem, (h2.below hal (Nat.le_refl _)).more hal.size⟩
theorem beside_row {n i j : Nat} {ls : List (List UInt8)} {full : List UInt8} (hi : i < ls.length) (hn : (ls[i]).length = n) (hf : full.take (n + n) = [ls[i], rowL unitM 0 n i].flatten) (hj : j < n + n) :
    (u8A full)[j]? = some (.int .u8 ((besideM n (entM ls) i j).toNat : Int)) := by
  rw [u8A_head hf hj (by simp [hn, rowL_len])]
  congr 3
  unfold besideM
  by_cases hjn : j < n
  · rw [if_pos hjn]
    have h2 : j < ls[i].length := by rw [hn]; exact hjn
    simp only [List.flatten_cons, List.flatten_nil, List.append_nil]
    rw [List.getD_eq_getElem?_getD, List.getElem?_append_left h2]
    simp [entM, List.getD_eq_getElem?_getD, hi]
  · rw [if_neg hjn]
    simp only [List.flatten_cons, List.flatten_nil, List.append_nil]
    rw [List.getD_eq_getElem?_getD, List.getElem?_append_right (by rw [hn]; omega), hn]
    simp [rowL, show j - n < n by omega]
set_option maxRecDepth 100000 in
set_option maxHeartbeats 8000000 in
theorem begin_any (A : Option Addr) (n c : Nat) (ls : List (List UInt8)) (w : World) (hn : ls.length = n) (hrow : ∀ r ∈ ls, r.length = n) (h1 : 1 ≤ n) (h16 : n ≤ 16) (hr : RdR w w.heap.size A ls) :
    Calls Try.prog 38 #[.slice A n c] w fun e w' => ∃ s, e = .returned (.pointer (some ⟨s, 0, none⟩)) ∧ (∃ fd g β γ cap, n ≤ cap ∧ w.heap.size ≤ s ∧ Swp w' w.heap.size s fd g β γ n (n + n) cap (besideM n (entM ls))) ∧ Below w.heap.size w w' := by
  obtain ⟨i1, hi', hz0', hz1', hz2'⟩ := info_parts infoSlice
  have HN := Lib.hid hn
  have HROW := Lib.hid hrow
  clear hn hrow
  obtain ⟨d, hd⟩ : ∃ d, n + n = d := ⟨_, rfl⟩
  have HD := Lib.hid hd
  have hd2 : 2 ≤ d := by omega
  have hd32 : d ≤ 32 := by omega
  obtain ⟨f, hfe⟩ : ∃ f, besideM n (entM ls) = f := ⟨_, rfl⟩
  have HFE := Lib.hid hfe
  rw [hd, hfe]
  clear hd hfe
  go_enter Try.func38, Try.ntmps38
  go_wp2_with fail
  with_reducible refine (fnew_any w).mono ?_
  rintro e w1 ⟨fd, rfl, hfd, hf, hb1⟩
  have HF1 := Lib.hid hf
  clear hf
  go_wp2_with fail
  have HS2 := Lib.hid (Blk.new w1 #[.slice none 0 0, .func (.func 53) #[.pointer (some ⟨fd, 0, none⟩)] #[], .func (.func 55) #[.pointer (some ⟨fd, 0, none⟩)] #[]] 82)
  have hb2 : Below w1.heap.size w1 (w1.alloc (.cells #[.slice none 0 0, .func (.func 53) #[.pointer (some ⟨fd, 0, none⟩)] #[], .func (.func 55) #[.pointer (some ⟨fd, 0, none⟩)] #[]] 82)) := (Below.refl _ _).alloc (Nat.le_refl _) _
  have HF2 := Lib.hid (FdAt.below HF1.out hb2 HF1.out.lt)
  have hfs := HF1.out.lt
  have hbel2 := hb1.trans (hb2.mono hb1.size)
  have hsw := hb1.size
  obtain ⟨s, hs⟩ : ∃ s, w1.heap.size = s := ⟨_, rfl⟩
  have hsl2 := HS2.out.lt
  generalize w1.alloc _ = w2 at *
  rw [hs] at HS2 hfs hsl2 hsw ⊢
  clear hb2 hs hb1 HF1
  with_reducible refine (punit_mx n w2 h1 h16).mono ?_
  rintro e w3 ⟨gu, rfl, ⟨βu, γu, hmu⟩, hb3⟩
  have HU := Lib.hid hmu
  have HS3 := Lib.hid (HS2.out.below hb3 HS2.out.lt)
  have HF3 := Lib.hid (HF2.out.below hb3 HF2.out.lt)
  have hbel3 := hbel2.trans (hb3.mono hbel2.size)
  have hsg0 : s < w3.heap.size := by have := hb3.size; omega
  have hg30 := hbel3.size
  obtain ⟨g3, hg3e⟩ : ∃ g, w3.heap.size = g := ⟨_, rfl⟩
  obtain ⟨u3, hu3⟩ : ∃ g, w2.heap.size = g := ⟨_, rfl⟩
  rw [hu3] at HU hsl2
  have HG3 := Lib.hid hg3e
  have HBUT3 := Lib.hid (But.refl (w := w3) (s := s) (B := g3) (by omega))
  rw [hg3e] at hsg0 hg30
  have hsg : s < g3 := hsg0
  have hg3 : w.heap.size ≤ g3 := hg30
  have HB3 := Lib.hid (MxB.nil w3 g3 d f)
  clear hmu hb3 hbel2 hg3e hu3 HS2 HF2 hsg0 hg30 hfd
  go_wp2_with fail
  go_loopw [18] (fun t wr => ∃ (i : Nat) (v : Value), i ≤ n ∧ t = .int .i64 i ∧ Below w.heap.size w wr ∧ Hid (But g3 s w3 wr) ∧ Hid (Blk wr s #[v, .func (.func 53) #[.pointer (some ⟨fd, 0, none⟩)] #[], .func (.func 55) #[.pointer (some ⟨fd, 0, none⟩)] #[]] 82) ∧ Hid (MxB wr g3 v i d f)) (fun t _ => n - (intOf t).toNat)
  case atStart => exact ⟨0, _, by omega, rfl, hbel3, HBUT3, HS3, HB3⟩
  case round =>
    clear hbel3 HBUT3 HS3 HB3
    obtain ⟨i, v, hin, rfl, hbel, HBUT, HBS, HB⟩ := hrel
    by_cases hlt : i < n
    · have hii : (i : Int) < (n : Int) := by omega
      have hil : i < ls.length := by rw [HN.out]; exact hlt
      obtain ⟨ba, oa, A1, c1, rfl, hbs, hc, hlc1, hcm1, hrd⟩ := hr.at_ i hil
      have HLA := Lib.hid (show ls[i].length = n from HROW.out _ (List.getElem_mem _))
      rw [HLA.out] at hc hlc1
      have HU2 := Lib.hid (HU.out.but HBUT.out (by rw [HG3.out]; exact Nat.le_refl _) hsl2)
      have hhu := HU2.out.header hlt
      obtain ⟨_, hlcu, hcmu, _⟩ := HU2.out.rows i hlt
      have HLU := Lib.hid (rowL_len unitM 0 n i)
      have HAC := Lib.hid (fun W (h : Below wr.heap.size wr W) => (h.cell (p := ⟨ba, oa + i, none⟩) (Nat.lt_of_lt_of_le hbs hbel.size)).trans ((hbel.cell (p := ⟨ba, oa + i, none⟩) hbs).trans hc))
      have HVC := Lib.hid (fun W (h : Below wr.heap.size wr W) => (show W.cell? ⟨s, 0, none⟩ = some v from (HBS.out.below h HBS.out.lt).cell 0))
      have HRA := Lib.hid (fun W (h : Below wr.heap.size wr W) => ((hrd.below hbel (Nat.le_refl _)).below h hbel.size).more (Nat.le_trans hbel.size h.size))
      have HRU := Lib.hid (fun W (h : Below wr.heap.size wr W) => (HU2.out.below h).row hlt)
      obtain ⟨row, hrw⟩ : ∃ row, [ls[i], rowL unitM 0 n i].flatten = row := ⟨_, rfl⟩
      have HROWI := Lib.hid (show ∀ full : List UInt8, full.take d = row → ∀ j, j < d → (u8A full)[j]? = some (.int .u8 ((f i j).toNat : Int)) from fun full hfu j hj => by
        rw [← HFE.out]
        rw [← HD.out] at hfu hj
        exact beside_row hil HLA.out (by rw [hfu, hrw]) hj)
      have HCAT := Lib.hid (fun g W (hR : RdR W W.heap.size (some ⟨g, 0, none⟩) [ls[i], rowL unitM 0 n i]) (h : Below wr.heap.size wr W) => (show Calls Try.prog 56 #[.slice (some ⟨g, 0, none⟩) 2 2] W fun e w' => ∃ v, e = .returned v ∧ OwnB w' wr.heap.size 5 v d row ∧ Below W.heap.size W w' from by
        have := concat_any (some ⟨g, 0, none⟩) 2 2 d W.heap.size [ls[i], rowL unitM 0 n i] W rfl (by simp [HLA.out, rowL_len]; exact HD.out) (by omega) (by omega) (by omega) (Nat.le_refl _) hR
        rw [hrw] at this
        exact this.mono fun e w' ⟨v, he, ho, hq⟩ => ⟨v, he, ho.less h.size, hq⟩))
      obtain ⟨β, γ, hG⟩ := HB.out
      have HG := Lib.hid hG
      generalize ls[i] = la at *
      generalize rowL unitM 0 n i = lu at *
      obtain ⟨bu, hbu⟩ : ∃ z, βu i = z := ⟨_, rfl⟩
      obtain ⟨cu, hcu⟩ : ∃ z, γu i = z := ⟨_, rfl⟩
      rw [hbu] at hhu HRU
      rw [hcu] at hhu hlcu hcmu
      clear hc hrd hil hrw HB hG HU2 hbu hcu
      go_wp2_with fail
      refine wp_region_loose1 13 4 (fun i => false) (promises [.is (.pointer (some ⟨s, 0, none⟩)), .is (.pointer (some ⟨s, 0, none⟩)), .is (.pointer (some ⟨s, 0, none⟩)), .is (.pointer (some ⟨s, 0, none⟩)), .is v, .is (.slice (some ⟨ba, oa, none⟩) n c), .is (.int .i64 (i : Int)), .is (.pointer (some ⟨ba, oa + i, none⟩)), .is (.slice A1 n c1), .is (.slice (some ⟨bu, 0, none⟩) n cu), .rows 2 [la, lu], .own wr.heap.size d row, .one wr.heap.size d row]) _ (.pointer (some ⟨s, 0, none⟩)) (by kernel_rfl) rfl (by kernel_rfl) (by kernel_rfl) rfl (.inl ⟨wanted_none rfl, fun w => BigFrame.run_move (.tmp 4) rfl w⟩) (fun _ _ => rfl) (fun _ _ _ h => h) (fun i v w w' h hb => Spec.keep h hb) ⟨?_, ?_, ?_, ?_, ?_, ?_, ?_, ?_, ?_, ?_, ?_, ?_, ?_, trivial⟩ ?_
      · refine StepOKl.of ?_
        intro ac w hb hu hk
        refine ⟨wanted_none rfl, ?_⟩
        have e4 : ac.eval (.tmp 4) = .pointer (some ⟨s, 0, none⟩) := hu.is (t := 4) (by kernel_rfl)
        exact step_value (BigFrame.run_move (.tmp 4) rfl w) (Below.refl _ _) e4
      · refine StepOKl.of ?_
        intro ac w hb hu hk
        refine ⟨wanted_none rfl, ?_⟩
        have e4 : ac.eval (.tmp 4) = .pointer (some ⟨s, 0, none⟩) := hu.is (t := 4) (by kernel_rfl)
        exact step_value (BigFrame.run_move (.tmp 4) rfl w) (Below.refl _ _) e4
      · refine StepOKl.of ?_
        intro ac w hb hu hk
        refine ⟨wanted_none rfl, ?_⟩
        have e24 : ac.eval (.tmp 24) = (.pointer (some ⟨s, 0, none⟩)) := (hk ⟨1, .data⟩ (by simp) rfl).is rfl rfl
        refine step_value (w' := w) (v := (.pointer (some ⟨s, 0, none⟩))) ?_ (Below.refl _ _) rfl
        generalize ac.eval = ρ at e24 ⊢
        go_simp
      · refine StepOKl.of ?_
        intro ac w hb hu hk
        refine ⟨wanted_none rfl, ?_⟩
        have e25 : ac.eval (.tmp 25) = (.pointer (some ⟨s, 0, none⟩)) := (hk ⟨2, .data⟩ (by simp) rfl).is rfl rfl
        refine step_value (w' := w) (v := (.pointer (some ⟨s, 0, none⟩))) ?_ (Below.refl _ _) rfl
        generalize ac.eval = ρ at e25 ⊢
        go_simp
      · refine StepOKl.of ?_
        intro ac w hb hu hk
        refine ⟨wanted_none rfl, ?_⟩
        have e26 : ac.eval (.tmp 26) = (.pointer (some ⟨s, 0, none⟩)) := (hk ⟨3, .data⟩ (by simp) rfl).is rfl rfl
        have hcx := HVC.out w hb
        refine step_value (w' := w) (v := v) ?_ (Below.refl _ _) rfl
        generalize ac.eval = ρ at e26 ⊢
        go_simp
      · refine StepOKl.of ?_
        intro ac w hb hu hk
        refine ⟨wanted_none rfl, ?_⟩
        have e0 : ac.eval (.tmp 0) = .slice (some ⟨ba, oa, none⟩) n c := hu.is (t := 0) (by kernel_rfl)
        exact step_value (BigFrame.run_move (.tmp 0) rfl w) (Below.refl _ _) e0
      · refine StepOKl.of ?_
        intro ac w hb hu hk
        refine ⟨wanted_none rfl, ?_⟩
        have e5 : ac.eval (.tmp 5) = .int .i64 (i : Int) := hu.is (t := 5) (by kernel_rfl)
        exact step_value (BigFrame.run_move (.tmp 5) rfl w) (Below.refl _ _) e5
      · refine StepOKl.of ?_
        intro ac w hb hu hk
        refine ⟨wanted_none rfl, ?_⟩
        have e28 : ac.eval (.tmp 28) = (.slice (some ⟨ba, oa, none⟩) n c) := (hk ⟨5, .data⟩ (by simp) rfl).is rfl rfl
        have e29 : ac.eval (.tmp 29) = (.int .i64 (i : Int)) := (hk ⟨6, .data⟩ (by simp) rfl).is rfl rfl
        refine step_value (w' := w) (v := (.pointer (some ⟨ba, oa + i, none⟩))) ?_ (Below.refl _ _) rfl
        generalize ac.eval = ρ at e28 e29 ⊢
        go_simp
      · refine StepOKl.of ?_
        intro ac w hb hu hk
        refine ⟨wanted_none rfl, ?_⟩
        have e30 : ac.eval (.tmp 30) = (.pointer (some ⟨ba, oa + i, none⟩)) := (hk ⟨7, .data⟩ (by simp) rfl).is rfl rfl
        have hcx := HAC.out w hb
        refine step_value (w' := w) (v := .slice A1 n c1) ?_ (Below.refl _ _) rfl
        generalize ac.eval = ρ at e30 ⊢
        go_simp
      · refine StepOKl.of ?_
        intro ac w hb hu hk
        refine ⟨wanted_none rfl, ?_⟩
        have e6 : ac.eval (.tmp 6) = .slice (some ⟨bu, 0, none⟩) n cu := hu.is (t := 6) (by kernel_rfl)
        exact step_value (BigFrame.run_move (.tmp 6) rfl w) (Below.refl _ _) e6
      · refine StepOKl.of ?_
        intro ac w hb hu hk
        refine ⟨wanted_none rfl, ?_⟩
        have e31 : ac.eval (.tmp 31) = (.slice A1 n c1) := (hk ⟨8, .data⟩ (by simp) rfl).is rfl rfl
        have e32 : ac.eval (.tmp 32) = (.slice (some ⟨bu, 0, none⟩) n cu) := (hk ⟨9, .data⟩ (by simp) rfl).is rfl rfl
        refine step_value (w' := w.alloc (.cells #[.slice A1 n c1, .slice (some ⟨bu, 0, none⟩) n cu] 22)) (v := .slice (some ⟨w.heap.size, 0, none⟩) 2 2) ?_ ((Below.refl _ _).alloc (Nat.le_refl _) _) ⟨w.heap.size, rfl, rdr_pair w _ _ HLA.out hlc1 hcm1 HLU.out hlcu hcmu (HRA.out w hb) (HRU.out w hb)⟩
        generalize ac.eval = ρ at e31 e32 ⊢
        go_simp
      · refine StepOKl.of ?_
        intro ac w hb hu hk
        refine ⟨wanted_none rfl, ?_⟩
        have e33 : ∃ g, ac.eval (.tmp 33) = .slice (some ⟨g, 0, none⟩) 2 2 ∧ RdR w w.heap.size (some ⟨g, 0, none⟩) [la, lu] := (hk ⟨10, .data⟩ (by simp) rfl).is rfl rfl
        obtain ⟨g, eg, hr⟩ := e33
        have ef : ac.eval (.func 56) = .func (.func 56) #[] #[] := rfl
        refine step_enter (f := 56) (args := #[.slice (some ⟨g, 0, none⟩) 2 2]) ?_ ?_
        · generalize ac.eval = ρ at eg ef ⊢
          go_simp
        · exact (HCAT.out g w hr hb).mono fun e w' ⟨v, he, ho, hq⟩ => by
            obtain ⟨X, c, hv, hc⟩ := own_slice ho.own
            exact ⟨v, he, ⟨X, c, hv, hc, ho⟩, hq⟩
      · refine StepOKl.of ?_
        intro ac w hb hu hk
        refine ⟨wanted_none rfl, ?_⟩
        have e34 : ∃ X c, ac.eval (.tmp 34) = .slice X d c ∧ d ≤ c ∧ OwnB w wr.heap.size 5 (ac.eval (.tmp 34)) d row := (hk ⟨11, .data⟩ (by simp) rfl).is rfl rfl
        obtain ⟨X, xc, eX, hxc, hX⟩ := e34
        have hX : OwnB w wr.heap.size 5 (.slice X d xc) d row := by rw [← eX]; exact hX
        have hal : Below w.heap.size w (w.alloc (.cells #[.slice X d xc] 22)) := (Below.refl _ _).alloc (Nat.le_refl _) _
        refine step_value (w' := w.alloc (.cells #[.slice X d xc] 22)) (v := .slice (some ⟨w.heap.size, 0, none⟩) 1 1) ?_ hal ⟨w.heap.size, rfl, X, xc, heap_alloc_new w _, hxc, hX.on hal⟩
        generalize ac.eval = ρ at eX ⊢
        go_simp
      · intro ac w' hb hu hk hap
        obtain ⟨_, h23, rfl⟩ := (hk 0 (by decide)).put rfl rfl
        obtain ⟨_, h24, rfl⟩ := (hk 1 (by decide)).put rfl rfl
        obtain ⟨_, h25, rfl⟩ := (hk 2 (by decide)).put rfl rfl
        obtain ⟨_, h26, rfl⟩ := (hk 3 (by decide)).put rfl rfl
        obtain ⟨_, h27, rfl⟩ := (hk 4 (by decide)).put rfl rfl
        obtain ⟨_, h28, rfl⟩ := (hk 5 (by decide)).put rfl rfl
        obtain ⟨_, h29, rfl⟩ := (hk 6 (by decide)).put rfl rfl
        obtain ⟨_, h30, rfl⟩ := (hk 7 (by decide)).put rfl rfl
        obtain ⟨_, h31, rfl⟩ := (hk 8 (by decide)).put rfl rfl
        obtain ⟨_, h32, rfl⟩ := (hk 9 (by decide)).put rfl rfl
        obtain ⟨_, h33, ⟨g33, rfl, hG33⟩⟩ := (hk 10 (by decide)).put rfl rfl
        obtain ⟨_, h34, ⟨X34, xc34, rfl, hxc34, hX34⟩⟩ := (hk 11 (by decide)).put rfl rfl
        obtain ⟨_, h35, ⟨g35, rfl, X35, xc35, hG35, hxc35, hX35⟩⟩ := (hk 12 (by decide)).put rfl rfl
        clear hap
        have hF : AllPuts ac.tmps ((23, _) :: (24, _) :: (25, _) :: (26, _) :: (27, _) :: (28, _) :: (29, _) :: (30, _) :: (31, _) :: (32, _) :: (33, _) :: (34, _) :: (35, _) :: []) := ⟨h23, h24, h25, h26, h27, h28, h29, h30, h31, h32, h33, h34, h35, trivial⟩
        obtain rfl := frame_puts hu (by kernel_rfl) hF
        simp only [puts, Act.put, List.setIfInBounds_toArray, List.set_cons_zero, List.set_cons_succ, List.drop_succ_cons, List.drop_zero]
        clear hk hu hF h23 h24 h25 h26 h27 h28 h29 h30 h31 h32 h33 h34 h35
        clear hX34
        rcases hX35.2 with ⟨_, e0⟩ | ⟨g5, cap5, full5, e5, hg5, hB5, hk5, hm5, hf5, ht5⟩
        · exact absurd e0 (by omega)
        injection e5 with e5a _ e5b
        subst e5a e5b
        have HB5 := Lib.hid hB5
        have HG5 := Lib.hid (HG.out.below hb)
        have HS5 := Lib.hid (HBS.out.below hb HBS.out.lt)
        have HBUT5 := Lib.hid (HBUT.out.on hb)
        have hbel5 : Below w.heap.size w w' := hbel.trans (hb.mono hbel.size)
        have hs5 : g3 ≤ w'.heap.size := HBUT5.out.1
        have hs0 : w.heap.size ≤ w'.heap.size := hbel5.size
        have HROWF := Lib.hid (HROWI.out full5 ht5)
        clear hX35 hB5 ht5
        go_wp2_with (at_builtin; refine wpList_append_one' rfl _ _ 24 rfl g3 22 i1 Try.underlying24 hi' hz0' hz1' hz2' _ i (hdrs β γ i d) rfl HG5.out.own g35 (some ⟨g5, 0, none⟩) d xc35 hG35 rfl (by omega) hs5 ?_)
        intro v7 w7 hown7 hgr7
        obtain ⟨A7, c7, rfl, _⟩ := own_caps hown7
        have hown6 := HG5.out.own
        have hkeep : ∀ b rc (T : TypeId), 22 ≠ T → Blk w' b rc T → Blk w7 b rc T := fun b rc T hT h => grown_apart hown6 hgr7 h hT
        have HS7 := Lib.hid (hkeep _ _ _ (by decide) HS5.out)
        have HB7 := Lib.hid (HG.out.snoc (f := f) hown7 (fun b rc h => hkeep b rc _ tys_ne (h.below hb h.lt)) (Nat.le_trans HBUT.out.1 hg5) hk5 hm5 (by omega) (hkeep _ _ _ tys_ne HB5.out) HROWF.out)
        have HBUT7 := Lib.hid (HBUT5.out.grown hgr7 (fun k hk => (HG5.out.own.lt k hk).1))
        have hbel7 : Below w.heap.size w w7 := hbel5.grown hgr7 (by omega) (fun k hk => Nat.le_trans hg3 (HG5.out.own.lt k hk).1)
        have hcs := HS7.out.cell 0
        have hfs := HS7.out.frozen 0
        have HB8 := Lib.hid (HB7.out.low hsg 0 (.slice A7 (i + 1) c7))
        have HBUT8 := Lib.hid (HBUT7.out.set 0 (.slice A7 (i + 1) c7))
        have HS8 := Lib.hid (show Blk (w7.setCell ⟨s, 0, none⟩ (.slice A7 (i + 1) c7)) s #[.slice A7 (i + 1) c7, .func (.func 53) #[.pointer (some ⟨fd, 0, none⟩)] #[], .func (.func 55) #[.pointer (some ⟨fd, 0, none⟩)] #[]] 82 from HS7.out.set 0 (.slice A7 (i + 1) c7))
        have hbel8 : Below w.heap.size w (w7.setCell ⟨s, 0, none⟩ (.slice A7 (i + 1) c7)) := hbel7.setCell hsw _
        obtain ⟨o8, ho8⟩ : ∃ o, w7.cell? ⟨s, 0, none⟩ = some o := ⟨_, hcs⟩
        clear hG35 hown6 hkeep hown7 hgr7 hcs HG HBS HBUT HVC HAC HRA HRU HCAT HROWI HB5 HS7 HB7 HBUT7 HG5 HS5 HBUT5 hb hbel
        go_wp2_with fail
        go_roundw
        case rel => exact ⟨i + 1, _, by omega, by go_num, hbel8, HBUT8, HS8, HB8⟩
        case measure => simp [intOf]; omega
    · obtain rfl : i = n := by omega
      obtain ⟨g, cap, β, γ, rfl, hc1, hc2, hM⟩ := HB.out.opened (by omega)
      have HM := Lib.hid (hM.more hg3)
      have HF4 := Lib.hid (FdAt.but HF3.out HBUT.out (by omega) (by omega))
      have HSW := Lib.hid (show Swp wr w.heap.size s fd g β γ i d cap f from ⟨HBS.out, HF4.out, HM.out⟩)
      have hni : ¬ (i : Int) < (i : Int) := by omega
      clear HB hM HBUT HBS HM HF4
      go_wp2_with fail
      go_ret
      exact ⟨s, rfl, ⟨fd, g, β, γ, cap, hc1, hsw, HSW.out⟩, hbel⟩
end Go.Proofs.Ytkgemngkkedcnaa
