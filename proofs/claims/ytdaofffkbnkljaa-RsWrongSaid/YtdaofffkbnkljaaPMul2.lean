/- The program's image of a column: one sum of products a row. The program's Apply and Mul. The program's product of matrices. -/
import Derived.Test.YtdaofffkbnkljaaPFill
import Derived.Test.YtdaofffkbnkljaaRMSq
namespace Go.Proofs.Ytdaofffkbnkljaa
open Go.RowKit

def imgL (ls : List (List UInt8)) (l : List UInt8) (p : Nat) : List UInt8 := ls.map fun r => dotU r l p
theorem imgL_len (ls : List (List UInt8)) (l : List UInt8) (p : Nat) : (imgL ls l p).length = ls.length := by simp [imgL]
theorem imgL_succ {ls : List (List UInt8)} (l : List UInt8) (p : Nat) {i : Nat} (h : i < ls.length) : imgL (ls.take (i + 1)) l p = imgL (ls.take i) l p ++ [dotU ls[i] l p] := by
  unfold imgL
  rw [List.take_succ_eq_append_getElem h, List.map_append]; rfl
set_option maxRecDepth 100000 in
set_option maxHeartbeats 2000000 in
theorem image_any (fd : Nat) (A B : Option Addr) (n p c d : Nat) (ls : List (List UInt8)) (l : List UInt8) (w : World) (hn : ls.length = n) (hrow : ∀ r ∈ ls, r.length = p) (hl : l.length = p) (h1 : n ≤ 1000) (h2 : p ≤ 1000) (hr : RdR w w.heap.size A ls) (hs : Rd w w.heap.size B l) (hf : FdAt w fd) :
    Calls Try.prog 56 #[.func (.func 54) #[.pointer (some ⟨fd, 0, none⟩)] #[], .slice A n c, .slice B p d] w fun e w' => ∃ g, e = .returned (.slice (some ⟨g, 0, none⟩) n n) ∧ w.heap.size ≤ g ∧ Blk w' g (u8A (imgL ls l p)) 5 ∧ Below w.heap.size w w' := by
  obtain ⟨i0, hi, hz0, hz1, hz2⟩ := info_parts info5
  have hmk := fun W => run_make (P := Try.prog) W 22 5 i0 (.int .u8 0) Try.underlying22 hi hz0 .i64 .i64 (n : Int) (n : Int) (by omega) (by omega) (by rw [hz2]; omega) (by omega)
  simp only [hz1, Nat.mul_one] at hmk
  have HN := Lib.hid hn
  have HROW := Lib.hid hrow
  have HL := Lib.hid hl
  have hfl := hf.lt
  have HDOT := Lib.hid (fun A1 c1 (r : List UInt8) W (hlen : r.length = p) (hrd : Rd W W.heap.size A1 r) (h : Below w.heap.size w W) => (show Calls Try.prog 54 #[.pointer (some ⟨fd, 0, none⟩), .slice A1 p c1, .slice B p d] W fun e w' => e = .returned (.int .u8 ((dotU r l p).toNat : Int)) ∧ ∃ q, w' = W.drewN q from by
    have := fdot_any fd A1 B p p c1 d W.heap.size w.heap.size r l W hlen hl (by unfold maxLen; omega) (by unfold maxLen; omega) hrd (hs.below h (Nat.le_refl _)) (hf.below h hfl)
    rw [Nat.min_self] at this
    exact this))
  clear hi hz0 hz1 hz2 hn hrow hl hs hf
  go_enter Try.func56, Try.ntmps56
  go_wp2_with fail
  have HB0 := Lib.hid (show Blk (w.alloc (.cells (madeCells #[Value.int .u8 0] n) 5)) w.heap.size (u8A (padB n (imgL (ls.take 0) l p))) 5 by
    have : padB n (imgL (ls.take 0) l p) = List.replicate n 0 := by simp [imgL, padB]
    rw [this, ← made_bytes]
    exact Blk.new _ _ _)
  have hb0 : Below w.heap.size w (w.alloc (.cells (madeCells #[Value.int .u8 0] n) 5)) := (Below.refl _ _).alloc (Nat.le_refl _) _
  generalize w.alloc (.cells (madeCells #[Value.int .u8 0] n) 5) = w1 at *
  obtain ⟨g, hg⟩ : ∃ g, w.heap.size = g := ⟨_, rfl⟩
  have HG := Lib.hid hg
  rw [hg] at HB0 hb0 hr hfl HDOT ⊢
  clear hg hmk
  go_loopw [15] (fun t wr => ∃ i : Nat, i ≤ n ∧ t = .int .i64 i ∧ Below g w wr ∧ g ≤ wr.heap.size ∧ Hid (Blk wr g (u8A (padB n (imgL (ls.take i) l p))) 5)) (fun t _ => n - (intOf t).toNat)
  case atStart => exact ⟨0, by omega, rfl, hb0, by have := HB0.out.lt; omega, HB0⟩
  case round =>
    clear hb0 HB0
    obtain ⟨i, hin, rfl, hbel, hgs, HB⟩ := hrel
    by_cases hlt : i < n
    · have hii : (i : Int) < (n : Int) := by omega
      have hil : i < ls.length := by rw [HN.out]; exact hlt
      obtain ⟨b, off, A1, c1, rfl, hbs, hc, hlc, hcm, hrd⟩ := hr.at_ i hil
      have HLEN := Lib.hid (show ls[i].length = p from HROW.out _ (List.getElem_mem _))
      rw [HLEN.out] at hc
      have hcc := (hbel.cell (p := ⟨b, off + i, none⟩) hbs).trans hc
      have HD := Lib.hid (HDOT.out A1 c1 ls[i] wr HLEN.out ((hrd.below hbel (Nat.le_refl _)).more hgs) hbel)
      have HSN := Lib.hid (imgL_succ l p hil)
      have hpl : (imgL (ls.take i) l p).length = i := by rw [imgL_len, List.length_take]; omega
      have HST := Lib.hid (fun q => Blk.byte (HB.out.drewN q) hpl hlt (x := ((dotU ls[i] l p).toNat : Int)) rfl)
      rw [← HSN.out] at HST
      have hfz := HB.out.frozen i
      obtain ⟨o, ho⟩ : ∃ o, wr.cell? ⟨g, i, none⟩ = some o := ⟨_, HB.out.byteAt (i := i) (by rw [padB_len (by rw [hpl]; omega)]; exact hlt)⟩
      generalize dotU ls[i] l p = x at *
      clear hc hrd hlc HLEN HSN hpl hil HB
      go_wp2_with fail
      with_reducible refine (HD.out).mono ?_
      rintro e w4 ⟨rfl, q, rfl⟩
      have HB2 := Lib.hid (HST.out q)
      have hb4 : Below g w ((wr.drewN q).setCell ⟨g, i, none⟩ (.int .u8 (x.toNat : Int))) := (below_drewN hbel q).setCell (Nat.le_refl _) _
      have hgs4 : g ≤ ((wr.drewN q).setCell ⟨g, i, none⟩ (.int .u8 (x.toNat : Int))).heap.size := by simp; omega
      clear HST HD hbel hgs hcc
      go_wp2_with fail
      go_roundw
      case rel => exact ⟨i + 1, by omega, by go_num, hb4, hgs4, HB2⟩
      case measure => simp [intOf]; omega
    · obtain rfl : i = n := by omega
      have HB2 := Lib.hid (show Blk wr g (u8A (imgL ls l p)) 5 by
        have := HB.out
        rwa [List.take_of_length_le (by rw [HN.out]; exact Nat.le_refl _), padB_full (by rw [imgL_len, HN.out])] at this)
      have hni : ¬ (i : Int) < (i : Int) := by omega
      clear HB
      go_wp2_with fail
      go_ret
      exact ⟨g, rfl, by rw [HG.out]; exact Nat.le_refl _, HB2.out, by rw [HG.out]; exact hbel⟩
end Go.Proofs.Ytdaofffkbnkljaa
namespace Go.Proofs.Ytdaofffkbnkljaa
open Go.RowKit

theorem IsMx.rows {ls : List (List UInt8)} (h : IsMx ls) : ∀ r ∈ ls, r.length = (ls.getD 0 []).length := fun r hr => by
  obtain ⟨i, hi, rfl⟩ := List.getElem_of_mem hr
  exact (h.2.2 i hi).2.2
theorem IsMx.side {ls : List (List UInt8)} (h : IsMx ls) : 1 ≤ (ls.getD 0 []).length ∧ (ls.getD 0 []).length ≤ 16 := by
  have h0 : 0 < ls.length := h.1
  have := h.2.2 0 h0
  have e : ls.getD 0 [] = ls[0] := by simp [List.getD_eq_getElem?_getD, h0]
  rw [e] at this ⊢
  exact ⟨this.1, this.2.1⟩
theorem IsMx.first {w : World} {A : Option Addr} {ls : List (List UInt8)} (h : IsMx ls) (hr : RdR w w.heap.size A ls) : ∃ b off A0 c0, A = some ⟨b, off, none⟩ ∧ b < w.heap.size ∧ w.cell? ⟨b, off, none⟩ = some (.slice A0 (ls.getD 0 []).length c0) := by
  have h0 : 0 < ls.length := h.1
  obtain ⟨b, off, A0, c0, hA, hb, hc, _⟩ := hr.at_ 0 h0
  refine ⟨b, off, A0, c0, hA, hb, ?_⟩
  rw [Nat.add_zero] at hc
  rw [hc]
  simp [List.getD_eq_getElem?_getD, h0]
theorem imgL_apply {ls : List (List UInt8)} {l : List UInt8} : imgL ls l l.length = (List.range ls.length).map (mvN l.length (entM ls) fun j => l.getD j 0) := by
  apply List.ext_getElem (by simp [imgL])
  intro i h1 h2
  have hi : i < ls.length := by simpa [imgL] using h1
  simp only [imgL, List.getElem_map, List.getElem_range]
  rw [dotU_sum]
  refine sumN_congr fun j _ => ?_
  simp [entM, List.getD_eq_getElem?_getD, hi]
theorem BV.of_blk {w : World} {g n : Nat} {l : List UInt8} (h : Blk w g (u8A l) 5) (hn : l.length = n) : BV w (.slice (some ⟨g, 0, none⟩) n n) l := by
  subst hn
  exact ⟨_, _, rfl, Nat.le_refl _, .inr ⟨g, 0, rfl, h.lt, fun i hi => by
    have := h.byteAt hi
    rw [Nat.zero_add, this]
    simp [List.getD_eq_getElem?_getD, hi]⟩⟩
theorem BV.nil (w : World) : BV w (.slice none 0 0) [] := ⟨none, 0, rfl, Nat.le_refl _, .inl rfl⟩
theorem MV.nil (w : World) : MV w (.slice none 0 0) [] := ⟨none, 0, rfl, Nat.le_refl _, RdR.nil _ _ _⟩

end Go.Proofs.Ytdaofffkbnkljaa
namespace Go.Proofs.Ytdaofffkbnkljaa
open Go.RowKit

theorem col_ent {ks : List (List UInt8)} {p m k j : Nat} (hk : k < m) (hj : j < p) : ((rowsL (fun i j => entM ks j i) 0 p m)[k]'(by rw [rowsL_len]; exact hk)).getD j 0 = entM ks j k := by
  have e : (rowsL (fun i j => entM ks j i) 0 p m)[k]'(by rw [rowsL_len]; exact hk) = rowL (fun i j => entM ks j i) 0 p k := by simp [rowsL]
  rw [e, rowL_at _ p k hj]
theorem imgL_mm {ls ks : List (List UInt8)} {p m i k : Nat} (hi : i < ls.length) (hk : k < m) : (imgL (rowsL (fun i j => entM ks j i) 0 p m) ls[i] p).getD k 0 = mmN p (entM ls) (entM ks) i k := by
  have hk2 : k < (rowsL (fun i j => entM ks j i) 0 p m).length := by rw [rowsL_len]; exact hk
  unfold imgL
  rw [List.getD_eq_getElem?_getD, List.getElem?_map, List.getElem?_eq_getElem hk2]
  simp only [Option.map_some, Option.getD_some]
  rw [dotU_sum]
  refine sumN_congr fun j hj => ?_
  rw [col_ent hk hj, mulU_comm]
  simp [entM, List.getD_eq_getElem?_getD, hi]

theorem pmul_no1 {w : World} {x y : Value} {ls : List (List UInt8)} (hx : MV w x ls) (h : ¬ IsMx ls) :
    Calls Try.prog 33 #[x, y] w fun e w' => e = .returned (.tuple #[.slice none 0 0, .int .i64 1]) ∧ w = w' := by
  obtain ⟨X, c, rfl, hc, hr⟩ := hx
  have HMAY := Lib.hid (pmay_any X ls.length c ls w rfl hr)
  rw [show decide (IsMx ls) = false from decide_eq_false h] at HMAY
  generalize ls.length = n at *
  clear h hr hc
  go_enter Try.func33, Try.ntmps33
  go_wp2_with fail
  with_reducible refine (HMAY.out).mono ?_
  rintro e w1 ⟨rfl, rfl⟩
  clear HMAY
  go_wp2_with fail
  go_ret2
  exact ⟨rfl, rfl⟩
theorem pmul_no2 {w : World} {x y : Value} {ls ks : List (List UInt8)} (hx : MV w x ls) (hy : MV w y ks) (h1 : IsMx ls) (h : ¬ IsMx ks) :
    Calls Try.prog 33 #[x, y] w fun e w' => e = .returned (.tuple #[.slice none 0 0, .int .i64 1]) ∧ w = w' := by
  obtain ⟨X, c, rfl, hc, hr⟩ := hx
  obtain ⟨Y, d, rfl, hd, hs⟩ := hy
  have HMAY := Lib.hid (pmay_any X ls.length c ls w rfl hr)
  have HMAY2 := Lib.hid (pmay_any Y ks.length d ks w rfl hs)
  rw [show decide (IsMx ls) = true from decide_eq_true h1] at HMAY
  rw [show decide (IsMx ks) = false from decide_eq_false h] at HMAY2
  generalize ls.length = n at *
  generalize ks.length = p at *
  clear h h1 hr hs hc hd
  go_enter Try.func33, Try.ntmps33
  go_wp2_with fail
  with_reducible refine (HMAY.out).mono ?_
  rintro e w1 ⟨rfl, rfl⟩
  clear HMAY
  go_wp2_with fail
  with_reducible refine (HMAY2.out).mono ?_
  rintro e w1 ⟨rfl, rfl⟩
  clear HMAY2
  go_wp2_with fail
  go_ret2
  exact ⟨rfl, rfl⟩
theorem pmul_no3 {w : World} {x y : Value} {ls ks : List (List UInt8)} (hx : MV w x ls) (hy : MV w y ks) (h1 : IsMx ls) (h2 : IsMx ks) (h : (ls.getD 0 []).length ≠ ks.length) :
    Calls Try.prog 33 #[x, y] w fun e w' => e = .returned (.tuple #[.slice none 0 0, .int .i64 1]) ∧ w = w' := by
  obtain ⟨X, c, rfl, hc, hr⟩ := hx
  obtain ⟨Y, d, rfl, hd, hs⟩ := hy
  have HMAY := Lib.hid (pmay_any X ls.length c ls w rfl hr)
  have HMAY2 := Lib.hid (pmay_any Y ks.length d ks w rfl hs)
  rw [show decide (IsMx ls) = true from decide_eq_true h1] at HMAY
  rw [show decide (IsMx ks) = true from decide_eq_true h2] at HMAY2
  obtain ⟨b, off, A0, c0, rfl, hb, hcell⟩ := h1.first hr
  have hn1 : 0 < ls.length := h1.1
  have hne : (((ls.getD 0 []).length : Int) != (ks.length : Int)) = true := by simp only [bne_iff_ne, ne_eq]; omega
  generalize (ls.getD 0 []).length = k at *
  generalize ls.length = n at *
  generalize ks.length = p at *
  clear h h1 h2 hr hs hc hd
  go_enter Try.func33, Try.ntmps33
  go_wp2_with fail
  with_reducible refine (HMAY.out).mono ?_
  rintro e w1 ⟨rfl, rfl⟩
  clear HMAY
  go_wp2_with fail
  with_reducible refine (HMAY2.out).mono ?_
  rintro e w1 ⟨rfl, rfl⟩
  clear HMAY2
  go_wp2_with fail
  go_ret2
  exact ⟨rfl, rfl⟩
set_option maxRecDepth 100000 in
set_option maxHeartbeats 4000000 in
theorem pmul_yes {w : World} {x y : Value} {ls ks : List (List UInt8)} (hx : MV w x ls) (hy : MV w y ks) (h1 : IsMx ls) (h2 : IsMx ks) (h : (ls.getD 0 []).length = ks.length) :
    Calls Try.prog 33 #[x, y] w fun e w' => ∃ v, e = .returned (.tuple #[v, .int .i64 0]) ∧ MV w' v (rowsL (mmN ks.length (entM ls) (entM ks)) 0 (ks.getD 0 []).length ls.length) ∧ Below w.heap.size w w' := by
  obtain ⟨X, c, rfl, hc, hr⟩ := hx
  obtain ⟨Y, d, rfl, hd, hs⟩ := hy
  obtain ⟨i1, hi', hz0', hz1', hz2'⟩ := info_parts infoSlice
  have hn16 : ls.length ≤ 16 := h1.2.1
  have hmk2 := fun W => run_make (P := Try.prog) W 29 22 i1 (.slice none 0 0) Try.underlying29 hi' hz0' .i64 .i64 (ls.length : Int) (ls.length : Int) (by omega) (by omega) (by rw [hz2']; omega) (by omega)
  simp only [hz1', Nat.mul_one] at hmk2
  clear hi' hz0' hz1' hz2'
  have HMAY := Lib.hid (pmay_any X ls.length c ls w rfl hr)
  have HMAY2 := Lib.hid (pmay_any Y ks.length d ks w rfl hs)
  rw [show decide (IsMx ls) = true from decide_eq_true h1] at HMAY
  rw [show decide (IsMx ks) = true from decide_eq_true h2] at HMAY2
  obtain ⟨b, off, A0, c0, rfl, hb, hcell⟩ := h1.first hr
  have hn1 : 0 < ls.length := h1.1
  have hp16 : ks.length ≤ 16 := h2.2.1
  have hne : (((ls.getD 0 []).length : Int) != (ks.length : Int)) = false := by rw [h]; simp
  have HROW := Lib.hid (fun r hr => (h1.rows r hr).trans h)
  have HCOL := Lib.hid (fun W (hb1 : Below w.heap.size w W) => columns_any Y ks.length (ks.getD 0 []).length d ks W rfl h2.rows h2.1 h2.2.1 h2.side.1 h2.side.2 ((hs.below hb1 (Nat.le_refl _)).more hb1.size))
  have hm16 : (ks.getD 0 []).length ≤ 16 := h2.side.2
  have HF := Lib.hid (show mmN ks.length (entM ls) (entM ks) = mmN ks.length (entM ls) (entM ks) from rfl)
  obtain ⟨F, hF⟩ : ∃ F, mmN ks.length (entM ls) (entM ks) = F := ⟨_, rfl⟩
  have HIM := Lib.hid (fun i k (hi : i < ls.length) (hk : k < (ks.getD 0 []).length) => imgL_mm (ls := ls) (ks := ks) (p := ks.length) (m := (ks.getD 0 []).length) hi hk)
  rw [hF] at HIM ⊢
  clear h1 h2 hs hc hd hF HF
  rw [h] at hcell hne
  clear h
  obtain ⟨n, hn⟩ : ∃ n, ls.length = n := ⟨_, rfl⟩
  generalize (ks.getD 0 []).length = m at *
  generalize ks.length = p at *
  have HN := Lib.hid hn
  rw [hn] at hn16 hmk2 HMAY hn1 ⊢
  clear hn
  have hni : (0 : Int) < (n : Int) := by omega
  go_enter Try.func33, Try.ntmps33
  go_wp2_with fail
  with_reducible refine (HMAY.out).mono ?_
  rintro e w1 ⟨rfl, rfl⟩
  clear HMAY
  go_wp2_with fail
  with_reducible refine (HMAY2.out).mono ?_
  rintro e w1 ⟨rfl, rfl⟩
  clear HMAY2
  go_wp2_with fail
  with_reducible refine (fnew_any w).mono ?_
  rintro e w1 ⟨fd, rfl, _, hf, hb1⟩
  have HFD := Lib.hid hf
  have HC2 := Lib.hid (HCOL.out w1 hb1)
  clear HCOL hf
  go_wp2_with fail
  with_reducible refine (HC2.out).mono ?_
  rintro e w2 ⟨v, rfl, hv, hb2⟩
  obtain ⟨Z, cz, rfl, hcz, hrz⟩ := hv
  have HFD2 := Lib.hid (FdAt.below HFD.out hb2 HFD.out.lt)
  have hbel2 := hb1.trans (hb2.mono hb1.size)
  have HRZ := Lib.hid hrz
  rw [rowsL_len] at hcz
  rw [rowsL_len]
  clear HC2 hb1 hb2 hrz HFD hne hcell
  go_wp2_with fail
  have HH0 := Lib.hid (MxH.new w2 n)
  have hs2 := hbel2.size
  have hb0 : Below w.heap.size w (w2.alloc (.cells (madeCells #[Value.slice none 0 0] n) 22)) := hbel2.alloc hs2 _
  have hb3 : Below w2.heap.size w2 (w2.alloc (.cells (madeCells #[Value.slice none 0 0] n) 22)) := (Below.refl _ _).alloc (Nat.le_refl _) _
  have HM0 := Lib.hid (MxW.noRows (β := fun _ => 0) (γ := fun _ => 0) _ (show w.heap.size ≤ w2.heap.size from hs2) HH0.out m F)
  obtain ⟨g, hg⟩ : ∃ g, w2.heap.size = g := ⟨_, rfl⟩
  generalize w2.alloc (.cells (madeCells #[Value.slice none 0 0] n) 22) = w3 at *
  rw [hg] at HM0 HH0 hb3 HRZ hs2 ⊢
  have HFL := Lib.hid (show fd < g by rw [← hg]; exact HFD2.out.lt)
  clear hg hmk2
  go_loopw [37] (fun t wr => ∃ (i : Nat) (β γ : Nat → Nat), i ≤ n ∧ t = .int .i64 i ∧ Below w.heap.size w wr ∧ Below g w2 wr ∧ g ≤ wr.heap.size ∧ Hid (MxW wr w.heap.size g β γ i m F) ∧ Hid (MxH wr g n)) (fun t _ => n - (intOf t).toNat)
  case atStart => exact ⟨0, _, _, by omega, rfl, hb0, hb3, by have := HH0.out.lt; omega, HM0, HH0⟩
  case round =>
    clear hb0 hb3 HM0 HH0
    obtain ⟨i, β, γ, hin, rfl, hbel, hb3, hgs, HM, HH⟩ := hrel
    by_cases hlt : i < n
    · have hii : (i : Int) < (n : Int) := by omega
      have hil : i < ls.length := by rw [HN.out]; exact hlt
      obtain ⟨b', off', A1, c1, hA, hbs, hc, hlc, hcm, hrd⟩ := hr.at_ i hil
      obtain ⟨rfl, rfl⟩ : b = b' ∧ off = off' := by
        injection hA with hA
        injection hA with e1 e2
        exact ⟨e1, e2⟩
      have HLEN := Lib.hid (show ls[i].length = p from HROW.out _ (List.getElem_mem _))
      rw [HLEN.out] at hc
      have hcc := (hbel.cell (p := ⟨b, off + i, none⟩) hbs).trans hc
      have HI := Lib.hid (fun k hk => HIM.out i k hil hk)
      have hle := hbel.size
      have HIMG := Lib.hid (image_any fd Z A1 m p cz c1 _ ls[i] wr (rowsL_len _ _ _ _) (rowsL_rows _ _ _ _) HLEN.out (by omega) (by omega) ((HRZ.out.below hb3 (Nat.le_refl _)).more hgs) ((hrd.below hbel (Nat.le_refl _)).more hle) (FdAt.below HFD2.out hb3 HFL.out))
      have HIL := Lib.hid (show (imgL (rowsL (fun i j => entM ks j i) 0 p m) ls[i] p).length = m by rw [imgL_len, rowsL_len])
      generalize imgL (rowsL (fun i j => entM ks j i) 0 p m) ls[i] p = row at *
      clear hc hA hrd hlc
      go_wp2_with fail
      with_reducible refine (HIMG.out).mono ?_
      rintro e w4 ⟨g4, rfl, hg4, hB4, hb4⟩
      have HM4 := HM.out.below hb4
      have HH4 := HH.out.below hb4
      obtain ⟨o, ho⟩ := HH4.at_ hlt
      have hfz := HH4.free i
      have HM5 := Lib.hid (HM4.row_in HH4 hlt hB4 (Nat.le_trans hle hg4) (Nat.le_refl m) (by unfold maxLen; omega) (fun j hj => by
        obtain ⟨_, _, _, rc, a4, _⟩ := HM.out.rows j hj
        have := a4.lt
        omega) (f' := F) (fun _ _ _ _ => rfl) (fun j hj => by
        rw [u8A_at (by rw [HIL.out]; exact hj), HI.out j hj]))
      have HH5 := Lib.hid (HH4.put i (.slice (some ⟨g4, 0, none⟩) m m))
      have hle4 := hb4.size
      have hbel5 : Below w.heap.size w (w4.setCell ⟨g, i, none⟩ (.slice (some ⟨g4, 0, none⟩) m m)) := (hbel.trans (hb4.mono hle)).setCell HM.out.base _
      have hb5 : Below g w2 (w4.setCell ⟨g, i, none⟩ (.slice (some ⟨g4, 0, none⟩) m m)) := (hb3.trans (hb4.mono hgs)).setCell (Nat.le_refl _) _
      have hgs5 : g ≤ (w4.setCell ⟨g, i, none⟩ (.slice (some ⟨g4, 0, none⟩) m m)).heap.size := by simp; omega
      clear HM HH HM4 HH4 hbel hb3 hgs hcc HIMG HIL HI HLEN hil hB4 hb4 hle hle4
      go_wp2_with fail
      go_roundw
      case rel => exact ⟨i + 1, _, _, by omega, by go_num, hbel5, hb5, hgs5, HM5, HH5⟩
      case measure => simp [intOf]; omega
    · obtain rfl : i = n := by omega
      have HMV := Lib.hid (HM.out.mv (Nat.le_refl i))
      have hni : ¬ (i : Int) < (i : Int) := by omega
      clear HM HH
      go_wp2_with fail
      go_ret2
      exact ⟨_, rfl, HMV.out, hbel⟩
theorem pmul_any {w : World} {x y : Value} {ls ks : List (List UInt8)} (hx : MV w x ls) (hy : MV w y ks) :
    Calls Try.prog 33 #[x, y] w fun e w' => ∃ v, e = .returned (.tuple #[v, .int .i64 (mulE ls ks)]) ∧ MV w' v (mulL ls ks) ∧ Below w.heap.size w w' := by
  have no : ¬ mulOK ls ks → (Calls Try.prog 33 #[x, y] w fun e w' => e = .returned (.tuple #[.slice none 0 0, .int .i64 1]) ∧ w = w') → Calls Try.prog 33 #[x, y] w fun e w' => ∃ v, e = .returned (.tuple #[v, .int .i64 (mulE ls ks)]) ∧ MV w' v (mulL ls ks) ∧ Below w.heap.size w w' := fun h hc => hc.mono fun e w' h2 => by
    obtain ⟨rfl, rfl⟩ := h2
    unfold mulE mulL
    rw [if_neg h, if_neg h]
    exact ⟨_, rfl, MV.nil _, Below.refl _ _⟩
  by_cases h1 : IsMx ls
  · by_cases h2 : IsMx ks
    · by_cases h3 : (ls.getD 0 []).length = ks.length
      · refine (pmul_yes hx hy h1 h2 h3).mono fun e w' h => ?_
        have ok : mulOK ls ks := ⟨h1, h2, h3⟩
        unfold mulE mulL
        rw [if_pos ok, if_pos ok]
        exact h
      · exact no (fun h => h3 h.2.2) (pmul_no3 hx hy h1 h2 h3)
    · exact no (fun h => h2 h.2.1) (pmul_no2 hx hy h1 h2)
  · exact no (fun h => h1 h.1) (pmul_no1 hx h1)
end Go.Proofs.Ytdaofffkbnkljaa
