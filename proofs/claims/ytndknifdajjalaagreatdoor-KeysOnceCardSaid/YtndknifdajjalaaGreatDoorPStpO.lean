/- The program's store: Put. -/
import Derived.Test.YtndknifdajjalaaGreatDoorPStpL
namespace Go.Proofs.YtndknifdajjalaaGreatDoor
open Go.RowKit
set_option maxRecDepth 100000

theorem strClone_any (s : ByteArray) (w : World) (hlim : s.size ≤ 281474976710656) : Calls Tryz.prog 30 #[.string s] w fun e w' => e = .returned (.string s) ∧ Below w.heap.size w w' := by
  have HC := Lib.hid (Tryz.stringslite_Clone s w hlim)
  go_enter Tryz.func30, Tryz.ntmps30
  go_wp2_with fail
  with_reducible refine HC.out.mono ?_
  rintro e w' ⟨rfl, hb⟩
  go_wp2_with fail
  go_ret
  exact ⟨rfl, hb⟩
/-- What a put leaves that has written its record, or died there. -/
def WrotePost (w : World) (q p g b c R n : Nat) (X : Dsk × Bool) (E : Nat → Ent) (K : Int) (D : Dsk) (E2 : Nat → Ent) (e : Ending) (w' : World) : Prop :=
  (X.2 = false → e = .returned (.int .i64 8) ∧ SP w' q p g b c X.1 R n E true) ∧ (X.2 = true → e = .returned (.int .i64 K) ∧ SP w' q p g b c D R n E2 (decide (K ≠ 0))) ∧ Chg (fourS q p g b) w w'
theorem put_dead {w : World} {q p g b c : Nat} {s : Dsk} {R n : Nat} {E : Nat → Ent} (h : SP w q p g b c s R n E true) (name : ByteArray) (A : Option Addr) (m d : Nat) :
    Calls Tryz.prog 32 #[.pointer (some ⟨q, 0, none⟩), .string name, .slice A m d] w fun e w' => e = .returned (.int .i64 8) ∧ w = w' := by
  obtain ⟨c0, c1, c2, c3⟩ := h.cells
  clear h
  go_enter Tryz.func32, Tryz.ntmps32
  go_wp2
  go_ret
  exact ⟨rfl, rfl⟩
theorem put_nofit {w : World} {q p g b c : Nat} {s : Dsk} {R n : Nat} {E : Nat → Ent} (h : SP w q p g b c s R n E false) (name : ByteArray) (A : Option Addr) (m d : Nat)
    (hf : Calls Tryz.prog 60 #[.pointer (some ⟨q, 0, none⟩), .string name, .slice A m d] w fun e w' => e = .returned (.bool false) ∧ Below w.heap.size w w') :
    Calls Tryz.prog 32 #[.pointer (some ⟨q, 0, none⟩), .string name, .slice A m d] w fun e w' => e = .returned (.int .i64 1) ∧ Below w.heap.size w w' := by
  obtain ⟨c0, c1, c2, c3⟩ := h.cells
  have HF := Lib.hid hf
  clear h hf
  go_enter Tryz.func32, Tryz.ntmps32
  go_wp2_with fail
  with_reducible refine HF.out.mono ?_
  rintro e w1 ⟨rfl, hb1⟩
  go_wp2_with fail
  go_ret
  exact ⟨rfl, hb1⟩
set_option maxHeartbeats 1000000 in
theorem put_full {w : World} {q p g b c : Nat} {s : Dsk} {R n : Nat} {E : Nat → Ent} (h : SP w q p g b c s R n E false) (name : ByteArray) (A : Option Addr) (m d : Nat)
    (hf : Calls Tryz.prog 60 #[.pointer (some ⟨q, 0, none⟩), .string name, .slice A m d] w fun e w' => e = .returned (.bool true) ∧ Below w.heap.size w w') (hj : firstE n (fun i => (E i).isNone) = none) :
    Calls Tryz.prog 32 #[.pointer (some ⟨q, 0, none⟩), .string name, .slice A m d] w fun e w' => e = .returned (.int .i64 3) ∧ Below w.heap.size w w' := by
  have H := Lib.hid h
  have HF := Lib.hid hf
  have HI := Lib.hid (fun (W : World) (hb : Below w.heap.size w W) => (show Calls Tryz.prog 61 #[.slice (some ⟨b, 0, none⟩) n n, .func (.func 62) #[] #[]] W fun e w' => e = .returned (.int .i64 (-1)) ∧ Below W.heap.size W w' from by
    have := pindex_live ((h.below hb).ents rfl) h.size.2.1 62 #[] (fun x => x.isNone) (enters_of Tryz.func62 (by kernel_rfl) rfl) (tells_free W)
    rw [hj] at this
    exact this))
  obtain ⟨c0, c1, c2, c3⟩ := h.cells
  clear h hf hj
  go_enter Tryz.func32, Tryz.ntmps32
  go_wp2_with fail
  with_reducible refine HF.out.mono ?_
  rintro e w1 ⟨rfl, hb1⟩
  have d2 : w1.cell? ⟨q, 2, none⟩ = some (.slice (some ⟨b, 0, none⟩) n n) := (H.out.below hb1).cells.2.2.1
  go_wp2_with fail
  with_reducible refine (HI.out _ hb1).mono ?_
  rintro e w2 ⟨rfl, hb2⟩
  have hbb2 := Below.then hb1 hb2
  clear hb1 hb2 d2 HI HF
  go_wp2_with fail
  go_ret
  exact ⟨rfl, hbb2⟩
set_option maxHeartbeats 4000000 in
theorem put_new {w : World} {q p g b c : Nat} {s : Dsk} {R n : Nat} {E : Nat → Ent} (h : SP w q p g b c s R n E false) (hbl : b < w.heap.size) (name data : List UInt8) (A : Option Addr) (m d : Nat) (hl : data.length = m) (hmd : m ≤ d) (hdm : d ≤ maxLen) (hr : Rd w w.heap.size A data) (htab : Pow10 w.heap.size w) (h1 : name.length ≤ 1000) (h2 : m ≤ 1000)
    (hf : Calls Tryz.prog 60 #[.pointer (some ⟨q, 0, none⟩), .string ⟨name.toArray⟩, .slice A m d] w fun e w' => e = .returned (.bool true) ∧ Below w.heap.size w w')
    {j : Nat} (hj : firstE n (fun i => (E i).isNone) = some j) (hi : firstE n (fun i => hasName name (E i)) = none)
    {X : Dsk × Bool} (hX : s.all (n * (R + 1)) (textW R j (recL ⟨name, 1, data⟩) (((recL ⟨name, 1, data⟩).length + 31) / 32) ++ [(j * (R + 1), [1])]) = X) (hfit : (recL ⟨name, 1, data⟩).length ≤ R * 32) :
    Calls Tryz.prog 32 #[.pointer (some ⟨q, 0, none⟩), .string ⟨name.toArray⟩, .slice A m d] w (WrotePost w q p g b c R n X E 0 X.1 (updE E j (some (name, 1)))) := by
  have H := Lib.hid h
  have HF := Lib.hid hf
  have HI := Lib.hid (fun (W : World) (hb : Below w.heap.size w W) => (show Calls Tryz.prog 61 #[.slice (some ⟨b, 0, none⟩) n n, .func (.func 62) #[] #[]] W fun e w' => e = .returned (.int .i64 (j : Int)) ∧ Below W.heap.size W w' from by
    have := pindex_live ((h.below hb).ents rfl) h.size.2.1 62 #[] (fun x => x.isNone) (enters_of Tryz.func62 (by kernel_rfl) rfl) (tells_free W)
    rw [hj] at this
    exact this))
  obtain ⟨c0, c1, c2, c3⟩ := h.cells
  have hjn := (firstE_lt hj).1
  have HFI := Lib.hid (fun (W : World) (hb : Below w.heap.size w W) => (show Calls Tryz.prog 63 #[.pointer (some ⟨q, 0, none⟩), .string ⟨name.toArray⟩] W fun e w' => e = .returned (.int .i64 (-1)) ∧ Below W.heap.size W w' from by
    have := psfind_live (h.below hb) name
    rw [hi] at this
    exact this))
  obtain ⟨L, hL⟩ : ∃ L, (recL ⟨name, 1, data⟩).length = L := ⟨_, rfl⟩
  have hLp : 0 < L := by rw [← hL]; exact netsL_ne _ (by simp)
  have HP := Lib.hid (fun (W : World) (hb : Below w.heap.size w W) => (show Calls Tryz.prog 65 #[.string ⟨name.toArray⟩, .int .i64 1, .slice A m d] W fun e w' => ∃ g' c', e = .returned (.slice (some ⟨g', 0, none⟩) L c') ∧ W.heap.size ≤ g' ∧ L ≤ c' ∧ c' ≤ maxLen ∧ Rd w' w'.heap.size (some ⟨g', 0, none⟩) (recL ⟨name, 1, data⟩) ∧ Below W.heap.size W w' from by
    have := pspack_any name data 1 A m d W hl hmd hdm (hr.on hb) (tab_on htab hb hb.size) h1 h2 (by omega)
    rw [hL] at this
    exact this))
  have hck : ckN L ≤ R := by unfold ckN; omega
  have HFL := Lib.hid (fun (W : World) (hb : Below w.heap.size w W) (g' c' : Nat) (hg' : w.heap.size ≤ g') (hLc : L ≤ c') (hrd : Rd W W.heap.size (some ⟨g', 0, none⟩) (recL ⟨name, 1, data⟩)) => (show Calls Tryz.prog 64 #[.pointer (some ⟨q, 0, none⟩), .int .i64 (j : Int), .slice (some ⟨g', 0, none⟩) L c'] W fun e w' => e = .returned (.int .i64 (if X.2 = true then 0 else 8)) ∧ SP w' q p g b c X.1 R n E (!X.2) ∧ Chg (fourS q p g b) W w' from by
    have hp := h.disk.head.lt
    have hgl := h.disk.body.lt
    have hql := h.head.lt
    have := psfill_any (h.below hb) (Nat.lt_of_lt_of_le hbl hb.size) hjn hL hLp hck hLc hrd (fun e => by rcases e with e | e | e <;> omega)
    have e1 : ckN L = ((recL ⟨name, 1, data⟩).length + 31) / 32 := by rw [hL]; rfl
    rw [e1, hX] at this
    exact this))
  have HCL := Lib.hid (fun (W : World) => strClone_any ⟨name.toArray⟩ W (by show name.toArray.size ≤ _; simp; omega))
  obtain ⟨X1, X2⟩ := X
  have hbl' := hbl
  clear h hf hj hi hX hL hfit htab hr hl
  go_enter Tryz.func32, Tryz.ntmps32
  go_wp2_with fail
  with_reducible refine HF.out.mono ?_
  rintro e w1 ⟨rfl, hb1⟩
  have d2 : w1.cell? ⟨q, 2, none⟩ = some (.slice (some ⟨b, 0, none⟩) n n) := (H.out.below hb1).cells.2.2.1
  go_wp2_with fail
  with_reducible refine (HI.out _ hb1).mono ?_
  rintro e w2 ⟨rfl, hb2⟩
  have hbb2 := Below.then hb1 hb2
  clear hb1 hb2 d2 HI HF
  have hnj : ¬ (j : Int) < 0 := by omega
  go_wp2_with fail
  with_reducible refine (HFI.out _ hbb2).mono ?_
  rintro e w3 ⟨rfl, hb3⟩
  have hbb3 := Below.then hbb2 hb3
  have d2 : w3.cell? ⟨q, 2, none⟩ = some (.slice (some ⟨b, 0, none⟩) n n) := (H.out.below hbb3).cells.2.2.1
  clear hb3 hbb2 HFI
  go_wp2_with fail
  with_reducible refine (HP.out _ hbb3).mono ?_
  rintro e w4 ⟨g', c', rfl, hg', hc', _, hrd, hb4⟩
  have hbb4 := Below.then hbb3 hb4
  have HFF := Lib.hid (HFL.out _ hbb4 g' c' (Nat.le_trans hbb3.size hg') hc' hrd)
  have HB4 := Lib.hid hbb4
  clear hb4 hrd hg' hc' HFL hbb3 d2 HP hbb4
  cases X2 with
  | false =>
    rw [if_neg (by simp)] at HFF
    go_wp2_with fail
    with_reducible refine HFF.out.mono ?_
    rintro e w5 ⟨rfl, S5, C5⟩
    have HS5 := Lib.hid (show SP w5 q p g b c X1 R n E true from S5)
    have HC5 := Lib.hid ((Chg.of_below HB4.out).trans C5)
    clear S5 C5 HFF
    go_wp2_with fail
    go_ret
    exact ⟨fun _ => ⟨rfl, HS5.out⟩, (fun e => by cases e), HC5.out⟩
  | true =>
    rw [if_pos rfl] at HFF
    go_wp2_with fail
    with_reducible refine HFF.out.mono ?_
    rintro e w5 ⟨rfl, S5, C5⟩
    have HS5 := Lib.hid (show SP w5 q p g b c X1 R n E false from S5)
    have HC5 := Lib.hid ((Chg.of_below HB4.out).trans C5)
    clear S5 C5 HFF
    have hji : (j : Int) < (n : Int) := by omega
    have hqb : q ≠ b := fun e => HS5.out.bq e.symm
    have HKEEP := Lib.hid (fun (W' : World) (hc : Chg (fun k => k = b) w5 W') => (show W'.cell? ⟨q, 2, none⟩ = some (.slice (some ⟨b, 0, none⟩) n n) ∧ Chg (fun k => k = b) w5 W' from ⟨(hc.blk HS5.out.head hqb).cell 2, hc⟩))
    have hcd : Chg (fun k => k = b) w5 w5.drew := (Chg.refl _ _).drew
    have hbd : Below w5.heap.size w5 w5.drew := (Below.refl _ _).drew
    go_wp2_with fail
    go_region_held3 (fun W' => W'.cell? ⟨q, 2, none⟩ = some (.slice (some ⟨b, 0, none⟩) n n) ∧ Chg (fun k => k = b) w5 W')
      ((first | exact HKEEP.out _ ‹_› | exact HKEEP.out _ (Chg.drew ‹_›) | exact HKEEP.out _ (Chg.drewN ‹_› _) | exact HKEEP.out _ (((hch6.setCell (p := ⟨b, j * 3, none⟩) (fun _ => rfl) _).setCell (p := ⟨b, j * 3 + 1, none⟩) (fun _ => rfl) _).setCell (p := ⟨b, j * 3 + 2, none⟩) (fun _ => rfl) _)))
      ((go_at_call 30; refine (HCL.out _).mono ?_; rintro e w6 ⟨rfl, hb6⟩; have hbel6 := hbd.trans (hb6.mono hbd.size); have hch6 : Chg (fun k => k = b) w5 w6 := .of_below hbel6; have HS6 := Lib.hid (HS5.out.below hbel6); obtain ⟨v0, e60⟩ : ∃ v, w6.cell? ⟨b, j * 3, none⟩ = some v := ⟨_, HS6.out.cell0 hjn⟩; obtain ⟨v1, e61⟩ : ∃ v, w6.cell? ⟨b, j * 3 + 1, none⟩ = some v := ⟨_, HS6.out.cellE hjn (j := 1) (by omega)⟩; obtain ⟨v2, e62⟩ : ∃ v, w6.cell? ⟨b, j * 3 + 2, none⟩ = some v := ⟨_, HS6.out.cellE hjn (j := 2) (by omega)⟩; have f60 := (HS6.out.ents rfl).frozen (j * 3); have f61 := (HS6.out.ents rfl).frozen (j * 3 + 1); have f62 := (HS6.out.ents rfl).frozen (j * 3 + 2)))
    all_goals
      have k7 := HS6.out.putE (some (name, 1)) hjn (v0 := .bool true) (v1 := .string ⟨name.toArray⟩) (v2 := .int .i64 ((1 : Nat) : Int)) rfl rfl
      have HS7 := Lib.hid k7.1
      have HC7 := Lib.hid (HC5.out.trans ((hch6.trans k7.2).more fun k e => .inr (.inr (.inr e))))
      clear k7 e60 e61 e62 f60 f61 f62 HKEEP hcd hbd hb6 hbel6 hch6 HS6 HS5
      go_wp2_with fail
      go_ret
      exact ⟨(fun e => by cases e), fun _ => ⟨rfl, HS7.out⟩, HC7.out⟩
set_option maxHeartbeats 4000000 in
theorem put_old {w : World} {q p g b c : Nat} {s : Dsk} {R n : Nat} {E : Nat → Ent} (h : SP w q p g b c s R n E false) (hbl : b < w.heap.size) (name data : List UInt8) (A : Option Addr) (m d : Nat) (hl : data.length = m) (hmd : m ≤ d) (hdm : d ≤ maxLen) (hr : Rd w w.heap.size A data) (htab : Pow10 w.heap.size w) (h1 : name.length ≤ 1000) (h2 : m ≤ 1000)
    (hf : Calls Tryz.prog 60 #[.pointer (some ⟨q, 0, none⟩), .string ⟨name.toArray⟩, .slice A m d] w fun e w' => e = .returned (.bool true) ∧ Below w.heap.size w w')
    {j : Nat} (hj : firstE n (fun i => (E i).isNone) = some j) {i k : Nat} {x : List UInt8} (hi : firstE n (fun i => hasName name (E i)) = some i) (hx : E i = some (x, k)) (hk : k ≤ 9000000000000000000)
    {X : Dsk × Bool} (hX : s.all (n * (R + 1)) (textW R j (recL ⟨name, (k + 1), data⟩) (((recL ⟨name, (k + 1), data⟩).length + 31) / 32) ++ [(j * (R + 1), [1])]) = X) (hfit : (recL ⟨name, (k + 1), data⟩).length ≤ R * 32) :
    Calls Tryz.prog 32 #[.pointer (some ⟨q, 0, none⟩), .string ⟨name.toArray⟩, .slice A m d] w (WrotePost w q p g b c R n X E (X.1.code (n * (R + 1)) ((i * (R + 1) : Nat) : Int) 0) (X.1.next (n * (R + 1)) ((i * (R + 1) : Nat) : Int) []) (updE (updE E j (some (name, k + 1))) i none)) := by
  have H := Lib.hid h
  have HF := Lib.hid hf
  have HI := Lib.hid (fun (W : World) (hb : Below w.heap.size w W) => (show Calls Tryz.prog 61 #[.slice (some ⟨b, 0, none⟩) n n, .func (.func 62) #[] #[]] W fun e w' => e = .returned (.int .i64 (j : Int)) ∧ Below W.heap.size W w' from by
    have := pindex_live ((h.below hb).ents rfl) h.size.2.1 62 #[] (fun x => x.isNone) (enters_of Tryz.func62 (by kernel_rfl) rfl) (tells_free W)
    rw [hj] at this
    exact this))
  obtain ⟨c0, c1, c2, c3⟩ := h.cells
  have hjn := (firstE_lt hj).1
  have hin := (firstE_lt hi).1
  have HFI := Lib.hid (fun (W : World) (hb : Below w.heap.size w W) => (show Calls Tryz.prog 63 #[.pointer (some ⟨q, 0, none⟩), .string ⟨name.toArray⟩] W fun e w' => e = .returned (.int .i64 (i : Int)) ∧ Below W.heap.size W w' from by
    have := psfind_live (h.below hb) name
    rw [hi] at this
    exact this))
  obtain ⟨L, hL⟩ : ∃ L, (recL ⟨name, (k + 1), data⟩).length = L := ⟨_, rfl⟩
  have hLp : 0 < L := by rw [← hL]; exact netsL_ne _ (by simp)
  have HP := Lib.hid (fun (W : World) (hb : Below w.heap.size w W) => (show Calls Tryz.prog 65 #[.string ⟨name.toArray⟩, .int .i64 ((k : Int) + 1), .slice A m d] W fun e w' => ∃ g' c', e = .returned (.slice (some ⟨g', 0, none⟩) L c') ∧ W.heap.size ≤ g' ∧ L ≤ c' ∧ c' ≤ maxLen ∧ Rd w' w'.heap.size (some ⟨g', 0, none⟩) (recL ⟨name, (k + 1), data⟩) ∧ Below W.heap.size W w' from by
    have := pspack_any name data (k + 1) A m d W hl hmd hdm (hr.on hb) (tab_on htab hb hb.size) h1 h2 (by omega)
    rw [hL] at this
    exact this))
  have hck : ckN L ≤ R := by unfold ckN; omega
  have HFL := Lib.hid (fun (W : World) (hb : Below w.heap.size w W) (g' c' : Nat) (hg' : w.heap.size ≤ g') (hLc : L ≤ c') (hrd : Rd W W.heap.size (some ⟨g', 0, none⟩) (recL ⟨name, (k + 1), data⟩)) => (show Calls Tryz.prog 64 #[.pointer (some ⟨q, 0, none⟩), .int .i64 (j : Int), .slice (some ⟨g', 0, none⟩) L c'] W fun e w' => e = .returned (.int .i64 (if X.2 = true then 0 else 8)) ∧ SP w' q p g b c X.1 R n E (!X.2) ∧ Chg (fourS q p g b) W w' from by
    have hp := h.disk.head.lt
    have hgl := h.disk.body.lt
    have hql := h.head.lt
    have := psfill_any (h.below hb) (Nat.lt_of_lt_of_le hbl hb.size) hjn hL hLp hck hLc hrd (fun e => by rcases e with e | e | e <;> omega)
    have e1 : ckN L = ((recL ⟨name, (k + 1), data⟩).length + 31) / 32 := by rw [hL]; rfl
    rw [e1, hX] at this
    exact this))
  have HCL := Lib.hid (fun (W : World) => strClone_any ⟨name.toArray⟩ W (by show name.toArray.size ≤ _; simp; omega))
  obtain ⟨X1, X2⟩ := X
  have hbl' := hbl
  clear h hf hj hi hX hL hfit htab hr hl
  go_enter Tryz.func32, Tryz.ntmps32
  go_wp2_with fail
  with_reducible refine HF.out.mono ?_
  rintro e w1 ⟨rfl, hb1⟩
  have d2 : w1.cell? ⟨q, 2, none⟩ = some (.slice (some ⟨b, 0, none⟩) n n) := (H.out.below hb1).cells.2.2.1
  go_wp2_with fail
  with_reducible refine (HI.out _ hb1).mono ?_
  rintro e w2 ⟨rfl, hb2⟩
  have hbb2 := Below.then hb1 hb2
  clear hb1 hb2 d2 HI HF
  have hnj : ¬ (j : Int) < 0 := by omega
  go_wp2_with fail
  with_reducible refine (HFI.out _ hbb2).mono ?_
  rintro e w3 ⟨rfl, hb3⟩
  have hbb3 := Below.then hbb2 hb3
  have d2 : w3.cell? ⟨q, 2, none⟩ = some (.slice (some ⟨b, 0, none⟩) n n) := (H.out.below hbb3).cells.2.2.1
  have e2 := (H.out.below hbb3).cellE hin (j := 2) (by omega)
  rw [hx] at e2
  have e2' : w3.cell? ⟨b, i * 3 + 2, none⟩ = some (.int .i64 (k : Int)) := e2
  have hni : ¬ (i : Int) < 0 := by omega
  have hii : (i : Int) < (n : Int) := by omega
  have hki : (k : Int) ≤ 9000000000000000000 := by omega
  clear e2
  clear hb3 hbb2 HFI
  go_wp2_with fail
  with_reducible refine (HP.out _ hbb3).mono ?_
  rintro e w4 ⟨g', c', rfl, hg', hc', _, hrd, hb4⟩
  have hbb4 := Below.then hbb3 hb4
  have HFF := Lib.hid (HFL.out _ hbb4 g' c' (Nat.le_trans hbb3.size hg') hc' hrd)
  have HB4 := Lib.hid hbb4
  clear hb4 hrd hg' hc' HFL hbb3 d2 e2' HP hbb4
  cases X2 with
  | false =>
    rw [if_neg (by simp)] at HFF
    go_wp2_with fail
    with_reducible refine HFF.out.mono ?_
    rintro e w5 ⟨rfl, S5, C5⟩
    have HS5 := Lib.hid (show SP w5 q p g b c X1 R n E true from S5)
    have HC5 := Lib.hid ((Chg.of_below HB4.out).trans C5)
    clear S5 C5 HFF
    go_wp2_with fail
    go_ret
    exact ⟨fun _ => ⟨rfl, HS5.out⟩, (fun e => by cases e), HC5.out⟩
  | true =>
    rw [if_pos rfl] at HFF
    go_wp2_with fail
    with_reducible refine HFF.out.mono ?_
    rintro e w5 ⟨rfl, S5, C5⟩
    have HS5 := Lib.hid (show SP w5 q p g b c X1 R n E false from S5)
    have HC5 := Lib.hid ((Chg.of_below HB4.out).trans C5)
    clear S5 C5 HFF
    have hji : (j : Int) < (n : Int) := by omega
    have hqb : q ≠ b := fun e => HS5.out.bq e.symm
    have HKEEP := Lib.hid (fun (W' : World) (hc : Chg (fun k => k = b) w5 W') => (show W'.cell? ⟨q, 2, none⟩ = some (.slice (some ⟨b, 0, none⟩) n n) ∧ Chg (fun k => k = b) w5 W' from ⟨(hc.blk HS5.out.head hqb).cell 2, hc⟩))
    have hcd : Chg (fun k => k = b) w5 w5.drew := (Chg.refl _ _).drew
    have hbd : Below w5.heap.size w5 w5.drew := (Below.refl _ _).drew
    go_wp2_with fail
    go_region_held3 (fun W' => W'.cell? ⟨q, 2, none⟩ = some (.slice (some ⟨b, 0, none⟩) n n) ∧ Chg (fun k => k = b) w5 W')
      ((first | exact HKEEP.out _ ‹_› | exact HKEEP.out _ (Chg.drew ‹_›) | exact HKEEP.out _ (Chg.drewN ‹_› _) | exact HKEEP.out _ (((hch6.setCell (p := ⟨b, j * 3, none⟩) (fun _ => rfl) _).setCell (p := ⟨b, j * 3 + 1, none⟩) (fun _ => rfl) _).setCell (p := ⟨b, j * 3 + 2, none⟩) (fun _ => rfl) _)))
      ((go_at_call 30; refine (HCL.out _).mono ?_; rintro e w6 ⟨rfl, hb6⟩; have hbel6 := hbd.trans (hb6.mono hbd.size); have hch6 : Chg (fun k => k = b) w5 w6 := .of_below hbel6; have HS6 := Lib.hid (HS5.out.below hbel6); obtain ⟨v0, e60⟩ : ∃ v, w6.cell? ⟨b, j * 3, none⟩ = some v := ⟨_, HS6.out.cell0 hjn⟩; obtain ⟨v1, e61⟩ : ∃ v, w6.cell? ⟨b, j * 3 + 1, none⟩ = some v := ⟨_, HS6.out.cellE hjn (j := 1) (by omega)⟩; obtain ⟨v2, e62⟩ : ∃ v, w6.cell? ⟨b, j * 3 + 2, none⟩ = some v := ⟨_, HS6.out.cellE hjn (j := 2) (by omega)⟩; have f60 := (HS6.out.ents rfl).frozen (j * 3); have f61 := (HS6.out.ents rfl).frozen (j * 3 + 1); have f62 := (HS6.out.ents rfl).frozen (j * 3 + 2)))
    all_goals
      have k7 := HS6.out.putE (some (name, k + 1)) hjn (v0 := .bool true) (v1 := .string ⟨name.toArray⟩) (v2 := .int .i64 ((k : Int) + 1)) rfl rfl
      have HS7 := Lib.hid k7.1
      have HC7 := Lib.hid (HC5.out.trans ((hch6.trans k7.2).more fun k e => .inr (.inr (.inr e))))
      clear k7 e60 e61 e62 f60 f61 f62 HKEEP hcd hbd hb6 hbel6 hch6 HS6 HS5
      rename_i hHeld
      clear hHeld
      generalize (((w6.setCell ⟨b, j * 3, none⟩ (.bool true)).setCell ⟨b, j * 3 + 1, none⟩ (.string ⟨name.toArray⟩)).setCell ⟨b, j * 3 + 2, none⟩ (.int .i64 ((k : Int) + 1))) = w7 at *
      have HFE := Lib.hid (psfree_any HS7.out hin)
      generalize X1.code (n * (R + 1)) ((i * (R + 1) : Nat) : Int) 0 = K at *
      generalize X1.next (n * (R + 1)) ((i * (R + 1) : Nat) : Int) [] = s2 at *
      go_wp2_with fail
      with_reducible refine HFE.out.mono ?_
      rintro e w8 ⟨rfl, S8, C8⟩
      have HS8 := Lib.hid S8
      have HC8 := Lib.hid (HC7.out.trans C8)
      clear S8 C8 HFE HS7 HC7
      go_wp2_with fail
      go_ret
      exact ⟨(fun e => by cases e), fun _ => ⟨rfl, HS8.out⟩, HC8.out⟩
end Go.Proofs.YtndknifdajjalaaGreatDoor
