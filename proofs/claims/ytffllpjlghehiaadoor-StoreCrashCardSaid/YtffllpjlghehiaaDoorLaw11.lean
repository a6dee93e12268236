/- What stage 11's statements use: openings, puts, drops of stores in good order. -/
import Derived.Test.YtffllpjlghehiaaDoorStpR
import Derived.Test.YtffllpjlghehiaaDoorKeep
namespace Go.Proofs.YtffllpjlghehiaaDoor
open Go.RowKit
set_option maxRecDepth 100000

theorem netL_three (l : List UInt8) (h : l.length ≤ 999) : (netL l).length ≤ l.length + 5 := by
  rw [netL_eq]
  have hd : (Lib.decDigits l.length).length ≤ 3 := by
    by_cases h1 : l.length < 10
    · rw [dig_small h1]; simp
    · rw [dig_big h1]
      by_cases h2 : l.length / 10 < 10
      · rw [dig_small h2]; simp
      · rw [dig_big h2, dig_small (by omega)]; simp
  simp only [List.length_append, List.length_cons, List.length_nil]
  omega
theorem fits_small {R : Nat} {name data : List UInt8} (h1 : name.length ≤ 999) (h2 : data.length ≤ 999) (h3 : name.length + data.length + 19 ≤ R * 32) : fitsR R name data = true := by
  unfold fitsR recL netsL
  have a := netL_three name h1
  have b := netL_three (putL 1 4) (by rw [putL_length]; omega)
  have c := netL_three data h2
  rw [putL_length] at b
  refine decide_eq_true ⟨by omega, by omega, ?_⟩
  simp only [List.map_cons, List.map_nil, List.flatten_cons, List.flatten_nil, List.append_nil, List.length_append]
  omega

/-- An opening that ends well. -/
def OpenedPost (w : World) (p g c : Nat) (s : Dsk) (R n m : Nat) (L : List (Rec11 × Nat)) (e : Ending) (w' : World) : Prop :=
  ∃ q b, e = .returned (.tuple #[.pointer (some ⟨q, 0, none⟩), .int .i64 0]) ∧ w.heap.size ≤ q ∧ w.heap.size ≤ b ∧ ST w' q p g b c (openD s R n) R n m ⟨L, false⟩ ∧ Live ⟨L, false⟩ (openD s R n) R n m ∧ Chg (two p g) w w'
theorem open_re {w : World} {p g c : Nat} {s : Dsk} {n R m : Nat} {L : List (Rec11 × Nat)} (h : DP w p g (n * (R + 1)) c s) (hn : 1 ≤ n ∧ n ≤ 1024) (hR : 1 ≤ R ∧ R ≤ 1024) (hr : Reopened s R n m L) (hd : s.dead = false) {i j : Int} (hi : i = (n : Int)) (hj : j = (R : Int)) :
    Calls Tryd.prog 10 #[.pointer (some ⟨p, 0, none⟩), .int .i64 i, .int .i64 j] w (OpenedPost w p g c s R n m L) := by
  subst hi hj
  refine (popen_any h hn hR).mono ?_
  intro e w' ho
  have hL := hr.live'
  unfold OpenPost at ho
  rw [if_neg (by rw [hd, hr.ok]; simp)] at ho
  obtain ⟨q, b, rfl, hq, hb, S, C⟩ := ho
  exact ⟨q, b, rfl, hq, hb, ⟨S, (S.ents rfl).lt, hL.good, fun _ => hL.lives⟩, hL, C⟩
/-- A new disk, and an opening of it. -/
theorem new_re (R n : Nat) : Reopened (newD (n * (R + 1))) R n 0 [] := by
  obtain ⟨a, b, c⟩ := new_open R n
  refine ⟨a, b, ?_, ?_⟩
  · rw [c]; exact ⟨rfl, rfl⟩
  · rw [c]; exact new_good R n
theorem new_same (R n : Nat) : openD (newD (n * (R + 1))) R n = newD (n * (R + 1)) := (new_open R n).2.2
/-- Opened once more while nothing has been written. -/
theorem Live.re {t : Sto} {s : Dsk} {R n m : Nat} (h : Live t s R n m) : Reopened s R n m t.l := by
  obtain ⟨a, b, c⟩ := h.again
  have ht : t = ⟨t.l, false⟩ := by
    have := h.up
    cases t
    simp only at this
    subst this
    rfl
  refine ⟨a, by rw [b]; exact ht, by rw [c]; exact ⟨h.lives, h.none_⟩, ?_⟩
  rw [c, ← ht]
  exact h.good
/-- A store on a disk that another one has left as it was. -/
theorem ST.other {w w' : World} {q p g b c : Nat} {s : Dsk} {R n m : Nat} {t : Sto} (h : ST w q p g b c s R n m t) (hd : DP w' p g (n * (R + 1)) c s) (hc : Chg (two p g) w w') : ST w' q p g b c s R n m t :=
  ⟨h.sp.with_disk hd hc, Nat.lt_of_lt_of_le h.bl hc.size, h.good, h.live⟩
theorem ST.more {w : World} {q p g b c : Nat} {s : Dsk} {R n m : Nat} {t : Sto} (h : ST w q p g b c s R n m t) {k : Nat} (hk : m ≤ k) : ST w q p g b c s R n k t :=
  ⟨h.sp, h.bl, ⟨h.good.geo, h.good.clean, fun i r hr => Nat.le_trans (h.good.nums i r hr) hk⟩, h.live⟩
theorem Live.more {t : Sto} {s : Dsk} {R n m : Nat} (h : Live t s R n m) {k : Nat} (hk : m ≤ k) : Live t s R n k := ⟨⟨h.good.geo, h.good.clean, fun i r hr => Nat.le_trans (h.good.nums i r hr) hk⟩, h.up, h.lives, h.none_⟩
theorem fourS_ge {q p g b B : Nat} (h1 : B ≤ q) (h2 : B ≤ p) (h3 : B ≤ g) (h4 : B ≤ b) : ∀ k, fourS q p g b k → B ≤ k := fun k hk => by
  rcases hk with rfl | rfl | rfl | rfl <;> assumption
/-- A disk is stopped, or started. -/
theorem ST.disk_chg {w w' : World} {q p g b c : Nat} {s s' : Dsk} {R n m : Nat} {t : Sto} (h : ST w q p g b c s R n m t) (hd : DP w' p g (n * (R + 1)) c s') (hc : Chg (two p g) w w') (hB : s'.B = s.B) (hk : s'.keep ≤ 32) (hl : t.died = false → s'.dead = false) : ST w' q p g b c s' R n m t :=
  ⟨by rw [hB]; exact h.sp.with_disk hd hc, Nat.lt_of_lt_of_le h.bl hc.size, h.good.disk hB hk, hl⟩

/-- A put where there is room, and no Stop is ahead. -/
theorem lput {w : World} {q p g b c : Nat} {s : Dsk} {R n m : Nat} {t : Sto} (h : ST w q p g b c s R n m t) (hL : Live t s R n m) (hm : m + 1 < 4294967296) {nb : ByteArray} (name data : List UInt8) (hnb : nb = ⟨name.toArray⟩) (A : Option Addr) (k d : Nat) (hl : data.length = k) (hkd : k ≤ d) (hdm : d ≤ maxLen) (hr : Rd w w.heap.size A data) (htab : Pow10 w.heap.size w) (h1 : name.length ≤ 900) (h2 : k ≤ 900) (hf : name.length + k + 19 ≤ R * 32) (hroom : t.l.length < n) :
    Calls Tryd.prog 15 #[.pointer (some ⟨q, 0, none⟩), .string nb, .slice A k d] w fun e w' => ∃ s' j, freeSlot n t.l = some j ∧ e = .returned (.int .i64 0) ∧ ST w' q p g b c s' R n (m + 1) ⟨putE t.l (t.newR name data, j), false⟩ ∧ Live ⟨putE t.l (t.newR name data, j), false⟩ s' R n (m + 1) ∧ Chg (fourS q p g b) w w' := by
  subst hnb
  have hfit := fits_small (R := R) (name := name) (data := data) (by omega) (by omega) (by omega)
  refine (psput_any h hm name data A k d hl hkd hdm hr htab (by omega) (by omega)).mono ?_
  rintro e w' ⟨rfl, S, C⟩
  rcases put_live hL hm hfit with ⟨h0, _⟩ | ⟨_, s', j, hj, hp, hL'⟩
  · omega
  · rw [hp] at S ⊢
    exact ⟨s', j, hj, rfl, S, hL', C⟩
/-- A put that the disk stops at once. -/
theorem lputstop {w : World} {q p g b c : Nat} {s : Dsk} {R n m : Nat} {t : Sto} (h : ST w q p g b c (s.stop 0 0) R n m t) (hL : Live t s R n m) (hm : m + 1 < 4294967296) {nb : ByteArray} (name data : List UInt8) (hnb : nb = ⟨name.toArray⟩) (A : Option Addr) (k d : Nat) (hl : data.length = k) (hkd : k ≤ d) (hdm : d ≤ maxLen) (hr : Rd w w.heap.size A data) (htab : Pow10 w.heap.size w) (h1 : name.length ≤ 900) (h2 : k ≤ 900) (hf : name.length + k + 19 ≤ R * 32) (hroom : t.l.length < n) :
    Calls Tryd.prog 15 #[.pointer (some ⟨q, 0, none⟩), .string nb, .slice A k d] w fun e w' => ∃ s', e = .returned (.int .i64 8) ∧ ST w' q p g b c s' R n (m + 1) ⟨t.l, true⟩ ∧ Live t s'.start R n m ∧ Chg (fourS q p g b) w w' := by
  subst hnb
  have hfit := fits_small (R := R) (name := name) (data := data) (by omega) (by omega) (by omega)
  refine (psput_any h hm name data A k d hl hkd hdm hr htab (by omega) (by omega)).mono ?_
  rintro e w' ⟨rfl, S, C⟩
  obtain ⟨e1, e2⟩ := hL.stopped hfit (by omega)
  have e3 : (t.put (s.stop 0 0) R n name data).2.1 = ⟨t.l, true⟩ := by rw [e1]
  have e4 : (t.put (s.stop 0 0) R n name data).2.2 = 8 := by rw [e1]
  rw [e3] at S
  exact ⟨_, by rw [e4], S, e2, C⟩
theorem lget {w : World} {q p g b c : Nat} {s : Dsk} {R n m : Nat} {t : Sto} (h : ST w q p g b c s R n m t) {nb : ByteArray} (name : List UInt8) (hnb : nb = ⟨name.toArray⟩) :
    Calls Tryd.prog 19 #[.pointer (some ⟨q, 0, none⟩), .string nb] w (GetPost w (t.get name)) := by subst hnb; exact psget_any h name
theorem get_new {t : Sto} {s : Dsk} {R n m : Nat} (h : Live t s R n m) (name data : List UInt8) (j : Nat) : Sto.get ⟨putE t.l (t.newR name data, j), false⟩ name = some data := by
  unfold Sto.get
  rw [if_neg (by simp)]
  exact get_put_same h.rising name data j
end Go.Proofs.YtffllpjlghehiaaDoor
