/- The program's keystore: what it takes in, and how many leaves are left. -/
import Derived.Test.YtndknifdajjalaaGreatDoorPStpR
import Derived.Test.YtndknifdajjalaaGreatDoorPKeep
import Derived.Test.YtndknifdajjalaaGreatDoorPMakeA
namespace Go.Proofs.YtndknifdajjalaaGreatDoor
open Go.RowKit
set_option maxRecDepth 100000

theorem netL_three (l : List UInt8) (h : l.length ≤ 999) : (netL l).length ≤ l.length + 5 := by
  rw [netL_eq]
  have hd : (Lib.decDigits l.length).length ≤ 3 := by
    by_cases h1 : l.length < 10
    · rw [dig_small h1]; simp
    · rw [dig_big h1]
      by_cases h2 : l.length / 10 < 10
      · rw [dig_small h2]; simp
      · rw [dig_big h2, dig_small (by omega)]; simp
  simp only [List.length_append, List.length_cons, List.length_nil]
  omega
theorem fits_small {R : Nat} {name data : List UInt8} (h1 : name.length ≤ 999) (h2 : data.length ≤ 999) (h3 : name.length + data.length + 19 ≤ R * 32) : fitsR R name data = true := by
  unfold fitsR recL netsL
  have a := netL_three name h1
  have b := netL_three (putL 1 4) (by rw [putL_length]; omega)
  have c := netL_three data h2
  rw [putL_length] at b
  refine decide_eq_true ⟨by omega, by omega, ?_⟩
  simp only [List.map_cons, List.map_nil, List.flatten_cons, List.flatten_nil, List.append_nil, List.length_append]
  omega

/-- An opening that ends well. -/
def OpenedPost (w : World) (p g c : Nat) (s : Dsk) (R n m : Nat) (L : List (Rec11 × Nat)) (e : Ending) (w' : World) : Prop :=
  ∃ q b, e = .returned (.tuple #[.pointer (some ⟨q, 0, none⟩), .int .i64 0]) ∧ w.heap.size ≤ q ∧ w.heap.size ≤ b ∧ ST w' q p g b c (openD s R n) R n m ⟨L, false⟩ ∧ Live ⟨L, false⟩ (openD s R n) R n m ∧ Chg (two p g) w w'
theorem open_re {w : World} {p g c : Nat} {s : Dsk} {n R m : Nat} {L : List (Rec11 × Nat)} (h : DP w p g (n * (R + 1)) c s) (hn : 1 ≤ n ∧ n ≤ 1024) (hR : 1 ≤ R ∧ R ≤ 1024) (hr : Reopened s R n m L) (hd : s.dead = false) {i j : Int} (hi : i = (n : Int)) (hj : j = (R : Int)) :
    Calls Tryz.prog 7 #[.pointer (some ⟨p, 0, none⟩), .int .i64 i, .int .i64 j] w (OpenedPost w p g c s R n m L) := by
  subst hi hj
  refine (popen_any h hn hR).mono ?_
  intro e w' ho
  have hL := hr.live'
  unfold OpenPost at ho
  rw [if_neg (by rw [hd, hr.ok]; simp)] at ho
  obtain ⟨q, b, rfl, hq, hb, S, C⟩ := ho
  exact ⟨q, b, rfl, hq, hb, ⟨S, (S.ents rfl).lt, hL.good, fun _ => hL.lives⟩, hL, C⟩
/-- A new disk, and an opening of it. -/
theorem new_re (R n : Nat) : Reopened (newD (n * (R + 1))) R n 0 [] := by
  obtain ⟨a, b, c⟩ := new_open R n
  refine ⟨a, b, ?_, ?_⟩
  · rw [c]; exact ⟨rfl, rfl⟩
  · rw [c]; exact new_good R n
theorem new_same (R n : Nat) : openD (newD (n * (R + 1))) R n = newD (n * (R + 1)) := (new_open R n).2.2
/-- Opened once more while nothing has been written. -/
theorem Live.re {t : Sto} {s : Dsk} {R n m : Nat} (h : Live t s R n m) : Reopened s R n m t.l := by
  obtain ⟨a, b, c⟩ := h.again
  have ht : t = ⟨t.l, false⟩ := by
    have := h.up
    cases t
    simp only at this
    subst this
    rfl
  refine ⟨a, by rw [b]; exact ht, by rw [c]; exact ⟨h.lives, h.none_⟩, ?_⟩
  rw [c, ← ht]
  exact h.good
/-- A store on a disk that another one has left as it was. -/
theorem ST.other {w w' : World} {q p g b c : Nat} {s : Dsk} {R n m : Nat} {t : Sto} (h : ST w q p g b c s R n m t) (hd : DP w' p g (n * (R + 1)) c s) (hc : Chg (two p g) w w') : ST w' q p g b c s R n m t :=
  ⟨h.sp.with_disk hd hc, Nat.lt_of_lt_of_le h.bl hc.size, h.good, h.live⟩
theorem ST.more {w : World} {q p g b c : Nat} {s : Dsk} {R n m : Nat} {t : Sto} (h : ST w q p g b c s R n m t) {k : Nat} (hk : m ≤ k) : ST w q p g b c s R n k t :=
  ⟨h.sp, h.bl, ⟨h.good.geo, h.good.clean, fun i r hr => Nat.le_trans (h.good.nums i r hr) hk⟩, h.live⟩
theorem Live.more {t : Sto} {s : Dsk} {R n m : Nat} (h : Live t s R n m) {k : Nat} (hk : m ≤ k) : Live t s R n k := ⟨⟨h.good.geo, h.good.clean, fun i r hr => Nat.le_trans (h.good.nums i r hr) hk⟩, h.up, h.lives, h.none_⟩
theorem fourS_ge {q p g b B : Nat} (h1 : B ≤ q) (h2 : B ≤ p) (h3 : B ≤ g) (h4 : B ≤ b) : ∀ k, fourS q p g b k → B ≤ k := fun k hk => by
  rcases hk with rfl | rfl | rfl | rfl <;> assumption
/-- A disk is stopped, or started. -/
theorem ST.disk_chg {w w' : World} {q p g b c : Nat} {s s' : Dsk} {R n m : Nat} {t : Sto} (h : ST w q p g b c s R n m t) (hd : DP w' p g (n * (R + 1)) c s') (hc : Chg (two p g) w w') (hB : s'.B = s.B) (hk : s'.keep ≤ 32) (hl : t.died = false → s'.dead = false) : ST w' q p g b c s' R n m t :=
  ⟨by rw [hB]; exact h.sp.with_disk hd hc, Nat.lt_of_lt_of_le h.bl hc.size, h.good.disk hB hk, hl⟩

theorem get_new {t : Sto} {s : Dsk} {R n m : Nat} (h : Live t s R n m) (name data : List UInt8) (j : Nat) : Sto.get ⟨putE t.l (t.newR name data, j), false⟩ name = some data := by
  unfold Sto.get
  rw [if_neg (by simp)]
  exact get_put_same h.rising name data j
set_option maxRecDepth 100000

theorem RdS.at_ {w : World} {B : Nat} {A : Option Addr} {ls : List Name} (h : RdS w B A ls) {k : Nat} (hk : k < ls.length) : ∃ b off, A = some ⟨b, off, none⟩ ∧ b < B ∧ w.cell? ⟨b, off + k, none⟩ = some (.string ⟨ls[k].toArray⟩) := by
  rcases h with rfl | ⟨b, off, e, hb, hc⟩
  · simp at hk
  · exact ⟨b, off, e, hb, hc k hk⟩
theorem RdS.on {w w' : World} {A : Option Addr} {ls : List Name} (h : RdS w w.heap.size A ls) (hb : Below w.heap.size w w') : RdS w' w'.heap.size A ls := by
  rcases h with rfl | ⟨b, off, e, hlt, hc⟩
  · exact .inl rfl
  · exact .inr ⟨b, off, e, Nat.lt_of_lt_of_le hlt hb.size, fun i hi => (hb.cell (p := ⟨b, off + i, none⟩) hlt).trans (hc i hi)⟩
set_option maxRecDepth 100000

/-- The number that is put for a name; 0, if there is none, or more than 7 bytes. -/
def numOf (o : Option (List UInt8)) : Nat := match o with | none => 0 | some d => if d.length ≤ 7 then getL d else 0
theorem numOf_none : numOf none = 0 := rfl
theorem numOf_put {x : Nat} (h : x < 4294967296) : numOf (some (putL x 4)) = x := by
  show (if (putL x 4).length ≤ 7 then getL (putL x 4) else 0) = x
  rw [putL_length, if_pos (by omega), getL_putL11]
  exact Nat.mod_eq_of_lt h
/-- A keystore's cells. -/
def keysA (q : Nat) (nb : ByteArray) (sd : List UInt8) (h nx : Nat) : Array Value := (Value.pointer (some ⟨q, 0, none⟩) :: Value.string nb :: (Lib.byteCells sd ++ [Value.int .i64 (h : Int), Value.int .i64 (nx : Int)])).toArray
theorem keysA_18 (q : Nat) (nb : ByteArray) (sd : List UInt8) (h nx : Nat) (hs : sd.length = 16) : (keysA q nb sd h nx)[18]? = some (.int .i64 (h : Int)) := by
  have hl : (Lib.byteCells sd).length = 16 := by rw [Lib.byteCells_length, hs]
  unfold keysA
  rw [List.getElem?_toArray, List.getElem?_cons_succ, List.getElem?_cons_succ, List.getElem?_append_right (by omega), hl]
  rfl
theorem keysA_19 (q : Nat) (nb : ByteArray) (sd : List UInt8) (h nx : Nat) (hs : sd.length = 16) : (keysA q nb sd h nx)[19]? = some (.int .i64 (nx : Int)) := by
  have hl : (Lib.byteCells sd).length = 16 := by rw [Lib.byteCells_length, hs]
  unfold keysA
  rw [List.getElem?_toArray, List.getElem?_cons_succ, List.getElem?_cons_succ, List.getElem?_append_right (by omega), hl]
  rfl
theorem keysA_seed (q : Nat) (nb : ByteArray) (sd : List UInt8) (h nx : Nat) (i : Nat) (hi : i < sd.length) : (keysA q nb sd h nx)[2 + i]? = (Lib.byteCells sd)[i]? := by
  have hl : (Lib.byteCells sd).length = sd.length := Lib.byteCells_length sd
  unfold keysA
  rw [List.getElem?_toArray, show 2 + i = i + 1 + 1 by omega, List.getElem?_cons_succ, List.getElem?_cons_succ, List.getElem?_append_left (by omega)]
theorem keysA_set (q : Nat) (nb : ByteArray) (sd : List UInt8) (h nx ny : Nat) (hs : sd.length = 16) : (keysA q nb sd h nx).setIfInBounds 19 (.int .i64 (ny : Int)) = keysA q nb sd h ny := by
  have hl : (Lib.byteCells sd).length = 16 := by rw [Lib.byteCells_length, hs]
  unfold keysA
  rw [List.setIfInBounds_toArray, List.set_cons_succ, List.set_cons_succ, List.set_append_right _ _ (by omega), hl]
  rfl
/-- The program's keystore at k, on the store at q. -/
structure KS (w : World) (k q : Nat) (nb : ByteArray) (sd : List UInt8) (h nx : Nat) : Prop where
  blk : Blk w k (keysA q nb sd h nx) 81
  seed : sd.length = 16
  high : h ≤ 4
theorem KS.lt {w : World} {k q : Nat} {nb : ByteArray} {sd : List UInt8} {h nx : Nat} (H : KS w k q nb sd h nx) : k < w.heap.size := H.blk.lt
theorem KS.below {w w' : World} {k q : Nat} {nb : ByteArray} {sd : List UInt8} {h nx : Nat} (H : KS w k q nb sd h nx) (hb : Below w.heap.size w w') : KS w' k q nb sd h nx := ⟨H.blk.below hb H.blk.lt, H.seed, H.high⟩
theorem KS.chg {S : Nat → Prop} {w w' : World} {k q : Nat} {nb : ByteArray} {sd : List UInt8} {h nx : Nat} (H : KS w k q nb sd h nx) (hc : Chg S w w') (hk : ¬ S k) : KS w' k q nb sd h nx := ⟨hc.blk H.blk hk, H.seed, H.high⟩
theorem KS.cells {w : World} {k q : Nat} {nb : ByteArray} {sd : List UInt8} {h nx : Nat} (H : KS w k q nb sd h nx) : w.cell? ⟨k, 0, none⟩ = some (.pointer (some ⟨q, 0, none⟩)) ∧ w.cell? ⟨k, 1, none⟩ = some (.string nb) ∧ w.cell? ⟨k, 18, none⟩ = some (.int .i64 (h : Int)) ∧ w.cell? ⟨k, 19, none⟩ = some (.int .i64 (nx : Int)) :=
  ⟨H.blk.cell 0, H.blk.cell 1, (H.blk.cell 18).trans (keysA_18 q nb sd h nx H.seed), (H.blk.cell 19).trans (keysA_19 q nb sd h nx H.seed)⟩
theorem KS.range {w : World} {k q : Nat} {nb : ByteArray} {sd : List UInt8} {h nx : Nat} (H : KS w k q nb sd h nx) : w.rangeAt k 2 (Lib.byteCells sd) := fun j v hv => by
  have hj : j < sd.length := by
    have := (List.getElem?_eq_some_iff.1 hv).1
    rwa [Lib.byteCells_length] at this
  rw [H.blk.cell (2 + j), keysA_seed q nb sd h nx j hj, hv]
theorem KS.set {w : World} {k q : Nat} {nb : ByteArray} {sd : List UInt8} {h nx : Nat} (H : KS w k q nb sd h nx) (ny : Nat) : KS (w.setCell ⟨k, 19, none⟩ (.int .i64 (ny : Int))) k q nb sd h ny :=
  ⟨by rw [← keysA_set q nb sd h nx ny H.seed]; exact H.blk.set 19 _, H.seed, H.high⟩
theorem KS.other {w : World} {k q : Nat} {nb : ByteArray} {sd : List UInt8} {h nx : Nat} (H : KS w k q nb sd h nx) {p : Addr} (hp : k ≠ p.block) (v : Value) : KS (w.setCell p v) k q nb sd h nx := ⟨H.blk.other hp v, H.seed, H.high⟩
/-- A store that another block than its own leaves as it was. -/
theorem ST.apart {w w' : World} {q p g b c : Nat} {s : Dsk} {R n m : Nat} {t : Sto} (h : ST w q p g b c s R n m t) {k : Nat} (hc : Chg (fun j => j = k) w w') (hq : k ≠ q) (hp : k ≠ p) (hg : k ≠ g) (hb : k ≠ b) : ST w' q p g b c s R n m t :=
  ⟨⟨h.sp.disk.chg hc (fun e => hp e.symm) (fun e => hg e.symm), hc.blk h.sp.head (fun e => hq e.symm), fun e => hc.blk (h.sp.ents e) (fun e => hb e.symm), h.sp.qp, h.sp.qg, h.sp.bp, h.sp.bg, h.sp.bq, h.sp.room⟩, Nat.lt_of_lt_of_le h.bl hc.size, h.good, h.live⟩
/-- The keystore lies in no block of its store. -/
structure Apart5 (k q p g b : Nat) : Prop where
  q : k ≠ q
  p : k ≠ p
  g : k ≠ g
  b : k ≠ b
theorem Apart5.four {k q p g b : Nat} (h : Apart5 k q p g b) : ¬ fourS q p g b k := fun e => by
  rcases e with e | e | e | e
  · exact h.q e
  · exact h.p e
  · exact h.g e
  · exact h.b e
theorem Apart5.of_lt {k q p g b : Nat} (h : ∀ j, fourS q p g b j → j < k) : Apart5 k q p g b :=
  ⟨fun e => by have := h q (.inl rfl); omega, fun e => by have := h p (.inr (.inl rfl)); omega, fun e => by have := h g (.inr (.inr (.inl rfl))); omega, fun e => by have := h b (.inr (.inr (.inr rfl))); omega⟩
theorem ST.apart5 {w w' : World} {q p g b c : Nat} {s : Dsk} {R n m : Nat} {t : Sto} (h : ST w q p g b c s R n m t) {k : Nat} (hc : Chg (fun j => j = k) w w') (ha : Apart5 k q p g b) : ST w' q p g b c s R n m t := h.apart hc ha.q ha.p ha.g ha.b
def fiveS (k q p g b : Nat) : Nat → Prop := fun j => j = k ∨ fourS q p g b j
theorem one_five {k q p g b : Nat} : ∀ j, j = k → fiveS k q p g b j := fun _ h => .inl h
theorem four_five {k q p g b : Nat} : ∀ j, fourS q p g b j → fiveS k q p g b j := fun _ h => .inr h
theorem fiveS_ge {k q p g b B : Nat} (h0 : B ≤ k) (h1 : ∀ j, fourS q p g b j → B ≤ j) : ∀ j, fiveS k q p g b j → B ≤ j := fun j h => by
  rcases h with rfl | h
  · exact h0
  · exact h1 j h
set_option maxRecDepth 100000

/-- The next leaf, as a store says and the keystore knows. -/
def nextOf (t : Sto) (name : List UInt8) (nx : Nat) : Nat := max nx (numOf (t.get name))
/-- What is told of a name is short. -/
def ShortIn (t : Sto) (name : List UInt8) : Prop := ∀ d, t.get name = some d → d.length ≤ 1000000
theorem get_num {w : World} {q p g b c : Nat} {s : Dsk} {R n m : Nat} {t : Sto} {name : List UInt8} (hs : ST w q p g b c s R n m t) (hd : ShortIn t name) :
    Calls Tryz.prog 58 #[.pointer (some ⟨q, 0, none⟩), .string ⟨name.toArray⟩] w fun e w' => ∃ A k c' d ok, e = .returned (.tuple #[.slice A k c', .bool ok]) ∧ d.length = k ∧ k ≤ maxLen ∧ Rd w' w'.heap.size A d ∧ (if k ≤ 7 then getL d else 0) = numOf (t.get name) ∧ Below w.heap.size w w' := by
  refine (psget_any hs name).mono ?_
  intro e w' hp
  unfold GetPost at hp
  obtain ⟨hb, hp⟩ := hp
  cases hg : t.get name with
  | none =>
    rw [hg] at hp
    exact ⟨none, 0, 0, [], false, hp, rfl, Nat.zero_le _, Rd.nil _ _ _, rfl, hb⟩
  | some d =>
    rw [hg] at hp
    obtain ⟨A, c', he, _, hr⟩ := hp
    exact ⟨A, d.length, c', d, true, he, rfl, by have := hd d hg; unfold maxLen; omega, hr, rfl, hb⟩
set_option maxHeartbeats 1000000 in
theorem pcatch_any {w : World} {k q p g b c : Nat} {s : Dsk} {R n m : Nat} {t : Sto} {name sd : List UInt8} {h nx : Nat} (H : KS w k q ⟨name.toArray⟩ sd h nx) (hs : ST w q p g b c s R n m t) (hd : ShortIn t name) :
    Calls Tryz.prog 31 #[.pointer (some ⟨k, 0, none⟩)] w fun e w' => e = .returned (.tuple #[]) ∧ KS w' k q ⟨name.toArray⟩ sd h (nextOf t name nx) ∧ Chg (fun j => j = k) w w' := by
  have HN := Lib.hid (show nextOf t name nx = max nx (numOf (t.get name)) from rfl)
  have HK := Lib.hid H
  obtain ⟨c0, c1, c2, c3⟩ := H.cells
  have hcd : Below w.heap.size w w.drew := (Below.refl _ _).drew
  have HG := Lib.hid (get_num (hs.below hcd) hd)
  have HKEEP := Lib.hid (fun (W : World) (h' : Below w.heap.size w W) => (show (W.cell? ⟨k, 0, none⟩ = some (.pointer (some ⟨q, 0, none⟩)) ∧ W.cell? ⟨k, 1, none⟩ = some (.string ⟨name.toArray⟩)) ∧ Below w.heap.size w W from ⟨⟨(HK.out.below h').cells.1, (HK.out.below h').cells.2.1⟩, h'⟩))
  generalize numOf (t.get name) = X at *
  clear H hs hd
  go_enter Tryz.func31, Tryz.ntmps31
  go_wp2_with fail
  go_region_held3 (fun W => (W.cell? ⟨k, 0, none⟩ = some (.pointer (some ⟨q, 0, none⟩)) ∧ W.cell? ⟨k, 1, none⟩ = some (.string ⟨name.toArray⟩)) ∧ Below w.heap.size w W)
    ((first | exact HKEEP.out _ ‹_› | exact HKEEP.out _ (Below.drew ‹_›) | exact HKEEP.out _ (below_drewN ‹_› _)))
    ((go_at_call 58; refine HG.out.mono ?_; rintro e w5 ⟨A, n5, c5, d5, ok5, rfl, hl5, hn5, hr5, hx5, hb5⟩; have hbel5 := hcd.trans (hb5.mono hcd.size); have HR5 := Lib.hid hr5; have HX5 := Lib.hid hx5; clear hr5 hx5))
  all_goals
    have HK5 := Lib.hid (HK.out.below hbel5)
    obtain ⟨_, _, d2, d3⟩ := HK5.out.cells
    have f3 := HK5.out.blk.frozen 19
    clear HG HKEEP c0 c1 c2 c3 hb5
    go_wp2_with fail
    with_reducible refine (get_any A n5 c5 _ d5 _ hl5 hn5 HR5.out).mono ?_
    rintro e w6 ⟨rfl, rfl⟩
    rw [HX5.out]
    clear HR5 hl5 hn5
    go_wp2_with fail
    go_end0
    have e19 : max (nx : Int) (X : Int) = ((max nx X : Nat) : Int) := by omega
    refine ⟨rfl, ?_, ((Chg.of_below hbel5 : Chg (fun j => j = k) w _)).setCell (p := ⟨k, 19, none⟩) (fun _ => rfl) _⟩
    rw [HN.out]
    first
      | (rw [e19]; exact HK5.out.set _)
      | (rw [← e19]; exact e19 ▸ HK5.out.set _)
set_option maxHeartbeats 1000000 in
theorem pleft_any {w : World} {k q p g b c : Nat} {s : Dsk} {R n m : Nat} {t : Sto} {name sd : List UInt8} {h nx : Nat} (H : KS w k q ⟨name.toArray⟩ sd h nx) (hs : ST w q p g b c s R n m t) (hd : ShortIn t name) (hx : nextOf t name nx ≤ 72057594037927936) :
    Calls Tryz.prog 13 #[.pointer (some ⟨k, 0, none⟩)] w fun e w' => e = .returned (.int .i64 ((2 ^ h - nextOf t name nx : Nat) : Int)) ∧ KS w' k q ⟨name.toArray⟩ sd h (nextOf t name nx) ∧ Chg (fun j => j = k) w w' := by
  have HC := Lib.hid (pcatch_any H hs hd)
  generalize nextOf t name nx = X at *
  have hh := H.high
  clear H hs hd
  go_enter Tryz.func13, Tryz.ntmps13
  go_wp2_with fail
  with_reducible refine HC.out.mono ?_
  rintro e w1 ⟨rfl, K1, C1⟩
  obtain ⟨_, _, d2, d3⟩ := K1.cells
  have HK1 := Lib.hid K1
  have HC1 := Lib.hid C1
  clear K1 C1 HC
  obtain h0 | h0 | h0 | h0 | h0 : h = 0 ∨ h = 1 ∨ h = 2 ∨ h = 3 ∨ h = 4 := by omega
  all_goals
    subst h0
    go_wp2_with fail
    go_quiet (fail)
    go_wp2_with fail
    go_ret
    exact ⟨congrArg (fun x => Ending.returned (.int .i64 x)) (by omega), HK1.out.below (below_drewN (Below.refl _ _) _), HC1.out.drewN _⟩
end Go.Proofs.YtndknifdajjalaaGreatDoor
