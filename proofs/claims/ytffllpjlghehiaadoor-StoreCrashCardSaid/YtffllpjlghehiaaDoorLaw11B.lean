/- What stage 11's statements use, more: openings that are cut short, puts and drops at every stop. -/
import Derived.Test.YtffllpjlghehiaaDoorSameS
namespace Go.Proofs.YtffllpjlghehiaaDoor
open Go.RowKit
set_option maxRecDepth 100000

/-- An opening that may be cut short: what it leaves of the disk. -/
theorem open_disk {w : World} {p g c : Nat} {s : Dsk} {n R : Nat} (h : DP w p g (n * (R + 1)) c s) (hn : 1 ≤ n ∧ n ≤ 1024) (hR : 1 ≤ R ∧ R ≤ 1024) (hd : s.dead = false) {i j : Int} (hi : i = (n : Int)) (hj : j = (R : Int)) :
    Calls Tryd.prog 10 #[.pointer (some ⟨p, 0, none⟩), .int .i64 i, .int .i64 j] w fun e w' => ∃ v x, e = .returned (.tuple #[v, x]) ∧ DP w' p g (n * (R + 1)) c (openD s R n) ∧ Chg (two p g) w w' := by
  subst hi hj
  refine (popen_any h hn hR).mono ?_
  intro e w' ho
  unfold OpenPost at ho
  cases hk : openK s R n with
  | true =>
    rw [if_neg (by rw [hd, hk]; simp)] at ho
    obtain ⟨q, b, rfl, _, _, S, C⟩ := ho
    exact ⟨_, _, rfl, S.disk, C⟩
  | false =>
    rw [if_pos (.inr hk), if_neg (by rw [hd]; simp)] at ho
    obtain ⟨rfl, D, C⟩ := ho
    exact ⟨_, _, rfl, D, C⟩
/-- A put, whatever the disk does. -/
theorem lputany {w : World} {q p g b c : Nat} {s : Dsk} {R n m : Nat} {t : Sto} (h : ST w q p g b c s R n m t) (hm : m + 1 < 4294967296) {nb : ByteArray} (name data : List UInt8) (hnb : nb = ⟨name.toArray⟩) (A : Option Addr) (k d : Nat) (hl : data.length = k) (hkd : k ≤ d) (hdm : d ≤ maxLen) (hr : Rd w w.heap.size A data) (htab : Pow10 w.heap.size w) (h1 : name.length ≤ 900) (h2 : k ≤ 900) :
    Calls Tryd.prog 15 #[.pointer (some ⟨q, 0, none⟩), .string nb, .slice A k d] w (CallPost w q p g b c R n (m + 1) (t.put s R n name data)) := by
  subst hnb
  exact psput_any h hm name data A k d hl hkd hdm hr htab (by omega) (by omega)
theorem ldrop {w : World} {q p g b c : Nat} {s : Dsk} {R n m : Nat} {t : Sto} (h : ST w q p g b c s R n m t) {nb : ByteArray} (name : List UInt8) (hnb : nb = ⟨name.toArray⟩) :
    Calls Tryd.prog 14 #[.pointer (some ⟨q, 0, none⟩), .string nb] w (CallPost w q p g b c R n m (t.drop s R n name)) := by
  subst hnb
  exact psdrop_any h name
/-- The names of entries are told by what is told of names. -/
theorem names_of {L : List (Rec11 × Nat)} (h : Rising L) {ns : List Name} (hs : ns.Pairwise (· < ·)) (he : ∀ nm, (oldE L nm).isSome = true ↔ nm ∈ ns) : L.map (·.1.name) = ns := by
  refine strict_ext (by rw [List.pairwise_map]; exact h) hs fun nm => ?_
  rw [← he nm, List.mem_map]
  constructor
  · rintro ⟨x, hx, rfl⟩
    rw [oldE_of h hx]; rfl
  · intro hh
    cases ho : oldE L nm with
    | none => rw [ho] at hh; cases hh
    | some x => obtain ⟨h1, h2⟩ := oldE_some ho; exact ⟨x, h1, h2⟩
/-- What is told of a name behind a put of another, or of the same. -/
theorem told_same {t : Sto} (hr : Rising t.l) (name data : List UInt8) (j : Nat) : (oldE (putE t.l (t.newR name data, j)) name).map (·.1.data) = some data := get_put_same hr name data j
theorem told_isSome {t : Sto} (hr : Rising t.l) (name data : List UInt8) (j : Nat) (nm : List UInt8) : (oldE (putE t.l (t.newR name data, j)) nm).isSome = true ↔ (nm = name ∨ (oldE t.l nm).isSome = true) := by
  by_cases e : nm = name
  · subst e
    refine ⟨fun _ => .inl rfl, fun _ => ?_⟩
    have := get_put_same hr nm data j
    cases ho : oldE (putE t.l (t.newR nm data, j)) nm with
    | none => rw [ho] at this; cases this
    | some x => rfl
  · rw [get_put_other hr name data j e]
    exact ⟨.inr, fun h => by rcases h with h | h; exact absurd h e; exact h⟩
theorem told_len {t : Sto} (name data : List UInt8) (j : Nat) (hn : oldE t.l name = none) : (putE t.l (t.newR name data, j)).length = t.l.length + 1 := putE_len_new _ fun y hy => oldE_none hn y hy
end Go.Proofs.YtffllpjlghehiaaDoor
