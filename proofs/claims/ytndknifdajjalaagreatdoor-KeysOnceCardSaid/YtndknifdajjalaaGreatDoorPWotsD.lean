/- The program's one-time signatures: a step. The program's one-time signatures: where a chain starts. The program's one-time signatures: the hash of ends; all ends of a leaf. The program's one-time signatures: public hashes, signatures, ends, what is recovered. The document's own one-time signatures: a leaf's signature, the ends that values make. What values make of a message: the public hash, the program's and the document's. -/
import Derived.Laws.OwnMore
import Derived.StillTailTactics
import Derived.Deep.CutRange
import Derived.Lib.SlBytesConst
import Derived.Laws.CopyRow
import Derived.Maps.AppendAt
import Derived.Test.YtndknifdajjalaaGreatDoorPMem
import Derived.Test.YtndknifdajjalaaGreatDoorPHashB2
import Derived.Test.YtndknifdajjalaaGreatDoorPShaD
import Derived.Test.YtndknifdajjalaaGreatDoorPBits
import Derived.Test.YtndknifdajjalaaGreatDoorPHashD
import Derived.Test.YtndknifdajjalaaGreatDoorPTreeB
import Derived.Test.YtndknifdajjalaaGreatDoorPRShort
import Derived.Test.YtndknifdajjalaaGreatDoorPRTClimb
import Derived.Test.YtndknifdajjalaaGreatDoorPPut
import Derived.Test.YtndknifdajjalaaGreatDoorPFreeL
import Derived.Test.YtndknifdajjalaaGreatDoorPRText
import Derived.Test.YtndknifdajjalaaGreatDoorPMakeA
namespace Go.Proofs.YtndknifdajjalaaGreatDoor

namespace wots
/-- What is missing to 15, in all. -/
def csum : List Nat → Nat
  | [] => 0
  | d :: r => (15 - d) + csum r
def chk (l : List Nat) : List Nat := [csum l / 256, csum l / 16 % 16, csum l % 16]
/-- Digits, behind them the checksum's. -/
def allD (l : List Nat) : List Nat := l ++ chk l
theorem csum_max : ∀ l : List Nat, csum l ≤ 15 * l.length
  | [] => Nat.le_refl _
  | d :: r => by
    have := csum_max r
    simp only [csum, List.length_cons]
    omega
theorem csum_snoc (x : Nat) : ∀ l : List Nat, csum (l ++ [x]) = csum l + (15 - x)
  | [] => by simp [csum]
  | d :: r => by
    have := csum_snoc x r
    simp only [List.cons_append, csum, this]
    omega
theorem allD_len (l : List Nat) : (allD l).length = l.length + 3 := by simp [allD, chk]
theorem allD_small {l : List Nat} (h : ∀ d ∈ l, d ≤ 15) (hl : l.length ≤ 64) : ∀ d ∈ allD l, d ≤ 15 := fun d hd => by
  have hm := csum_max l
  rcases List.mem_append.1 hd with hd | hd
  · exact h d hd
  · simp only [chk, List.mem_cons, List.not_mem_nil, or_false] at hd
    rcases hd with rfl | rfl | rfl <;> omega
section
variable {α : Type} (st : α → α)
/-- n steps. -/
def along : Nat → α → α
  | 0, h => h
  | n + 1, h => along n (st h)
theorem along_add : ∀ (a b : Nat) (h : α), along st b (along st a h) = along st (a + b) h
  | 0, b, h => by rw [Nat.zero_add]; rfl
  | a + 1, b, h => by rw [along, along_add a b, show a + 1 + b = (a + b) + 1 by omega]; rfl
theorem along_succ (n : Nat) (h : α) : along st (n + 1) h = st (along st n h) := by
  have := along_add st n 1 h
  exact this.symm
/-- The rest of a chain leads to its end. -/
theorem along_rest {d n : Nat} (hd : d ≤ n) (h : α) : along st (n - d) (along st d h) = along st n h := by rw [along_add, show d + (n - d) = n by omega]
end
/-- How many steps are gone. -/
def clampS (n : Int) : Nat := if n < 0 then 0 else if 15 < n then 15 else n.toNat
end wots
open Go.RowKit

namespace wots
/-- The halves of bytes, each byte's greater one first. -/
def hexD : List UInt8 → List Nat
  | [] => []
  | b :: r => b.toNat / 16 :: b.toNat % 16 :: hexD r
theorem hexD_len : ∀ l : List UInt8, (hexD l).length = 2 * l.length
  | [] => rfl
  | b :: r => by simp only [hexD, List.length_cons, hexD_len r]; omega
theorem hexD_small : ∀ l : List UInt8, ∀ d ∈ hexD l, d ≤ 15
  | [], d, hd => by cases hd
  | b :: r, d, hd => by
    have hb := b.toNat_lt
    simp only [hexD, List.mem_cons] at hd
    rcases hd with rfl | rfl | hd
    · omega
    · omega
    · exact hexD_small r d hd
theorem hexD_append : ∀ l k : List UInt8, hexD (l ++ k) = hexD l ++ hexD k
  | [], _ => rfl
  | b :: r, k => by simp only [List.cons_append, hexD, hexD_append r k]
theorem hexD_snoc (l : List UInt8) (b : UInt8) : hexD (l ++ [b]) = hexD l ++ [b.toNat / 16, b.toNat % 16] := hexD_append l [b]
theorem csum_two (l : List Nat) (x y : Nat) : csum (l ++ [x, y]) = csum l + (15 - x) + (15 - y) := by
  have h1 := csum_snoc y (l ++ [x])
  rw [csum_snoc x l] at h1
  simpa using h1
/-- So many digits of a number, the greatest first. -/
def digsN (n c : Nat) : List Nat := (List.range c).map fun j => n / 16 ^ (c - 1 - j) % 16
theorem digsN_len (n c : Nat) : (digsN n c).length = c := by simp [digsN]
theorem digsN_two (n : Nat) : digsN n 2 = [n / 16 % 16, n % 16] := by simp [digsN, List.range_succ]
theorem digsN_three (n : Nat) : digsN n 3 = [n / 256 % 16, n / 16 % 16, n % 16] := by simp [digsN, List.range_succ]
end wots

/-- A message's digits. -/
def msgH (m : List UInt8) : List UInt8 := shaL (netsL [[109, 115, 103], m])
theorem msgH_len (m : List UInt8) : (msgH m).length = 32 := outTo_len _ 8 (by omega)
def digH (h : List UInt8) : List Nat := wots.allD (wots.hexD h)
theorem digH_len {h : List UInt8} (hh : h.length = 32) : (digH h).length = 67 := by
  unfold digH
  rw [wots.allD_len, wots.hexD_len, hh]
theorem digH_small {h : List UInt8} (hh : h.length = 32) : ∀ d ∈ digH h, d ≤ 15 := wots.allD_small (wots.hexD_small h) (by rw [wots.hexD_len, hh]; omega)
theorem digH_at {h : List UInt8} (hh : h.length = 32) (i : Nat) : (digH h).getD i 0 ≤ 15 := by
  rw [List.getD_eq_getElem?_getD]
  cases e : (digH h)[i]? with
  | none => exact Nat.zero_le _
  | some d => exact digH_small hh d (List.mem_of_getElem? e)

def nCells (ds : List Nat) : List Value := ds.map fun d : Nat => .int .i64 (d : Int)
theorem nCells_one (ds : List Nat) : ∀ u ∈ nCells ds, u.oneCell' = true := fun u hu => by
  obtain ⟨d, _, rfl⟩ := List.mem_map.1 hu
  rfl
theorem nCells_len (ds : List Nat) : (nCells ds).length = ds.length := by simp [nCells]
theorem nCells_append (ds es : List Nat) : nCells (ds ++ es) = nCells ds ++ nCells es := by simp [nCells]
theorem nCells_at {ds : List Nat} {i : Nat} (h : i < ds.length) : (nCells ds)[i]? = some (.int .i64 ((ds.getD i 0 : Nat) : Int)) := by
  simp [nCells, List.getD_eq_getElem?_getD, h]
/-- The row of numbers at A reads as ds, below block B. -/
def RdD (w : World) (B : Nat) (A : Option Addr) (ds : List Nat) : Prop :=
  ds = [] ∨ ∃ b off, A = some ⟨b, off, none⟩ ∧ b < B ∧ ∀ i, i < ds.length → w.cell? ⟨b, off + i, none⟩ = some (.int .i64 ((ds.getD i 0 : Nat) : Int))
theorem RdD.keep {w w' : World} {B : Nat} {A : Option Addr} {ds : List Nat} (h : RdD w B A ds) (hk : ∀ p : Addr, p.block < B → w'.cell? p = w.cell? p) : RdD w' B A ds := by
  rcases h with rfl | ⟨b, off, rfl, hb, hc⟩
  · exact .inl rfl
  · exact .inr ⟨b, off, rfl, hb, fun i hi => (hk _ hb).trans (hc i hi)⟩
theorem RdD.more {w : World} {B B' : Nat} {A : Option Addr} {ds : List Nat} (h : RdD w B A ds) (hB : B ≤ B') : RdD w B' A ds := by
  rcases h with rfl | ⟨b, off, rfl, hb, hc⟩
  · exact .inl rfl
  · exact .inr ⟨b, off, rfl, by omega, hc⟩
theorem RdD.below {w w' : World} {B C : Nat} {A : Option Addr} {ds : List Nat} (h : RdD w B A ds) (hb : Below C w w') (hBC : B ≤ C) : RdD w' B A ds := h.keep fun _ hp => hb.cell (Nat.lt_of_lt_of_le hp hBC)
/-- The value reads as the numbers. -/
def DV (w : World) (v : Value) (ds : List Nat) : Prop := ∃ X c, v = .slice X ds.length c ∧ ds.length ≤ c ∧ RdD w w.heap.size X ds
theorem DV.on {w w' : World} {v : Value} {ds : List Nat} (h : DV w v ds) (hb : Below w.heap.size w w') : DV w' v ds := by
  obtain ⟨X, c, h1, h2, h3⟩ := h
  exact ⟨X, c, h1, h2, (h3.below hb (Nat.le_refl _)).more hb.size⟩
theorem DV.form {w : World} {v : Value} {ds : List Nat} {n : Nat} (h : DV w v ds) (hn : ds.length = n) : ∃ X c, v = .slice X n c ∧ n ≤ c := by
  obtain ⟨X, c, h1, h2, _⟩ := h
  subst hn
  exact ⟨X, c, h1, h2⟩
theorem DV.at_ {w : World} {X : Option Addr} {n c i : Nat} {ds : List Nat} (h : DV w (.slice X n c) ds) (hi : i < n) :
    ∃ b off, X = some ⟨b, off, none⟩ ∧ b < w.heap.size ∧ w.cell? ⟨b, off + i, none⟩ = some (.int .i64 ((ds.getD i 0 : Nat) : Int)) := by
  obtain ⟨Y, d, h1, h2, h3⟩ := h
  injection h1 with e1 e2 e3
  subst e1 e2 e3
  rcases h3 with rfl | ⟨b, off, hA, hb, hc⟩
  · simp at hi
  · exact ⟨b, off, hA, hb, hc i hi⟩
/-- The value is a row of numbers of the call's own, from block B on. -/
def OwnD (w : World) (B : Nat) (v : Value) (ds : List Nat) : Prop := w.ownsRow B 3 1 v ds.length (nCells ds)
theorem OwnD.nil (w : World) (B : Nat) : OwnD w B (.slice none 0 0) [] := World.ownsRow_nil _ _ _ _
theorem OwnD.on {w w' : World} {B : Nat} {v : Value} {ds : List Nat} (h : OwnD w B v ds) (hb : Below w.heap.size w w') : OwnD w' B v ds := own_keepK h hb
theorem OwnD.lt {w : World} {B : Nat} {v : Value} {ds : List Nat} (h : OwnD w B v ds) : ∀ k, v.ownBlock = some k → B ≤ k := fun k hk => (World.ownsRow.lt h k hk).1
theorem OwnD.inside {w : World} {B : Nat} {v : Value} {ds : List Nat} (h : OwnD w B v ds) : ∀ g, v.ownBlock = some g → g < w.heap.size := fun g hg => (World.ownsRow.lt h g hg).2
theorem OwnD.form {w : World} {B : Nat} {v : Value} {ds : List Nat} {n : Nat} (h : OwnD w B v ds) (hn : ds.length = n) : ∃ A c, v = .slice A n c ∧ n ≤ c ∧ c ≤ maxLen := by
  subst hn
  rcases h.2 with ⟨rfl, e⟩ | ⟨g, cap, cur, rfl, _, _, hc, hm, _⟩
  · exact ⟨none, 0, by rw [e], by omega, Nat.zero_le _⟩
  · exact ⟨_, cap, rfl, hc, hm⟩
theorem OwnD.dv {w : World} {B : Nat} {v : Value} {ds : List Nat} (h : OwnD w B v ds) : DV w v ds := by
  rcases h.2 with ⟨rfl, e⟩ | ⟨g, cap, cur, rfl, _, hg, hc, _, hz, ht⟩
  · exact ⟨none, 0, by rw [e], by omega, .inl (List.eq_nil_of_length_eq_zero e)⟩
  · refine ⟨_, cap, rfl, hc, .inr ⟨g, 0, rfl, (Array.getElem?_eq_some_iff.1 hg).1, fun i hi => ?_⟩⟩
    rw [Nat.zero_add, Lib.cell_of_heap hg, ← Array.getElem?_toList]
    have e := congrArg (fun l : List Value => l[i]?) ht
    simp only [List.getElem?_take, Nat.mul_one, if_pos hi] at e
    rw [e, nCells_at hi]
theorem OwnD.base {w : World} {B C : Nat} {v : Value} {ds : List Nat} (h : OwnD w B v ds) (hCB : C ≤ B) : OwnD w C v ds := by
  refine ⟨h.1, ?_⟩
  rcases h.2 with h0 | ⟨g, cap, cur, h1, h2, h3⟩
  · exact .inl h0
  · exact .inr ⟨g, cap, cur, h1, Nat.le_trans hCB h2, h3⟩

theorem num_parts : ∃ i, Tryz.prog.info? 3 = some i ∧ i.zero = some (.int .i64 0) ∧ i.size = 1 ∧ i.bytes = 8 := by
  have h : (Tryz.prog.info? 3).map (fun i => (i.zero, i.size, i.bytes)) = some (some (.int .i64 0), 1, 8) := by kernel_rfl
  cases hi : Tryz.prog.info? 3 with
  | none => rw [hi] at h; simp at h
  | some i =>
    rw [hi] at h
    simp only [Option.map_some, Option.some.injEq, Prod.mk.injEq] at h
    exact ⟨i, rfl, h.1, h.2.1, h.2.2⟩
theorem news_of {w : World} {b : Nat} {T : TypeId} {es : List Nat} (hb : Blk w b (nCells es).toArray T) : ∀ j u, (nCells es)[j]? = some u → w.cell? ((⟨b, 0, none⟩ : Addr).add j) = some u := fun j u hj => by
  have e : (⟨b, 0, none⟩ : Addr).add j = ⟨b, j, none⟩ := by
    by_cases h0 : j = 0 <;> simp [Addr.add, h0]
  rw [e, hb.cell j]
  simpa using hj
/-- In a plain region: numbers that lie in block b are appended; just the list's own block has changed. -/
theorem wpList_append_digs {w : World} {ops : Array Oper} {rest : List Oper} {o : Oper} {a : Act} {Q : Exit → Act → World → Prop} (hgd : o.guard = none) (s x : Operand)
    (ho : o.op = .call { callee := .builtin .append, args := #[s, x], argTypes := #[156, 156] })
    (base : Nat) (v : Value) (ds : List Nat) (hv : a.eval s = v) (hown : OwnD w base v ds) (b : Nat) (T : TypeId) (m : Nat) (es : List Nat) (hm : es.length = m) (hb : Blk w b (nCells es).toArray T) (hx : a.eval x = .slice (some ⟨b, 0, none⟩) m m)
    (hlim : ds.length + m ≤ 1000000) (hbase : base ≤ w.heap.size)
    (hk : ∀ v' w', OwnD w' base v' (ds ++ es) → w.grownBy w' v.ownBlock → wpList Tryz.prog ops Q rest (a.put o.dst v') w') : wpList Tryz.prog ops Q (o :: rest) a w := by
  obtain ⟨i, hi, hz, hsz, hby⟩ := num_parts
  refine wpList_append_own (P := Tryz.prog) _ hgd s x 156 ho base 3 i (.int .i64 0) 1 8 Tryz.underlying156 hi hz hsz hby rfl (by omega) v ds.length (nCells ds) hv hown ⟨b, 0, none⟩ m m (nCells es) hx (by rw [nCells_len, hm, Nat.mul_one]) (news_of hb) (nCells_one es) (by unfold maxLen; omega) (by omega) hbase
    (fun v' w' k1 k2 _ => hk v' w' (by unfold OwnD; rw [List.length_append, hm, nCells_append]; exact k1) k2)
/-- In a region that draws its order. -/
theorem step_append_digs {w : World} {ops : Array Oper} {o : Oper} {a : Act} {K : Act → World → Prop} {Q : Exit → Act → World → Prop} {E : Prop} (hgd : o.guard = none) (s x : Operand)
    (ho : o.op = .call { callee := .builtin .append, args := #[s, x], argTypes := #[156, 156] })
    (base : Nat) (v : Value) (ds : List Nat) (hv : a.eval s = v) (hown : OwnD w base v ds) (b : Nat) (T : TypeId) (m : Nat) (es : List Nat) (hm : es.length = m) (hpos : 0 < m) (hb : Blk w b (nCells es).toArray T) (hx : a.eval x = .slice (some ⟨b, 0, none⟩) m m)
    (hlim : ds.length + m ≤ 1000000) (hbase : base ≤ w.heap.size)
    (hk : ∀ v' w', OwnD w' base v' (ds ++ es) → w.grownBy w' v.ownBlock → K (a.put o.dst v') w') :
    if Region.wanted o (yielded ops a.tmps) = true then Oper.wp Tryz.prog o a w K Q else E := by
  obtain ⟨i, hi, hz, hsz, hby⟩ := num_parts
  refine step_append_lies (P := Tryz.prog) w hgd s x 156 ho base 3 i (.int .i64 0) 1 8 Tryz.underlying156 hi hz hsz hby rfl (by omega) v ds.length (nCells ds) hv hown ⟨b, 0, none⟩ m m (nCells es) hx (by rw [nCells_len, hm, Nat.mul_one]) (news_of hb) (nCells_one es) hpos (by unfold maxLen; omega) (by omega) hbase w.heap.size rfl
    (fun g cap w' k1 k2 _ _ => hk _ w' (by unfold OwnD; rw [List.length_append, hm, nCells_append]; exact k1) k2)
/-- make([]int, 0, n). -/
theorem wpList_make_digs {w : World} {ops : Array Oper} {rest : List Oper} {o : Oper} {a : Act} {Q : Exit → Act → World → Prop} (hgd : o.guard = none) (l c : Operand) (ho : o.op = .makeSlice 156 l c)
    (n : Nat) (hn : n ≤ 1000000) (hl : a.eval l = .int .i64 0) (hc : a.eval c = .int .i64 (n : Int))
    (hk : ∀ w', OwnD w' w.heap.size (.slice (some ⟨w.heap.size, 0, none⟩) 0 n) [] → Below w.heap.size w w' → wpList Tryz.prog ops Q rest (a.put o.dst (.slice (some ⟨w.heap.size, 0, none⟩) 0 n)) w') : wpList Tryz.prog ops Q (o :: rest) a w := by
  obtain ⟨i, hi, hz, hsz, hby⟩ := num_parts
  obtain ⟨w', hrun, r1, r2⟩ := run_make_own (P := Tryz.prog) w w.heap.size 156 3 i (.int .i64 0) 1 Tryz.underlying156 hi hz hsz .i64 .i64 n (by rw [hby]; omega) (by unfold maxLen; omega) (Nat.le_refl _)
  refine wpList_plain hgd fun K hK => ?_
  unfold Oper.wp
  simp [execOp, ho, hl, hc, hrun, Result.andThen]
  exact hK _ _ (hk w' r1 ((Below.refl _ _).grown r2 (Nat.le_refl _) (fun k hk => by cases hk)))

theorem and_15 (y : Nat) (hy : y < 9223372036854775808) : bits .and .i64 (y : Int) 15 = ((y % 16 : Nat) : Int) := and_low y 4 hy (by decide)
theorem digsN_snoc (n c k : Nat) (hk : k < c) : (wots.digsN n c).take (k + 1) = (wots.digsN n c).take k ++ [n / 2 ^ (4 * (c - 1 - k)) % 16] := by
  have hl : k < (wots.digsN n c).length := by rw [wots.digsN_len]; exact hk
  rw [List.take_succ_eq_append_getElem hl]
  congr 1
  simp [wots.digsN, Nat.pow_mul]
theorem digsN_all (n c : Nat) : (wots.digsN n c).take c = wots.digsN n c := List.take_of_length_le (by rw [wots.digsN_len]; exact Nat.le_refl _)
set_option maxRecDepth 100000 in
set_option maxHeartbeats 4000000 in
theorem pappdig_any {w : World} {B : Nat} {v : Value} {ds : List Nat} (hown : OwnD w B v ds) (hB : B ≤ w.heap.size) (n c : Nat) (hn : n ≤ 1000000) (hc : c ≤ 8) (hl : ds.length ≤ 100000) :
    Calls Tryz.prog 143 #[v, .int .i64 (n : Int), .int .i64 (c : Int)] w fun e w' => ∃ v', e = .returned v' ∧ OwnD w' B v' (ds ++ wots.digsN n c) ∧ Below B w w' := by
  obtain ⟨A, cap, rfl, hcap, hcm⟩ := hown.form rfl
  obtain ⟨L0, hL0⟩ : ∃ x, ds.length = x := ⟨_, rfl⟩
  have HL0 := Lib.hid hL0
  rw [hL0] at hown hl ⊢
  have HO := Lib.hid (show OwnD w B (.slice A L0 cap) (ds ++ (wots.digsN n c).take 0) by rw [List.take_zero, List.append_nil]; exact hown)
  have HB := Lib.hid hB
  have HLIM := Lib.hid hl
  clear hown hcap hcm hL0 hB hl
  go_enter Tryz.func143, Tryz.ntmps143
  go_wp2_with fail
  go_loopw [0, 7] (fun u t wq => ∃ (k : Nat) (A : Option Addr) (L cc : Nat), k ≤ c ∧ t = .int .i64 ((c : Int) - 1 - (k : Int)) ∧ u = .slice A L cc ∧ Hid (OwnD wq B (.slice A L cc) (ds ++ (wots.digsN n c).take k)) ∧ Hid (Below B w wq)) (fun _ t _ => (intOf t + 1).toNat)
  case atStart => exact ⟨0, A, L0, cap, Nat.zero_le _, by go_num, rfl, HO, Lib.hid (Below.refl _ _)⟩
  case round =>
    clear HO
    obtain ⟨k, A, L, cc, hk, rfl, rfl, HO, HBL⟩ := hrel
    have hszr : B ≤ wr.heap.size := Nat.le_trans HB.out HBL.out.size
    by_cases hlt : k < c
    · obtain ⟨j, hj⟩ : ∃ j : Nat, c - 1 - k = j := ⟨_, rfl⟩
      have hj2 : (c : Int) - 1 - (k : Int) = (j : Int) := by omega
      have HJ2 := Lib.hid hj2
      obtain ⟨q, hq⟩ : ∃ q : Nat, 4 * j = q := ⟨_, rfl⟩
      have hmul : (j : Int) * 4 = (q : Int) := by omega
      have hq28 : q ≤ 28 := by omega
      have hshr := div_pow_cast n q
      have hyl : n / 2 ^ q ≤ n := Nat.div_le_self _ _
      have HSN := Lib.hid (digsN_snoc n c k hlt)
      rw [hj, hq] at HSN
      generalize n / 2 ^ q = y at *
      have hand := and_15 y (by omega)
      obtain ⟨d, hd⟩ : ∃ d, y % 16 = d := ⟨_, rfl⟩
      rw [hd] at hand HSN
      have hlen := congrArg List.length (HSN.out)
      have HAP := Lib.hid (show ds ++ ((wots.digsN n c).take k ++ [d]) = ds ++ (wots.digsN n c).take (k + 1) by rw [HSN.out])
      have HLK := Lib.hid (show (ds ++ (wots.digsN n c).take k).length + 1 ≤ 1000000 by
        have := HLIM.out
        rw [List.length_append, List.length_take, wots.digsN_len, HL0.out]
        omega)
      rw [hj2]
      have hal : Below wr.heap.size wr (wr.alloc (.cells #[.int .i64 (d : Int)] 3)) := (Below.refl _ _).alloc (Nat.le_refl _) _
      have HO2 := Lib.hid (HO.out.on hal)
      have HNB := Lib.hid (show Blk (wr.alloc (.cells #[.int .i64 (d : Int)] 3)) wr.heap.size (nCells [d]).toArray 3 from Blk.new _ _ _)
      have HB2 := Lib.hid (HBL.out.trans (hal.mono hszr))
      have hsz2 : B ≤ (wr.alloc (.cells #[.int .i64 (d : Int)] 3)).heap.size := Nat.le_trans HB.out HB2.out.size
      clear HO HBL hal hd hyl hlen hj hj2
      go_wp2_with (at_builtin; refine wpList_append_digs rfl _ _ rfl B _ (ds ++ (wots.digsN n c).take k) rfl HO2.out wr.heap.size 3 1 [d] rfl HNB.out rfl HLK.out hsz2 ?_)
      intro v3 w3 hown3 hg3
      rw [HAP.out] at hown3
      obtain ⟨A3, c3, rfl, _, _⟩ := hown3.form rfl
      have HO3 := Lib.hid hown3
      have HB3 := Lib.hid (HB2.out.grown hg3 hsz2 (fun q hq => HO2.out.lt q hq))
      clear hown3 hg3 HO2 HNB HB2 hsz2
      go_wp2_with fail
      go_roundw
      case rel => exact ⟨k + 1, A3, _, c3, hlt, by have := HJ2.out; go_num, rfl, HO3, HB3⟩
      case measure => simp [intOf]; try omega
    · obtain rfl : k = c := by omega
      have hneg : (k : Int) - 1 - (k : Int) = -1 := by omega
      rw [hneg]
      rw [digsN_all] at HO
      have HE := Lib.hid HBL.out
      clear HBL
      go_wp2_with fail
      go_ret
      exact ⟨_, rfl, HO.out, HE.out⟩
theorem run_index_byte8 {T : TypeId} {len : Nat} (hT : Tryz.prog.underlying T = some (.array len 5)) (W : World) (cs : Array Value) (i : Nat) (hi : i < len) {a : UInt8} (h : cs[i]? = some (.int .u8 (a.toNat : Int))) :
    (Instr.index T (.agg cs) (.int .i64 (i : Int))).run Tryz.prog W = .ok (.int .u8 (a.toNat : Int)) W := by
  have h3 : Tryz.prog.underlying 5 = some (.int .u8) := Tryz.underlying5
  have hs : (sizeOf 5).run Tryz.prog W = .ok 1 W := by
    obtain ⟨j, hq, _⟩ := infoByte
    rw [run_sizeOf W hq, show Tryz.prog.cellsOf 5 = 1 from by kernel_rfl]
  have hp : (Go.part 5 cs i).run Tryz.prog W = .ok (.int .u8 (a.toNat : Int)) W := by simp [Go.part, isAgg, run_underlying h3, h]
  have hii : (0 : Int) ≤ (i : Int) ∧ (i : Int) < (len : Int) := by omega
  simp [Instr.index, asIntOf, run_underlying hT, hii, hs, hp]
  intro h2
  omega
theorem u8A_get8 {l : List UInt8} {i : Nat} (h : i < l.length) : (u8A l)[i]? = some (.int .u8 (l[i].toNat : Int)) := by
  simp [u8A, Lib.byteCells, h]
theorem digs_byte (b : UInt8) : wots.digsN b.toNat 2 = [b.toNat / 16, b.toNat % 16] := by
  have := b.toNat_lt
  rw [wots.digsN_two, Nat.mod_eq_of_lt (by omega)]
theorem digs_chk {l : List Nat} (h : wots.csum l ≤ 960) : wots.digsN (wots.csum l) 3 = wots.chk l := by
  rw [wots.digsN_three, Nat.mod_eq_of_lt (a := wots.csum l / 256) (by omega)]
  rfl
theorem hexD_take (h : List UInt8) (i : Nat) (hi : i < h.length) : wots.hexD (h.take (i + 1)) = wots.hexD (h.take i) ++ wots.digsN (h[i]).toNat 2 := by
  rw [List.take_succ_eq_append_getElem hi, wots.hexD_snoc, digs_byte]
theorem csum_take (l : List Nat) (i : Nat) (hi : i < l.length) : wots.csum (l.take (i + 1)) = wots.csum (l.take i) + (15 - l[i]) := by
  rw [List.take_succ_eq_append_getElem hi, wots.csum_snoc]
set_option maxRecDepth 100000 in
set_option maxHeartbeats 8000000 in
theorem pdigof_any (h : List UInt8) (w : World) (hh : h.length = 32) :
    Calls Tryz.prog 133 #[.agg (u8A h)] w fun e w' => ∃ v, e = .returned v ∧ OwnD w' w.heap.size v (digH h) ∧ Below w.heap.size w w' := by
  obtain ⟨X, hX⟩ : ∃ x, u8A h = x := ⟨_, rfl⟩
  have HXS := Lib.hid (show X.size = 32 by rw [← hX, u8A_size]; exact hh)
  have HXI := Lib.hid (fun (i : Nat) (hi : i < h.length) => (show X[i]? = some (.int .u8 (h[i].toNat : Int)) by rw [← hX]; exact u8A_get8 hi))
  have HXL := Lib.hid (wots.hexD_len h)
  have HH := Lib.hid hh
  have HSM := Lib.hid (wots.hexD_small h)
  rw [hX]
  clear hX
  have HAL := Lib.hid (show Below w.heap.size w (w.alloc (.cells X 44)) from (Below.refl _ _).alloc (Nat.le_refl _) _)
  have HB0 := Lib.hid (show Blk (w.alloc (.cells X 44)) w.heap.size X 44 from Blk.new _ _ _)
  go_enter Tryz.func133, Tryz.ntmps133
  go_upto_region 1 with fail
  generalize w.alloc (.cells X 44) = w1 at *
  go_wp2_with (with_reducible refine wpList_make_digs rfl _ _ rfl 67 (by omega) rfl rfl ?_)
  intro w2 hown2 hb2
  have HO2 := Lib.hid hown2
  replace HB0 := Lib.hid (HB0.out.below hb2 HB0.out.lt)
  have HB2 := Lib.hid hb2
  obtain ⟨b0, hb0⟩ : ∃ b, w1.heap.size = b := ⟨_, rfl⟩
  have HBZ := Lib.hid hb0
  rw [hb0] at HO2 HB2 ⊢
  have HB0W := Lib.hid (show b0 ≤ w2.heap.size by have := HB2.out.size; omega)
  have HWB := Lib.hid (show w.heap.size ≤ b0 by have := HAL.out.size; omega)
  clear hown2 hb2 hb0
  go_wp2_with (with_reducible refine wpList_load_blk rfl 44 (.tmp 1) rfl w.heap.size rfl 44 X _ HB0.out Tryz.underlying44 rfl (by rw [HXS.out]; kernel_rfl) ?_)
  go_loopw [3, 11] (fun v t wq => ∃ (i : Nat) (A : Option Addr) (L cc : Nat), i ≤ 32 ∧ t = .int .i64 (i : Int) ∧ v = .slice A L cc ∧ Hid (OwnD wq b0 (.slice A L cc) (wots.hexD (h.take i))) ∧ Hid (Below b0 w2 wq)) (fun _ t _ => 32 - (intOf t).toNat)
  case atStart => exact ⟨0, _, 0, 67, Nat.zero_le _, rfl, rfl, HO2, Lib.hid (Below.refl _ _)⟩
  case round =>
    clear HO2 HB0
    obtain ⟨i, A, L, cc, hi, rfl, rfl, HO, HBL⟩ := hrel
    have hszr : b0 ≤ wr.heap.size := Nat.le_trans HB0W.out HBL.out.size
    by_cases hlt : i < 32
    · have hii : (i : Int) < 32 := by omega
      have hil : i < h.length := by rw [HH.out]; exact hlt
      have hie := fun W => run_index_byte8 Tryz.underlying44 W X i hlt (HXI.out i hil)
      have HST := Lib.hid (hexD_take h i hil)
      have hb8 := (h[i]).toNat_lt
      obtain ⟨x, hx⟩ : ∃ x, (h[i]).toNat = x := ⟨_, rfl⟩
      rw [hx] at hie HST hb8
      have hlen : (wots.hexD (h.take i)).length ≤ 64 := by rw [wots.hexD_len, List.length_take]; omega
      have HAP := Lib.hid (show Calls Tryz.prog 143 #[.slice A L cc, .int .i64 (x : Int), .int .i64 2] wr fun e w' => ∃ v', e = .returned v' ∧ OwnD w' b0 v' (wots.hexD (h.take i) ++ wots.digsN x 2) ∧ Below b0 wr w' from pappdig_any HO.out hszr x 2 (by omega) (by omega) (by omega))
      clear hx HO hlen hil
      go_wp2_with fail
      with_reducible refine (HAP.out).mono ?_
      rintro e w3 ⟨v3, rfl, hown3, hb3⟩
      rw [← HST.out] at hown3
      obtain ⟨A3, c3, rfl, _, _⟩ := hown3.form rfl
      have HO3 := Lib.hid hown3
      have HB3 := Lib.hid (HBL.out.trans hb3)
      clear hown3 hb3 HAP HBL
      go_wp2_with fail
      go_roundw
      case rel => exact ⟨i + 1, A3, _, c3, hlt, by go_num, rfl, HO3, HB3⟩
      case measure => simp [intOf]; omega
    · obtain rfl : i = 32 := by omega
      have ht : h.take 32 = h := List.take_of_length_le (by rw [HH.out]; exact Nat.le_refl _)
      rw [ht] at HO
      have hL : L = 64 := by
        obtain ⟨_, _, e, _, _⟩ := HO.out.form rfl
        injection e with _ e2 _
        rw [e2, HXL.out, HH.out]
      subst hL
      have HD := Lib.hid HO.out.dv
      clear hi hlt
      go_wp2_with fail
      go_loopw [6, 21] (fun s t wq => ∃ i : Nat, i ≤ 64 ∧ t = .int .i64 (i : Int) ∧ s = .int .i64 ((wots.csum ((wots.hexD h).take i) : Nat) : Int) ∧ wr = wq) (fun _ t _ => 64 - (intOf t).toNat)
      case atStart => exact ⟨0, Nat.zero_le _, rfl, rfl, rfl⟩
      case round =>
        obtain ⟨i, hi, rfl, rfl, rfl⟩ := hrel
        by_cases hlt : i < 64
        · have hii : (i : Int) < 64 := by omega
          have hil : i < (wots.hexD h).length := by rw [HXL.out, HH.out]; exact hlt
          have HCT := Lib.hid (csum_take (wots.hexD h) i hil)
          have hd15 := HSM.out _ (List.getElem_mem hil)
          have hmx := wots.csum_max ((wots.hexD h).take i)
          rw [List.length_take] at hmx
          obtain ⟨b, off, rfl, hb, hcell⟩ := HD.out.at_ hlt
          have hg : (wots.hexD h).getD i 0 = (wots.hexD h)[i] := by simp [List.getD_eq_getElem?_getD, hil]
          rw [hg] at hcell
          generalize (wots.hexD h)[i] = d at *
          generalize wots.csum ((wots.hexD h).take i) = s at *
          obtain ⟨d2, hd2⟩ : ∃ z, 15 - d = z := ⟨_, rfl⟩
          rw [hd2] at HCT
          have hsub : (15 : Int) - (d : Int) = (d2 : Int) := by omega
          have hsb : s ≤ 2000 := by omega
          have hdb : d2 ≤ 15 := by omega
          clear hg hmx hd2
          go_wp2_with fail
          go_roundw
          case rel => exact ⟨i + 1, hlt, by go_num, by rw [HCT.out]; go_num, trivial⟩
          case measure => simp [intOf]; omega
        · obtain rfl : i = 64 := by omega
          have ht2 : (wots.hexD h).take 64 = wots.hexD h := List.take_of_length_le (by rw [HXL.out, HH.out]; exact Nat.le_refl _)
          rw [ht2]
          have hmx : wots.csum (wots.hexD h) ≤ 960 := by have := wots.csum_max (wots.hexD h); rw [HXL.out, HH.out] at this; exact this
          have HCK := Lib.hid (show wots.hexD h ++ wots.digsN (wots.csum (wots.hexD h)) 3 = digH h by rw [digs_chk hmx]; rfl)
          have HAP := Lib.hid (show Calls Tryz.prog 143 #[.slice A 64 cc, .int .i64 ((wots.csum (wots.hexD h) : Nat) : Int), .int .i64 3] wr fun e w' => ∃ v', e = .returned v' ∧ OwnD w' b0 v' (wots.hexD h ++ wots.digsN (wots.csum (wots.hexD h)) 3) ∧ Below b0 wr w' from pappdig_any HO.out hszr (wots.csum (wots.hexD h)) 3 (by omega) (by omega) (by rw [HXL.out, HH.out]; omega))
          generalize wots.csum (wots.hexD h) = s at *
          clear ht2 hmx hi hlt HD
          go_wp2_with fail
          with_reducible refine (HAP.out).mono ?_
          rintro e w4 ⟨v4, rfl, hown4, hb4⟩
          rw [HCK.out] at hown4
          obtain ⟨A4, c4, rfl, _, _⟩ := hown4.form rfl
          have HO4 := Lib.hid (hown4.base HWB.out)
          have HB4 := Lib.hid (HAL.out.trans ((show Below b0 w1 w4 from HB2.out.trans (HBL.out.trans hb4)).mono HWB.out))
          clear hown4 hb4 HAP
          go_wp2_with fail
          go_ret
          exact ⟨_, rfl, HO4.out, HB4.out⟩
set_option maxRecDepth 100000 in
set_option maxHeartbeats 4000000 in
theorem pdigits_any (A : Option Addr) (n c : Nat) (m : List UInt8) (w : World) (hn : m.length = n) (h1 : n ≤ 1000) (hc : n ≤ c) (hcm : c ≤ maxLen) (hr : Rd w w.heap.size A m) (htab : Pow10 w.heap.size w) :
    Calls Tryz.prog 118 #[.slice A n c] w fun e w' => ∃ v, e = .returned v ∧ OwnD w' w.heap.size v (digH (msgH m)) ∧ Below w.heap.size w w' := by
  obtain ⟨Z, hZ⟩ : ∃ Z, u8A (msgH m) = Z := ⟨_, rfl⟩
  have HZ := Lib.hid hZ
  have hal : Below w.heap.size w (w.alloc (.cells #[.slice A n c] 35)) := (Below.refl _ _).alloc (Nat.le_refl _) _
  have HT := Lib.hid (show Calls Tryz.prog 134 #[.string ⟨#[109, 115, 103]⟩, .slice (some ⟨w.heap.size, 0, none⟩) 1 1] (w.alloc (.cells #[.slice A n c] 35)) fun e w' => e = .returned (.agg Z) ∧ Below (w.alloc (.cells #[.slice A n c] 35)).heap.size (w.alloc (.cells #[.slice A n c] 35)) w' by
    rw [← hZ]
    exact tagged_any [109, 115, 103] (some ⟨w.heap.size, 0, none⟩) 1 1 [m] (w.alloc (.cells #[.slice A n c] 35)) (by decide) rfl (by decide) (fun r hr => by
      simp at hr
      subst hr
      omega) (rdr_leaf w A hn hc hcm hr) (tab_on htab hal hal.size))
  have HDO := Lib.hid (fun W => (show Calls Tryz.prog 133 #[.agg Z] W fun e w' => ∃ v, e = .returned v ∧ OwnD w' W.heap.size v (digH (msgH m)) ∧ Below W.heap.size W w' from by
    rw [← hZ]
    exact pdigof_any (msgH m) W (msgH_len m)))
  have HDL := Lib.hid (digH_len (msgH_len m))
  have HAL := Lib.hid hal
  generalize digH (msgH m) = D at *
  clear hZ hal hr htab
  go_enter Tryz.func118, Tryz.ntmps118
  go_wp2_with fail
  with_reducible refine (HT.out).mono ?_
  rintro e w3 ⟨rfl, hb3⟩
  have HB3 := Lib.hid (HAL.out.trans (hb3.mono HAL.out.size))
  clear hb3 HT HAL
  go_wp2_with fail
  with_reducible refine (HDO.out w3).mono ?_
  rintro e w4 ⟨v4, rfl, hown4, hb4⟩
  obtain ⟨A4, c4, rfl, _, _⟩ := hown4.form HDL.out
  have HO4 := Lib.hid (hown4.base HB3.out.size)
  have HB4 := Lib.hid (HB3.out.trans (hb4.mono HB3.out.size))
  clear hown4 hb4 HDO HB3
  go_wp2_with fail
  go_ret
  exact ⟨_, rfl, HO4.out, HB4.out⟩

theorem Blk.drew {w : World} {g : Nat} {cs : Array Value} {T : TypeId} (h : Blk w g cs T) : Blk w.drew g cs T := h
theorem hexD_take2 (h : List UInt8) (i : Nat) (hi : i < h.length) : wots.hexD (h.take (i + 1)) = wots.hexD (h.take i) ++ [(h[i]).toNat / 16, (h[i]).toNat % 16] := by
  rw [List.take_succ_eq_append_getElem hi, wots.hexD_snoc]
set_option maxRecDepth 100000 in
set_option maxHeartbeats 8000000 in
theorem rdigits_any (A : Option Addr) (n c : Nat) (m : List UInt8) (w : World) (hn : m.length = n) (h1 : n ≤ 1000) (hc : n ≤ c) (hcm : c ≤ maxLen) (hr : Rd w w.heap.size A m) :
    Calls Tryz.prog 101 #[.slice A n c] w fun e w' => ∃ v, e = .returned v ∧ OwnD w' w.heap.size v (digH (msgH m)) ∧ Below w.heap.size w w' := by
  have HH := Lib.hid (msgH_len m)
  have hal : Below w.heap.size w (w.alloc (.cells #[.slice A n c] 35)) := (Below.refl _ _).alloc (Nat.le_refl _) _
  have hT : Calls Tryz.prog 111 #[.string ⟨#[109, 115, 103]⟩, .slice (some ⟨w.heap.size, 0, none⟩) 1 1] (w.alloc (.cells #[.slice A n c] 35)) fun e w' => e = .returned (.agg (u8A (msgH m))) ∧ Below (w.alloc (.cells #[.slice A n c] 35)).heap.size (w.alloc (.cells #[.slice A n c] 35)) w' :=
    rtagged_any [109, 115, 103] (some ⟨w.heap.size, 0, none⟩) 1 1 [m] (w.alloc (.cells #[.slice A n c] 35)) (by decide) rfl (by decide) (fun r hr => by
      simp at hr
      subst hr
      omega) (rdr_leaf w A hn hc hcm hr)
  generalize msgH m = h at *
  obtain ⟨Z, hZ⟩ : ∃ Z, u8A h = Z := ⟨_, rfl⟩
  rw [hZ] at hT
  have HZS := Lib.hid (show Z.size = 32 by rw [← hZ, u8A_size]; exact HH.out)
  have HZO := Lib.hid (show Z.all (·.oneCell') = true by rw [← hZ]; exact u8A_one _)
  have HXI := Lib.hid (fun (i : Nat) (hi : i < h.length) => (show Z[i]? = some (.int .u8 (h[i].toNat : Int)) by rw [← hZ]; exact u8A_get8 hi))
  have HXL := Lib.hid (wots.hexD_len h)
  have HT := Lib.hid hT
  have HAL := Lib.hid hal
  clear hZ hal hr hT
  go_enter Tryz.func101, Tryz.ntmps101
  go_wp2_with fail
  with_reducible refine (HT.out).mono ?_
  rintro e w3 ⟨rfl, hb3⟩
  have HB3 := Lib.hid (HAL.out.trans (hb3.mono HAL.out.size))
  clear hb3 HT HAL
  go_upto_region 2 with (with_reducible refine wpList_store_blk rfl 44 (.tmp 3) (.tmp 9) rfl w3.heap.size Z rfl rfl 44 _ (Blk.new _ _ _) (by rw [HZS.out]; kernel_rfl) (by rw [HZS.out]; kernel_rfl) HZO.out ?_)
  generalize hw4 : World.setRow _ _ _ = w4
  have hal : Below w3.heap.size w3 w4 := by
    rw [← hw4]
    exact below_row ((Below.refl _ _).alloc (Nat.le_refl _) _) (by simp) (Nat.le_refl _) _
  have HBH := Lib.hid (show Blk w4 w3.heap.size Z 44 by
    rw [← hw4]
    exact (Blk.new _ _ _).row _)
  have HB4 := Lib.hid (HB3.out.trans (hal.mono HB3.out.size))
  obtain ⟨gh, hgh⟩ : ∃ g, w3.heap.size = g := ⟨_, rfl⟩
  rw [hgh] at HBH ⊢
  clear hal hw4 hgh HB3
  go_wp2_with fail
  go_loopw [4, 5, 10] (fun v s t wq => ∃ (i : Nat) (A : Option Addr) (L cc : Nat), i ≤ 32 ∧ t = .int .i64 (i : Int) ∧ s = .int .i64 ((wots.csum (wots.hexD (h.take i)) : Nat) : Int) ∧ v = .slice A L cc ∧ Hid (OwnD wq w4.heap.size (.slice A L cc) (wots.hexD (h.take i))) ∧ Hid (Below w4.heap.size w4 wq)) (fun _ _ t _ => 32 - (intOf t).toNat)
  case atStart => exact ⟨0, none, 0, 0, Nat.zero_le _, rfl, rfl, rfl, Lib.hid (OwnD.nil _ _), Lib.hid (Below.refl _ _)⟩
  case round =>
    obtain ⟨i, A, L, cc, hi, rfl, rfl, rfl, HO, HBL⟩ := hrel
    have hszr : w4.heap.size ≤ wr.heap.size := HBL.out.size
    have hsx := wots.csum_max (wots.hexD (h.take i))
    rw [wots.hexD_len, List.length_take, HH.out] at hsx
    by_cases hlt : i < 32
    · have hii : (i : Int) < 32 := by omega
      have hil : i < h.length := by rw [HH.out]; exact hlt
      have hcell := (HBH.out.below HBL.out HBH.out.lt).cell i
      rw [HXI.out i hil] at hcell
      have hce : ∀ W, Below w4.heap.size w4 W → W.cell? ⟨gh, i, none⟩ = some (.int .u8 ((h[i]).toNat : Int)) := fun W hW => by
        rw [(HBH.out.below hW HBH.out.lt).cell i]
        exact HXI.out i hil
      have HST := Lib.hid (hexD_take2 h i hil)
      have HCT := Lib.hid (show wots.csum (wots.hexD (h.take (i + 1))) = wots.csum (wots.hexD (h.take i)) + (15 - (h[i]).toNat / 16) + (15 - (h[i]).toNat % 16) by rw [hexD_take2 h i hil]; exact wots.csum_two _ _ _)
      have hb8 := (h[i]).toNat_lt
      obtain ⟨x, hx⟩ : ∃ x, (h[i]).toNat = x := ⟨_, rfl⟩
      rw [hx] at hcell HST HCT hb8 hce
      have HCE := Lib.hid hce
      obtain ⟨d1, hd1⟩ : ∃ d, x / 16 = d := ⟨_, rfl⟩
      obtain ⟨d2, hd2⟩ : ∃ d, x % 16 = d := ⟨_, rfl⟩
      rw [hd1, hd2] at HST HCT
      have hq : (x : Int) / 16 = (d1 : Int) := by omega
      have hr : (x : Int).tmod 16 = (d2 : Int) := by rw [Int.tmod_eq_emod_of_nonneg (by omega)]; omega
      have hw1 : IntKind.u8.wrap (d1 : Int) = (d1 : Int) := by rw [IntKind.wrap_u8]; omega
      have hw2 : IntKind.u8.wrap (d2 : Int) = (d2 : Int) := by rw [IntKind.wrap_u8]; omega
      have hw3 : IntKind.i64.wrap (d1 : Int) = (d1 : Int) := IntWalk.i64_in _ (by omega)
      have hw4 : IntKind.i64.wrap (d2 : Int) = (d2 : Int) := IntWalk.i64_in _ (by omega)
      have hd1b : d1 ≤ 15 := by omega
      have hd2b : d2 ≤ 15 := by omega
      have HLK := Lib.hid (show (wots.hexD (h.take i)).length + 2 ≤ 1000000 by rw [wots.hexD_len, List.length_take]; omega)
      generalize wots.csum (wots.hexD (h.take i)) = s at *
      have hs0 : s ≤ 1000 := by omega
      clear hx hd1 hd2 hil hsx hce
      have HAO := Lib.hid (fun W (hW : Below wr.heap.size wr W) => HO.out.on hW)
      have HOL := Lib.hid HO.out.lt
      have hK1 : Below wr.heap.size wr (wr.alloc (.cells #[.int .i64 (d1 : Int), .int .i64 (d2 : Int)] 3)) := (Below.refl _ _).alloc (Nat.le_refl _) _
      go_wp2_with fail
      go_region_held3 (fun W => W.cell? ⟨gh, i, none⟩ = some (.int .u8 (x : Int)))
        (first | go_keep | exact HCE.out _ (by assumption))
        (first
          | (refine step_append_digs rfl _ _ rfl w4.heap.size _ (wots.hexD (h.take i)) rfl (HAO.out _ (by first | exact hK1 | exact hK1.drew)) _ 3 2 [d1, d2] rfl (by omega) (Blk.drew (Blk.new wr _ _)) rfl HLK.out (by simp; omega) ?_
             intro v7 w7 hown7 hg7
             have hb7 : Below w4.heap.size w4 w7 := (HBL.out.trans (hK1.drew.mono hszr)).grown hg7 (by simp; omega) (fun k hk => HOL.out k hk)))
      rw [← HST.out] at hown7
      obtain ⟨A7, c7, rfl, _, _⟩ := hown7.form rfl
      have HO7 := Lib.hid hown7
      have HB7 := Lib.hid hb7
      have hc7 := HCE.out _ HB7.out
      obtain ⟨f1, hf1⟩ : ∃ f, 30 - d1 = f := ⟨_, rfl⟩
      obtain ⟨f2, hf2⟩ : ∃ f, f1 - d2 = f := ⟨_, rfl⟩
      obtain ⟨s2, hs2⟩ : ∃ f, s + f2 = f := ⟨_, rfl⟩
      have hw5 : IntKind.i64.wrap ((30 : Int) - (d1 : Int)) = (f1 : Int) := by rw [IntWalk.i64_in _ (by omega)]; omega
      have hw6 : IntKind.i64.wrap ((f1 : Int) - (d2 : Int)) = (f2 : Int) := by rw [IntWalk.i64_in _ (by omega)]; omega
      have hw7 : IntKind.i64.wrap ((s : Int) + (f2 : Int)) = (s2 : Int) := by rw [IntWalk.i64_in _ (by omega)]; omega
      have HS2 := Lib.hid (show wots.csum (wots.hexD (h.take (i + 1))) = s2 by rw [HCT.out]; omega)
      clear hown7 hg7 hb7 HO HBL HAO HOL hK1 hcell hf1 hf2 hs2
      go_wp2_with fail
      go_region_held3 (fun W => W.cell? ⟨gh, i, none⟩ = some (.int .u8 (x : Int)))
        (go_keep) (fail)
      go_wp2_with fail
      go_roundw
      case rel => exact ⟨i + 1, A7, _, c7, hlt, by go_num, by rw [HS2.out], rfl, Lib.hid (HO7.out.on ((Below.refl _ _).drew)), Lib.hid (HB7.out.drew)⟩
      case measure => simp [intOf]; omega
    · obtain rfl : i = 32 := by omega
      have ht : h.take 32 = h := List.take_of_length_le (by rw [HH.out]; exact Nat.le_refl _)
      rw [ht] at HO hsx ⊢
      have hL : L = 64 := by
        obtain ⟨_, _, e, _, _⟩ := HO.out.form rfl
        injection e with _ e2 _
        rw [e2, HXL.out, HH.out]
      subst hL
      have HCK := Lib.hid (show wots.hexD h ++ [wots.csum (wots.hexD h) / 256, wots.csum (wots.hexD h) / 16 % 16, wots.csum (wots.hexD h) % 16] = digH h from rfl)
      generalize wots.csum (wots.hexD h) = s at *
      obtain ⟨q1, hq1⟩ : ∃ d, s / 256 = d := ⟨_, rfl⟩
      obtain ⟨q0, hq0⟩ : ∃ d, s / 16 = d := ⟨_, rfl⟩
      obtain ⟨q2, hq2⟩ : ∃ d, q0 % 16 = d := ⟨_, rfl⟩
      obtain ⟨q3, hq3⟩ : ∃ d, s % 16 = d := ⟨_, rfl⟩
      rw [hq0, hq1, hq2, hq3] at HCK
      have hs1 : s ≤ 960 := by omega
      have e1 : (s : Int) / 256 = (q1 : Int) := by omega
      have e0 : (s : Int) / 16 = (q0 : Int) := by omega
      have e2 : (q0 : Int).tmod 16 = (q2 : Int) := by rw [Int.tmod_eq_emod_of_nonneg (by omega)]; omega
      have e3 : (s : Int).tmod 16 = (q3 : Int) := by rw [Int.tmod_eq_emod_of_nonneg (by omega)]; omega
      have b1 : q1 ≤ 15 := by omega
      have b0 : q0 ≤ 100 := by omega
      have hLK : (wots.hexD h).length + 3 ≤ 1000000 := by rw [HXL.out, HH.out]; omega
      have HLK := Lib.hid hLK
      have hK1 : Below wr.heap.size wr (wr.alloc (.cells #[.int .i64 (q1 : Int), .int .i64 (q2 : Int), .int .i64 (q3 : Int)] 3)) := (Below.refl _ _).alloc (Nat.le_refl _) _
      have HO2 := Lib.hid (HO.out.on hK1)
      have HNB := Lib.hid (show Blk (wr.alloc (.cells #[.int .i64 (q1 : Int), .int .i64 (q2 : Int), .int .i64 (q3 : Int)] 3)) wr.heap.size (nCells [q1, q2, q3]).toArray 3 from Blk.new _ _ _)
      have HB2 := Lib.hid (HBL.out.trans (hK1.mono hszr))
      have hsz2 : w4.heap.size ≤ (wr.alloc (.cells #[.int .i64 (q1 : Int), .int .i64 (q2 : Int), .int .i64 (q3 : Int)] 3)).heap.size := HB2.out.size
      clear hq0 hq1 hq2 hq3 hsx ht hLK hK1 HO HBL hi hlt
      go_wp2_with (at_builtin; refine wpList_append_digs rfl _ _ rfl w4.heap.size _ (wots.hexD h) rfl HO2.out wr.heap.size 3 3 [q1, q2, q3] rfl HNB.out rfl HLK.out hsz2 ?_)
      intro v3 w5 hown3 hg3
      rw [HCK.out] at hown3
      obtain ⟨A3, c3, rfl, _, _⟩ := hown3.form rfl
      have HB5 := Lib.hid (HB4.out.trans ((HB2.out.grown hg3 hsz2 (fun q hq => HO2.out.lt q hq)).mono HB4.out.size))
      have HO5 := Lib.hid (hown3.base HB4.out.size)
      clear hown3 hg3 HO2 HNB HB2 hsz2
      go_wp2_with fail
      go_ret
      exact ⟨_, rfl, HO5.out, HB5.out⟩

def stepT (h : List UInt8) : List UInt8 := netsL [[115, 116, 101, 112], h]
def stepH (h : List UInt8) : List UInt8 := shaL (stepT h)
theorem stepH_len (h : List UInt8) : (stepH h).length = 32 := outTo_len _ 8 (by omega)
theorem stepT_len (h : List UInt8) (hh : h.length = 32) : (stepT h).length ≤ 1000000 :=
  Nat.le_trans (nets_short [[115, 116, 101, 112], h] (by simp) (by
    intro r hr
    simp at hr
    rcases hr with rfl | rfl
    · decide
    · omega)) (by omega)
/-- n steps from a hash. -/
def alongH (n : Nat) (h : List UInt8) : List UInt8 := wots.along stepH n h
theorem alongH_len {h : List UInt8} (hh : h.length = 32) : ∀ n, (alongH n h).length = 32
  | 0 => hh
  | n + 1 => by rw [show alongH (n + 1) h = stepH (alongH n h) from wots.along_succ stepH n h]; exact stepH_len _
set_option maxRecDepth 100000 in
set_option maxHeartbeats 4000000 in
theorem rsteptext_any (h : List UInt8) (w : World) (hh : h.length = 32) :
    Calls Tryz.prog 136 #[.agg (u8A h)] w fun e w' => ∃ A c, e = .returned (.slice A (stepT h).length c) ∧ (stepT h).length ≤ c ∧ Rd w' w'.heap.size A (stepT h) ∧ Below w.heap.size w w' := by
  obtain ⟨X, hX⟩ : ∃ x, u8A h = x := ⟨_, rfl⟩
  have HX := Lib.hid hX
  rw [hX]
  clear hX
  have hal0 : Below w.heap.size w (w.alloc (.cells X 44)) := (Below.refl _ _).alloc (Nat.le_refl _) _
  have HA := Lib.hid (show Blk (w.alloc (.cells X 44)) w.heap.size (u8A h) 44 by rw [HX.out]; exact Blk.new w _ _)
  have HB2 := Lib.hid hal0
  clear hal0
  go_enter Tryz.func136, Tryz.ntmps136
  go_upto_region 1 with fail
  generalize w.alloc (.cells X 44) = w2 at *
  have HTX := Lib.hid (rtext_own [115, 116, 101, 112] (some ⟨w2.heap.size, 0, none⟩) 1 1 [h] (w2.alloc (.cells #[.slice (some ⟨w.heap.size, 0, none⟩) 32 32] 35)) (by decide) rfl (by decide) (fun r hr => by
    simp at hr
    subst hr
    omega) (rdr_leaf w2 _ hh (Nat.le_refl _) (by decide) (rd_of_blk HA.out)))
  have hal : Below w2.heap.size w2 (w2.alloc (.cells #[.slice (some ⟨w.heap.size, 0, none⟩) 32 32] 35)) := (Below.refl _ _).alloc (Nat.le_refl _) _
  have HB3 := Lib.hid (HB2.out.trans (hal.mono HB2.out.size))
  clear hal HB2 HA
  go_wp2_with fail
  with_reducible refine (HTX.out).mono ?_
  rintro e w4 ⟨v4, rfl, hown, hb⟩
  have hown2 : OwnM w4 w.heap.size 5 v4 (stepT h).length (stepT h) := by
    obtain ⟨hl, g, cap, cur, fz, e, hbs, rest⟩ := hown
    exact ⟨hl, g, cap, cur, fz, e, Nat.le_trans HB3.out.size hbs, rest⟩
  obtain ⟨g4, c4, rfl, hc4, _⟩ := ownM_form hown2
  have HR := Lib.hid hown2.rd
  have HC := Lib.hid hc4
  have HB4 := Lib.hid (HB3.out.trans (hb.mono HB3.out.size))
  clear hown hown2 hb HTX HB3 hc4
  go_wp2_with fail
  go_ret
  exact ⟨_, _, rfl, HC.out, HR.out, HB4.out⟩
set_option maxRecDepth 100000 in
set_option maxHeartbeats 4000000 in
theorem rstep_any (h : List UInt8) (w : World) (hh : h.length = 32) :
    Calls Tryz.prog 122 #[.agg (u8A h)] w fun e w' => e = .returned (.agg (u8A (stepH h))) ∧ Below w.heap.size w w' := by
  obtain ⟨X, hX⟩ : ∃ x, u8A h = x := ⟨_, rfl⟩
  obtain ⟨Z, hZ⟩ : ∃ x, u8A (stepH h) = x := ⟨_, rfl⟩
  have HX := Lib.hid hX
  have HZ := Lib.hid hZ
  have HZS := Lib.hid (show Z.size = 32 by rw [← hZ, u8A_size]; exact stepH_len h)
  have HZO := Lib.hid (show Z.all (·.oneCell') = true by rw [← hZ]; exact u8A_one _)
  rw [hX]
  clear hX hZ
  go_enter Tryz.func122, Tryz.ntmps122
  go_upto_region 1 with fail
  generalize hw3 : World.alloc _ _ = w3
  obtain ⟨g1, hg1⟩ : ∃ g, w.heap.size = g := ⟨_, rfl⟩
  obtain ⟨g2, hg2⟩ : ∃ g, w.heap.size + 1 = g := ⟨_, rfl⟩
  have hf : Blk w3 g1 X 44 ∧ (∃ rs, Blk w3 g2 rs 44 ∧ rs.size = 32) ∧ Below w.heap.size w w3 := by
    obtain ⟨Y, hw, hY⟩ : ∃ Y, w3 = (w.alloc (.cells X 44)).alloc (.cells Y 44) ∧ Y.size = 32 := ⟨_, hw3.symm, rfl⟩
    have e1 : (w.alloc (.cells X 44)).heap.size = w.heap.size + 1 := by simp
    rw [hw, ← hg1, ← hg2]
    refine ⟨(Blk.new w _ _).alloc _, ⟨Y, ?_, hY⟩, ((Below.refl _ _).alloc (Nat.le_refl _) _).alloc (by simp) _⟩
    rw [← e1]; exact Blk.new _ _ _
  have HRX := Lib.hid (range_of_blk (l := h) (by rw [HX.out]; exact hf.1))
  have HB2 := Lib.hid hf.2.1
  have HB3 := Lib.hid hf.2.2
  have HG := Lib.hid (show w.heap.size ≤ g2 by omega)
  have HNT := Lib.hid (show Calls Tryz.prog 136 #[.agg X] w3 fun e w' => ∃ A c, e = .returned (.slice A (stepT h).length c) ∧ (stepT h).length ≤ c ∧ Rd w' w'.heap.size A (stepT h) ∧ Below w3.heap.size w3 w' by
    rw [← HX.out]
    exact rsteptext_any h w3 hh)
  clear hf hw3
  rw [hg2, hg1]
  clear hg1 hg2
  go_wp2_with (with_reducible refine wpList_load_hash rfl (.tmp 1) rfl g1 0 rfl h hh HRX.out X HX.out ?_)
  with_reducible refine (HNT.out).mono ?_
  rintro e w4 ⟨A4, c4, rfl, hc4, hr4, hb4⟩
  obtain ⟨tl, htl⟩ : ∃ x, stepT h = x := ⟨_, rfl⟩
  have HTL := Lib.hid (show tl.length ≤ 1000000 by rw [← htl]; exact stepT_len h hh)
  rw [htl] at hr4 hc4 ⊢
  have HSU := Lib.hid (show Calls Tryz.prog 37 #[.slice A4 tl.length c4] w4 fun e w' => e = .returned (.agg Z) ∧ Below w4.heap.size w4 w' by
    have h := rsum_any A4 tl.length c4 tl w4 rfl HTL.out hr4
    rw [← HZ.out]
    unfold stepH
    rw [htl]
    exact h)
  obtain ⟨rs, hrs, hrz⟩ := HB2.out
  have HR4 := Lib.hid (hrs.below hb4 hrs.lt)
  have HRZ := Lib.hid hrz
  have HB4 := Lib.hid (HB3.out.trans (hb4.mono HB3.out.size))
  obtain ⟨q, hq⟩ : ∃ q, tl.length = q := ⟨_, rfl⟩
  rw [hq] at HSU ⊢
  clear hr4 hb4 hc4 HNT HB2 HB3 htl hq hrs hrz
  go_wp2_with fail
  with_reducible refine (HSU.out).mono ?_
  rintro e w5 ⟨rfl, hb5⟩
  have HR5 := Lib.hid (HR4.out.below hb5 HR4.out.lt)
  have HB5 := Lib.hid (HB4.out.trans (hb5.mono HB4.out.size))
  clear hb5 HR4 HB4 HSU
  go_wp2_with (with_reducible refine wpList_store_blk rfl 44 (.tmp 2) (.tmp 5) rfl g2 Z rfl rfl 44 rs HR5.out (by rw [HZS.out]; kernel_rfl) (by rw [HZS.out, HRZ.out]) HZO.out ?_)
  refine bodyPost_ret (v := .agg Z) (results_cell_row (p := 2) (ty := 44) (by kernel_rfl) _ _ g2 44 _ (0, 0) _ rfl (HR5.out.row Z) Tryz.underlying44 rfl (by rw [HZS.out]; kernel_rfl)) rfl ⟨by rw [HZ.out], below_row HB5.out HB5.out.size HG.out _⟩
set_option maxRecDepth 100000 in
set_option maxHeartbeats 4000000 in
theorem ralong_any (h : List UInt8) (n : Int) (w : World) (hh : h.length = 32) :
    Calls Tryz.prog 102 #[.agg (u8A h), .int .i64 n] w fun e w' => e = .returned (.agg (u8A (alongH (wots.clampS n) h))) ∧ Below w.heap.size w w' := by
  obtain ⟨X, hX⟩ : ∃ x, u8A h = x := ⟨_, rfl⟩
  have HX := Lib.hid hX
  obtain ⟨M, hM⟩ : ∃ m, wots.clampS n = m := ⟨_, rfl⟩
  have hM15 : M ≤ 15 := by rw [← hM]; unfold wots.clampS; split <;> (try split) <;> omega
  have HLT := Lib.hid (fun (i : Nat) => (show ((i : Int) < n ∧ (i : Int) < 15) ↔ i < M by
    rw [← hM]
    unfold wots.clampS
    split <;> (try split) <;> omega))
  rw [hX, hM]
  clear hX hM
  go_enter Tryz.func102, Tryz.ntmps102
  go_upto_region 1 with fail
  generalize hw3 : World.alloc _ _ = w3
  obtain ⟨g1, hg1⟩ : ∃ g, w.heap.size = g := ⟨_, rfl⟩
  obtain ⟨g2, hg2⟩ : ∃ g, w.heap.size + 1 = g := ⟨_, rfl⟩
  have hf : Blk w3 g1 X 44 ∧ (∃ rs, Blk w3 g2 rs 44 ∧ rs.size = 32) ∧ Below w.heap.size w w3 := by
    obtain ⟨Y, hw, hY⟩ : ∃ Y, w3 = (w.alloc (.cells X 44)).alloc (.cells Y 44) ∧ Y.size = 32 := ⟨_, hw3.symm, rfl⟩
    have e1 : (w.alloc (.cells X 44)).heap.size = w.heap.size + 1 := by simp
    rw [hw, ← hg1, ← hg2]
    refine ⟨(Blk.new w _ _).alloc _, ⟨Y, ?_, hY⟩, ((Below.refl _ _).alloc (Nat.le_refl _) _).alloc (by simp) _⟩
    rw [← e1]; exact Blk.new _ _ _
  have HB1 := Lib.hid (show Blk w3 g1 (u8A (alongH 0 h)) 44 by
    show Blk w3 g1 (u8A h) _
    rw [HX.out]
    exact hf.1)
  have HB2 := Lib.hid hf.2.1
  have HB3 := Lib.hid hf.2.2
  have HG := Lib.hid (show w.heap.size ≤ g1 ∧ g1 + 1 = g2 by omega)
  clear hf hw3
  rw [hg2, hg1]
  clear hg1 hg2
  go_wp2_with fail
  go_loopw [5] (fun t wq => ∃ i : Nat, i ≤ M ∧ t = .int .i64 (i : Int) ∧ Hid (Blk wq g1 (u8A (alongH i h)) 44) ∧ Hid (∃ rs, Blk wq g2 rs 44 ∧ rs.size = 32) ∧ Hid (Below w.heap.size w wq)) (fun t _ => M - (intOf t).toNat)
  case atStart => exact ⟨0, Nat.zero_le _, rfl, HB1, HB2, HB3⟩
  case round =>
    clear HB1 HB2 HB3
    obtain ⟨i, hi, rfl, HB1, HB2, HB3⟩ := hrel
    have hlen := alongH_len hh i
    by_cases hlt : i < M
    · obtain ⟨h1, h2⟩ := (HLT.out i).2 hlt
      have HSN := Lib.hid (show alongH (i + 1) h = stepH (alongH i h) from wots.along_succ stepH i h)
      have HRX := Lib.hid (range_of_blk HB1.out)
      generalize alongH i h = cur at *
      obtain ⟨C, hC⟩ : ∃ x, u8A cur = x := ⟨_, rfl⟩
      obtain ⟨Z, hZ⟩ : ∃ x, u8A (stepH cur) = x := ⟨_, rfl⟩
      have HC := Lib.hid hC
      have HZ := Lib.hid hZ
      have HZS := Lib.hid (show Z.size = 32 by rw [← hZ, u8A_size]; exact stepH_len _)
      have HZO := Lib.hid (show Z.all (·.oneCell') = true by rw [← hZ]; exact u8A_one _)
      have HCS := Lib.hid (show (u8A cur).size = 32 by rw [u8A_size]; exact hlen)
      have HST := Lib.hid (show Calls Tryz.prog 122 #[.agg C] wr fun e w' => e = .returned (.agg Z) ∧ Below wr.heap.size wr w' by
        rw [← hC, ← hZ]
        exact rstep_any cur wr hlen)
      clear hC hZ
      go_wp2_with (with_reducible refine wpList_load_hash rfl (.tmp 2) rfl g1 0 rfl cur hlen HRX.out C HC.out ?_)
      with_reducible refine (HST.out).mono ?_
      rintro e w5 ⟨rfl, hb5⟩
      have HB15 := Lib.hid (HB1.out.below hb5 HB1.out.lt)
      have HN1 := Lib.hid (show Blk (w5.setRow g1 Z) g1 (u8A (alongH (i + 1) h)) 44 by
        rw [HSN.out, HZ.out]
        exact HB15.out.row Z)
      have HN2 := Lib.hid (show ∃ rs, Blk (w5.setRow g1 Z) g2 rs 44 ∧ rs.size = 32 by
        obtain ⟨rs, h3, h4⟩ := HB2.out
        exact ⟨rs, (h3.below hb5 h3.lt).rowOther (by have := HG.out.2; omega) _, h4⟩)
      have hb15 := HB3.out.trans (hb5.mono HB3.out.size)
      have HN3 := Lib.hid (below_row hb15 hb15.size HG.out.1 Z)
      clear hb5 hb15 HST HRX HB1 HB2 HB3
      go_wp2_with (with_reducible refine wpList_store_blk rfl 44 (.tmp 2) (.tmp 16) rfl g1 Z rfl rfl 44 (u8A cur) HB15.out (by rw [HZS.out]; kernel_rfl) (by rw [HZS.out]; exact HCS.out) HZO.out ?_)
      go_roundw
      case rel => exact ⟨i + 1, hlt, by go_num, HN1, HN2, HN3⟩
      case measure => simp [intOf]; omega
    · obtain rfl : M = i := by omega
      have hno : ¬ ((M : Int) < n ∧ (M : Int) < 15) := fun h => hlt ((HLT.out M).1 h)
      have HRX := Lib.hid (range_of_blk HB1.out)
      have HCU := Lib.hid (show ∃ c, alongH M h = c from ⟨_, rfl⟩)
      obtain ⟨cur, hcur⟩ := HCU.out
      replace HCU := Lib.hid hcur
      rw [hcur] at hlen HRX
      clear hcur
      obtain ⟨C, hC⟩ : ∃ x, u8A cur = x := ⟨_, rfl⟩
      have HC := Lib.hid hC
      have HZS := Lib.hid (show C.size = 32 by rw [← hC, u8A_size]; exact hlen)
      have HZO := Lib.hid (show C.all (·.oneCell') = true by rw [← hC]; exact u8A_one _)
      obtain ⟨rs, hrs, hrz⟩ := HB2.out
      have HRS := Lib.hid hrs
      have HRZ := Lib.hid hrz
      clear hC hrs hrz HB1 HB2
      by_cases h1 : (M : Int) < n
      · have h2 : ¬ (M : Int) < 15 := fun h => hno ⟨h1, h⟩
        clear hno
        go_wp2_with (first
          | (with_reducible refine wpList_load_hash rfl (.tmp 2) rfl g1 0 rfl cur hlen HRX.out C HC.out ?_)
          | (with_reducible refine wpList_store_blk rfl 44 (.tmp 4) (.tmp 17) rfl g2 C rfl rfl 44 rs HRS.out (by rw [HZS.out]; kernel_rfl) (by rw [HZS.out, HRZ.out]) HZO.out ?_))
        refine bodyPost_ret (v := .agg C) (results_cell_row (p := 4) (ty := 44) (by kernel_rfl) _ _ g2 44 _ (0, 0) _ rfl (HRS.out.row C) Tryz.underlying44 rfl (by rw [HZS.out]; kernel_rfl)) rfl ⟨by rw [HCU.out, HC.out], below_row HB3.out HB3.out.size (by have := HG.out; omega) _⟩
      · clear hno
        go_wp2_with (first
          | (with_reducible refine wpList_load_hash rfl (.tmp 2) rfl g1 0 rfl cur hlen HRX.out C HC.out ?_)
          | (with_reducible refine wpList_store_blk rfl 44 (.tmp 4) (.tmp 17) rfl g2 C rfl rfl 44 rs HRS.out (by rw [HZS.out]; kernel_rfl) (by rw [HZS.out, HRZ.out]) HZO.out ?_))
        refine bodyPost_ret (v := .agg C) (results_cell_row (p := 4) (ty := 44) (by kernel_rfl) _ _ g2 44 _ (0, 0) _ rfl (HRS.out.row C) Tryz.underlying44 rfl (by rw [HZS.out]; kernel_rfl)) rfl ⟨by rw [HCU.out, HC.out], below_row HB3.out HB3.out.size (by have := HG.out; omega) _⟩

/-- The value is a slice that reads as the bytes, its room bounded. -/
def Spec.byc (n : Nat) (l : List UInt8) : Spec := .any (fun v w => ∃ X c, v = .slice X n c ∧ n ≤ c ∧ c ≤ maxLen ∧ Rd w w.heap.size X l) (fun _ _ _ h hb => by
  obtain ⟨X, c, h1, h2, h3, h4⟩ := h
  exact ⟨X, c, h1, h2, h3, (h4.below hb (Nat.le_refl _)).more hb.size⟩)
theorem rdr_start (w : World) (A B C : Option Addr) {n1 n2 n3 c1 c2 c3 : Nat} {l1 l2 l3 : List UInt8} (h1 : l1.length = n1) (h2 : l2.length = n2) (h3 : l3.length = n3) (a1 : n1 ≤ c1) (b1 : c1 ≤ maxLen) (a2 : n2 ≤ c2) (b2 : c2 ≤ maxLen) (a3 : n3 ≤ c3) (b3 : c3 ≤ maxLen)
    (r1 : Rd w w.heap.size A l1) (r2 : Rd w w.heap.size B l2) (r3 : Rd w w.heap.size C l3) :
    RdR (w.alloc (.cells #[.slice A n1 c1, .slice B n2 c2, .slice C n3 c3] 35)) (w.alloc (.cells #[.slice A n1 c1, .slice B n2 c2, .slice C n3 c3] 35)).heap.size (some ⟨w.heap.size, 0, none⟩) [l1, l2, l3] := by
  subst h1 h2 h3
  have hal : Below w.heap.size w (w.alloc (.cells #[.slice A l1.length c1, .slice B l2.length c2, .slice C l3.length c3] 35)) := (Below.refl _ _).alloc (Nat.le_refl _) _
  have hblk := Blk.new w #[.slice A l1.length c1, .slice B l2.length c2, .slice C l3.length c3] 35
  refine .inr ⟨w.heap.size, 0, rfl, hblk.lt, fun i hi => ?_⟩
  rw [Nat.zero_add]
  match i, hi with
  | 0, _ => exact ⟨A, c1, hblk.cell 0, a1, b1, (r1.below hal (Nat.le_refl _)).more hal.size⟩
  | 1, _ => exact ⟨B, c2, hblk.cell 1, a2, b2, (r2.below hal (Nat.le_refl _)).more hal.size⟩
  | 2, _ => exact ⟨C, c3, hblk.cell 2, a3, b3, (r3.below hal (Nat.le_refl _)).more hal.size⟩
def put4 (n : Int) : List UInt8 := putL (putN n) 4
theorem put4_len (n : Int) : (put4 n).length = 4 := putL_length _ _
def startH (sd : List UInt8) (leaf chain : Int) : List UInt8 := shaL (netsL [[115, 116, 97, 114, 116], sd, put4 leaf, put4 chain])
theorem startH_len (sd : List UInt8) (leaf chain : Int) : (startH sd leaf chain).length = 32 := outTo_len _ 8 (by omega)
theorem rput4 (n : Int) (w : World) (hn : n ≤ 9223372036854775807) : Calls Tryz.prog 49 #[.int .i64 n, .int .i64 4] w fun e w' => ∃ A c, e = .returned (.slice A 4 c) ∧ 4 ≤ c ∧ c ≤ maxLen ∧ Rd w' w'.heap.size A (put4 n) ∧ Below w.heap.size w w' :=
  (rput_any n 4 w hn).mono fun _ _ ⟨A, c, he, ho, hb⟩ => by
    have e4 : putW 4 = 4 := rfl
    rw [e4] at he ho
    obtain ⟨A', c', e, h1, h2⟩ := own_caps ho
    injection e with e1 e2 e3
    subst e1 e3
    exact ⟨A, c, he, h1, h2, Rd.of_own ho, hb⟩
set_option maxRecDepth 100000 in
set_option maxHeartbeats 4000000 in
theorem rstart_any (sd : List UInt8) (leaf chain : Int) (w : World) (hs : sd.length = 16) (hl : leaf ≤ 9223372036854775807) (hc : chain ≤ 9223372036854775807) :
    Calls Tryz.prog 113 #[.agg (u8A sd), .int .i64 leaf, .int .i64 chain] w fun e w' => e = .returned (.agg (u8A (startH sd leaf chain))) ∧ Below w.heap.size w w' := by
  obtain ⟨X, hX⟩ : ∃ x, u8A sd = x := ⟨_, rfl⟩
  obtain ⟨Z, hZ⟩ : ∃ x, u8A (startH sd leaf chain) = x := ⟨_, rfl⟩
  obtain ⟨pa, hpa⟩ : ∃ x, put4 leaf = x := ⟨_, rfl⟩
  obtain ⟨pb, hpb⟩ : ∃ x, put4 chain = x := ⟨_, rfl⟩
  have HX := Lib.hid hX
  have HZ := Lib.hid hZ
  have HSL := Lib.hid hs
  have HZS := Lib.hid (show Z.size = 32 by rw [← hZ, u8A_size]; exact startH_len _ _ _)
  have HZO := Lib.hid (show Z.all (·.oneCell') = true by rw [← hZ]; exact u8A_one _)
  have HPL := Lib.hid (show pa.length = 4 ∧ pb.length = 4 by rw [← hpa, ← hpb]; exact ⟨put4_len _, put4_len _⟩)
  have HPA := Lib.hid (fun W => (show Calls Tryz.prog 49 #[.int .i64 leaf, .int .i64 4] W fun e w' => ∃ A c, e = .returned (.slice A 4 c) ∧ 4 ≤ c ∧ c ≤ maxLen ∧ Rd w' w'.heap.size A pa ∧ Below W.heap.size W w' from by rw [← hpa]; exact rput4 leaf W hl))
  have HPB := Lib.hid (fun W => (show Calls Tryz.prog 49 #[.int .i64 chain, .int .i64 4] W fun e w' => ∃ A c, e = .returned (.slice A 4 c) ∧ 4 ≤ c ∧ c ≤ maxLen ∧ Rd w' w'.heap.size A pb ∧ Below W.heap.size W w' from by rw [← hpb]; exact rput4 chain W hc))
  have HTG := Lib.hid (fun g W (hr : RdR W W.heap.size (some ⟨g, 0, none⟩) [sd, pa, pb]) => (show Calls Tryz.prog 111 #[.string ⟨#[115, 116, 97, 114, 116]⟩, .slice (some ⟨g, 0, none⟩) 3 3] W fun e w' => e = .returned (.agg Z) ∧ Below W.heap.size W w' from by
    have h := rtagged_any [115, 116, 97, 114, 116] (some ⟨g, 0, none⟩) 3 3 [sd, pa, pb] W (by decide) rfl (by decide) (fun r hr2 => by
      have h1 := HPL.out.1
      have h2 := HPL.out.2
      simp at hr2
      rcases hr2 with rfl | rfl | rfl <;> omega) hr
    rw [← hZ]
    unfold startH
    rw [hpa, hpb]
    exact h))
  rw [hX]
  clear hX hpa hpb
  go_enter Tryz.func113, Tryz.ntmps113
  go_upto_region 1 with fail
  generalize hw3 : World.alloc _ _ = w3
  obtain ⟨g1, hg1⟩ : ∃ g, w.heap.size = g := ⟨_, rfl⟩
  obtain ⟨g2, hg2⟩ : ∃ g, w.heap.size + 1 = g := ⟨_, rfl⟩
  have hf : Blk w3 g1 X 23 ∧ (∃ rs, Blk w3 g2 rs 44 ∧ rs.size = 32) ∧ Below w.heap.size w w3 := by
    obtain ⟨Y, hw, hY⟩ : ∃ Y, w3 = (w.alloc (.cells X 23)).alloc (.cells Y 44) ∧ Y.size = 32 := ⟨_, hw3.symm, rfl⟩
    have e1 : (w.alloc (.cells X 23)).heap.size = w.heap.size + 1 := by simp
    rw [hw, ← hg1, ← hg2]
    refine ⟨(Blk.new w _ _).alloc _, ⟨Y, ?_, hY⟩, ((Below.refl _ _).alloc (Nat.le_refl _) _).alloc (by simp) _⟩
    rw [← e1]; exact Blk.new _ _ _
  have hbx : Blk w3 g1 (u8A sd) 23 := by rw [HX.out]; exact hf.1
  have HSR := Lib.hid (fun W (h : Below w3.heap.size w3 W) => (show Rd W W.heap.size (some ⟨g1, 0, none⟩) sd from rd_of_blk (hbx.below h hbx.lt)))
  obtain ⟨rs, hrs, hrz⟩ := hf.2.1
  have HB2 := Lib.hid hrs
  have HRZ := Lib.hid hrz
  have HB3 := Lib.hid hf.2.2
  have HG := Lib.hid (show w.heap.size ≤ g2 by omega)
  clear hf hw3 hbx hrs hrz hZ
  rw [hg2, hg1]
  clear hg1 hg2
  refine wp_region_loose 7 1 (fun i => false) (promises [.is (.slice (some ⟨g1, 0, none⟩) 16 16), .is (.int .i64 leaf), .byc 4 pa, .is (.int .i64 chain), .byc 4 pb, .rows 3 [sd, pa, pb], .is (.agg Z)]) (by kernel_rfl) rfl (by kernel_rfl) (fun i v w w' h hb => Spec.keep h hb) ⟨?_, ?_, ?_, ?_, ?_, ?_, ?_, trivial⟩ ?_
  · refine StepOKl.of ?_
    intro ac w hb hu hk
    refine ⟨wanted_none rfl, ?_⟩
    have e3 : ac.eval (.tmp 3) = .pointer (some ⟨g1, 0, none⟩) := hu.is (t := 3) (by kernel_rfl)
    refine step_value (w' := w) (v := .slice (some ⟨g1, 0, none⟩) 16 16) ?_ (Below.refl _ _) rfl
    generalize ac.eval = ρ at e3 ⊢
    go_simp
  · refine StepOKl.of ?_
    intro ac w hb hu hk
    refine ⟨wanted_none rfl, ?_⟩
    have e1 : ac.eval (.tmp 1) = .int .i64 leaf := hu.is (t := 1) (by kernel_rfl)
    exact step_value (BigFrame.run_move (.tmp 1) rfl w) (Below.refl _ _) e1
  · refine StepOKl.of ?_
    intro ac w hb hu hk
    refine ⟨wanted_none rfl, ?_⟩
    have e8 : ac.eval (.tmp 8) = (.int .i64 leaf) := (hk ⟨1, .data⟩ (by simp) rfl).is rfl rfl
    have ef : ac.eval (.func 49) = .func (.func 49) #[] #[] := rfl
    have ec : ac.eval (.const (.int .i64 4)) = .int .i64 4 := rfl
    refine step_enter (f := 49) (args := #[.int .i64 leaf, .int .i64 4]) ?_ ?_
    · generalize ac.eval = ρ at e8 ec ef ⊢
      go_simp
    · exact (HPA.out w).mono fun e w' ⟨A, c, he, hc, hm, hr, hq⟩ => ⟨_, he, ⟨A, c, rfl, hc, hm, hr⟩, hq⟩
  · refine StepOKl.of ?_
    intro ac w hb hu hk
    refine ⟨wanted_none rfl, ?_⟩
    have e2 : ac.eval (.tmp 2) = .int .i64 chain := hu.is (t := 2) (by kernel_rfl)
    exact step_value (BigFrame.run_move (.tmp 2) rfl w) (Below.refl _ _) e2
  · refine StepOKl.of ?_
    intro ac w hb hu hk
    refine ⟨wanted_none rfl, ?_⟩
    have e10 : ac.eval (.tmp 10) = (.int .i64 chain) := (hk ⟨3, .data⟩ (by simp) rfl).is rfl rfl
    have ef : ac.eval (.func 49) = .func (.func 49) #[] #[] := rfl
    have ec : ac.eval (.const (.int .i64 4)) = .int .i64 4 := rfl
    refine step_enter (f := 49) (args := #[.int .i64 chain, .int .i64 4]) ?_ ?_
    · generalize ac.eval = ρ at e10 ec ef ⊢
      go_simp
    · exact (HPB.out w).mono fun e w' ⟨A, c, he, hc, hm, hr, hq⟩ => ⟨_, he, ⟨A, c, rfl, hc, hm, hr⟩, hq⟩
  · refine StepOKl.of ?_
    intro ac w hb hu hk
    refine ⟨wanted_none rfl, ?_⟩
    have e7 : ac.eval (.tmp 7) = (.slice (some ⟨g1, 0, none⟩) 16 16) := (hk ⟨0, .data⟩ (by simp) rfl).is rfl rfl
    have e9 : ∃ X c, ac.eval (.tmp 9) = .slice X 4 c ∧ 4 ≤ c ∧ c ≤ maxLen ∧ Rd w w.heap.size X pa := (hk ⟨2, .data⟩ (by simp) rfl).is rfl rfl
    have e11 : ∃ X c, ac.eval (.tmp 11) = .slice X 4 c ∧ 4 ≤ c ∧ c ≤ maxLen ∧ Rd w w.heap.size X pb := (hk ⟨4, .data⟩ (by simp) rfl).is rfl rfl
    obtain ⟨A, c, eA, hcA, hmA, hrA⟩ := e9
    obtain ⟨B, d, eB, hcB, hmB, hrB⟩ := e11
    refine step_value (w' := w.alloc (.cells #[.slice (some ⟨g1, 0, none⟩) 16 16, .slice A 4 c, .slice B 4 d] 35)) (v := .slice (some ⟨w.heap.size, 0, none⟩) 3 3) ?_ ((Below.refl _ _).alloc (Nat.le_refl _) _) ⟨w.heap.size, rfl, rdr_start w _ _ _ HSL.out HPL.out.1 HPL.out.2 (by decide) (by decide) hcA hmA hcB hmB (HSR.out w hb) hrA hrB⟩
    generalize ac.eval = ρ at e7 eA eB ⊢
    go_simp
  · refine StepOKl.of ?_
    intro ac w hb hu hk
    refine ⟨wanted_none rfl, ?_⟩
    have e12 : ∃ g, ac.eval (.tmp 12) = .slice (some ⟨g, 0, none⟩) 3 3 ∧ RdR w w.heap.size (some ⟨g, 0, none⟩) [sd, pa, pb] := (hk ⟨5, .data⟩ (by simp) rfl).is rfl rfl
    obtain ⟨g, eg, hr⟩ := e12
    have ef : ac.eval (.func 111) = .func (.func 111) #[] #[] := rfl
    have es : ac.eval (.const (.string ⟨#[115, 116, 97, 114, 116]⟩)) = .string ⟨#[115, 116, 97, 114, 116]⟩ := rfl
    refine step_enter (f := 111) (args := #[.string ⟨#[115, 116, 97, 114, 116]⟩, .slice (some ⟨g, 0, none⟩) 3 3]) ?_ ?_
    · generalize ac.eval = ρ at eg es ef ⊢
      go_simp
    · exact (HTG.out g w hr).mono fun e w' ⟨he, hq⟩ => ⟨_, he, rfl, hq⟩
  · intro ac w' hb hu hk hap
    obtain ⟨_, h7, rfl⟩ := (hk 0 (by decide)).put rfl rfl
    obtain ⟨_, h8, rfl⟩ := (hk 1 (by decide)).put rfl rfl
    obtain ⟨_, h9, ⟨X9, xc9, rfl, hxc9, hX9⟩⟩ := (hk 2 (by decide)).put rfl rfl
    obtain ⟨_, h10, rfl⟩ := (hk 3 (by decide)).put rfl rfl
    obtain ⟨_, h11, ⟨X11, xc11, rfl, hxc11, hX11⟩⟩ := (hk 4 (by decide)).put rfl rfl
    obtain ⟨_, h12, ⟨g12, rfl, hG12⟩⟩ := (hk 5 (by decide)).put rfl rfl
    obtain ⟨_, h13, rfl⟩ := (hk 6 (by decide)).put rfl rfl
    clear hap
    have hF : AllPuts ac.tmps ((7, _) :: (8, _) :: (9, _) :: (10, _) :: (11, _) :: (12, _) :: (13, _) :: []) := ⟨h7, h8, h9, h10, h11, h12, h13, trivial⟩
    obtain rfl := frame_puts hu (by kernel_rfl) hF
    simp only [puts, Act.put, List.setIfInBounds_toArray, List.set_cons_zero, List.set_cons_succ, List.drop_succ_cons, List.drop_zero]
    clear hk hu hF h7 h8 h9 h10 h11 h12 h13
    have HRS := Lib.hid (HB2.out.below hb HB2.out.lt)
    have HBE := Lib.hid (HB3.out.trans (hb.mono HB3.out.size))
    clear hb HPA HPB HTG HSR HB2 HB3
    go_wp2_with (with_reducible refine wpList_store_blk rfl 44 (.tmp 6) (.tmp 13) rfl g2 Z rfl rfl 44 rs HRS.out (by rw [HZS.out]; kernel_rfl) (by rw [HZS.out, HRZ.out]) HZO.out ?_)
    refine bodyPost_ret (v := .agg Z) (results_cell_row (p := 6) (ty := 44) (by kernel_rfl) _ _ g2 44 _ (0, 0) _ rfl (HRS.out.row Z) Tryz.underlying44 rfl (by rw [HZS.out]; kernel_rfl)) rfl ⟨by rw [HZ.out], below_row HBE.out HBE.out.size HG.out _⟩

def endsL (sd : List UInt8) (leaf : Int) (k : Nat) : List (List UInt8) := (List.range k).map fun (c : Nat) => alongH 15 (startH sd leaf (c : Int))
theorem endsL_len (sd : List UInt8) (leaf : Int) (k : Nat) : (endsL sd leaf k).length = k := by simp [endsL]
theorem endsL_snoc (sd : List UInt8) (leaf : Int) (k : Nat) : endsL sd leaf (k + 1) = endsL sd leaf k ++ [alongH 15 (startH sd leaf (k : Int))] := by simp [endsL, List.range_succ]
set_option maxRecDepth 100000 in
set_option maxHeartbeats 8000000 in
theorem rends_any (sd : List UInt8) (leaf : Int) (w : World) (hs : sd.length = 16) (hl : leaf ≤ 9223372036854775807) :
    Calls Tryz.prog 112 #[.agg (u8A sd), .int .i64 leaf] w fun e w' => ∃ v, e = .returned v ∧ OwnH w' w.heap.size v (endsL sd leaf 67) ∧ Below w.heap.size w w' := by
  obtain ⟨X, hX⟩ : ∃ x, u8A sd = x := ⟨_, rfl⟩
  have HX := Lib.hid hX
  have HXS := Lib.hid (show X.size = 16 by rw [← hX, u8A_size]; exact hs)
  rw [hX]
  clear hX
  have HAL := Lib.hid (show Below w.heap.size w (w.alloc (.cells X 23)) from (Below.refl _ _).alloc (Nat.le_refl _) _)
  have HB0 := Lib.hid (show Blk (w.alloc (.cells X 23)) w.heap.size X 23 from Blk.new _ _ _)
  go_enter Tryz.func112, Tryz.ntmps112
  go_upto_region 1 with fail
  generalize w.alloc (.cells X 23) = w1 at *
  go_wp2_with fail
  go_loopw [5, 6] (fun lv t wq => ∃ k : Nat, k ≤ 67 ∧ t = .int .i64 (k : Int) ∧ Hid (OwnH wq w1.heap.size lv (endsL sd leaf k)) ∧ Hid (Below w1.heap.size w1 wq)) (fun _ t _ => 67 - (intOf t).toNat)
  case atStart => exact ⟨0, Nat.zero_le _, rfl, Lib.hid (OwnH.nil _ _), Lib.hid (Below.refl _ _)⟩
  case round =>
    obtain ⟨k, hk, rfl, HO, HBL⟩ := hrel
    obtain ⟨A, c, rfl, hNc, _⟩ := HO.out.form (endsL_len sd leaf k)
    by_cases hlt : k < 67
    · have hki : (k : Int) < 67 := by omega
      obtain ⟨s0, hs0⟩ : ∃ x, startH sd leaf (k : Int) = x := ⟨_, rfl⟩
      obtain ⟨x, hx⟩ : ∃ x, alongH 15 s0 = x := ⟨_, rfl⟩
      have hsl : s0.length = 32 := by rw [← hs0]; exact startH_len _ _ _
      have HXL := Lib.hid (show x.length = 32 by rw [← hx]; exact alongH_len hsl 15)
      have HSN := Lib.hid (show endsL sd leaf (k + 1) = endsL sd leaf k ++ [x] by rw [endsL_snoc, hs0, hx])
      obtain ⟨S, hS⟩ : ∃ X, u8A s0 = X := ⟨_, rfl⟩
      obtain ⟨Y, hY⟩ : ∃ X, u8A x = X := ⟨_, rfl⟩
      have HYE := Lib.hid hY
      have HYZ := Lib.hid (show Y.size = 32 by rw [← hY, u8A_size]; exact HXL.out)
      have HLIM := Lib.hid (show (endsL sd leaf k).length ≤ 1000000 by rw [endsL_len]; omega)
      obtain ⟨wo, rfl⟩ : ∃ y : World, y = wr := ⟨_, rfl⟩
      have HB2 := Lib.hid (HB0.out.below HBL.out HB0.out.lt)
      have HST := Lib.hid (show Calls Tryz.prog 113 #[.agg X, .int .i64 leaf, .int .i64 (k : Int)] wo fun e w' => e = .returned (.agg S) ∧ Below wo.heap.size wo w' by
        rw [← HX.out, ← hS, ← hs0]
        exact rstart_any sd leaf (k : Int) wo hs hl (by omega))
      have HAG := Lib.hid (fun W => (show Calls Tryz.prog 102 #[.agg S, .int .i64 15] W fun e w' => e = .returned (.agg Y) ∧ Below W.heap.size W w' from by
        rw [← hS, ← hY, ← hx]
        exact ralong_any s0 15 W hsl))
      clear hs0 hx hS hY hsl
      go_wp2_with (with_reducible refine wpList_load_blk rfl 23 (.tmp 2) rfl w.heap.size rfl 23 X _ HB2.out Tryz.underlying23 rfl (by rw [HXS.out]; kernel_rfl) ?_)
      with_reducible refine (HST.out).mono ?_
      rintro e w3 ⟨rfl, hb3⟩
      have HB3 := Lib.hid hb3
      clear hb3 HST
      go_wp2_with fail
      with_reducible refine (HAG.out w3).mono ?_
      rintro e w4 ⟨rfl, hb4⟩
      have hb := HB3.out.trans (hb4.mono HB3.out.size)
      have hal5 : Below w4.heap.size w4 (w4.alloc (.cells Y 44)) := (Below.refl _ _).alloc (Nat.le_refl _) _
      have hb5 := hb.trans (hal5.mono hb.size)
      have HOW := Lib.hid (HO.out.on hb5)
      have HBZ := Lib.hid (show Blk (w4.alloc (.cells Y 44)) w4.heap.size (u8A x) 44 by
        rw [HYE.out]
        exact Blk.new _ _ _)
      have HBAL := Lib.hid (HBL.out.trans (hb5.mono HBL.out.size))
      have hle2 : w1.heap.size ≤ (w4.alloc (.cells Y 44)).heap.size := HBAL.out.size
      clear hb hb4 hal5 hb5 HAG HB3 HB2 HO HBL
      go_wp2_with (first
        | (with_reducible refine wpList_build_hash rfl (.tmp 16) rfl Y rfl HYZ.out ?_)
        | (at_builtin; refine wpList_append_hashG rfl _ _ rfl w1.heap.size _ (endsL sd leaf k) rfl HOW.out w4.heap.size x HXL.out HBZ.out rfl HLIM.out hle2 ?_))
      intro v7 w7 hown7 hg7
      rw [← HSN.out] at hown7
      have HB7 := Lib.hid (HBAL.out.grown hg7 hle2 (fun k hk => HOW.out.lt k hk))
      have HO7 := Lib.hid hown7
      clear hown7 hg7 HOW HBZ HBAL hle2
      go_wp2_with fail
      go_roundw
      case rel => exact ⟨k + 1, hlt, by go_num, HO7, HB7⟩
      case measure => simp [intOf]; omega
    · obtain rfl : k = 67 := by omega
      have HBE := Lib.hid (HAL.out.trans (HBL.out.mono HAL.out.size))
      have HOE := Lib.hid (show OwnH wr w.heap.size (.slice A 67 c) (endsL sd leaf 67) from ⟨HO.out.1, own_baseK HO.out.2 HAL.out.size⟩)
      clear HO HBL
      go_wp2_with fail
      go_ret
      exact ⟨_, rfl, HOE.out, HBE.out⟩

def pubT (hs : List (List UInt8)) : List UInt8 := netsL ([112, 117, 98, 108, 105, 99] :: hs)
theorem pubT_snoc (hs : List (List UInt8)) (x : List UInt8) : pubT (hs ++ [x]) = pubT hs ++ netL x := by simp [pubT, netsL]
theorem netL_len32 (x : List UInt8) (h : x.length = 32) : (netL x).length = 36 := by
  unfold netL
  simp only [List.length_append, h, List.length_cons, List.length_nil]
  rw [show (Lib.itoa ((32 : Nat) : Int)).length = 2 by decide +kernel]
theorem pubT_len (hs : List (List UInt8)) (h : ∀ r ∈ hs, r.length = 32) : (pubT hs).length = 9 + 36 * hs.length := by
  have e : ∀ l : List (List UInt8), (∀ r ∈ l, r.length = 32) → ((l.map netL).flatten).length = 36 * l.length := by
    intro l
    induction l with
    | nil => intro _; rfl
    | cons x r ih =>
      intro h
      rw [List.map_cons, List.flatten_cons, List.length_append, netL_len32 x (h x (List.mem_cons_self ..)), ih fun y hy => h y (List.mem_cons_of_mem _ hy), List.length_cons]
      omega
  unfold pubT netsL
  rw [List.map_cons, List.flatten_cons, List.length_append, e hs h]
  rw [show (netL [112, 117, 98, 108, 105, 99]).length = 9 by decide +kernel]
set_option maxRecDepth 100000 in
set_option maxHeartbeats 8000000 in
theorem rpubtext_any (A : Option Addr) (n c : Nat) (hs : List (List UInt8)) (w : World) (hn : hs.length = n) (h1 : n ≤ 1000) (hl : ∀ r ∈ hs, r.length = 32) (hr : RdH w w.heap.size A hs) :
    Calls Tryz.prog 69 #[.slice A n c] w fun e w' => ∃ A' c', e = .returned (.slice A' (pubT hs).length c') ∧ (pubT hs).length ≤ c' ∧ Rd w' w'.heap.size A' (pubT hs) ∧ Below w.heap.size w w' := by
  obtain ⟨i0, hi, hz0, hz1, hz2⟩ := info_parts info5
  have HN := Lib.hid hn
  have HL := Lib.hid hl
  have HR := Lib.hid hr
  have kc := fun (w : World) (C : Array Value) (n c : Nat) => Lib.run_convert_bytes_const (P := Tryz.prog) w 35 5 C n c Tryz.underlying35 Tryz.underlying5
  clear hn hl hr
  go_enter Tryz.func69, Tryz.ntmps69
  go_wp2_with fail
  have hal : Below w.heap.size w (w.alloc (.cells #[.int .u8 112, .int .u8 117, .int .u8 98, .int .u8 108, .int .u8 105, .int .u8 99] 5 (6, 7))) := (Below.refl _ _).alloc (Nat.le_refl _) _
  have HRT := Lib.hid (show Rd (w.alloc (.cells #[.int .u8 112, .int .u8 117, .int .u8 98, .int .u8 108, .int .u8 105, .int .u8 99] 5 (6, 7))) (w.alloc (.cells #[.int .u8 112, .int .u8 117, .int .u8 98, .int .u8 108, .int .u8 105, .int .u8 99] 5 (6, 7))).heap.size (some ⟨w.heap.size, 0, none⟩) [112, 117, 98, 108, 105, 99] from .inr ⟨w.heap.size, 0, rfl, by simp, fun i hi => by
    have hk := cell_of_row (w.alloc (.cells #[.int .u8 112, .int .u8 117, .int .u8 98, .int .u8 108, .int .u8 105, .int .u8 99] 5 (6, 7))) w.heap.size i #[.int .u8 112, .int .u8 117, .int .u8 98, .int .u8 108, .int .u8 105, .int .u8 99] 5 (6, 7) (heap_alloc_new w _)
    rw [Nat.zero_add, hk]
    match i, hi with
    | 0, _ => rfl
    | 1, _ => rfl
    | 2, _ => rfl
    | 3, _ => rfl
    | 4, _ => rfl
    | 5, _ => rfl⟩)
  have HAL := Lib.hid hal
  have HNT := Lib.hid (rnetM_any 6 6 _ [112, 117, 98, 108, 105, 99] _ rfl (by omega) HRT.out)
  clear hal kc HRT
  generalize w.alloc (.cells #[.int .u8 112, .int .u8 117, .int .u8 98, .int .u8 108, .int .u8 105, .int .u8 99] 5 (6, 7)) = w1 at *
  with_reducible refine (HNT.out).mono ?_
  rintro e w2 ⟨v2, rfl, hown2, hb2⟩
  have e0 : netL [112, 117, 98, 108, 105, 99] = pubT (hs.take 0) := by simp [pubT, netsL]
  rw [e0] at hown2
  obtain ⟨g2, c2, rfl, _, _⟩ := ownM_form hown2
  have HO2 := Lib.hid hown2
  have HB2 := Lib.hid (Below.refl w2.heap.size w2)
  have HBO := Lib.hid (HAL.out.trans (hb2.mono HAL.out.size))
  have HBX := Lib.hid (show w1.heap.size ≤ w2.heap.size ∧ w.heap.size ≤ w1.heap.size from ⟨hb2.size, HAL.out.size⟩)
  clear hown2 hb2 HNT HAL
  go_wp2_with fail
  go_loopw [3, 4, 10] (fun v _ t wq => ∃ (k L : Nat) (g cc : Nat), k ≤ n ∧ t = .int .i64 (k : Int) ∧ v = .slice (some ⟨g, 0, none⟩) L cc ∧ Hid ((pubT (hs.take k)).length = L) ∧ Hid (OwnM wq w1.heap.size 5 (.slice (some ⟨g, 0, none⟩) L cc) L (pubT (hs.take k))) ∧ Hid (Below w1.heap.size w2 wq)) (fun _ _ t _ => n - (intOf t).toNat)
  case atStart => exact ⟨0, _, g2, c2, Nat.zero_le _, rfl, rfl, Lib.hid rfl, HO2, Lib.hid (Below.refl _ _)⟩
  case round =>
    clear HO2 HB2
    obtain ⟨k, L, g, cc, hk, rfl, rfl, HLL, HO, HB⟩ := hrel
    have hbw : Below w.heap.size w wr := HBO.out.trans (HB.out.mono HBX.out.2)
    by_cases hlt : k < n
    · have hki : (k : Int) < (n : Int) := by omega
      have hk0 : (0 : Int) ≤ (k : Int) := by omega
      have hkl : k < hs.length := by rw [HN.out]; exact hlt
      obtain ⟨x, hx⟩ : ∃ x, hs[k] = x := ⟨_, rfl⟩
      have hxl : x.length = 32 := by rw [← hx]; exact HL.out _ (List.getElem_mem _)
      have HSN := Lib.hid (show pubT (hs.take (k + 1)) = pubT (hs.take k) ++ netL x by rw [List.take_succ_eq_append_getElem hkl, hx, pubT_snoc])
      have HL36 := Lib.hid (netL_len32 x hxl)
      have hpl := pubT_len (hs.take k) (fun r hr => HL.out r (List.mem_of_mem_take hr))
      rw [HLL.out, List.length_take, HN.out] at hpl
      have hL : L ≤ 40000 := by omega
      have hrq := HR.out.below hbw (Nat.le_refl _)
      rcases hrq with h0 | ⟨b, off, rfl, hbs, hcs⟩
      · rw [h0] at hkl; simp at hkl
      have hra := hcs k hkl
      rw [hx] at hra
      have hrd : Rd wr wr.heap.size (some ⟨b, off + k * 32, none⟩) x := .inr ⟨b, off + k * 32, rfl, Nat.lt_of_lt_of_le hbs hbw.size, fun j hj => hra j _ (by simp [Lib.byteCells, hj])⟩
      have HNX := Lib.hid (rnetM_any 32 32 _ x wr hxl (by omega) hrd)
      clear hra hcs hx hrd hpl
      go_wp2_with fail
      with_reducible refine (HNX.out).mono ?_
      rintro e w4 ⟨v4, rfl, hown4, hb4⟩
      rw [HL36.out] at hown4
      obtain ⟨g4, c4, rfl, _, _⟩ := ownM_form hown4
      have HR4 := Lib.hid hown4.rd
      have HO4 := Lib.hid (HO.out.on hb4)
      have hB4 : Below w1.heap.size w2 w4 := HB.out.trans (hb4.mono (Nat.le_trans HBX.out.1 HB.out.size))
      have hs4 : w1.heap.size ≤ w4.heap.size := Nat.le_trans HBX.out.1 hB4.size
      clear hown4 hb4 HNX HO HB hbw
      go_wp2_with (at_builtin; refine wpList_append_M rfl _ _ 35 rfl w1.heap.size 5 i0 Tryz.underlying35 hi hz0 hz1 hz2 _ _ (pubT (hs.take k)) rfl HO4.out _ (some ⟨g4, 0, none⟩) 36 c4 (netL x) rfl HL36.out HR4.out (by omega) hs4 ?_)
      intro v5 w5 hown5 hg5
      rw [← HSN.out] at hown5
      obtain ⟨g5, c5, rfl, _, _⟩ := ownM_form hown5
      have HB5 := Lib.hid (show Below w1.heap.size w2 w5 from hB4.grown hg5 hs4 (fun q hq => HO4.out.lt q hq))
      have HO5 := Lib.hid hown5
      have HL5 := Lib.hid hown5.1
      clear hown5 hg5 hB4 HO4 HR4 hs4
      go_wp2_with fail
      go_roundw
      case rel => exact ⟨k + 1, L + 36, g5, c5, hlt, by go_num, rfl, HL5, HO5, HB5⟩
      case measure => simp [intOf]; omega
    · obtain rfl : n = k := by omega
      have hki : ¬ (n : Int) < (n : Int) := by omega
      have HTA := Lib.hid (show hs.take n = hs from List.take_of_length_le (by rw [HN.out]; exact Nat.le_refl _))
      rw [HTA.out] at HO HLL
      have hcc : L ≤ cc := by
        obtain ⟨_, _, e, h, _⟩ := ownM_form HO.out
        injection e with _ _ e3
        omega
      have HC := Lib.hid hcc
      have HRE := Lib.hid HO.out.rd
      have HBE := Lib.hid hbw
      clear HO HB hbw hcc
      go_wp2_with fail
      go_ret
      exact ⟨some ⟨g, 0, none⟩, cc, by rw [HLL.out]; rfl, by rw [HLL.out]; exact HC.out, HRE.out, HBE.out⟩
/-- What a public hash is of given ends. -/
def pubH (hs : List (List UInt8)) : List UInt8 := shaL (pubT hs)
theorem pubH_len (hs : List (List UInt8)) : (pubH hs).length = 32 := outTo_len _ 8 (by omega)
set_option maxRecDepth 100000 in
set_option maxHeartbeats 8000000 in
theorem rpublic_any (sd : List UInt8) (leaf : Int) (w : World) (hs : sd.length = 16) (hl : leaf ≤ 9223372036854775807) :
    Calls Tryz.prog 82 #[.agg (u8A sd), .int .i64 leaf] w fun e w' => e = .returned (.agg (u8A (pubH (endsL sd leaf 67)))) ∧ Below w.heap.size w w' := by
  have HEA := Lib.hid (fun W => rends_any sd leaf W hs hl)
  have HEL := Lib.hid (endsL_len sd leaf 67)
  generalize endsL sd leaf 67 = E at *
  obtain ⟨X, hX⟩ : ∃ x, u8A sd = x := ⟨_, rfl⟩
  obtain ⟨Z, hZ⟩ : ∃ x, u8A (pubH E) = x := ⟨_, rfl⟩
  have HX := Lib.hid hX
  have HZ := Lib.hid hZ
  have HXS := Lib.hid (show X.size = 16 by rw [← hX, u8A_size]; exact hs)
  have HZS := Lib.hid (show Z.size = 32 by rw [← hZ, u8A_size]; exact pubH_len _)
  have HZO := Lib.hid (show Z.all (·.oneCell') = true by rw [← hZ]; exact u8A_one _)
  rw [hX]
  clear hX hZ
  go_enter Tryz.func82, Tryz.ntmps82
  go_upto_region 1 with fail
  generalize hw3 : World.alloc _ _ = w3
  obtain ⟨g1, hg1⟩ : ∃ g, w.heap.size = g := ⟨_, rfl⟩
  obtain ⟨g2, hg2⟩ : ∃ g, w.heap.size + 1 = g := ⟨_, rfl⟩
  have hf : Blk w3 g1 X 23 ∧ (∃ rs, Blk w3 g2 rs 44 ∧ rs.size = 32) ∧ Below w.heap.size w w3 := by
    obtain ⟨Y, hw, hY⟩ : ∃ Y, w3 = (w.alloc (.cells X 23)).alloc (.cells Y 44) ∧ Y.size = 32 := ⟨_, hw3.symm, rfl⟩
    have e1 : (w.alloc (.cells X 23)).heap.size = w.heap.size + 1 := by simp
    rw [hw, ← hg1, ← hg2]
    refine ⟨(Blk.new w _ _).alloc _, ⟨Y, ?_, hY⟩, ((Below.refl _ _).alloc (Nat.le_refl _) _).alloc (by simp) _⟩
    rw [← e1]; exact Blk.new _ _ _
  have HB1 := Lib.hid hf.1
  obtain ⟨rs, hrs, hrz⟩ := hf.2.1
  have HB2 := Lib.hid hrs
  have HRZ := Lib.hid hrz
  have HB3 := Lib.hid hf.2.2
  have HG := Lib.hid (show w.heap.size ≤ g2 by omega)
  have HEN := Lib.hid (show Calls Tryz.prog 112 #[.agg X, .int .i64 leaf] w3 fun e w' => ∃ v, e = .returned v ∧ OwnH w' w3.heap.size v E ∧ Below w3.heap.size w3 w' by
    rw [← HX.out]
    exact HEA.out w3)
  clear hf hw3 hrs hrz
  rw [hg2, hg1]
  clear hg1 hg2
  go_wp2_with (with_reducible refine wpList_load_blk rfl 23 (.tmp 2) rfl g1 rfl 23 X _ HB1.out Tryz.underlying23 rfl (by rw [HXS.out]; kernel_rfl) ?_)
  with_reducible refine (HEN.out).mono ?_
  rintro e w4 ⟨v4, rfl, hown, hb4⟩
  obtain ⟨A4, c4, rfl, _, _⟩ := hown.form HEL.out
  have hrd : RdH w4 w4.heap.size A4 E := by
    obtain ⟨_, X, d, e, _, h2⟩ := hown.hv
    injection e with e1 _ _
    subst e1
    exact h2
  have HPT := Lib.hid (rpubtext_any A4 67 c4 E w4 HEL.out (by omega) hown.1 hrd)
  replace HB2 := Lib.hid (HB2.out.below hb4 HB2.out.lt)
  replace HB3 := Lib.hid (HB3.out.trans (hb4.mono HB3.out.size))
  have HPL := Lib.hid (pubT_len E hown.1)
  clear hb4 hown hrd HEN HB1
  go_wp2_with fail
  with_reducible refine (HPT.out).mono ?_
  rintro e w5 ⟨A5, c5, rfl, hc5, hr5, hb5⟩
  obtain ⟨q, hq⟩ : ∃ q, (pubT E).length = q := ⟨_, rfl⟩
  rw [hq] at hc5 ⊢
  have HQ := Lib.hid (show q ≤ 1000000 by rw [← hq, HPL.out, HEL.out]; omega)
  have HSU := Lib.hid (show Calls Tryz.prog 37 #[.slice A5 q c5] w5 fun e w' => e = .returned (.agg Z) ∧ Below w5.heap.size w5 w' by
    rw [← HZ.out]
    exact rsum_any A5 q c5 (pubT E) w5 hq HQ.out hr5)
  replace HB2 := Lib.hid (HB2.out.below hb5 HB2.out.lt)
  replace HB3 := Lib.hid (HB3.out.trans (hb5.mono HB3.out.size))
  clear hb5 hr5 hc5 HPT HPL hq
  go_wp2_with fail
  with_reducible refine (HSU.out).mono ?_
  rintro e w6 ⟨rfl, hb6⟩
  replace HB2 := Lib.hid (HB2.out.below hb6 HB2.out.lt)
  replace HB3 := Lib.hid (HB3.out.trans (hb6.mono HB3.out.size))
  clear hb6 HSU
  go_wp2_with (with_reducible refine wpList_store_blk rfl 44 (.tmp 4) (.tmp 9) rfl g2 Z rfl rfl 44 rs HB2.out (by rw [HZS.out]; kernel_rfl) (by rw [HZS.out, HRZ.out]) HZO.out ?_)
  refine bodyPost_ret (v := .agg Z) (results_cell_row (p := 4) (ty := 44) (by kernel_rfl) _ _ g2 44 _ (0, 0) _ rfl (HB2.out.row Z) Tryz.underlying44 rfl (by rw [HZS.out]; kernel_rfl)) rfl ⟨by rw [HZ.out], below_row HB3.out HB3.out.size HG.out _⟩

theorem flat_take : ∀ (hs : List (List UInt8)), (∀ r ∈ hs, r.length = 32) → ∀ i, (hs.flatMap Lib.byteCells).take (i * 32) = (hs.take i).flatMap Lib.byteCells
  | [], _, i => by simp
  | x :: r, _, 0 => by simp
  | x :: r, hl, i + 1 => by
    have hx : (Lib.byteCells x).length = 32 := by rw [Lib.byteCells_length]; exact hl x (List.mem_cons_self ..)
    rw [List.flatMap_cons, List.take_succ_cons, List.flatMap_cons, List.take_append, List.take_of_length_le (by omega), hx, show (i + 1) * 32 - 32 = i * 32 by omega, flat_take r (fun y hy => hl y (List.mem_cons_of_mem _ hy)) i]
theorem flat_drop : ∀ (hs : List (List UInt8)), (∀ r ∈ hs, r.length = 32) → ∀ i, (hs.flatMap Lib.byteCells).drop (i * 32) = (hs.drop i).flatMap Lib.byteCells
  | [], _, i => by simp
  | x :: r, _, 0 => by simp
  | x :: r, hl, i + 1 => by
    have hx : (Lib.byteCells x).length = 32 := by rw [Lib.byteCells_length]; exact hl x (List.mem_cons_self ..)
    rw [List.flatMap_cons, List.drop_succ_cons, List.drop_append, List.drop_of_length_le (by omega), hx, show (i + 1) * 32 - 32 = i * 32 by omega, List.nil_append, flat_drop r (fun y hy => hl y (List.mem_cons_of_mem _ hy)) i]
/-- Hashes laid over others, from place i on. -/
def overH (hs : List (List UInt8)) (i : Nat) (ks : List (List UInt8)) : List (List UInt8) := hs.take i ++ (ks ++ hs.drop (i + ks.length))
theorem overH_len {hs : List (List UInt8)} {i : Nat} {ks : List (List UInt8)} (h : i + ks.length ≤ hs.length) : (overH hs i ks).length = hs.length := by simp [overH]; omega
theorem overH_hash {hs ks : List (List UInt8)} {i : Nat} (h1 : ∀ r ∈ hs, r.length = 32) (h2 : ∀ r ∈ ks, r.length = 32) : ∀ r ∈ overH hs i ks, r.length = 32 := fun r hr => by
  unfold overH at hr
  rcases List.mem_append.1 hr with hr | hr
  · exact h1 r (List.mem_of_mem_take hr)
  · rcases List.mem_append.1 hr with hr | hr
    · exact h2 r hr
    · exact h1 r (List.mem_of_mem_drop hr)
theorem overH_one {hs : List (List UInt8)} {i : Nat} {h : List UInt8} (hi : i < hs.length) : overH hs i [h] = hs.set i h := by
  unfold overH
  rw [List.set_eq_take_append_cons_drop, if_pos hi]
  rfl
theorem overH_head (hs ks : List (List UInt8)) : overH hs 0 ks = ks ++ hs.drop ks.length := by simp [overH]
theorem OwnH.over {w : World} {B g n c : Nat} {hs ks : List (List UInt8)} {i : Nat} (h : OwnH w B (.slice (some ⟨g, 0, none⟩) n c) hs) (hn : hs.length = n) (hk : ∀ r ∈ ks, r.length = 32) (hi : i + ks.length ≤ n) :
    ∃ cur, w.heap[g]? = some (.cells cur 44 (0, 0)) ∧ B ≤ g ∧ i * 32 + ks.length * 32 ≤ cur.size ∧ OwnH (w.setRow g (cur.toList.take (i * 32) ++ ks.flatMap Lib.byteCells ++ cur.toList.drop (i * 32 + ks.length * 32)).toArray) B (.slice (some ⟨g, 0, none⟩) n c) (overH hs i ks) := by
  subst hn
  rcases h.2.2 with ⟨e, _⟩ | ⟨g', cap, cur, e, h2, h3, h4, h5, h6, h7⟩
  · cases e
  · injection e with e1 e2 e3
    injection e1 with e1
    injection e1 with e1
    subst e1 e3
    have hle : hs.length * 32 ≤ c * 32 := by omega
    have hik : i * 32 + ks.length * 32 ≤ hs.length * 32 := by omega
    have hkl : (ks.flatMap Lib.byteCells).length = ks.length * 32 := flat_len ks hk
    have hlen : (overH hs i ks).length = hs.length := overH_len hi
    have hoh := overH_hash (i := i) h.1 hk
    refine ⟨cur, h3, h2, by omega, hoh, ?_, .inr ⟨g, c, _, by rw [hlen], h2, setRow_heap w g cur _ _ _ h3, by rw [hlen]; exact h4, h5, ?_, ?_⟩⟩
    · rw [flat_len _ hoh]
    · simp [hkl]
      omega
    · have hc : cur.toList = hs.flatMap Lib.byteCells ++ cur.toList.drop (hs.length * 32) := by
        rw [← h7, List.take_append_drop]
      have hfl : (hs.flatMap Lib.byteCells).length = hs.length * 32 := flat_len hs h.1
      generalize cur.toList.drop (hs.length * 32) = R at hc
      have hA : cur.toList.take (i * 32) = (hs.take i).flatMap Lib.byteCells := by
        rw [hc, List.take_append_of_le_length (by omega), flat_take hs h.1]
      have hB : cur.toList.drop (i * 32 + ks.length * 32) = (hs.drop (i + ks.length)).flatMap Lib.byteCells ++ R := by
        rw [hc, List.drop_append_of_le_length (by omega), ← Nat.add_mul, flat_drop hs h.1]
      have e : (hs.take i).flatMap Lib.byteCells ++ ks.flatMap Lib.byteCells ++ ((hs.drop (i + ks.length)).flatMap Lib.byteCells ++ R) = (overH hs i ks).flatMap Lib.byteCells ++ R := by
        simp [overH, List.flatMap_append]
      simp only
      rw [hA, hB, e, List.take_append_of_le_length (by rw [flat_len _ hoh]; exact Nat.le_refl _), List.take_of_length_le (by rw [flat_len _ hoh]; exact Nat.le_refl _)]
/-- A hash is stored in a row of one's own. -/
theorem run_store_own {w : World} {B g n c : Nat} {hs : List (List UInt8)} {i : Nat} (h : OwnH w B (.slice (some ⟨g, 0, none⟩) n c) hs) (hn : hs.length = n) (hi : i < n) (x : List UInt8) (hx : x.length = 32) :
    ∃ w', (Instr.storeAt 44 (.pointer (some ⟨g, i * 32, none⟩)) (.agg (u8A x))).run Tryz.prog w = .ok () w' ∧ OwnH w' B (.slice (some ⟨g, 0, none⟩) n c) (hs.set i x) ∧ w.grownBy w' (some g) ∧ B ≤ g := by
  obtain ⟨cur, h1, h2, h3, h4⟩ := h.over (ks := [x]) (i := i) hn (fun r hr => by rw [List.mem_singleton.1 hr]; exact hx) (by simp; omega)
  rw [overH_one (by omega)] at h4
  obtain ⟨j, z, hj, _, _, hsz, _⟩ := hash_parts
  have hcl : (Lib.byteCells x).length = 32 := by rw [Lib.byteCells_length, hx]
  have e : ([x] : List (List UInt8)).flatMap Lib.byteCells = Lib.byteCells x := by simp
  rw [e] at h4
  have hst := run_storeCells_at Tryz.prog g (i * 32) 44 (Lib.byteCells x) 0 cur w h1 (by simp at h3; omega) (Lib.byteCells_one x)
  rw [Nat.add_zero, hcl] at hst
  refine ⟨_, ?_, h4, setRow_grown w g _, h2⟩
  have hs2 : (u8A x).size = j.size := by rw [u8A_size, hx, hsz]
  have hl2 : (u8A x).toList = Lib.byteCells x := by simp [u8A]
  simp [Instr.storeAt, Instr.sureAddr, storeVar, sizeOf, typeInfo, hj, Value.cells, hs2, hl2, hst]
theorem wpList_store_own {w : World} {ops : Array Oper} {rest : List Oper} {o : Oper} {a : Act} {Q : Exit → Act → World → Prop} (hgd : o.guard = none) (p y : Operand) (ho : o.op = .store 44 p y)
    {B g n c : Nat} {hs : List (List UInt8)} {i : Nat} (h : OwnH w B (.slice (some ⟨g, 0, none⟩) n c) hs) (hn : hs.length = n) (hi : i < n) (x : List UInt8) (hx : x.length = 32) (X : Array Value) (hX : u8A x = X)
    (hp : a.eval p = .pointer (some ⟨g, i * 32, none⟩)) (hy : a.eval y = .agg X)
    (hk : ∀ w', OwnH w' B (.slice (some ⟨g, 0, none⟩) n c) (hs.set i x) → w.grownBy w' (some g) → B ≤ g → wpList Tryz.prog ops Q rest (a.put o.dst undef) w') : wpList Tryz.prog ops Q (o :: rest) a w := by
  subst hX
  obtain ⟨w', hrun, h1, h2, h3⟩ := run_store_own h hn hi x hx
  refine wpList_plain hgd fun K hK => ?_
  unfold Oper.wp execOp
  simp only [ho, hp, hy, Sem.run_bind, Sem.run_pure, Result.andThen_ok, hrun]
  exact hK _ _ (hk w' h1 h2 h3)
/-- Hashes are copied into a row of one's own, from its head on. -/
theorem run_copy_own {w : World} {B g n c : Nat} {hs ks : List (List UInt8)} (h : OwnH w B (.slice (some ⟨g, 0, none⟩) n c) hs) (hn : hs.length = n) (A : Option Addr) (m d C : Nat) (hm : ks.length = m) (hmn : m ≤ n) (hl : ∀ r ∈ ks, r.length = 32) (hr : RdH w C A ks) (ty : TypeId) :
    ∃ w', (Builtin.copy_ #[37, 37] ty #[.slice (some ⟨g, 0, none⟩) n c, .slice A m d]).run Tryz.prog w = .ok (goInt m) w' ∧ OwnH w' B (.slice (some ⟨g, 0, none⟩) n c) (ks ++ hs.drop m) ∧ w.grownBy w' (some g) ∧ B ≤ g := by
  obtain ⟨cur, h1, h2, h3, h4⟩ := h.over (ks := ks) (i := 0) hn hl (by omega)
  rw [overH_head, hm] at h4
  obtain ⟨j, z, hj, _, _, hsz, _⟩ := hash_parts
  have hkl : (ks.flatMap Lib.byteCells).length = m * 32 := by rw [flat_len ks hl, hm]
  rw [Nat.zero_mul, Nat.zero_add, hm] at h3
  rw [Nat.zero_mul, Nat.zero_add] at h4
  have hst := run_storeCells_at Tryz.prog g 0 44 (ks.flatMap Lib.byteCells) 0 cur w h1 (by omega) (fun u hu => by
    obtain ⟨y, _, hy⟩ := List.mem_flatMap.1 hu
    exact Lib.byteCells_one y u hy)
  rw [Nat.add_zero, Nat.zero_add, hkl] at hst
  refine ⟨_, ?_, h4, setRow_grown w g _, h2⟩
  have hmin : Nat.min m n = m := Nat.min_eq_left hmn
  rcases A with _ | ad
  · have h0 : ks = [] := by
      rcases hr with rfl | ⟨b, off, e, _⟩
      · rfl
      · cases e
    subst h0
    obtain rfl : m = 0 := by simpa using hm.symm
    simp [Builtin.copy_, run_underlying Tryz.underlying37, Builtin.lenOf, Builtin.firstCells, sizeOf, typeInfo, hj, storeCells] at hst ⊢
    exact hst
  · have hld := run_loadCells_list (P := Tryz.prog) w ad (ks.flatMap Lib.byteCells) (hr.cells hl)
    rw [hkl] at hld
    simp [Builtin.copy_, run_underlying Tryz.underlying37, Builtin.lenOf, Builtin.firstCells, sizeOf, typeInfo, hj, hsz, hmin, hld, hst]
theorem wpList_copy_own {w : World} {ops : Array Oper} {rest : List Oper} {o : Oper} {a : Act} {Q : Exit → Act → World → Prop} (hgd : o.guard = none) (s x : Operand)
    (ho : o.op = .call { callee := .builtin .copy, args := #[s, x], argTypes := #[37, 37] })
    {B g n c : Nat} {hs ks : List (List UInt8)} (h : OwnH w B (.slice (some ⟨g, 0, none⟩) n c) hs) (hn : hs.length = n) (A : Option Addr) (m d C : Nat) (hm : ks.length = m) (hmn : m ≤ n) (hl : ∀ r ∈ ks, r.length = 32) (hr : RdH w C A ks)
    (hs' : a.eval s = .slice (some ⟨g, 0, none⟩) n c) (hx : a.eval x = .slice A m d)
    (hk : ∀ w', OwnH w' B (.slice (some ⟨g, 0, none⟩) n c) (ks ++ hs.drop m) → w.grownBy w' (some g) → B ≤ g → wpList Tryz.prog ops Q rest (a.put o.dst (goInt m)) w') : wpList Tryz.prog ops Q (o :: rest) a w := by
  obtain ⟨w', hrun, h1, h2, h3⟩ := run_copy_own h hn A m d C hm hmn hl hr o.type
  refine wpList_plain hgd fun K hK => ?_
  unfold Oper.wp
  simp [execOp, ho, resolve, invoke, builtin, hs', hx, hrun, Result.andThen]
  exact hK _ _ (hk w' h1 h2 h3)
/-- A new row of noughts. -/
theorem infoHash3 : ((Tryz.prog.info? 44).bind (·.zero)) = some (.agg (u8A zeroH)) := by kernel_rfl
theorem made_hashes (n : Nat) : (madeCells (u8A zeroH) (n * 32)).toList = (List.replicate n zeroH).flatMap Lib.byteCells := by
  have hl : ∀ r ∈ List.replicate n zeroH, r.length = 32 := fun r hr => by rw [(List.mem_replicate.1 hr).2]; rfl
  have hz : ∀ i, i < 32 → (u8A zeroH)[i]? = some (.int .u8 0) := fun i hi => by
    have e : u8A zeroH = (List.replicate 32 (Value.int .u8 0)).toArray := rfl
    rw [e, List.getElem?_toArray, List.getElem?_replicate, if_pos hi]
  apply List.ext_getElem?
  intro j
  by_cases hj : j < n * 32
  · have h1 : j / 32 < (List.replicate n zeroH).length := by rw [List.length_replicate]; omega
    have h2 := flat_at _ hl (j / 32) (j % 32) h1 (Nat.mod_lt _ (by omega))
    rw [show j / 32 * 32 + j % 32 = j by omega] at h2
    rw [h2]
    have h3 := hz (j % 32) (Nat.mod_lt _ (by omega))
    have h4 : (Lib.byteCells (List.replicate n zeroH)[j / 32])[j % 32]? = (u8A zeroH)[j % 32]? := by
      rw [List.getElem_replicate]; simp [u8A]
    rw [h4, h3]
    have h5 : (u8A zeroH).size = 32 := by rw [u8A_size]; rfl
    have hb : j % 32 < (u8A zeroH).size := by rw [h5]; exact Nat.mod_lt _ (by omega)
    have h6 : (u8A zeroH)[j % 32] = .int .u8 0 := by
      have := h3
      rw [Array.getElem?_eq_getElem hb] at this
      exact Option.some.inj this
    have h7 : (u8A zeroH)[j % 32]! = .int .u8 0 := by rw [getElem!_pos (u8A zeroH) (j % 32) hb]; exact h6
    simp [madeCells, hj, h5, h7]
  · rw [List.getElem?_eq_none (by simp [madeCells]; omega), List.getElem?_eq_none (by rw [flat_len _ hl, List.length_replicate]; omega)]
theorem run_make_hashes (w : World) (n : Nat) (hn : n ≤ 1000000) : ∃ w', (Instr.makeSlice 37 (.int .i64 (n : Int)) (.int .i64 (n : Int))).run Tryz.prog w = .ok (.slice (some ⟨w.heap.size, 0, none⟩) n n) w' ∧ OwnH w' w.heap.size (.slice (some ⟨w.heap.size, 0, none⟩) n n) (List.replicate n zeroH) ∧ Below w.heap.size w w' := by
  obtain ⟨i, z, hi, hz, hzs, hsz, hby⟩ := hash_parts
  have hzz : z = .agg (u8A zeroH) := by
    have h := infoHash3
    rw [hi] at h
    simp only [Option.bind_some] at h
    rw [hz] at h
    exact Option.some.inj h
  obtain ⟨w', hrun, r1, r2⟩ := run_make_full (P := Tryz.prog) w w.heap.size 37 44 i z 32 Tryz.underlying37 hi hz hsz .i64 .i64 n (by rw [hby]; omega) (by unfold maxLen; omega) (Nat.le_refl _)
  rw [hzz, show (Value.agg (u8A zeroH)).cells = u8A zeroH from rfl, made_hashes] at r1
  refine ⟨w', hrun, ⟨fun r hr => by rw [(List.mem_replicate.1 hr).2]; rfl, by rw [List.length_replicate]; exact r1⟩, (Below.refl _ _).grown r2 (Nat.le_refl _) (fun k hk => by cases hk)⟩
theorem wpList_make_hashes {w : World} {ops : Array Oper} {rest : List Oper} {o : Oper} {a : Act} {Q : Exit → Act → World → Prop} (hgd : o.guard = none) (l c : Operand) (ho : o.op = .makeSlice 37 l c)
    (n : Nat) (hn : n ≤ 1000000) (hl : a.eval l = .int .i64 (n : Int)) (hc : a.eval c = .int .i64 (n : Int))
    (hk : ∀ w', OwnH w' w.heap.size (.slice (some ⟨w.heap.size, 0, none⟩) n n) (List.replicate n zeroH) → Below w.heap.size w w' → wpList Tryz.prog ops Q rest (a.put o.dst (.slice (some ⟨w.heap.size, 0, none⟩) n n)) w') : wpList Tryz.prog ops Q (o :: rest) a w := by
  obtain ⟨w', hrun, h1, h2⟩ := run_make_hashes w n hn
  refine wpList_plain hgd fun K hK => ?_
  unfold Oper.wp
  simp [execOp, ho, hl, hc, hrun, Result.andThen]
  exact hK _ _ (hk w' h1 h2)

/-- The value is a slice that reads as the hashes. -/
def Spec.hv (n : Nat) (l : List (List UInt8)) : Spec := .any (fun v w => ∃ X c, v = .slice X n c ∧ n ≤ c ∧ HV w (.slice X n c) l) (fun _ _ _ h hb => by
  obtain ⟨X, c, h1, h2, h3⟩ := h
  exact ⟨X, c, h1, h2, h3.on hb⟩)
theorem HV.one {w : World} {h : List UInt8} (hl : h.length = 32) : HV (w.alloc (.cells (u8A h) 44)) (.slice (some ⟨w.heap.size, 0, none⟩) 1 1) [h] := by
  refine ⟨fun r hr => by rw [List.mem_singleton.1 hr]; exact hl, some ⟨w.heap.size, 0, none⟩, 1, rfl, Nat.le_refl _, .inr ⟨w.heap.size, 0, rfl, by simp, fun i hi => ?_⟩⟩
  obtain rfl : i = 0 := by simpa using hi
  intro j u hu
  have hb : Blk (w.alloc (.cells (u8A h) 44)) w.heap.size (u8A h) 44 := Blk.new _ _ _
  simp only [Nat.zero_mul, Nat.zero_add]
  rw [hb.cell j, ← Array.getElem?_toList]
  exact hu
theorem step_build_hash {Q : Exit → Act → World → Prop} {o : Oper} {a : Act} {w : World} {x : Operand} (ho : o.op = .buildSlice 37 1 #[(0, x)]) (h : List UInt8) (hl : h.length = 32) (hx : a.eval x = .agg (u8A h)) :
    o.wp Tryz.prog a w (fun a' w' => ∃ v, a' = a.put o.dst v ∧ (∃ X c, v = .slice X 1 c ∧ 1 ≤ c ∧ HV w' (.slice X 1 c) [h]) ∧ Below w.heap.size w w') Q := by
  obtain ⟨i, z, hi, hzz, hzs, hsz, hby⟩ := hash_parts
  refine wp_buildSlice (P := Tryz.prog) 37 44 1 #[(0, x)] ho (u8A h) i z Tryz.underlying37 hi hzz (by rw [hsz]; decide) (by rw [hsz]; decide) ?_
    ⟨_, rfl, ⟨_, _, rfl, Nat.le_refl _, HV.one hl⟩, (Below.refl _ _).alloc (Nat.le_refl _) _⟩
  rw [hsz]
  have e : ((#[(0, x)] : Array (Nat × Operand)).map fun (i, x) => (i, a.eval x)).toList = [(0, .agg (u8A h))] := by simp [hx]
  rw [e]
  exact fill_hash (u8A h) ((u8A_size _).trans hl) _ (by simp)
theorem run_load_hash {w : World} {ρ : Operand → Value} {o : Oper} (x : Operand) (ho : o.op = .load 44 x) (b off : Nat) (hx : ρ x = .pointer (some ⟨b, off, none⟩)) (h : List UInt8) (hl : h.length = 32) (hS : w.rangeAt b off (Lib.byteCells h)) {X : Array Value} (hX : u8A h = X) : (execOp ρ o).run Tryz.prog w = .ok (.value (.agg X)) w := by
  obtain ⟨i, z, hi, _, _, hsz, _⟩ := hash_parts
  exact run_load_row 44 x ho b off hx (Lib.byteCells h) _ hS Tryz.underlying44 rfl (by rw [hi, Option.map_some, hsz, Lib.byteCells_length, hl]) hX.symm

set_option maxRecDepth 100000 in
set_option maxHeartbeats 4000000 in
theorem pstep_any (h : List UInt8) (w : World) (hh : h.length = 32) (htab : Pow10 w.heap.size w) :
    Calls Tryz.prog 135 #[.agg (u8A h)] w fun e w' => e = .returned (.agg (u8A (stepH h))) ∧ Below w.heap.size w w' := by
  obtain ⟨X, hX⟩ : ∃ x, u8A h = x := ⟨_, rfl⟩
  obtain ⟨Z, hZ⟩ : ∃ x, u8A (stepH h) = x := ⟨_, rfl⟩
  have HX := Lib.hid hX
  have HZ := Lib.hid hZ
  have HZS := Lib.hid (show Z.size = 32 by rw [← hZ, u8A_size]; exact stepH_len h)
  have HZO := Lib.hid (show Z.all (·.oneCell') = true by rw [← hZ]; exact u8A_one _)
  have HTB := Lib.hid htab
  rw [hX]
  clear hX hZ htab
  go_enter Tryz.func135, Tryz.ntmps135
  go_upto_region 1 with fail
  generalize hw3 : World.alloc _ _ = w3
  obtain ⟨g1, hg1⟩ : ∃ g, w.heap.size = g := ⟨_, rfl⟩
  obtain ⟨g2, hg2⟩ : ∃ g, w.heap.size + 1 = g := ⟨_, rfl⟩
  have hf : Blk w3 g1 X 44 ∧ (∃ rs, Blk w3 g2 rs 44 ∧ rs.size = 32) ∧ Below w.heap.size w w3 := by
    obtain ⟨Y, hw, hY⟩ : ∃ Y, w3 = (w.alloc (.cells X 44)).alloc (.cells Y 44) ∧ Y.size = 32 := ⟨_, hw3.symm, rfl⟩
    have e1 : (w.alloc (.cells X 44)).heap.size = w.heap.size + 1 := by simp
    rw [hw, ← hg1, ← hg2]
    refine ⟨(Blk.new w _ _).alloc _, ⟨Y, ?_, hY⟩, ((Below.refl _ _).alloc (Nat.le_refl _) _).alloc (by simp) _⟩
    rw [← e1]; exact Blk.new _ _ _
  have hal : Below w3.heap.size w3 (w3.alloc (.cells #[.slice (some ⟨g1, 0, none⟩) 32 32] 35)) := (Below.refl _ _).alloc (Nat.le_refl _) _
  have hbx : Blk w3 g1 (u8A h) 44 := by rw [HX.out]; exact hf.1
  have hb1 := hf.2.2.trans (hal.mono hf.2.2.size)
  have HT := Lib.hid (show Calls Tryz.prog 134 #[.string ⟨#[115, 116, 101, 112]⟩, .slice (some ⟨w3.heap.size, 0, none⟩) 1 1] (w3.alloc (.cells #[.slice (some ⟨g1, 0, none⟩) 32 32] 35)) fun e w' => e = .returned (.agg Z) ∧ Below (w3.alloc (.cells #[.slice (some ⟨g1, 0, none⟩) 32 32] 35)).heap.size (w3.alloc (.cells #[.slice (some ⟨g1, 0, none⟩) 32 32] 35)) w' by
    rw [← HZ.out]
    exact tagged_any [115, 116, 101, 112] (some ⟨w3.heap.size, 0, none⟩) 1 1 [h] (w3.alloc (.cells #[.slice (some ⟨g1, 0, none⟩) 32 32] 35)) (by decide) rfl (by decide) (fun r hr => by
      simp at hr
      subst hr
      omega) (rdr_leaf w3 _ hh (Nat.le_refl _) (by decide) (rd_of_blk hbx)) (tab_on HTB.out hb1 hb1.size))
  obtain ⟨rs, hrs, hrz⟩ := hf.2.1
  have HRZ := Lib.hid hrz
  have HR := Lib.hid ((hrs.alloc (.cells #[.slice (some ⟨g1, 0, none⟩) 32 32] 35)))
  have HB := Lib.hid hb1
  have HG := Lib.hid (show w.heap.size ≤ g2 by omega)
  clear hf hw3 hal hbx hb1 hrs hrz
  rw [hg2, hg1]
  clear hg1 hg2
  go_wp2_with fail
  with_reducible refine (HT.out).mono ?_
  rintro e w4 ⟨rfl, hb4⟩
  replace HR := Lib.hid (HR.out.below hb4 HR.out.lt)
  replace HB := Lib.hid (HB.out.trans (hb4.mono HB.out.size))
  clear hb4 HT
  go_wp2_with (with_reducible refine wpList_store_blk rfl 44 (.tmp 2) (.tmp 5) rfl g2 Z rfl rfl 44 rs HR.out (by rw [HZS.out]; kernel_rfl) (by rw [HZS.out, HRZ.out]) HZO.out ?_)
  refine bodyPost_ret (v := .agg Z) (results_cell_row (p := 2) (ty := 44) (by kernel_rfl) _ _ g2 44 _ (0, 0) _ rfl (HR.out.row Z) Tryz.underlying44 rfl (by rw [HZS.out]; kernel_rfl)) rfl ⟨by rw [HZ.out], below_row HB.out HB.out.size HG.out _⟩
set_option maxRecDepth 100000 in
set_option maxHeartbeats 4000000 in
theorem palong_any (h : List UInt8) (n : Int) (w : World) (hh : h.length = 32) (htab : Pow10 w.heap.size w) :
    Calls Tryz.prog 119 #[.agg (u8A h), .int .i64 n] w fun e w' => e = .returned (.agg (u8A (alongH (wots.clampS n) h))) ∧ Below w.heap.size w w' := by
  obtain ⟨X, hX⟩ : ∃ x, u8A h = x := ⟨_, rfl⟩
  have HX := Lib.hid hX
  obtain ⟨M, hM⟩ : ∃ m, wots.clampS n = m := ⟨_, rfl⟩
  obtain ⟨K, hK⟩ : ∃ k, min n 15 = k := ⟨_, rfl⟩
  have hM15 : M ≤ 15 := by rw [← hM]; unfold wots.clampS; split <;> (try split) <;> omega
  have HLT := Lib.hid (fun (i : Nat) => (show (i : Int) < K ↔ i < M by
    rw [← hM, ← hK]
    unfold wots.clampS
    split <;> (try split) <;> omega))
  have HTAB := Lib.hid htab
  rw [hX, hM]
  clear hX hM htab
  go_enter Tryz.func119, Tryz.ntmps119
  go_upto_region 1 with fail
  generalize hw3 : World.alloc _ _ = w3
  obtain ⟨g1, hg1⟩ : ∃ g, w.heap.size = g := ⟨_, rfl⟩
  obtain ⟨g2, hg2⟩ : ∃ g, w.heap.size + 1 = g := ⟨_, rfl⟩
  have hf : Blk w3 g1 X 44 ∧ (∃ rs, Blk w3 g2 rs 44 ∧ rs.size = 32) ∧ Below w.heap.size w w3 := by
    obtain ⟨Y, hw, hY⟩ : ∃ Y, w3 = (w.alloc (.cells X 44)).alloc (.cells Y 44) ∧ Y.size = 32 := ⟨_, hw3.symm, rfl⟩
    have e1 : (w.alloc (.cells X 44)).heap.size = w.heap.size + 1 := by simp
    rw [hw, ← hg1, ← hg2]
    refine ⟨(Blk.new w _ _).alloc _, ⟨Y, ?_, hY⟩, ((Below.refl _ _).alloc (Nat.le_refl _) _).alloc (by simp) _⟩
    rw [← e1]; exact Blk.new _ _ _
  have HB1 := Lib.hid (show Blk w3 g1 (u8A (alongH 0 h)) 44 by
    show Blk w3 g1 (u8A h) _
    rw [HX.out]
    exact hf.1)
  have HB2 := Lib.hid hf.2.1
  have HB3 := Lib.hid hf.2.2
  have HG := Lib.hid (show w.heap.size ≤ g1 ∧ g1 + 1 = g2 by omega)
  clear hf hw3
  rw [hg2, hg1]
  clear hg1 hg2
  go_wp2_with fail
  go_loopw [7] (fun t wq => ∃ i : Nat, i ≤ M ∧ t = .int .i64 (i : Int) ∧ Hid (Blk wq g1 (u8A (alongH i h)) 44) ∧ Hid (∃ rs, Blk wq g2 rs 44 ∧ rs.size = 32) ∧ Hid (Below w.heap.size w wq)) (fun t _ => M - (intOf t).toNat)
  case atStart => exact ⟨0, Nat.zero_le _, rfl, HB1, HB2, HB3⟩
  case round =>
    clear HB1 HB2 HB3
    obtain ⟨i, hi, rfl, HB1, HB2, HB3⟩ := hrel
    have hlen := alongH_len hh i
    by_cases hlt : i < M
    · have h1 := (HLT.out i).2 hlt
      have HSN := Lib.hid (show alongH (i + 1) h = stepH (alongH i h) from wots.along_succ stepH i h)
      have HRX := Lib.hid (range_of_blk HB1.out)
      generalize alongH i h = cur at *
      obtain ⟨C, hC⟩ : ∃ x, u8A cur = x := ⟨_, rfl⟩
      obtain ⟨Z, hZ⟩ : ∃ x, u8A (stepH cur) = x := ⟨_, rfl⟩
      have HC := Lib.hid hC
      have HZ := Lib.hid hZ
      have HZS := Lib.hid (show Z.size = 32 by rw [← hZ, u8A_size]; exact stepH_len _)
      have HZO := Lib.hid (show Z.all (·.oneCell') = true by rw [← hZ]; exact u8A_one _)
      have HCS := Lib.hid (show (u8A cur).size = 32 by rw [u8A_size]; exact hlen)
      have HST := Lib.hid (show Calls Tryz.prog 135 #[.agg C] wr fun e w' => e = .returned (.agg Z) ∧ Below wr.heap.size wr w' by
        rw [← hC, ← hZ]
        exact pstep_any cur wr hlen (tab_on HTAB.out HB3.out HB3.out.size))
      clear hC hZ
      go_wp2_with (with_reducible refine wpList_load_hash rfl (.tmp 2) rfl g1 0 rfl cur hlen HRX.out C HC.out ?_)
      with_reducible refine (HST.out).mono ?_
      rintro e w5 ⟨rfl, hb5⟩
      have HB15 := Lib.hid (HB1.out.below hb5 HB1.out.lt)
      have HN1 := Lib.hid (show Blk (w5.setRow g1 Z) g1 (u8A (alongH (i + 1) h)) 44 by
        rw [HSN.out, HZ.out]
        exact HB15.out.row Z)
      have HN2 := Lib.hid (show ∃ rs, Blk (w5.setRow g1 Z) g2 rs 44 ∧ rs.size = 32 by
        obtain ⟨rs, h3, h4⟩ := HB2.out
        exact ⟨rs, (h3.below hb5 h3.lt).rowOther (by have := HG.out.2; omega) _, h4⟩)
      have hb15 := HB3.out.trans (hb5.mono HB3.out.size)
      have HN3 := Lib.hid (below_row hb15 hb15.size HG.out.1 Z)
      clear hb5 hb15 HST HRX HB1 HB2 HB3
      go_wp2_with (with_reducible refine wpList_store_blk rfl 44 (.tmp 2) (.tmp 10) rfl g1 Z rfl rfl 44 (u8A cur) HB15.out (by rw [HZS.out]; kernel_rfl) (by rw [HZS.out]; exact HCS.out) HZO.out ?_)
      go_roundw
      case rel => exact ⟨i + 1, hlt, by go_num, HN1, HN2, HN3⟩
      case measure => simp [intOf]; omega
    · obtain rfl : M = i := by omega
      have hno : ¬ ((M : Int) < K) := fun h => hlt ((HLT.out M).1 h)
      have HRX := Lib.hid (range_of_blk HB1.out)
      have HCU := Lib.hid (show ∃ c, alongH M h = c from ⟨_, rfl⟩)
      obtain ⟨cur, hcur⟩ := HCU.out
      replace HCU := Lib.hid hcur
      rw [hcur] at hlen HRX
      clear hcur
      obtain ⟨C, hC⟩ : ∃ x, u8A cur = x := ⟨_, rfl⟩
      have HC := Lib.hid hC
      have HZS := Lib.hid (show C.size = 32 by rw [← hC, u8A_size]; exact hlen)
      have HZO := Lib.hid (show C.all (·.oneCell') = true by rw [← hC]; exact u8A_one _)
      obtain ⟨rs, hrs, hrz⟩ := HB2.out
      have HRS := Lib.hid hrs
      have HRZ := Lib.hid hrz
      clear hC hrs hrz HB1 HB2
      go_wp2_with (first
        | (with_reducible refine wpList_load_hash rfl (.tmp 2) rfl g1 0 rfl cur hlen HRX.out C HC.out ?_)
        | (with_reducible refine wpList_store_blk rfl 44 (.tmp 4) (.tmp 12) rfl g2 C rfl rfl 44 rs HRS.out (by rw [HZS.out]; kernel_rfl) (by rw [HZS.out, HRZ.out]) HZO.out ?_))
      refine bodyPost_ret (v := .agg C) (results_cell_row (p := 4) (ty := 44) (by kernel_rfl) _ _ g2 44 _ (0, 0) _ rfl (HRS.out.row C) Tryz.underlying44 rfl (by rw [HZS.out]; kernel_rfl)) rfl ⟨by rw [HCU.out, HC.out], below_row HB3.out HB3.out.size (by have := HG.out; omega) _⟩

theorem pput4 (n : Int) (w : World) (hn : n ≤ 9223372036854775807) : Calls Tryz.prog 33 #[.int .i64 n, .int .i64 4] w fun e w' => ∃ A c, e = .returned (.slice A 4 c) ∧ 4 ≤ c ∧ c ≤ maxLen ∧ Rd w' w'.heap.size A (put4 n) ∧ Below w.heap.size w w' :=
  (put_any n 4 w hn).mono fun _ _ ⟨A, c, he, ho, hb⟩ => by
    have e4 : putW 4 = 4 := rfl
    rw [e4] at he ho
    obtain ⟨A', c', e, h1, h2⟩ := own_caps ho
    injection e with e1 e2 e3
    subst e1 e3
    exact ⟨A, c, he, h1, h2, Rd.of_own ho, hb⟩
set_option maxRecDepth 100000 in
set_option maxHeartbeats 4000000 in
theorem pstart_any (sd : List UInt8) (leaf chain : Int) (w : World) (hs : sd.length = 16) (hl : leaf ≤ 9223372036854775807) (hc : chain ≤ 9223372036854775807) (htab : Pow10 w.heap.size w) :
    Calls Tryz.prog 120 #[.agg (u8A sd), .int .i64 leaf, .int .i64 chain] w fun e w' => e = .returned (.agg (u8A (startH sd leaf chain))) ∧ Below w.heap.size w w' := by
  obtain ⟨X, hX⟩ : ∃ x, u8A sd = x := ⟨_, rfl⟩
  obtain ⟨Z, hZ⟩ : ∃ x, u8A (startH sd leaf chain) = x := ⟨_, rfl⟩
  obtain ⟨pa, hpa⟩ : ∃ x, put4 leaf = x := ⟨_, rfl⟩
  obtain ⟨pb, hpb⟩ : ∃ x, put4 chain = x := ⟨_, rfl⟩
  have HX := Lib.hid hX
  have HZ := Lib.hid hZ
  have HSL := Lib.hid hs
  have HZS := Lib.hid (show Z.size = 32 by rw [← hZ, u8A_size]; exact startH_len _ _ _)
  have HZO := Lib.hid (show Z.all (·.oneCell') = true by rw [← hZ]; exact u8A_one _)
  have HPL := Lib.hid (show pa.length = 4 ∧ pb.length = 4 by rw [← hpa, ← hpb]; exact ⟨put4_len _, put4_len _⟩)
  have HPA := Lib.hid (fun W => (show Calls Tryz.prog 33 #[.int .i64 leaf, .int .i64 4] W fun e w' => ∃ A c, e = .returned (.slice A 4 c) ∧ 4 ≤ c ∧ c ≤ maxLen ∧ Rd w' w'.heap.size A pa ∧ Below W.heap.size W w' from by rw [← hpa]; exact pput4 leaf W hl))
  have HPB := Lib.hid (fun W => (show Calls Tryz.prog 33 #[.int .i64 chain, .int .i64 4] W fun e w' => ∃ A c, e = .returned (.slice A 4 c) ∧ 4 ≤ c ∧ c ≤ maxLen ∧ Rd w' w'.heap.size A pb ∧ Below W.heap.size W w' from by rw [← hpb]; exact pput4 chain W hc))
  have HTG := Lib.hid (fun g W (hr : RdR W W.heap.size (some ⟨g, 0, none⟩) [sd, pa, pb]) (hW : Pow10 W.heap.size W) => (show Calls Tryz.prog 134 #[.string ⟨#[115, 116, 97, 114, 116]⟩, .slice (some ⟨g, 0, none⟩) 3 3] W fun e w' => e = .returned (.agg Z) ∧ Below W.heap.size W w' from by
    have h := tagged_any [115, 116, 97, 114, 116] (some ⟨g, 0, none⟩) 3 3 [sd, pa, pb] W (by decide) rfl (by decide) (fun r hr2 => by
      have h1 := HPL.out.1
      have h2 := HPL.out.2
      simp at hr2
      rcases hr2 with rfl | rfl | rfl <;> omega) hr hW
    rw [← hZ]
    unfold startH
    rw [hpa, hpb]
    exact h))
  have HTB := Lib.hid htab
  rw [hX]
  clear hX hpa hpb htab
  go_enter Tryz.func120, Tryz.ntmps120
  go_upto_region 1 with fail
  generalize hw3 : World.alloc _ _ = w3
  obtain ⟨g1, hg1⟩ : ∃ g, w.heap.size = g := ⟨_, rfl⟩
  obtain ⟨g2, hg2⟩ : ∃ g, w.heap.size + 1 = g := ⟨_, rfl⟩
  have hf : Blk w3 g1 X 23 ∧ (∃ rs, Blk w3 g2 rs 44 ∧ rs.size = 32) ∧ Below w.heap.size w w3 := by
    obtain ⟨Y, hw, hY⟩ : ∃ Y, w3 = (w.alloc (.cells X 23)).alloc (.cells Y 44) ∧ Y.size = 32 := ⟨_, hw3.symm, rfl⟩
    have e1 : (w.alloc (.cells X 23)).heap.size = w.heap.size + 1 := by simp
    rw [hw, ← hg1, ← hg2]
    refine ⟨(Blk.new w _ _).alloc _, ⟨Y, ?_, hY⟩, ((Below.refl _ _).alloc (Nat.le_refl _) _).alloc (by simp) _⟩
    rw [← e1]; exact Blk.new _ _ _
  have hbx : Blk w3 g1 (u8A sd) 23 := by rw [HX.out]; exact hf.1
  have HSR := Lib.hid (fun W (h : Below w3.heap.size w3 W) => (show Rd W W.heap.size (some ⟨g1, 0, none⟩) sd from rd_of_blk (hbx.below h hbx.lt)))
  have HTAB := Lib.hid (fun W (h : Below w3.heap.size w3 W) => tab_on HTB.out (hf.2.2.trans (h.mono hf.2.2.size)) (hf.2.2.trans (h.mono hf.2.2.size)).size)
  obtain ⟨rs, hrs, hrz⟩ := hf.2.1
  have HB2 := Lib.hid hrs
  have HRZ := Lib.hid hrz
  have HB3 := Lib.hid hf.2.2
  have HG := Lib.hid (show w.heap.size ≤ g2 by omega)
  clear hf hw3 hbx hrs hrz hZ
  rw [hg2, hg1]
  clear hg1 hg2
  refine wp_region_loose 7 1 (fun i => false) (promises [.is (.slice (some ⟨g1, 0, none⟩) 16 16), .is (.int .i64 leaf), .byc 4 pa, .is (.int .i64 chain), .byc 4 pb, .rows 3 [sd, pa, pb], .is (.agg Z)]) (by kernel_rfl) rfl (by kernel_rfl) (fun i v w w' h hb => Spec.keep h hb) ⟨?_, ?_, ?_, ?_, ?_, ?_, ?_, trivial⟩ ?_
  · refine StepOKl.of ?_
    intro ac w hb hu hk
    refine ⟨wanted_none rfl, ?_⟩
    have e3 : ac.eval (.tmp 3) = .pointer (some ⟨g1, 0, none⟩) := hu.is (t := 3) (by kernel_rfl)
    refine step_value (w' := w) (v := .slice (some ⟨g1, 0, none⟩) 16 16) ?_ (Below.refl _ _) rfl
    generalize ac.eval = ρ at e3 ⊢
    go_simp
  · refine StepOKl.of ?_
    intro ac w hb hu hk
    refine ⟨wanted_none rfl, ?_⟩
    have e1 : ac.eval (.tmp 1) = .int .i64 leaf := hu.is (t := 1) (by kernel_rfl)
    exact step_value (BigFrame.run_move (.tmp 1) rfl w) (Below.refl _ _) e1
  · refine StepOKl.of ?_
    intro ac w hb hu hk
    refine ⟨wanted_none rfl, ?_⟩
    have e8 : ac.eval (.tmp 8) = (.int .i64 leaf) := (hk ⟨1, .data⟩ (by simp) rfl).is rfl rfl
    have ef : ac.eval (.func 33) = .func (.func 33) #[] #[] := rfl
    have ec : ac.eval (.const (.int .i64 4)) = .int .i64 4 := rfl
    refine step_enter (f := 33) (args := #[.int .i64 leaf, .int .i64 4]) ?_ ?_
    · generalize ac.eval = ρ at e8 ec ef ⊢
      go_simp
    · exact (HPA.out w).mono fun e w' ⟨A, c, he, hc, hm, hr, hq⟩ => ⟨_, he, ⟨A, c, rfl, hc, hm, hr⟩, hq⟩
  · refine StepOKl.of ?_
    intro ac w hb hu hk
    refine ⟨wanted_none rfl, ?_⟩
    have e2 : ac.eval (.tmp 2) = .int .i64 chain := hu.is (t := 2) (by kernel_rfl)
    exact step_value (BigFrame.run_move (.tmp 2) rfl w) (Below.refl _ _) e2
  · refine StepOKl.of ?_
    intro ac w hb hu hk
    refine ⟨wanted_none rfl, ?_⟩
    have e10 : ac.eval (.tmp 10) = (.int .i64 chain) := (hk ⟨3, .data⟩ (by simp) rfl).is rfl rfl
    have ef : ac.eval (.func 33) = .func (.func 33) #[] #[] := rfl
    have ec : ac.eval (.const (.int .i64 4)) = .int .i64 4 := rfl
    refine step_enter (f := 33) (args := #[.int .i64 chain, .int .i64 4]) ?_ ?_
    · generalize ac.eval = ρ at e10 ec ef ⊢
      go_simp
    · exact (HPB.out w).mono fun e w' ⟨A, c, he, hc, hm, hr, hq⟩ => ⟨_, he, ⟨A, c, rfl, hc, hm, hr⟩, hq⟩
  · refine StepOKl.of ?_
    intro ac w hb hu hk
    refine ⟨wanted_none rfl, ?_⟩
    have e7 : ac.eval (.tmp 7) = (.slice (some ⟨g1, 0, none⟩) 16 16) := (hk ⟨0, .data⟩ (by simp) rfl).is rfl rfl
    have e9 : ∃ X c, ac.eval (.tmp 9) = .slice X 4 c ∧ 4 ≤ c ∧ c ≤ maxLen ∧ Rd w w.heap.size X pa := (hk ⟨2, .data⟩ (by simp) rfl).is rfl rfl
    have e11 : ∃ X c, ac.eval (.tmp 11) = .slice X 4 c ∧ 4 ≤ c ∧ c ≤ maxLen ∧ Rd w w.heap.size X pb := (hk ⟨4, .data⟩ (by simp) rfl).is rfl rfl
    obtain ⟨A, c, eA, hcA, hmA, hrA⟩ := e9
    obtain ⟨B, d, eB, hcB, hmB, hrB⟩ := e11
    refine step_value (w' := w.alloc (.cells #[.slice (some ⟨g1, 0, none⟩) 16 16, .slice A 4 c, .slice B 4 d] 35)) (v := .slice (some ⟨w.heap.size, 0, none⟩) 3 3) ?_ ((Below.refl _ _).alloc (Nat.le_refl _) _) ⟨w.heap.size, rfl, rdr_start w _ _ _ HSL.out HPL.out.1 HPL.out.2 (by decide) (by decide) hcA hmA hcB hmB (HSR.out w hb) hrA hrB⟩
    generalize ac.eval = ρ at e7 eA eB ⊢
    go_simp
  · refine StepOKl.of ?_
    intro ac w hb hu hk
    refine ⟨wanted_none rfl, ?_⟩
    have e12 : ∃ g, ac.eval (.tmp 12) = .slice (some ⟨g, 0, none⟩) 3 3 ∧ RdR w w.heap.size (some ⟨g, 0, none⟩) [sd, pa, pb] := (hk ⟨5, .data⟩ (by simp) rfl).is rfl rfl
    obtain ⟨g, eg, hr⟩ := e12
    have ef : ac.eval (.func 134) = .func (.func 134) #[] #[] := rfl
    have es : ac.eval (.const (.string ⟨#[115, 116, 97, 114, 116]⟩)) = .string ⟨#[115, 116, 97, 114, 116]⟩ := rfl
    refine step_enter (f := 134) (args := #[.string ⟨#[115, 116, 97, 114, 116]⟩, .slice (some ⟨g, 0, none⟩) 3 3]) ?_ ?_
    · generalize ac.eval = ρ at eg es ef ⊢
      go_simp
    · exact (HTG.out g w hr (HTAB.out w hb)).mono fun e w' ⟨he, hq⟩ => ⟨_, he, rfl, hq⟩
  · intro ac w' hb hu hk hap
    obtain ⟨_, h7, rfl⟩ := (hk 0 (by decide)).put rfl rfl
    obtain ⟨_, h8, rfl⟩ := (hk 1 (by decide)).put rfl rfl
    obtain ⟨_, h9, ⟨X9, xc9, rfl, hxc9, hX9⟩⟩ := (hk 2 (by decide)).put rfl rfl
    obtain ⟨_, h10, rfl⟩ := (hk 3 (by decide)).put rfl rfl
    obtain ⟨_, h11, ⟨X11, xc11, rfl, hxc11, hX11⟩⟩ := (hk 4 (by decide)).put rfl rfl
    obtain ⟨_, h12, ⟨g12, rfl, hG12⟩⟩ := (hk 5 (by decide)).put rfl rfl
    obtain ⟨_, h13, rfl⟩ := (hk 6 (by decide)).put rfl rfl
    clear hap
    have hF : AllPuts ac.tmps ((7, _) :: (8, _) :: (9, _) :: (10, _) :: (11, _) :: (12, _) :: (13, _) :: []) := ⟨h7, h8, h9, h10, h11, h12, h13, trivial⟩
    obtain rfl := frame_puts hu (by kernel_rfl) hF
    simp only [puts, Act.put, List.setIfInBounds_toArray, List.set_cons_zero, List.set_cons_succ, List.drop_succ_cons, List.drop_zero]
    clear hk hu hF h7 h8 h9 h10 h11 h12 h13
    have HRS := Lib.hid (HB2.out.below hb HB2.out.lt)
    have HBE := Lib.hid (HB3.out.trans (hb.mono HB3.out.size))
    clear hb HPA HPB HTG HSR HB2 HB3 HTAB HTB
    go_wp2_with (with_reducible refine wpList_store_blk rfl 44 (.tmp 6) (.tmp 13) rfl g2 Z rfl rfl 44 rs HRS.out (by rw [HZS.out]; kernel_rfl) (by rw [HZS.out, HRZ.out]) HZO.out ?_)
    refine bodyPost_ret (v := .agg Z) (results_cell_row (p := 6) (ty := 44) (by kernel_rfl) _ _ g2 44 _ (0, 0) _ rfl (HRS.out.row Z) Tryz.underlying44 rfl (by rw [HZS.out]; kernel_rfl)) rfl ⟨by rw [HZ.out], below_row HBE.out HBE.out.size HG.out _⟩

/-- make([][]byte, n). -/
theorem wpList_make_rows8 {w : World} {ops : Array Oper} {rest : List Oper} {o : Oper} {a : Act} {Q : Exit → Act → World → Prop} (hgd : o.guard = none) (l c : Operand) (ho : o.op = .makeSlice 24 l c)
    (n : Nat) (hn : n ≤ 1000) (hl : a.eval l = .int .i64 (n : Int)) (hc : a.eval c = .int .i64 (n : Int))
    (hk : ∀ w' cs, Blk w' w.heap.size cs 35 → cs.size = n → Below w.heap.size w w' → wpList Tryz.prog ops Q rest (a.put o.dst (.slice (some ⟨w.heap.size, 0, none⟩) n n)) w') : wpList Tryz.prog ops Q (o :: rest) a w := by
  obtain ⟨i, hi, hz, hsz, hby⟩ := info_parts infoSlice
  obtain ⟨w', hrun, r1, r2⟩ := run_make_full (P := Tryz.prog) w w.heap.size 24 35 i (.slice none 0 0) 1 Tryz.underlying24 hi hz hsz .i64 .i64 n (by rw [hby]; omega) (by unfold maxLen; omega) (Nat.le_refl _)
  rcases r1.2 with ⟨e, _⟩ | ⟨g, cap, cur, e, _, hg, _, _, hcs, _⟩
  · cases e
  · injection e with e1 e2 e3
    injection e1 with e1
    injection e1 with e1
    subst e1 e3
    refine wpList_plain hgd fun K hK => ?_
    unfold Oper.wp
    simp [execOp, ho, hl, hc, hrun, Result.andThen]
    exact hK _ _ (hk w' cur hg (by rw [hcs, Nat.mul_one]) ((Below.refl _ _).grown r2 (Nat.le_refl _) (fun k hk => by cases hk)))
theorem rd_range {w : World} {b o : Nat} {l : List UInt8} (hb : b < w.heap.size) (h : w.rangeAt b o (Lib.byteCells l)) : Rd w w.heap.size (some ⟨b, o, none⟩) l := .inr ⟨b, o, rfl, hb, fun j hj => h j _ (by simp [Lib.byteCells, hj])⟩
set_option maxRecDepth 100000 in
set_option maxHeartbeats 8000000 in
theorem ppubof_any {v : Value} {hs : List (List UInt8)} {w : World} (hv : HV w v hs) (hn : hs.length = 67) (htab : Pow10 w.heap.size w) :
    Calls Tryz.prog 121 #[v] w fun e w' => e = .returned (.agg (u8A (pubH hs))) ∧ Below w.heap.size w w' := by
  obtain ⟨h32, X, c, rfl, _, hr⟩ := hv
  obtain ⟨Z, hZ⟩ : ∃ x, u8A (pubH hs) = x := ⟨_, rfl⟩
  have HZ := Lib.hid hZ
  have HZS := Lib.hid (show Z.size = 32 by rw [← hZ, u8A_size]; exact pubH_len _)
  have HZO := Lib.hid (show Z.all (·.oneCell') = true by rw [← hZ]; exact u8A_one _)
  have HTAB := Lib.hid htab
  have HN := Lib.hid hn
  have H32 := Lib.hid h32
  rcases hr with h0 | ⟨b, off, rfl, hb, hcs⟩
  · rw [h0] at hn; cases hn
  have HCS := Lib.hid hcs
  have HBL := Lib.hid hb
  have HBL0 := Lib.hid hb
  rw [hn]
  clear hZ htab hn h32 hcs
  go_enter Tryz.func121, Tryz.ntmps121
  go_upto_region 1 with fail
  generalize hw1 : World.alloc _ _ = w1
  obtain ⟨g2, hg2⟩ : ∃ g, w.heap.size = g := ⟨_, rfl⟩
  have hf : (∃ rs, Blk w1 g2 rs 44 ∧ rs.size = 32) ∧ Below w.heap.size w w1 := by
    obtain ⟨Y, hw, hY⟩ : ∃ Y, w1 = w.alloc (.cells Y 44) ∧ Y.size = 32 := ⟨_, hw1.symm, rfl⟩
    rw [hw, ← hg2]
    exact ⟨⟨Y, Blk.new w _ _, hY⟩, (Below.refl _ _).alloc (Nat.le_refl _) _⟩
  have HR := Lib.hid hf.1
  have HB1 := Lib.hid hf.2
  have HG := Lib.hid (show w.heap.size ≤ g2 ∧ g2 < w1.heap.size from ⟨by omega, by obtain ⟨rs, h, _⟩ := hf.1; exact h.lt⟩)
  rw [hg2] at HBL ⊢
  clear hf hw1 hb
  go_wp2_with (with_reducible refine wpList_make_rows8 rfl _ _ rfl 67 (by omega) rfl rfl ?_)
  intro w2 cs0 hbk hsz hb2
  obtain ⟨g3, hg3⟩ : ∃ g, w1.heap.size = g := ⟨_, rfl⟩
  have HG3 := Lib.hid (show w.heap.size ≤ g3 ∧ b < g3 ∧ g2 < g3 by
    have h1 := HB1.out.size
    have h2 := HBL.out
    have h3 := HG.out
    omega)
  rw [hg3] at hbk hb2 ⊢
  have HK := Lib.hid (show Blk w2 g3 cs0 35 ∧ cs0.size = 67 ∧ ∀ j, j < 0 → cs0[j]? = some (.slice (some ⟨b, off + j * 32, none⟩) 32 32) from ⟨hbk, hsz, fun j hj => absurd hj (Nat.not_lt_zero _)⟩)
  have HB2 := Lib.hid hb2
  clear hbk hsz hb2 hg2
  go_wp2_with fail
  go_loopw [10] (fun t wq => ∃ (k : Nat) (cs : Array Value), k ≤ 67 ∧ t = .int .i64 (k : Int) ∧ Hid (Blk wq g3 cs 35 ∧ cs.size = 67 ∧ ∀ j, j < k → cs[j]? = some (.slice (some ⟨b, off + j * 32, none⟩) 32 32)) ∧ Hid (Below g3 w1 wq)) (fun t _ => 67 - (intOf t).toNat)
  case atStart => exact ⟨0, cs0, Nat.zero_le _, rfl, HK, HB2⟩
  case round =>
    clear HK HB2
    obtain ⟨k, cs, hk, rfl, HK, HB⟩ := hrel
    by_cases hlt : k < 67
    · have hki : (k : Int) < 67 := by omega
      obtain ⟨hbk, hsz, hall⟩ := HK.out
      have hf1 := hbk.frozen k
      obtain ⟨o1, ho1⟩ : ∃ old, wr.cell? ⟨g3, k, none⟩ = some old := ⟨_, by rw [hbk.cell k]; exact Array.getElem?_eq_getElem (by omega)⟩
      have hgl := hbk.lt
      clear hall
      go_wp2_with fail
      go_roundw
      case rel =>
        obtain ⟨hbk, hsz, hall⟩ := HK.out
        refine ⟨k + 1, cs.setIfInBounds k (.slice (some ⟨b, off + k * 32, none⟩) 32 32), hlt, by go_num, Lib.hid ⟨hbk.set k _, by simp [hsz], fun j hj => ?_⟩, Lib.hid (HB.out.setCell (by simp) _)⟩
        by_cases hjk : j = k
        · rw [hjk, Array.getElem?_setIfInBounds_self]
          rw [if_pos (by omega)]
        · rw [Array.getElem?_setIfInBounds_ne (by omega)]
          exact hall j (by omega)
      case measure => simp [intOf]; omega
    · obtain rfl : k = 67 := by omega
      obtain ⟨hbk, hsz, hall⟩ := HK.out
      have hbw : Below w.heap.size w wr := HB1.out.trans (HB.out.mono HG3.out.1)
      have HRR := Lib.hid (show RdR wr wr.heap.size (some ⟨g3, 0, none⟩) hs from .inr ⟨g3, 0, rfl, hbk.lt, fun i hi => by
        have hl := H32.out _ (List.getElem_mem hi)
        have hi67 : i < 67 := by rw [← HN.out]; exact hi
        refine ⟨some ⟨b, off + i * 32, none⟩, 32, ?_, by omega, by decide, ?_⟩
        · rw [Nat.zero_add, hbk.cell i, hall i hi67, hl]
        · refine rd_range (by have := HG3.out.2.1; have := hbk.lt; omega) ?_
          exact rangeAt_keep (HCS.out i hi) fun j => HB.out.cell (p := ⟨b, _, none⟩) HG3.out.2.1 |>.trans (HB1.out.cell (p := ⟨b, _, none⟩) HBL0.out)⟩)
      have HTG := Lib.hid (show Calls Tryz.prog 134 #[.string ⟨#[112, 117, 98, 108, 105, 99]⟩, .slice (some ⟨g3, 0, none⟩) 67 67] wr fun e w' => e = .returned (.agg Z) ∧ Below wr.heap.size wr w' by
        rw [← HZ.out]
        exact tagged_any [112, 117, 98, 108, 105, 99] (some ⟨g3, 0, none⟩) 67 67 hs wr (by decide) HN.out (by decide) (fun r hr => by rw [H32.out r hr]; omega) HRR.out (tab_on HTAB.out hbw hbw.size))
      have HBW := Lib.hid hbw
      obtain ⟨rs, hrs, hrz⟩ := HR.out
      have HRZ := Lib.hid hrz
      have HRS := Lib.hid (hrs.below HB.out HG3.out.2.2)
      clear hbk hsz hall hbw hrs hrz HK HR HB HRR
      go_wp2_with fail
      with_reducible refine (HTG.out).mono ?_
      rintro e w4 ⟨rfl, hb4⟩
      replace HRS := Lib.hid (HRS.out.below hb4 HRS.out.lt)
      replace HBW := Lib.hid (HBW.out.trans (hb4.mono HBW.out.size))
      clear hb4 HTG
      go_wp2_with (with_reducible refine wpList_store_blk rfl 44 (.tmp 2) (.tmp 22) rfl g2 Z rfl rfl 44 rs HRS.out (by rw [HZS.out]; kernel_rfl) (by rw [HZS.out, HRZ.out]) HZO.out ?_)
      refine bodyPost_ret (v := .agg Z) (results_cell_row (p := 2) (ty := 44) (by kernel_rfl) _ _ g2 44 _ (0, 0) _ rfl (HRS.out.row Z) Tryz.underlying44 rfl (by rw [HZS.out]; kernel_rfl)) rfl ⟨by rw [HZ.out], below_row HBW.out HBW.out.size HG.out.1 _⟩

/-- The first k hashes of a rule. -/
def atL (f : Nat → List UInt8) (k : Nat) : List (List UInt8) := (List.range k).map f
theorem atL_len (f : Nat → List UInt8) (k : Nat) : (atL f k).length = k := by simp [atL]
theorem atL_snoc (f : Nat → List UInt8) (k : Nat) : atL f (k + 1) = atL f k ++ [f k] := by simp [atL, List.range_succ]
theorem atL_fill (f : Nat → List UInt8) (z : List UInt8) {k n : Nat} (hk : k < n) : (atL f k ++ List.replicate (n - k) z).set k (f k) = atL f (k + 1) ++ List.replicate (n - (k + 1)) z := by
  rw [List.set_append_right _ _ (by rw [atL_len]; exact Nat.le_refl _), atL_len, Nat.sub_self, show n - k = (n - (k + 1)) + 1 by omega, List.replicate_succ, List.set_cons_zero, atL_snoc, List.append_assoc]
  rfl
theorem atL_full (f : Nat → List UInt8) (z : List UInt8) (n : Nat) : atL f n ++ List.replicate (n - n) z = atL f n := by simp
theorem atL_get (f : Nat → List UInt8) {k i : Nat} (h : i < k) : (atL f k).getD i [] = f i := by simp [atL, List.getD_eq_getElem?_getD, h]
theorem atL_congr {f g : Nat → List UInt8} {k : Nat} (h : ∀ i, i < k → f i = g i) : atL f k = atL g k := List.map_congr_left fun i hi => h i (List.mem_range.1 hi)
theorem fill_len (f : Nat → List UInt8) (z : List UInt8) {k n : Nat} (hk : k ≤ n) : (atL f k ++ List.replicate (n - k) z).length = n := by rw [List.length_append, atL_len, List.length_replicate]; omega
theorem grows_of {w w' : World} (h : Below w.heap.size w w') (row : Option Nat) : w.grownBy w' row := ⟨h.os, h.tape, h.output, h.size, fun k hk _ => h.block k hk⟩
theorem Blk.grows {w w' : World} {g g' : Nat} {cs : Array Value} {T : TypeId} (h : Blk w g cs T) (hg : w.grownBy w' (some g')) (hne : g ≠ g') : Blk w' g cs T := h.grown hg (fun e => hne (Option.some.inj e))
theorem cell_grows {w w' : World} {b o g' : Nat} {v : Value} (h : w.cell? ⟨b, o, none⟩ = some v) (hg : w.grownBy w' (some g')) (hne : b ≠ g') : w'.cell? ⟨b, o, none⟩ = some v := hg.cell h (fun e => hne (Option.some.inj e))
theorem below_grows {B g : Nat} {a w w' : World} (h : Below B a w) (hg : w.grownBy w' (some g)) (hB : B ≤ w.heap.size) (hr : B ≤ g) : Below B a w' := h.grown hg hB (fun k hk => by injection hk with hk; omega)
theorem clampS_nat {d : Nat} (h : d ≤ 15) : wots.clampS (d : Int) = d := by
  unfold wots.clampS
  rw [if_neg (by omega), if_neg (by omega)]
  omega
theorem DV.cells {w : World} {b off n c : Nat} {ds : List Nat} (h : DV w (.slice (some ⟨b, off, none⟩) n c) ds) : ∀ i, i < n → w.cell? ⟨b, off + i, none⟩ = some (.int .i64 ((ds.getD i 0 : Nat) : Int)) := fun i hi => by
  obtain ⟨b', off', e, _, hc⟩ := h.at_ hi
  injection e with e
  injection e with e1 e2
  subst e1 e2
  exact hc
/-- The value on a chain at a message's digit; the end that a value leads to. -/
def signF (sd : List UInt8) (leaf : Int) (D : List Nat) (c : Nat) : List UInt8 := alongH (D.getD c 0) (startH sd leaf (c : Int))
def endF (D : List Nat) (vs : List (List UInt8)) (c : Nat) : List UInt8 := alongH (15 - D.getD c 0) (vs.getD c [])
theorem own_from {w : World} {B C : Nat} {v : Value} {hs : List (List UInt8)} (h : OwnH w B v hs) (hb : C ≤ B) : OwnH w C v hs := by
  refine ⟨h.1, h.2.1, ?_⟩
  rcases h.2.2 with h0 | ⟨g, cap, cur, h1, h2, h3⟩
  · exact .inl h0
  · exact .inr ⟨g, cap, cur, h1, Nat.le_trans hb h2, h3⟩
set_option maxRecDepth 100000 in
set_option maxHeartbeats 8000000 in
theorem ppublic_any (sd : List UInt8) (leaf : Int) (w : World) (hs : sd.length = 16) (hl : leaf ≤ 9223372036854775807) (htab : Pow10 w.heap.size w) :
    Calls Tryz.prog 100 #[.agg (u8A sd), .int .i64 leaf] w fun e w' => e = .returned (.agg (u8A (pubH (endsL sd leaf 67)))) ∧ Below w.heap.size w w' := by
  obtain ⟨X, hX⟩ : ∃ x, u8A sd = x := ⟨_, rfl⟩
  obtain ⟨Z, hZ⟩ : ∃ x, u8A (pubH (endsL sd leaf 67)) = x := ⟨_, rfl⟩
  have HX := Lib.hid hX
  have HZ := Lib.hid hZ
  have HXS := Lib.hid (show X.size = 16 by rw [← hX, u8A_size]; exact hs)
  have HZS := Lib.hid (show Z.size = 32 by rw [← hZ, u8A_size]; exact pubH_len _)
  have HZO := Lib.hid (show Z.all (·.oneCell') = true by rw [← hZ]; exact u8A_one _)
  have HTAB := Lib.hid htab
  rw [hX]
  clear hX hZ htab
  go_enter Tryz.func100, Tryz.ntmps100
  go_upto_region 1 with fail
  generalize hw3 : World.alloc _ _ = w3
  obtain ⟨g1, hg1⟩ : ∃ g, w.heap.size = g := ⟨_, rfl⟩
  obtain ⟨g2, hg2⟩ : ∃ g, w.heap.size + 1 = g := ⟨_, rfl⟩
  have hf : Blk w3 g1 X 23 ∧ (∃ rs, Blk w3 g2 rs 44 ∧ rs.size = 32) ∧ Below w.heap.size w w3 := by
    obtain ⟨Y, hw, hY⟩ : ∃ Y, w3 = (w.alloc (.cells X 23)).alloc (.cells Y 44) ∧ Y.size = 32 := ⟨_, hw3.symm, rfl⟩
    have e1 : (w.alloc (.cells X 23)).heap.size = w.heap.size + 1 := by simp
    rw [hw, ← hg1, ← hg2]
    refine ⟨(Blk.new w _ _).alloc _, ⟨Y, ?_, hY⟩, ((Below.refl _ _).alloc (Nat.le_refl _) _).alloc (by simp) _⟩
    rw [← e1]; exact Blk.new _ _ _
  have HB1 := Lib.hid hf.1
  obtain ⟨rs, hrs, hrz⟩ := hf.2.1
  have HB2 := Lib.hid hrs
  have HRZ := Lib.hid hrz
  have HB3 := Lib.hid hf.2.2
  have HG := Lib.hid (show w.heap.size ≤ g1 ∧ w.heap.size ≤ g2 by omega)
  clear hf hw3 hrs hrz
  rw [hg2, hg1]
  clear hg1 hg2
  go_wp2_with (with_reducible refine wpList_make_hashes rfl _ _ rfl 67 (by omega) rfl rfl ?_)
  intro w4 ho4 hb4
  obtain ⟨g3, hg3⟩ : ∃ g, w3.heap.size = g := ⟨_, rfl⟩
  have HG3 := Lib.hid (show g1 ≠ g3 ∧ g2 ≠ g3 ∧ w.heap.size ≤ g3 by
    have h1 := HB1.out.lt
    have h2 := HB2.out.lt
    have h3 := HB3.out.size
    omega)
  rw [hg3] at ho4 ⊢
  have HO4 := Lib.hid (show OwnH w4 g3 (.slice (some ⟨g3, 0, none⟩) 67 67) (atL (fun c => alongH 15 (startH sd leaf (c : Int))) 0 ++ List.replicate (67 - 0) zeroH) from ho4)
  replace HB1 := Lib.hid (HB1.out.below hb4 HB1.out.lt)
  replace HB2 := Lib.hid (HB2.out.below hb4 HB2.out.lt)
  replace HB3 := Lib.hid (HB3.out.trans (hb4.mono HB3.out.size))
  clear ho4 hb4 hg3
  go_wp2_with fail
  go_loopw [10] (fun t wq => ∃ k : Nat, k ≤ 67 ∧ t = .int .i64 (k : Int) ∧ Hid (OwnH wq g3 (.slice (some ⟨g3, 0, none⟩) 67 67) (atL (fun c => alongH 15 (startH sd leaf (c : Int))) k ++ List.replicate (67 - k) zeroH)) ∧ Hid (w4.grownBy wq (some g3))) (fun t _ => 67 - (intOf t).toNat)
  case atStart => exact ⟨0, Nat.zero_le _, rfl, HO4, Lib.hid (World.grownBy.refl _ _)⟩
  case round =>
    clear HO4
    obtain ⟨k, hk, rfl, HO, HGR⟩ := hrel
    have hbw := below_grows HB3.out HGR.out HB3.out.size HG3.out.2.2
    by_cases hlt : k < 67
    · have hki : (k : Int) < 67 := by omega
      have HFL := Lib.hid (fill_len (fun c => alongH 15 (startH sd leaf (c : Int))) zeroH hk)
      have HFI := Lib.hid (atL_fill (fun c => alongH 15 (startH sd leaf (c : Int))) zeroH hlt)
      obtain ⟨S, hS⟩ : ∃ x, u8A (startH sd leaf (k : Int)) = x := ⟨_, rfl⟩
      obtain ⟨y, hy⟩ : ∃ x, alongH 15 (startH sd leaf (k : Int)) = x := ⟨_, rfl⟩
      have hyl : y.length = 32 := by rw [← hy]; exact alongH_len (startH_len _ _ _) 15
      obtain ⟨Y, hY⟩ : ∃ x, u8A y = x := ⟨_, rfl⟩
      have HYE := Lib.hid hY
      have HYL := Lib.hid hyl
      have HST := Lib.hid (show Calls Tryz.prog 120 #[.agg X, .int .i64 leaf, .int .i64 (k : Int)] wr fun e w' => e = .returned (.agg S) ∧ Below wr.heap.size wr w' by
        rw [← HX.out, ← hS]
        exact pstart_any sd leaf (k : Int) wr hs hl (by omega) (tab_on HTAB.out hbw hbw.size))
      have HAG := Lib.hid (fun W (hW : Below wr.heap.size wr W) => (show Calls Tryz.prog 119 #[.agg S, .int .i64 15] W fun e w' => e = .returned (.agg Y) ∧ Below W.heap.size W w' from by
        rw [← hS, ← hY, ← hy]
        have hb2 := hbw.trans (hW.mono hbw.size)
        exact palong_any (startH sd leaf (k : Int)) 15 W (startH_len _ _ _) (tab_on HTAB.out hb2 hb2.size)))
      rw [hy] at HFI
      generalize (fun c : Nat => alongH 15 (startH sd leaf (c : Int))) = F at *
      have HBX := Lib.hid (HB1.out.grows HGR.out HG3.out.1)
      clear hS hY hy hyl hbw
      go_wp2_with (with_reducible refine wpList_load_blk rfl 23 (.tmp 2) rfl g1 rfl 23 X _ HBX.out Tryz.underlying23 rfl (by rw [HXS.out]; kernel_rfl) ?_)
      with_reducible refine (HST.out).mono ?_
      rintro e w5 ⟨rfl, hb5⟩
      have HB5 := Lib.hid hb5
      clear hb5 HST
      go_wp2_with fail
      with_reducible refine (HAG.out w5 HB5.out).mono ?_
      rintro e w6 ⟨rfl, hb6⟩
      have hb56 := HB5.out.trans (hb6.mono HB5.out.size)
      have HO6 := Lib.hid (HO.out.on hb56)
      have HG6 := Lib.hid (World.grownBy.trans HGR.out (grows_of hb56 _))
      clear hb6 hb56 HAG HB5 HO HGR HBX
      go_wp2_with (with_reducible refine wpList_store_own rfl (.tmp 20) (.tmp 19) rfl HO6.out HFL.out hlt y HYL.out Y HYE.out rfl rfl ?_)
      intro w7 hown7 hg7
      rw [HFI.out] at hown7
      have HO7 := Lib.hid hown7
      have HG7 := Lib.hid (World.grownBy.trans HG6.out hg7)
      clear hown7 hg7 HO6 HG6
      go_wp2_with fail
      go_roundw
      case rel => exact ⟨k + 1, hlt, by go_num, HO7, HG7⟩
      case measure => simp [intOf]; omega
    · obtain rfl : k = 67 := by omega
      rw [atL_full] at HO
      have HPO := Lib.hid (show Calls Tryz.prog 121 #[.slice (some ⟨g3, 0, none⟩) 67 67] wr fun e w' => e = .returned (.agg Z) ∧ Below wr.heap.size wr w' by
        rw [← HZ.out]
        exact ppubof_any HO.out.hv (atL_len _ _) (tab_on HTAB.out hbw hbw.size))
      have HBW := Lib.hid hbw
      have HRS := Lib.hid (HB2.out.grows HGR.out HG3.out.2.1)
      clear hbw HO HGR HB1 HB2
      go_wp2_with fail
      with_reducible refine (HPO.out).mono ?_
      rintro e w5 ⟨rfl, hb5⟩
      replace HRS := Lib.hid (HRS.out.below hb5 HRS.out.lt)
      replace HBW := Lib.hid (HBW.out.trans (hb5.mono HBW.out.size))
      clear hb5 HPO
      go_wp2_with (with_reducible refine wpList_store_blk rfl 44 (.tmp 4) (.tmp 23) rfl g2 Z rfl rfl 44 rs HRS.out (by rw [HZS.out]; kernel_rfl) (by rw [HZS.out, HRZ.out]) HZO.out ?_)
      refine bodyPost_ret (v := .agg Z) (results_cell_row (p := 4) (ty := 44) (by kernel_rfl) _ _ g2 44 _ (0, 0) _ rfl (HRS.out.row Z) Tryz.underlying44 rfl (by rw [HZS.out]; kernel_rfl)) rfl ⟨by rw [HZ.out], below_row HBW.out HBW.out.size HG.out.2 _⟩
set_option maxRecDepth 100000 in
set_option maxHeartbeats 8000000 in
theorem psign_any (sd : List UInt8) (leaf : Int) (A : Option Addr) (n c : Nat) (m : List UInt8) (w : World) (hs : sd.length = 16) (hl : leaf ≤ 9223372036854775807) (hn : m.length = n) (h1 : n ≤ 1000) (hc : n ≤ c) (hcm : c ≤ maxLen) (hr : Rd w w.heap.size A m) (htab : Pow10 w.heap.size w) :
    Calls Tryz.prog 98 #[.agg (u8A sd), .int .i64 leaf, .slice A n c] w fun e w' => ∃ v, e = .returned v ∧ OwnH w' w.heap.size v (atL (signF sd leaf (digH (msgH m))) 67) ∧ Below w.heap.size w w' := by
  obtain ⟨X, hX⟩ : ∃ x, u8A sd = x := ⟨_, rfl⟩
  have HX := Lib.hid hX
  have HXS := Lib.hid (show X.size = 16 by rw [← hX, u8A_size]; exact hs)
  have HTAB := Lib.hid htab
  have HDG := Lib.hid (fun W (hW : Below w.heap.size w W) => pdigits_any A n c m W hn h1 hc hcm (hr.on hW) (tab_on htab hW hW.size))
  have HDL := Lib.hid (digH_len (msgH_len m))
  have HDS := Lib.hid (digH_at (msgH_len m))
  generalize digH (msgH m) = D at *
  rw [hX]
  clear hX htab hn hr
  have HBA := Lib.hid (show Below w.heap.size w (w.alloc (.cells X 23)) from (Below.refl _ _).alloc (Nat.le_refl _) _)
  have HBK := Lib.hid (show Blk (w.alloc (.cells X 23)) w.heap.size X 23 from Blk.new _ _ _)
  obtain ⟨g1, hg1⟩ : ∃ g, w.heap.size = g := ⟨_, rfl⟩
  have HG1 := Lib.hid hg1
  go_enter Tryz.func98, Tryz.ntmps98
  go_upto_region 1 with fail
  generalize w.alloc (.cells X 23) = w1 at *
  rw [hg1] at HBK
  clear hg1
  go_wp2_with (with_reducible refine wpList_make_hashes rfl _ _ rfl 67 (by omega) rfl rfl ?_)
  intro w2 ho2 hb2
  obtain ⟨g3, hg3⟩ : ∃ g, w1.heap.size = g := ⟨_, rfl⟩
  have HG3 := Lib.hid (show g1 ≠ g3 ∧ g1 ≤ g3 ∧ g3 < w2.heap.size by
    have h1 := HBK.out.lt
    obtain ⟨cur, h2, _⟩ := ho2.over (ks := []) (i := 0) (by simp) (fun r hr => by cases hr) (by simp)
    have h3 := (Array.getElem?_eq_some_iff.1 h2).1
    omega)
  rw [hg3] at ho2 ⊢
  replace HBK := Lib.hid (HBK.out.below hb2 HBK.out.lt)
  replace HBA := Lib.hid (HBA.out.trans (hb2.mono HBA.out.size))
  have HO2 := Lib.hid ho2
  have HDC := Lib.hid (HDG.out w2 HBA.out)
  clear ho2 hb2 hg3 HDG
  go_wp2_with fail
  with_reducible refine (HDC.out).mono ?_
  rintro e w3 ⟨v3, rfl, hown3, hb3⟩
  obtain ⟨A3, c3, rfl, _, _⟩ := hown3.form HDL.out
  have hdv := hown3.dv
  obtain ⟨b, off, rfl, hbw, _⟩ := hdv.at_ (i := 0) (by omega)
  have hbge := hown3.lt b rfl
  have HCL := Lib.hid hdv.cells
  have HBN := Lib.hid (show b ≠ g3 by have := HG3.out; omega)
  have HO3 := Lib.hid (show OwnH w3 g3 (.slice (some ⟨g3, 0, none⟩) 67 67) (atL (signF sd leaf D) 0 ++ List.replicate (67 - 0) zeroH) from HO2.out.on hb3)
  replace HBK := Lib.hid (HBK.out.below hb3 HBK.out.lt)
  replace HBA := Lib.hid (HBA.out.trans (hb3.mono HBA.out.size))
  clear hdv hown3 hb3 hbw hbge HDC HO2
  go_wp2_with fail
  go_loopw [14] (fun t wq => ∃ k : Nat, k ≤ 67 ∧ t = .int .i64 (k : Int) ∧ Hid (OwnH wq g3 (.slice (some ⟨g3, 0, none⟩) 67 67) (atL (signF sd leaf D) k ++ List.replicate (67 - k) zeroH)) ∧ Hid (w3.grownBy wq (some g3))) (fun t _ => 67 - (intOf t).toNat)
  case atStart => exact ⟨0, Nat.zero_le _, rfl, HO3, Lib.hid (World.grownBy.refl _ _)⟩
  case round =>
    clear HO3
    obtain ⟨k, hk, rfl, HO, HGR⟩ := hrel
    have hbw := below_grows HBA.out HGR.out HBA.out.size (by have := HG1.out; have := HG3.out; omega)
    by_cases hlt : k < 67
    · have hki : (k : Int) < 67 := by omega
      have HFL := Lib.hid (fill_len (signF sd leaf D) zeroH hk)
      have HFI := Lib.hid (atL_fill (signF sd leaf D) zeroH hlt)
      have hcd := cell_grows (HCL.out k hlt) HGR.out HBN.out
      have hd15 := HDS.out k
      obtain ⟨S, hS⟩ : ∃ x, u8A (startH sd leaf (k : Int)) = x := ⟨_, rfl⟩
      obtain ⟨y, hy⟩ : ∃ x, signF sd leaf D k = x := ⟨_, rfl⟩
      have hy2 : alongH (D.getD k 0) (startH sd leaf (k : Int)) = y := hy
      obtain ⟨d, hd⟩ : ∃ d, D.getD k 0 = d := ⟨_, rfl⟩
      rw [hd] at hcd hd15 hy2
      have hyl : y.length = 32 := by rw [← hy2]; exact alongH_len (startH_len _ _ _) d
      obtain ⟨Y, hY⟩ : ∃ x, u8A y = x := ⟨_, rfl⟩
      have HYE := Lib.hid hY
      have HYL := Lib.hid hyl
      have HST := Lib.hid (show Calls Tryz.prog 120 #[.agg X, .int .i64 leaf, .int .i64 (k : Int)] wr fun e w' => e = .returned (.agg S) ∧ Below wr.heap.size wr w' by
        rw [← HX.out, ← hS]
        exact pstart_any sd leaf (k : Int) wr hs hl (by omega) (tab_on HTAB.out hbw hbw.size))
      have HAG := Lib.hid (fun W (hW : Below wr.heap.size wr W) => (show Calls Tryz.prog 119 #[.agg S, .int .i64 (d : Int)] W fun e w' => e = .returned (.agg Y) ∧ Below W.heap.size W w' from by
        rw [← hS, ← hY, ← hy2]
        have hb2 := hbw.trans (hW.mono hbw.size)
        have := palong_any (startH sd leaf (k : Int)) (d : Int) W (startH_len _ _ _) (tab_on HTAB.out hb2 hb2.size)
        rwa [clampS_nat hd15] at this))
      rw [hy] at HFI
      generalize signF sd leaf D = F at *
      have HBX := Lib.hid (HBK.out.grows HGR.out HG3.out.1)
      clear hS hY hy hy2 hyl hbw hd
      go_wp2_with (with_reducible refine wpList_load_blk rfl 23 (.tmp 3) rfl g1 rfl 23 X _ HBX.out Tryz.underlying23 rfl (by rw [HXS.out]; kernel_rfl) ?_)
      with_reducible refine (HST.out).mono ?_
      rintro e w5 ⟨rfl, hb5⟩
      have HB5 := Lib.hid hb5
      clear hb5 HST
      go_wp2_with fail
      with_reducible refine (HAG.out w5 HB5.out).mono ?_
      rintro e w6 ⟨rfl, hb6⟩
      have hb56 := HB5.out.trans (hb6.mono HB5.out.size)
      have HO6 := Lib.hid (HO.out.on hb56)
      have HG6 := Lib.hid (World.grownBy.trans HGR.out (grows_of hb56 _))
      clear hb6 hb56 HAG HB5 HO HGR HBX hcd
      go_wp2_with (with_reducible refine wpList_store_own rfl (.tmp 27) (.tmp 26) rfl HO6.out HFL.out hlt y HYL.out Y HYE.out rfl rfl ?_)
      intro w7 hown7 hg7
      rw [HFI.out] at hown7
      have HO7 := Lib.hid hown7
      have HG7 := Lib.hid (World.grownBy.trans HG6.out hg7)
      clear hown7 hg7 HO6 HG6
      go_wp2_with fail
      go_roundw
      case rel => exact ⟨k + 1, hlt, by go_num, HO7, HG7⟩
      case measure => simp [intOf]; omega
    · obtain rfl : k = 67 := by omega
      rw [atL_full] at HO
      have HOF := Lib.hid (own_from HO.out (show w.heap.size ≤ g3 by have := HG1.out; have := HG3.out; omega))
      have HBW := Lib.hid hbw
      clear hbw HO HGR
      go_wp2_with fail
      go_ret
      exact ⟨_, rfl, HOF.out, HBW.out⟩

theorem HV.rd8 {w : World} {A : Option Addr} {n c : Nat} {hs : List (List UInt8)} (h : HV w (.slice A n c) hs) : RdH w w.heap.size A hs := by
  obtain ⟨_, X, d, e, _, h2⟩ := h
  injection e with e1 _ _
  subst e1
  exact h2
set_option maxRecDepth 100000 in
set_option maxHeartbeats 8000000 in
theorem rends8_yes (A : Option Addr) (n c : Nat) (m : List UInt8) (V : Option Addr) (cv : Nat) (vs : List (List UInt8)) (w : World) (hn : m.length = n) (h1 : n ≤ 1000) (hc : n ≤ c) (hcm : c ≤ maxLen) (hr : Rd w w.heap.size A m) (hv : HV w (.slice V 67 cv) vs) :
    Calls Tryz.prog 68 #[.slice A n c, .slice V 67 cv] w fun e w' => ∃ v, e = .returned (.tuple #[v, .bool true]) ∧ OwnH w' w.heap.size v (atL (endF (digH (msgH m)) vs) 67) ∧ Below w.heap.size w w' := by
  have HDC := Lib.hid (rdigits_any A n c m w hn h1 hc hcm hr)
  have HDL := Lib.hid (digH_len (msgH_len m))
  have HDS := Lib.hid (digH_at (msgH_len m))
  generalize digH (msgH m) = D at *
  obtain ⟨bv, ov, rfl, hbv, _⟩ := hv.at_ (i := 0) (by omega)
  have HVR := Lib.hid (fun i (hi : i < 67) => (show w.rangeAt bv (ov + i * 32) (Lib.byteCells (vs.getD i [])) ∧ (vs.getD i []).length = 32 by
    obtain ⟨b', o', e, _, h2, h3⟩ := hv.at_ (i := i) hi
    injection e with e
    injection e with e1 e2
    subst e1 e2
    exact ⟨h2, h3⟩))
  have HBV := Lib.hid hbv
  clear hn hr hv hbv
  go_enter Tryz.func68, Tryz.ntmps68
  go_wp2_with fail
  with_reducible refine (HDC.out).mono ?_
  rintro e w3 ⟨v3, rfl, hown3, hb3⟩
  obtain ⟨A3, c3, rfl, _, _⟩ := hown3.form HDL.out
  have hdv := hown3.dv
  obtain ⟨b, off, rfl, hbw, _⟩ := hdv.at_ (i := 0) (by omega)
  have HCL := Lib.hid (fun i (hi : i < 67) W (hW : Below w3.heap.size w3 W) => (show W.cell? ⟨b, off + i, none⟩ = some (.int .i64 ((D.getD i 0 : Nat) : Int)) from (hW.cell (p := ⟨b, off + i, none⟩) hbw).trans (hdv.cells i hi)))
  have HBA := Lib.hid hb3
  clear hdv hown3 hb3 hbw HDC
  go_wp2_with fail
  go_loopw [7, 16] (fun v t wq => ∃ (k : Nat) (A5 : Option Addr) (c5 : Nat), k ≤ 67 ∧ t = .int .i64 (k : Int) ∧ v = .slice A5 k c5 ∧ Hid (OwnH wq w3.heap.size (.slice A5 k c5) (atL (endF D vs) k)) ∧ Hid (Below w3.heap.size w3 wq)) (fun _ t _ => 67 - (intOf t).toNat)
  case atStart => exact ⟨0, none, 0, Nat.zero_le _, rfl, rfl, Lib.hid (OwnH.nil _ _), Lib.hid (Below.refl _ _)⟩
  case round =>
    obtain ⟨k, A5, c5, hk, rfl, rfl, HO, HBQ⟩ := hrel
    by_cases hlt : k < 67
    · have hki : (k : Int) < 67 := by omega
      have HFI := Lib.hid (atL_snoc (endF D vs) k).symm
      have hd15 := HDS.out k
      obtain ⟨hvr, hvl⟩ := HVR.out k hlt
      obtain ⟨y, hy⟩ : ∃ x, endF D vs k = x := ⟨_, rfl⟩
      have hy2 : alongH (15 - D.getD k 0) (vs.getD k []) = y := hy
      have hcl := HCL.out k hlt
      obtain ⟨d, hd⟩ : ∃ d, D.getD k 0 = d := ⟨_, rfl⟩
      obtain ⟨x, hx⟩ : ∃ x, vs.getD k [] = x := ⟨_, rfl⟩
      obtain ⟨d2, hd2⟩ : ∃ d2, 15 - d = d2 := ⟨_, rfl⟩
      rw [hd] at hd15 hy2 hcl
      rw [hx] at hy2 hvr hvl
      rw [hd2] at hy2
      have HSB := Lib.hid (show IntKind.i64.wrap ((15 : Int) - (d : Int)) = (d2 : Int) by rw [IntWalk.i64_in _ (by omega)]; omega)
      have hd2b : d2 ≤ 15 := by omega
      have hyl : y.length = 32 := by rw [← hy2]; exact alongH_len hvl d2
      obtain ⟨Y, hY⟩ : ∃ x, u8A y = x := ⟨_, rfl⟩
      obtain ⟨C, hC⟩ : ∃ z, u8A x = z := ⟨_, rfl⟩
      have HYE := Lib.hid hY
      have HYL := Lib.hid hyl
      have HCE := Lib.hid hC
      have HXL := Lib.hid hvl
      have HCD := Lib.hid (fun W (hW : Below wr.heap.size wr W) => hcl W (HBQ.out.trans (hW.mono HBQ.out.size)))
      have HRX := Lib.hid (fun W (hW : Below wr.heap.size wr W) => (show W.rangeAt bv (ov + k * 32) (Lib.byteCells x) from rangeAt_keep hvr fun j => (HBA.out.trans ((HBQ.out.trans (hW.mono HBQ.out.size)).mono HBA.out.size)).cell (p := ⟨bv, _, none⟩) HBV.out))
      have HAG := Lib.hid (fun W (hW : Below wr.heap.size wr W) => (show Calls Tryz.prog 102 #[.agg C, .int .i64 (d2 : Int)] W fun e w' => e = .returned (.agg Y) ∧ Below W.heap.size W w' from by
        rw [← hC, ← hY, ← hy2]
        have := ralong_any x (d2 : Int) W hvl
        rwa [clampS_nat hd2b] at this))
      rw [hy] at HFI
      generalize endF D vs = F at *
      clear hC hY hy hy2 hyl hd hd2 hx hvr hcl hvl
      go_wp2_with fail
      refine wp_region_loose 12 2 (fun i => false) (promises [.is (.slice A5 k c5), .is (.slice (some ⟨bv, ov, none⟩) 67 cv), .is (.int .i64 (k : Int)), .is (.pointer (some ⟨bv, ov + k * 32, none⟩)), .is (.agg C), .is (.slice (some ⟨b, off, none⟩) 67 c3), .is (.int .i64 (k : Int)), .is (.pointer (some ⟨b, off + k, none⟩)), .is (.int .i64 (d : Int)), .is (.int .i64 (d2 : Int)), .is (.agg Y), .hv 1 [y]]) (by kernel_rfl) rfl (by kernel_rfl) (fun i v w w' h hb => Spec.keep h hb) ⟨?_, ?_, ?_, ?_, ?_, ?_, ?_, ?_, ?_, ?_, ?_, ?_, trivial⟩ ?_
      · refine StepOKl.of ?_
        intro ac w hb hu hk
        refine ⟨wanted_none rfl, ?_⟩
        have e7 : ac.eval (.tmp 7) = .slice A5 k c5 := hu.is (t := 7) (by kernel_rfl)
        exact step_value (BigFrame.run_move (.tmp 7) rfl w) (Below.refl _ _) e7
      · refine StepOKl.of ?_
        intro ac w hb hu hk
        refine ⟨wanted_none rfl, ?_⟩
        have e1 : ac.eval (.tmp 1) = .slice (some ⟨bv, ov, none⟩) 67 cv := hu.is (t := 1) (by kernel_rfl)
        exact step_value (BigFrame.run_move (.tmp 1) rfl w) (Below.refl _ _) e1
      · refine StepOKl.of ?_
        intro ac w hb hu hk
        refine ⟨wanted_none rfl, ?_⟩
        have e8 : ac.eval (.tmp 8) = .int .i64 (k : Int) := hu.is (t := 8) (by kernel_rfl)
        exact step_value (BigFrame.run_move (.tmp 8) rfl w) (Below.refl _ _) e8
      · refine StepOKl.of ?_
        intro ac w hb hu hk
        refine ⟨wanted_none rfl, ?_⟩
        have e20 : ac.eval (.tmp 20) = (.slice (some ⟨bv, ov, none⟩) 67 cv) := (hk ⟨1, .data⟩ (by simp) rfl).is rfl rfl
        have e21 : ac.eval (.tmp 21) = (.int .i64 (k : Int)) := (hk ⟨2, .data⟩ (by simp) rfl).is rfl rfl
        refine step_value (w' := w) (v := (.pointer (some ⟨bv, ov + k * 32, none⟩))) ?_ (Below.refl _ _) rfl
        generalize ac.eval = ρ at e20 e21 ⊢
        go_simp
      · refine StepOKl.of ?_
        intro ac w hb hu hk
        refine ⟨wanted_none rfl, ?_⟩
        have e22 : ac.eval (.tmp 22) = (.pointer (some ⟨bv, ov + k * 32, none⟩)) := (hk ⟨3, .data⟩ (by simp) rfl).is rfl rfl
        exact step_value (run_load_hash (.tmp 22) rfl bv (ov + k * 32) e22 x HXL.out (HRX.out w hb) HCE.out) (Below.refl _ _) rfl
      · refine StepOKl.of ?_
        intro ac w hb hu hk
        refine ⟨wanted_none rfl, ?_⟩
        have e6 : ac.eval (.tmp 6) = .slice (some ⟨b, off, none⟩) 67 c3 := hu.is (t := 6) (by kernel_rfl)
        exact step_value (BigFrame.run_move (.tmp 6) rfl w) (Below.refl _ _) e6
      · refine StepOKl.of ?_
        intro ac w hb hu hk
        refine ⟨wanted_none rfl, ?_⟩
        have e8 : ac.eval (.tmp 8) = .int .i64 (k : Int) := hu.is (t := 8) (by kernel_rfl)
        exact step_value (BigFrame.run_move (.tmp 8) rfl w) (Below.refl _ _) e8
      · refine StepOKl.of ?_
        intro ac w hb hu hk
        refine ⟨wanted_none rfl, ?_⟩
        have e24 : ac.eval (.tmp 24) = (.slice (some ⟨b, off, none⟩) 67 c3) := (hk ⟨5, .data⟩ (by simp) rfl).is rfl rfl
        have e25 : ac.eval (.tmp 25) = (.int .i64 (k : Int)) := (hk ⟨6, .data⟩ (by simp) rfl).is rfl rfl
        refine step_value (w' := w) (v := (.pointer (some ⟨b, off + k, none⟩))) ?_ (Below.refl _ _) rfl
        generalize ac.eval = ρ at e24 e25 ⊢
        go_simp
      · refine StepOKl.of ?_
        intro ac w hb hu hk
        refine ⟨wanted_none rfl, ?_⟩
        have e26 : ac.eval (.tmp 26) = (.pointer (some ⟨b, off + k, none⟩)) := (hk ⟨7, .data⟩ (by simp) rfl).is rfl rfl
        have hc := HCD.out w hb
        refine step_value (w' := w) (v := .int .i64 (d : Int)) ?_ (Below.refl _ _) rfl
        generalize ac.eval = ρ at e26 ⊢
        go_simp
      · refine StepOKl.of ?_
        intro ac w hb hu hk
        refine ⟨wanted_none rfl, ?_⟩
        have e27 : ac.eval (.tmp 27) = (.int .i64 (d : Int)) := (hk ⟨8, .data⟩ (by simp) rfl).is rfl rfl
        have hsw := HSB.out
        refine step_value (w' := w) (v := .int .i64 (d2 : Int)) ?_ (Below.refl _ _) rfl
        have ec : ac.eval (.const (.int .i64 15)) = .int .i64 15 := rfl
        generalize ac.eval = ρ at e27 ec ⊢
        go_simp
      · refine StepOKl.of ?_
        intro ac w hb hu hk
        refine ⟨wanted_none rfl, ?_⟩
        have e23 : ac.eval (.tmp 23) = (.agg C) := (hk ⟨4, .data⟩ (by simp) rfl).is rfl rfl
        have e28 : ac.eval (.tmp 28) = (.int .i64 (d2 : Int)) := (hk ⟨9, .data⟩ (by simp) rfl).is rfl rfl
        have ef : ac.eval (.func 102) = .func (.func 102) #[] #[] := rfl
        refine step_enter (f := 102) (args := #[.agg C, .int .i64 (d2 : Int)]) ?_ ?_
        · generalize ac.eval = ρ at e23 e28 ef ⊢
          go_simp
        · exact (HAG.out w hb).mono fun e w' ⟨he, hq⟩ => ⟨_, he, rfl, hq⟩
      · refine StepOKl.of ?_
        intro ac w hb hu hk
        refine ⟨wanted_none rfl, ?_⟩
        have e29 : ac.eval (.tmp 29) = (.agg Y) := (hk ⟨10, .data⟩ (by simp) rfl).is rfl rfl
        exact step_build_hash rfl y HYL.out (by rw [HYE.out]; exact e29)
      · intro ac w' hb hu hk hap
        obtain ⟨_, h19, rfl⟩ := (hk 0 (by decide)).put rfl rfl
        obtain ⟨_, h20, rfl⟩ := (hk 1 (by decide)).put rfl rfl
        obtain ⟨_, h21, rfl⟩ := (hk 2 (by decide)).put rfl rfl
        obtain ⟨_, h22, rfl⟩ := (hk 3 (by decide)).put rfl rfl
        obtain ⟨_, h23, rfl⟩ := (hk 4 (by decide)).put rfl rfl
        obtain ⟨_, h24, rfl⟩ := (hk 5 (by decide)).put rfl rfl
        obtain ⟨_, h25, rfl⟩ := (hk 6 (by decide)).put rfl rfl
        obtain ⟨_, h26, rfl⟩ := (hk 7 (by decide)).put rfl rfl
        obtain ⟨_, h27, rfl⟩ := (hk 8 (by decide)).put rfl rfl
        obtain ⟨_, h28, rfl⟩ := (hk 9 (by decide)).put rfl rfl
        obtain ⟨_, h29, rfl⟩ := (hk 10 (by decide)).put rfl rfl
        obtain ⟨_, h30, ⟨X30, xc30, rfl, hxc30, hX30⟩⟩ := (hk 11 (by decide)).put rfl rfl
        clear hap
        have hF : AllPuts ac.tmps ((19, _) :: (20, _) :: (21, _) :: (22, _) :: (23, _) :: (24, _) :: (25, _) :: (26, _) :: (27, _) :: (28, _) :: (29, _) :: (30, _) :: []) := ⟨h19, h20, h21, h22, h23, h24, h25, h26, h27, h28, h29, h30, trivial⟩
        obtain rfl := frame_puts hu (by kernel_rfl) hF
        simp only [puts, Act.put, List.setIfInBounds_toArray, List.set_cons_zero, List.set_cons_succ, List.drop_succ_cons, List.drop_zero]
        clear hk hu hF h19 h20 h21 h22 h23 h24 h25 h26 h27 h28 h29 h30
        have hbk := hb
        have hsk := hb.size
        obtain ⟨A9, hA9⟩ : ∃ z, X30 = z := ⟨_, rfl⟩
        obtain ⟨c9, hc9⟩ : ∃ z, xc30 = z := ⟨_, rfl⟩
        rw [hA9] at hX30 ⊢
        rw [hc9] at hX30 ⊢
        have HO9 := Lib.hid (HO.out.on hbk)
        have HS9 := Lib.hid hX30
        have hb9 := HBQ.out.trans (hbk.mono HBQ.out.size)
        have hs9 := hb9.size
        have HB9 := Lib.hid hb9
        clear hb hbk hsk hA9 hc9 hxc30 hX30 HO hb9
        go_wp2_with (at_builtin; refine wpList_append_hashes rfl _ _ rfl w3.heap.size _ (atL F k) rfl HO9.out w'.heap.size A9 1 c9 [y] rfl rfl (fun r hr => by rw [List.mem_singleton.1 hr]; exact HYL.out) HS9.out.rd8 (by rw [atL_len]; omega) hs9 ?_)
        intro v7 w7 hown7 hb7
        rw [HFI.out] at hown7
        obtain ⟨A7, c7, rfl, _, _⟩ := hown7.form (atL_len _ _)
        have HO7 := Lib.hid hown7
        have HB7 := Lib.hid (HB9.out.trans hb7)
        clear hown7 hb7 HO9 HS9 HB9 hs9
        go_wp2_with fail
        go_roundw
        case rel => exact ⟨k + 1, A7, c7, hlt, by go_num, rfl, HO7, HB7⟩
        case measure => simp [intOf]; omega
    · obtain rfl : k = 67 := by omega
      have HOF := Lib.hid (own_from HO.out HBA.out.size)
      have HBW := Lib.hid (HBA.out.trans (HBQ.out.mono HBA.out.size))
      clear HO HBQ
      go_wp2_with fail
      go_ret2
      exact ⟨_, rfl, HOF.out, HBW.out⟩
set_option maxRecDepth 100000 in
set_option maxHeartbeats 8000000 in
theorem rends8_no (A : Option Addr) (n c : Nat) (V : Option Addr) (k cv : Nat) (w : World) (hk : k ≠ 67) :
    Calls Tryz.prog 68 #[.slice A n c, .slice V k cv] w fun e w' => e = .returned (.tuple #[.slice none 0 0, .bool false]) ∧ Below w.heap.size w w' := by
  have hne : ((k : Int) != 67) = true := by simp; omega
  go_enter Tryz.func68, Tryz.ntmps68
  go_wp2_with fail
  go_ret2
  exact ⟨rfl, Below.refl _ _⟩

set_option maxRecDepth 100000 in
set_option maxHeartbeats 8000000 in
theorem rrec8_yes (A : Option Addr) (n c : Nat) (m : List UInt8) (V : Option Addr) (cv : Nat) (vs : List (List UInt8)) (w : World) (hn : m.length = n) (h1 : n ≤ 1000) (hc : n ≤ c) (hcm : c ≤ maxLen) (hr : Rd w w.heap.size A m) (hv : HV w (.slice V 67 cv) vs) :
    Calls Tryz.prog 35 #[.slice A n c, .slice V 67 cv] w fun e w' => e = .returned (.tuple #[.agg (u8A (pubH (atL (endF (digH (msgH m)) vs) 67))), .bool true]) ∧ Below w.heap.size w w' := by
  have HED := Lib.hid (fun W (hW : Below w.heap.size w W) => rends8_yes A n c m V cv vs W hn h1 hc hcm (hr.on hW) (hv.on hW))
  have HEL := Lib.hid (atL_len (endF (digH (msgH m)) vs) 67)
  generalize atL (endF (digH (msgH m)) vs) 67 = E at *
  obtain ⟨Z, hZ⟩ : ∃ x, u8A (pubH E) = x := ⟨_, rfl⟩
  have HZ := Lib.hid hZ
  have HZS := Lib.hid (show Z.size = 32 by rw [← hZ, u8A_size]; exact pubH_len _)
  have HZO := Lib.hid (show Z.all (·.oneCell') = true by rw [← hZ]; exact u8A_one _)
  clear hn hr hv hZ
  go_enter Tryz.func35, Tryz.ntmps35
  go_upto_region 1 with fail
  generalize hw1 : World.alloc _ _ = w1
  obtain ⟨g2, hg2⟩ : ∃ g, w.heap.size = g := ⟨_, rfl⟩
  have hf : (∃ rs, Blk w1 g2 rs 44 ∧ rs.size = 32) ∧ Below w.heap.size w w1 := by
    obtain ⟨Y, hw, hY⟩ : ∃ Y, w1 = w.alloc (.cells Y 44) ∧ Y.size = 32 := ⟨_, hw1.symm, rfl⟩
    rw [hw, ← hg2]
    exact ⟨⟨Y, Blk.new w _ _, hY⟩, (Below.refl _ _).alloc (Nat.le_refl _) _⟩
  obtain ⟨rs, hrs, hrz⟩ := hf.1
  have HR := Lib.hid hrs
  have HRZ := Lib.hid hrz
  have HB := Lib.hid hf.2
  have HG := Lib.hid (show w.heap.size ≤ g2 by omega)
  have HEC := Lib.hid (HED.out w1 hf.2)
  clear hf hw1 hrs hrz HED
  rw [hg2]
  clear hg2
  go_wp2_with fail
  with_reducible refine (HEC.out).mono ?_
  rintro e w2 ⟨v2, rfl, hown, hb2⟩
  obtain ⟨A2, c2, rfl, _, _⟩ := hown.form HEL.out
  replace HR := Lib.hid (HR.out.below hb2 HR.out.lt)
  replace HB := Lib.hid (HB.out.trans (hb2.mono HB.out.size))
  have HPT := Lib.hid (rpubtext_any A2 67 c2 E w2 HEL.out (by omega) hown.1 hown.hv.rd8)
  have HPL := Lib.hid (pubT_len E hown.1)
  clear hown hb2 HEC
  go_wp2_with fail
  with_reducible refine (HPT.out).mono ?_
  rintro e w5 ⟨A5, c5, rfl, hc5, hr5, hb5⟩
  obtain ⟨q, hq⟩ : ∃ q, (pubT E).length = q := ⟨_, rfl⟩
  rw [hq] at hc5 ⊢
  have HQ := Lib.hid (show q ≤ 1000000 by rw [← hq, HPL.out, HEL.out]; omega)
  have HSU := Lib.hid (show Calls Tryz.prog 37 #[.slice A5 q c5] w5 fun e w' => e = .returned (.agg Z) ∧ Below w5.heap.size w5 w' by
    rw [← HZ.out]
    exact rsum_any A5 q c5 (pubT E) w5 hq HQ.out hr5)
  replace HR := Lib.hid (HR.out.below hb5 HR.out.lt)
  replace HB := Lib.hid (HB.out.trans (hb5.mono HB.out.size))
  clear hb5 hr5 hc5 HPT HPL hq
  go_wp2_with fail
  with_reducible refine (HSU.out).mono ?_
  rintro e w3 ⟨rfl, hb3⟩
  replace HR := Lib.hid (HR.out.below hb3 HR.out.lt)
  replace HB := Lib.hid (HB.out.trans (hb3.mono HB.out.size))
  clear hb3 HSU
  go_wp2_with (with_reducible refine wpList_store_blk rfl 44 (.tmp 4) (.tmp 19) rfl g2 Z rfl rfl 44 rs HR.out (by rw [HZS.out]; kernel_rfl) (by rw [HZS.out, HRZ.out]) HZO.out ?_)
  refine bodyPost_ret (v := .tuple #[.agg Z, .bool true]) (results_cell_tmp (p := 4) (q := 5) (ty := 44) (by kernel_rfl) _ _ g2 44 _ (0, 0) _ (.bool true) rfl rfl (HR.out.row Z) Tryz.underlying44 rfl (by rw [HZS.out]; kernel_rfl)) rfl ⟨by rw [HZ.out], below_row HB.out HB.out.size HG.out _⟩
set_option maxRecDepth 100000 in
set_option maxHeartbeats 8000000 in
theorem rrec8_no (A : Option Addr) (n c : Nat) (V : Option Addr) (k cv : Nat) (w : World) (hk : k ≠ 67) :
    Calls Tryz.prog 35 #[.slice A n c, .slice V k cv] w fun e w' => e = .returned (.tuple #[.agg (u8A zeroH), .bool false]) ∧ Below w.heap.size w w' := by
  have HED := Lib.hid (fun W => rends8_no A n c V k cv W hk)
  obtain ⟨Z, hZ⟩ : ∃ x, u8A zeroH = x := ⟨_, rfl⟩
  have HZ := Lib.hid hZ
  have HZS := Lib.hid (show Z.size = 32 by rw [← hZ, u8A_size]; rfl)
  have HZO := Lib.hid (show Z.all (·.oneCell') = true by rw [← hZ]; exact u8A_one _)
  clear hZ
  go_enter Tryz.func35, Tryz.ntmps35
  go_upto_region 1 with fail
  generalize hw1 : World.alloc _ _ = w1
  obtain ⟨g2, hg2⟩ : ∃ g, w.heap.size = g := ⟨_, rfl⟩
  have hf : (∃ rs, Blk w1 g2 rs 44 ∧ rs.size = 32) ∧ Below w.heap.size w w1 := by
    obtain ⟨Y, hw, hY⟩ : ∃ Y, w1 = w.alloc (.cells Y 44) ∧ Y.size = 32 := ⟨_, hw1.symm, rfl⟩
    rw [hw, ← hg2]
    exact ⟨⟨Y, Blk.new w _ _, hY⟩, (Below.refl _ _).alloc (Nat.le_refl _) _⟩
  obtain ⟨rs, hrs, hrz⟩ := hf.1
  have HR := Lib.hid hrs
  have HRZ := Lib.hid hrz
  have HB := Lib.hid hf.2
  have HG := Lib.hid (show w.heap.size ≤ g2 by omega)
  clear hf hw1 hrs hrz
  rw [hg2]
  clear hg2
  go_wp2_with fail
  with_reducible refine (HED.out w1).mono ?_
  rintro e w2 ⟨rfl, hb2⟩
  replace HR := Lib.hid (HR.out.below hb2 HR.out.lt)
  replace HB := Lib.hid (HB.out.trans (hb2.mono HB.out.size))
  clear hb2 HED
  go_wp2_with (first
    | (with_reducible refine wpList_build_zero rfl rfl Z HZ.out ?_)
    | (with_reducible refine wpList_store_blk rfl 44 (.tmp 4) (.tmp 16) rfl g2 Z rfl rfl 44 rs HR.out (by rw [HZS.out]; kernel_rfl) (by rw [HZS.out, HRZ.out]) HZO.out ?_))
  refine bodyPost_ret (v := .tuple #[.agg Z, .bool false]) (results_cell_tmp (p := 4) (q := 5) (ty := 44) (by kernel_rfl) _ _ g2 44 _ (0, 0) _ (.bool false) rfl rfl (HR.out.row Z) Tryz.underlying44 rfl (by rw [HZS.out]; kernel_rfl)) rfl ⟨by rw [HZ.out], below_row HB.out HB.out.size HG.out _⟩
end Go.Proofs.YtndknifdajjalaaGreatDoor
