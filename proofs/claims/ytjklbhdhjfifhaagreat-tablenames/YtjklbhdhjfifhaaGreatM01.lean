import Derived.Test.YtjklbhdhjfifhaaGreatRows
import Derived.WalkKit
import Derived.WalkSpells
import Derived.WalkLawsBesides
import Derived.Deep.AppendSrc
import Derived.Laws.AppendOwn
import Derived.Laws.MakeOwn
import Derived.Laws.Cover3
import Derived.Deep.Cut
import Derived.Deep.CutRange
import Derived.Deep.RegionHeldLaw
import Derived.BigQuiet
import Derived.Handy
/-
  What the walks of this seat share: bytes, rows of one's own, what append answers.
-/
namespace Go.Proofs.YtjklbhdhjfifhaaGreat
open Go.RowKit

theorem hide {p : Prop} (h : p) : Hid p := h
theorem then_below {B : Nat} {w w1 w2 : World} (h : Below B w w1) (k : Below w1.heap.size w1 w2) (hB : B ≤ w.heap.size) : Below B w w2 := h.trans (k.mono (Nat.le_trans hB h.size))
theorem lt_of_heap {w : World} {g : Nat} {o : Obj} (h : w.heap[g]? = some o) : g < w.heap.size := by
  rcases Nat.lt_or_ge g w.heap.size with l | l
  · exact l
  · rw [Array.getElem?_eq_none l] at h; cases h
theorem info5 : Tryz.prog.info? 5 = some Tryz.t5 := by kernel_rfl

/-- The bytes of a slice. -/
def Bytes (w : World) (v : Value) (bs : List (BitVec 8)) : Prop :=
  ∃ (a : Option Addr) (c : Nat), v = .slice a bs.length c ∧ ∀ k, k < bs.length → ∃ b off, a = some ⟨b, off, none⟩ ∧ w.cell? ⟨b, off + k, none⟩ = some (.int .u8 ((bs.getD k 0).toNat : Int))
theorem Bytes.below {w w' : World} {v : Value} {bs : List (BitVec 8)} (h : Bytes w v bs) (hb : Below w.heap.size w w') : Bytes w' v bs := by
  obtain ⟨a, c, hv, hc⟩ := h
  refine ⟨a, c, hv, fun k hk => ?_⟩
  obtain ⟨b, off, ha, hcell⟩ := hc k hk
  refine ⟨b, off, ha, ?_⟩
  rw [hb.cell (p := ⟨b, off + k, none⟩) (block_lt_of_cell hcell), hcell]
theorem Bytes.empty (w : World) : Bytes w (.slice none 0 0) [] := ⟨_, _, rfl, fun k hk => by simp at hk⟩
theorem Bytes.at {w : World} {b off n c : Nat} {bs : List (BitVec 8)} (h : Bytes w (.slice (some ⟨b, off, none⟩) n c) bs) (k : Nat) (hk : k < bs.length) : w.cell? ⟨b, off + k, none⟩ = some (.int .u8 ((bs.getD k 0).toNat : Int)) := by
  obtain ⟨a, c', hv, hc⟩ := h
  cases hv
  obtain ⟨b', off', ha, hcell⟩ := hc k hk
  cases ha
  exact hcell
theorem Bytes.len {w : World} {a : Option Addr} {n c : Nat} {bs : List (BitVec 8)} (h : Bytes w (.slice a n c) bs) : n = bs.length := by
  obtain ⟨a', c', hv, hc⟩ := h
  cases hv
  rfl
theorem Bytes.addr {w : World} {a : Option Addr} {n c : Nat} {bs : List (BitVec 8)} (h : Bytes w (.slice a n c) bs) (h0 : 0 < n) : ∃ b off, a = some ⟨b, off, none⟩ := by
  obtain ⟨a', c', hv, hc⟩ := h
  cases hv
  obtain ⟨b, off, ha, _⟩ := hc 0 h0
  exact ⟨b, off, ha⟩
/-- A part of bytes. -/
theorem Bytes.part {w : World} {b off n c : Nat} {bs : List (BitVec 8)} (h : Bytes w (.slice (some ⟨b, off, none⟩) n c) bs) (i m c' : Nat) (hm : i + m ≤ bs.length) : Bytes w (.slice (some ⟨b, off + i, none⟩) m c') ((bs.drop i).take m) := by
  have hl : ((bs.drop i).take m).length = m := by rw [List.length_take, List.length_drop]; omega
  refine ⟨_, c', by rw [hl], fun k hk => ⟨b, off + i, rfl, ?_⟩⟩
  rw [hl] at hk
  have := h.at (i + k) (by omega)
  rw [show off + i + k = off + (i + k) by omega, this]
  congr 2
  simp [List.getD, hk]
theorem Bytes.nothing {w : World} (a : Option Addr) (c : Nat) : Bytes w (.slice a 0 c) [] := ⟨a, c, rfl, fun k hk => by simp at hk⟩


/-- The cells of bytes. -/
def cellsOf (bs : List (BitVec 8)) : List Value := bs.map fun b => .int .u8 (b.toNat : Int)

theorem heap_keep {w w' : World} (h : Below w.heap.size w w') {g : Nat} {o : Obj} (e : w.heap[g]? = some o) : w'.heap[g]? = some o := by
  rw [h.block g, e]
  rcases Nat.lt_or_ge g w.heap.size with l | l
  · exact l
  · rw [Array.getElem?_eq_none l] at e; cases e

section
variable {P : Program}
/-- An append whose outcome is known. -/
theorem wpList_append_run {ops : Array Oper} {rest : List Oper} {o : Oper} {a : Act} {w : World} {Q : Exit → Act → World → Prop} (hgd : o.guard = none) (s x : Operand) (t : TypeId)
    (ho : o.op = .call { callee := .builtin .append, args := #[s, x], argTypes := #[t, t] }) (vs vx : Value) (hs : a.eval s = vs) (hx : a.eval x = vx) (v : Value) (w' : World)
    (hr : (Builtin.append_ #[t, t] o.type #[vs, vx]).run P w = .ok v w') (h : wpList P ops Q rest (a.put o.dst v) w') : wpList P ops Q (o :: rest) a w :=
  wpList_plain hgd fun K hK => by
    unfold Oper.wp execOp
    simp only [ho, resolve, invoke, builtin, Sem.run_bind, Sem.run_pure, Result.andThen_ok, List.map_toArray, List.map_cons, List.map_nil, hs, hx, hr]
    exact hK _ _ h

theorem heap_setCells (g : Nat) (t : TypeId) : ∀ (vs : List Value) (o : Nat) (w : World) (cs : Array Value), w.heap[g]? = some (.cells cs t (0, 0)) →
    ∃ cs', (w.setCells g o vs).heap[g]? = some (.cells cs' t (0, 0)) ∧ cs'.size = cs.size ∧ ∀ k, k < cs.size → cs'[k]? = if o ≤ k ∧ k < o + vs.length then vs[k - o]? else cs[k]?
  | [], o, w, cs, h => ⟨cs, h, rfl, fun k _ => by rw [if_neg (by simp)]⟩
  | v :: r, o, w, cs, h => by
    obtain ⟨cs', h1, h2, h3⟩ := heap_setCells g t r (o + 1) (w.setCell ⟨g, o, none⟩ v) _ (heap_setCell_same w g o cs t v h)
    refine ⟨cs', h1, by rw [h2]; simp, fun k hk => ?_⟩
    rw [h3 k (by simpa using hk), Array.getElem?_setIfInBounds]
    by_cases e : k = o
    · subst e
      rw [if_neg (by omega), if_pos rfl, if_pos hk, if_pos (by simp), Nat.sub_self]
      rfl
    · by_cases h2 : o + 1 ≤ k ∧ k < o + 1 + r.length
      · rw [if_pos h2, if_pos (by simp; omega), show k - o = (k - (o + 1)) + 1 by omega, List.getElem?_cons_succ]
      · rw [if_neg h2, if_neg (fun x => e x.symm), if_neg (by simp; omega)]
theorem below_cells {B g : Nat} (hg : B ≤ g) : ∀ (vs : List Value) (o : Nat) {a w : World}, Below B a w → Below B a (w.setCells g o vs)
  | [], _, _, _, h => h
  | v :: r, o, _, _, h => below_cells hg r (o + 1) (h.setCell (by exact hg) v)

/-- A row of one's own: its first cells are told, and there is room up to its end. -/
def RowC (w : World) (g : Nat) (e : TypeId) (room : Nat) (cells : List Value) : Prop :=
  ∃ cs : Array Value, w.heap[g]? = some (.cells cs e (0, 0)) ∧ room ≤ cs.size ∧ ∀ k, k < cells.length → cs[k]? = cells[k]?
theorem RowC.below {w w' : World} {g e room : Nat} {cells : List Value} (h : RowC w g e room cells) (hb : Below w.heap.size w w') : RowC w' g e room cells := by
  obtain ⟨cs, h1, h2, h3⟩ := h
  exact ⟨cs, heap_keep hb h1, h2, h3⟩
theorem RowC.block {w w' : World} {g e room B : Nat} {cells : List Value} (h : RowC w g e room cells) (hb : Below B w w') (hg : g < B) : RowC w' g e room cells := by
  obtain ⟨cs, h1, h2, h3⟩ := h
  exact ⟨cs, (hb.block g hg).trans h1, h2, h3⟩

end
theorem sz5 : Tryz.t5.size = 1 := by kernel_rfl
theorem bytes5 : Tryz.t5.bytes = 1 := by kernel_rfl
theorem zero5 : Tryz.t5.zero = some (.int .u8 0) := by kernel_rfl

/-- What an append of those bytes yields. -/
theorem src_of_bytes {w : World} {v : Value} {bs : List (BitVec 8)} (h : Bytes w v bs) : Src Tryz.prog Tryz.t5.size 28 v bs.length (cellsOf bs) w := by
  obtain ⟨a, c, rfl, h⟩ := h
  cases a with
  | none =>
    have hz : bs.length = 0 := by
      rcases Nat.eq_zero_or_pos bs.length with h0 | h0
      · exact h0
      · obtain ⟨_, _, ha, _⟩ := h 0 h0; cases ha
    obtain rfl : bs = [] := by simpa using hz
    exact Src.ofNil w Tryz.underlying28 c
  | some ad =>
    refine Src.ofSlice w Tryz.underlying28 ad _ c _ (by simp [cellsOf, sz5]) (fun j u hu => ?_) (fun u hu => ?_)
    · have hj : j < bs.length := by
        rcases Nat.lt_or_ge j bs.length with hl | hl
        · exact hl
        · rw [List.getElem?_eq_none (by simpa [cellsOf] using hl)] at hu; cases hu
      obtain ⟨b, off, ha, hc⟩ := h j hj
      obtain rfl : ad = ⟨b, off, none⟩ := by simpa using ha
      rw [Go.WideShapes.add_plain, hc]
      simpa [cellsOf, hj] using hu
    · obtain ⟨b, _, rfl⟩ := List.mem_map.1 hu
      rfl

/-- Bytes at the head of a row of their own, with room for c. -/
def RowB (w : World) (g c : Nat) (bs : List (BitVec 8)) : Prop := RowC w g 5 c (cellsOf bs)
theorem RowB.bytes {w : World} {g c c' n : Nat} {bs : List (BitVec 8)} (h : RowB w g c bs) (hn : n = bs.length) : Bytes w (.slice (some ⟨g, 0, none⟩) n c') bs := by
  subst hn
  obtain ⟨cs, h1, _, h2⟩ := h
  refine ⟨_, c', rfl, fun k hk => ⟨g, 0, rfl, ?_⟩⟩
  rw [Nat.zero_add, cell_of_row w g k cs 5 (0, 0) h1, h2 k (by simpa [cellsOf] using hk)]
  simp [cellsOf, hk]
theorem cellsOf_append (a b : List (BitVec 8)) : cellsOf (a ++ b) = cellsOf a ++ cellsOf b := by simp [cellsOf]
theorem cellsOf_length (a : List (BitVec 8)) : (cellsOf a).length = a.length := by simp [cellsOf]

theorem heap_setCells_ne (g : Nat) : ∀ (vs : List Value) (o : Nat) (w : World) (b : Nat), b ≠ g → (w.setCells g o vs).heap[b]? = w.heap[b]?
  | [], _, _, _, _ => rfl
  | v :: r, o, w, b, h => by
    rw [show w.setCells g o (v :: r) = (w.setCell ⟨g, o, none⟩ v).setCells g (o + 1) r from rfl, heap_setCells_ne g r (o + 1) _ b h, heap_setCell_other _ _ _ _ (by exact h)]

section
variable {P : Program}
/-- What append answers: behind 'old', 'news' (n items), in a row of one's own. -/
theorem append_gen2 (w : World) (B : Nat) (t e : TypeId) (i : TypeInfo) (z : Value) (ht : P.underlying t = some (.slice e)) (hi : P.info? e = some i) (hz : i.zero = some z) (hzc : z.cells.size = i.size)
    (base : Option Addr) (sLen sCap : Nat) (old : List Value) (hold : old.length = sLen * i.size) (x : Value) (n : Nat) (news : List Value) (hs : Src P i.size t x n news w) (hB : B ≤ w.heap.size)
    (hbase : (base = none ∧ sLen = 0 ∧ sCap = 0 ∧ 0 < n) ∨ ∃ g, base = some ⟨g, 0, none⟩ ∧ B ≤ g ∧ sLen ≤ sCap ∧ RowC w g e (sCap * i.size) old) (hfit : (sLen + n) * i.bytes ≤ 140737488355328) (hsm : sLen + n ≤ 140737488355328) :
    ∃ g c w', (∀ ty, (Builtin.append_ #[t, t] ty #[.slice base sLen sCap, x]).run P w = .ok (.slice (some ⟨g, 0, none⟩) (sLen + n) c) w') ∧ B ≤ g ∧ RowC w' g e (c * i.size) (old ++ news) ∧ Below B w w' ∧ sLen + n ≤ c ∧ (sLen + n ≤ sCap → base = some ⟨g, 0, none⟩ ∧ c = sCap) ∧ (sCap < sLen + n → g = w.heap.size) ∧ (∀ b, b < w.heap.size → base ≠ some ⟨b, 0, none⟩ → w'.heap[b]? = w.heap[b]?) := by
  by_cases hroom : sLen + n ≤ sCap
  · rcases hbase with ⟨_, _, _, _⟩ | ⟨g, rfl, hg, hlc, cs, h1, h2, h3⟩
    · omega
    · have hsz : (sLen + n) * i.size ≤ sCap * i.size := Nat.mul_le_mul_right _ hroom
      have hnl := hs.newsLen
      rw [Nat.add_mul] at hsz
      have hr := fun ty => run_append_room_src (P := P) w t t ty e i ht hi g 0 sLen sCap x n news hs hroom
        (fun j hj => by rw [cell_of_row w g _ cs e (0, 0) h1, Nat.zero_add, Array.getElem?_eq_getElem (by omega)]; rfl)
        (fun j hj => frozen_of_row w g _ cs e h1)
      rw [Nat.zero_add] at hr
      obtain ⟨cs', k1, k2, k3⟩ := heap_setCells g e news (sLen * i.size) w cs h1
      refine ⟨g, sCap, _, hr, hg, ⟨cs', k1, by omega, fun k hk => ?_⟩, below_cells hg _ _ (Below.refl _ _), hroom, fun _ => ⟨rfl, rfl⟩, fun h => by omega, fun b _ hb => heap_setCells_ne g _ _ w b (fun e => hb (by rw [e]))⟩
      rw [List.length_append] at hk
      rw [k3 k (by omega), List.getElem?_append]
      by_cases hk2 : k < old.length
      · rw [if_neg (by omega), if_pos hk2, h3 k hk2]
      · rw [if_pos (by omega), if_neg hk2, hold]
  · have hcap : sCap < sLen + n := by omega
    have hold' : (Builtin.firstCells i.size sLen (.slice base sLen sCap)).run P w.drew = .ok old.toArray w.drew := by
      rcases hbase with ⟨rfl, rfl, rfl, _⟩ | ⟨g, rfl, hg, hlc, cs, h1, h2, h3⟩
      · obtain rfl : old = [] := by simpa using hold
        rfl
      · have := Nat.mul_le_mul_right i.size hlc
        refine run_firstCells_some (P := P) w.drew _ _ _ _ _ old hold (fun j v hv => ?_)
        have hj : j < old.length := by
          rcases Nat.lt_or_ge j old.length with h | h
          · exact h
          · rw [List.getElem?_eq_none h] at hv; cases hv
        rw [Go.WideShapes.add_plain, Nat.zero_add, cell_of_row w.drew g j cs e (0, 0) h1, h3 j hj, hv]
    have hr := fun ty => run_append_grow_src (P := P) w t t ty e i z ht hi hz base sLen sCap old hold' x n news hs hcap (by omega) (growslice_fits hcap hfit)
    have hge := grownCap_ge w (sLen + n) sCap e
    generalize grownCap w (sLen + n) sCap e = cp at *
    have hnl := hs.newsLen
    refine ⟨w.heap.size, cp, _, hr, hB, ⟨_, heap_alloc_new w.drew _, ?_, fun k hk => ?_⟩, (Below.refl _ _).drew.alloc hB _, hge, fun h => by omega, fun _ => rfl, fun b hb _ => heap_alloc_old w.drew _ hb⟩
    · rw [Array.size_append, size_zeroCells, List.size_toArray, List.length_append, hold, hnl, hzc, ← Nat.add_mul, ← Nat.add_mul]
      exact Nat.mul_le_mul_right _ (by omega)
    · rw [Array.getElem?_append_left (by simpa using hk)]
      simp
end
/-- Append of bytes. -/
theorem append_bytes2 (w : World) (B : Nat) (base : Option Addr) (sLen sCap : Nat) (bs : List (BitVec 8)) (hl : sLen = bs.length) (x : Value) (news : List (BitVec 8)) (n : Nat) (hn : n = news.length) (hx : Bytes w x news) (hB : B ≤ w.heap.size)
    (hbase : (base = none ∧ sLen = 0 ∧ sCap = 0 ∧ 0 < n) ∨ ∃ g, base = some ⟨g, 0, none⟩ ∧ B ≤ g ∧ sLen ≤ sCap ∧ RowB w g sCap bs) (hsm : sLen + n ≤ 140737488355328) :
    ∃ g c w', (∀ ty, (Builtin.append_ #[28, 28] ty #[.slice base sLen sCap, x]).run Tryz.prog w = .ok (.slice (some ⟨g, 0, none⟩) (sLen + n) c) w') ∧ B ≤ g ∧ RowB w' g c (bs ++ news) ∧ Below B w w' ∧ sLen + n ≤ c ∧ (sLen + n ≤ sCap → base = some ⟨g, 0, none⟩ ∧ c = sCap) ∧ (sCap < sLen + n → g = w.heap.size) ∧ (∀ b, b < w.heap.size → base ≠ some ⟨b, 0, none⟩ → w'.heap[b]? = w.heap[b]?) := by
  subst hn
  have := append_gen2 (P := Tryz.prog) w B 28 5 Tryz.t5 (.int .u8 0) Tryz.underlying28 info5 zero5 rfl base sLen sCap (cellsOf bs) (by rw [cellsOf_length, sz5, hl, Nat.mul_one]) x news.length (cellsOf news) (src_of_bytes hx) hB (by rw [sz5, Nat.mul_one]; exact hbase) (by rw [bytes5]; omega) hsm
  rw [sz5] at this
  simp only [Nat.mul_one, ← cellsOf_append] at this
  exact this

/-- Of the blocks that were there only some may have turned. -/
structure Turns (S : Nat → Prop) (w w' : World) : Prop where
  os : w'.os = w.os
  tape : w'.tape = w.tape
  output : w'.output = w.output
  size : w.heap.size ≤ w'.heap.size
  block : ∀ k, k < w.heap.size → ¬ S k → w'.heap[k]? = w.heap[k]?
theorem Turns.refl (S : Nat → Prop) (w : World) : Turns S w w := ⟨rfl, rfl, rfl, Nat.le_refl _, fun _ _ _ => rfl⟩
theorem Turns.trans {S : Nat → Prop} {a b c : World} (h : Turns S a b) (k : Turns S b c) : Turns S a c :=
  ⟨k.os.trans h.os, k.tape.trans h.tape, k.output.trans h.output, Nat.le_trans h.size k.size, fun i hi hs => (k.block i (Nat.lt_of_lt_of_le hi h.size) hs).trans (h.block i hi hs)⟩
theorem Turns.mono {S S' : Nat → Prop} {a b : World} (h : Turns S a b) (hs : ∀ k, k < a.heap.size → S k → S' k) : Turns S' a b :=
  ⟨h.os, h.tape, h.output, h.size, fun i hi hn => h.block i hi fun x => hn (hs i hi x)⟩
/-- Two steps, the second of which may also turn what the first one made. -/
theorem Turns.andThen {S S' : Nat → Prop} {a b c : World} (h : Turns S a b) (k : Turns S' b c) (hs : ∀ k, k < a.heap.size → S' k → S k) : Turns S a c :=
  ⟨k.os.trans h.os, k.tape.trans h.tape, k.output.trans h.output, Nat.le_trans h.size k.size, fun i hi hn => (k.block i (Nat.lt_of_lt_of_le hi h.size) fun x => hn (hs i hi x)).trans (h.block i hi hn)⟩
theorem Turns.alloc {S : Nat → Prop} {a w : World} (h : Turns S a w) (o : Obj) : Turns S a (w.alloc o) :=
  h.trans ⟨rfl, rfl, rfl, by simp, fun k hk _ => Below.heap_alloc w o k hk⟩
theorem Turns.drew {S : Nat → Prop} {a w : World} (h : Turns S a w) : Turns S a w.drew := ⟨h.os, h.tape, h.output, h.size, h.block⟩
theorem Turns.drewN {S : Nat → Prop} {a w : World} (h : Turns S a w) (n : Nat) : Turns S a (w.drewN n) := h.trans ⟨rfl, rfl, rfl, Nat.le_refl _, fun _ _ _ => rfl⟩
theorem Turns.below {S : Nat → Prop} {a w : World} (h : Turns S a w) {B : Nat} (hB : B ≤ a.heap.size) (hs : ∀ k, S k → B ≤ k) : Below B a w :=
  ⟨h.os, h.tape, h.output, h.size, fun k hk => h.block k (Nat.lt_of_lt_of_le hk hB) fun x => by have := hs k x; omega⟩
theorem Turns.of_below {w w' : World} (h : Below w.heap.size w w') (S : Nat → Prop) : Turns S w w' := ⟨h.os, h.tape, h.output, h.size, fun k hk _ => h.block k hk⟩
theorem Turns.of_grown {w w' : World} {r : Option Nat} (h : w.grownBy w' r) : Turns (fun k => r = some k) w w' := ⟨h.os, h.tape, h.output, h.size, fun k hk hn => h.block k hk fun e => hn e.symm⟩
theorem Turns.heap {S : Nat → Prop} {a w : World} (h : Turns S a w) {k : Nat} {o : Obj} (ho : a.heap[k]? = some o) (hn : ¬ S k) : w.heap[k]? = some o := (h.block k (lt_of_heap ho) hn).trans ho
theorem Turns.cell {S : Nat → Prop} {a w : World} (h : Turns S a w) {p : Addr} {v : Value} (ho : a.cell? p = some v) (hn : ¬ S p.block) : w.cell? p = some v :=
  (World.cell?_of_block (h.block p.block (block_lt_of_cell ho) hn)).trans ho
theorem Turns.grown {a w : World} {r : Nat} (h : Turns (fun k => k = r) a w) : a.grownBy w (some r) := ⟨h.os, h.tape, h.output, h.size, fun k hk hn => h.block k hk fun e => hn (by rw [e])⟩

/-- An append whose outcome is known, as one step of a region that draws its order. -/
theorem step_append_run {P : Program} {ops : Array Oper} {o : Oper} {a : Act} {w : World} {K : Act → World → Prop} {Q : Exit → Act → World → Prop} {E : Prop} (hgd : o.guard = none) (s x : Operand) (t : TypeId)
    (ho : o.op = .call { callee := .builtin .append, args := #[s, x], argTypes := #[t, t] }) (vs vx : Value) (hs : a.eval s = vs) (hx : a.eval x = vx) (v : Value) (w' : World)
    (hr : (Builtin.append_ #[t, t] o.type #[vs, vx]).run P w = .ok v w') (d : Nat) (hd : o.dst = some d) (h : K (a.put (some d) v) w') :
    if Region.wanted o (yielded ops a.tmps) = true then Oper.wp P o a w K Q else E := by
  have hw : Region.wanted o (yielded ops a.tmps) = true := by simp [Region.wanted, hgd]
  rw [if_pos hw]
  unfold Oper.wp execOp
  simp only [ho, resolve, invoke, builtin, Sem.run_bind, Sem.run_pure, Result.andThen_ok, List.map_toArray, List.map_cons, List.map_nil, hs, hx, hr]
  show K (a.put o.dst v) w'
  rw [hd]
  exact h

theorem Bytes.turns {S : Nat → Prop} {w w' : World} {v : Value} {bs : List (BitVec 8)} (h : Bytes w v bs) (ht : Turns S w w') (hS : ∀ a n c, v = .slice (some a) n c → ¬ S a.block) : Bytes w' v bs := by
  obtain ⟨a, c, rfl, hc⟩ := h
  refine ⟨a, c, rfl, fun k hk => ?_⟩
  obtain ⟨b, off, rfl, hcell⟩ := hc k hk
  exact ⟨b, off, rfl, ht.cell hcell (hS ⟨b, off, none⟩ _ _ rfl)⟩
theorem RowC.turns {S : Nat → Prop} {w w' : World} {g e room : Nat} {cells : List Value} (h : RowC w g e room cells) (ht : Turns S w w') (hg : ¬ S g) : RowC w' g e room cells := by
  obtain ⟨cs, h1, h2, h3⟩ := h
  exact ⟨cs, ht.heap h1 hg, h2, h3⟩
theorem Bytes.drewN {w : World} {v : Value} {bs : List (BitVec 8)} (h : Bytes w v bs) (m : Nat) : Bytes (w.drewN m) v bs := h
end Go.Proofs.YtjklbhdhjfifhaaGreat

/-
  Short numbers, pieces, writes and batches as bytes: plain mathematics.
-/
namespace Go.Proofs.YtjklbhdhjfifhaaGreat

/-- A short number. -/
def short (n : Nat) : List (BitVec 8) := if n < 128 then [BitVec.ofNat 8 n] else BitVec.ofNat 8 (n % 128 + 128) :: short (n / 128)
termination_by n
decreasing_by omega
theorem short_lt {n : Nat} (h : n < 128) : short n = [BitVec.ofNat 8 n] := by rw [short, if_pos h]
theorem short_ge {n : Nat} (h : ¬ n < 128) : short n = BitVec.ofNat 8 (n % 128 + 128) :: short (n / 128) := by rw [short, if_neg h]
theorem short_ne (n : Nat) : short n ≠ [] := by
  rw [short]
  split <;> simp

/-- What a reader of short numbers does behind i bytes that told x. -/
def rdGo (x i : Nat) (l : List (BitVec 8)) : Except Int (Nat × Nat) :=
  match l with
  | [] => .error 12
  | b :: r =>
    if i = 9 ∧ 1 < b.toNat then .error 4
    else if 0 < i ∧ b.toNat = 0 then .error 4
    else if b.toNat < 128 then .ok (x + b.toNat * 2 ^ (7 * i), i + 1)
    else rdGo (x + (b.toNat - 128) * 2 ^ (7 * i)) (i + 1) r
def rdShort (l : List (BitVec 8)) : Except Int (Nat × Nat) := rdGo 0 0 l

theorem rdGo_short : ∀ (n : Nat) (x i : Nat) (r : List (BitVec 8)), n * 2 ^ (7 * i) < 2 ^ 64 → (0 < i → 0 < n) → rdGo x i (short n ++ r) = .ok (x + n * 2 ^ (7 * i), i + (short n).length) := by
  intro n
  induction n using Nat.strongRecOn with
  | ind n ih =>
    intro x i r hb hi
    have hi9 : i ≤ 9 := by
      rcases Nat.lt_or_ge 9 i with h | h
      · have : 2 ^ (7 * 10) ≤ 2 ^ (7 * i) := Nat.pow_le_pow_right (by decide) (by omega)
        have := Nat.mul_le_mul (hi (by omega)) this
        omega
      · exact h
    by_cases hn : n < 128
    · rw [short_lt hn]
      have e : (BitVec.ofNat 8 n).toNat = n := by simp; omega
      simp only [List.cons_append, List.nil_append, rdGo, e, List.length_singleton]
      rw [if_neg, if_neg, if_pos hn]
      · omega
      · rintro ⟨rfl, h⟩
        omega
    · rw [short_ge hn]
      have e : (BitVec.ofNat 8 (n % 128 + 128)).toNat = n % 128 + 128 := by simp; omega
      have h9 : i ≠ 9 := by
        rintro rfl
        have : 128 * 2 ^ (7 * 9) ≤ n * 2 ^ (7 * 9) := Nat.mul_le_mul_right _ (by omega)
        omega
      simp only [List.cons_append, rdGo, e, List.length_cons]
      have h7 : 2 ^ (7 * (i + 1)) = 128 * 2 ^ (7 * i) := by rw [Nat.mul_add, Nat.pow_add, Nat.mul_comm]
      have hq : n / 128 * 2 ^ (7 * (i + 1)) ≤ n * 2 ^ (7 * i) := by
        rw [h7, ← Nat.mul_assoc]
        exact Nat.mul_le_mul_right _ (by omega)
      rw [if_neg (by omega), if_neg (by omega), if_neg (by omega), ih (n / 128) (by omega) _ (i + 1) r (by omega) (by omega)]
      congr 2
      · have hd : n % 128 + 128 * (n / 128) = n := Nat.mod_add_div n 128
        rw [h7, show n / 128 * (128 * 2 ^ (7 * i)) = (128 * (n / 128)) * 2 ^ (7 * i) by rw [← Nat.mul_assoc, Nat.mul_comm (n / 128)], Nat.add_sub_cancel, Nat.add_assoc, ← Nat.add_mul, hd]
      · rw [Nat.add_assoc, Nat.add_comm 1]
theorem rdShort_short (n : Nat) (h : n < 2 ^ 64) (r : List (BitVec 8)) : rdShort (short n ++ r) = .ok (n, (short n).length) := by
  have := rdGo_short n 0 0 r (by rw [Nat.mul_zero, Nat.pow_zero, Nat.mul_one]; exact h) (by omega)
  rw [Nat.mul_zero, Nat.pow_zero, Nat.mul_one, Nat.zero_add, Nat.zero_add] at this
  exact this
/-- What is read is shorter than what there is. -/
theorem rdGo_le : ∀ (l : List (BitVec 8)) (x i y n : Nat), rdGo x i l = .ok (y, n) → i < n ∧ n ≤ i + l.length
  | [], x, i, y, n, h => by simp [rdGo] at h
  | b :: r, x, i, y, n, h => by
    simp only [rdGo] at h
    split at h
    · cases h
    · split at h
      · cases h
      · split at h
        · simp only [Except.ok.injEq, Prod.mk.injEq] at h
          simp only [List.length_cons]
          omega
        · have := rdGo_le r _ _ _ _ h
          simp only [List.length_cons]
          omega
theorem rdShort_le {l : List (BitVec 8)} {y n : Nat} (h : rdShort l = .ok (y, n)) : 0 < n ∧ n ≤ l.length := by
  have := rdGo_le l _ _ _ _ h
  omega
/-- The bits that are told stay below the bits to come. -/
theorem rdGo_bound : ∀ (l : List (BitVec 8)) (x i y n : Nat), x < 2 ^ (7 * i) → i ≤ 9 → rdGo x i l = .ok (y, n) → y < 2 ^ 64
  | [], x, i, y, n, _, _, h => by simp [rdGo] at h
  | b :: r, x, i, y, n, hx, hi, h => by
    have hb := b.isLt
    have h7 : 2 ^ (7 * (i + 1)) = 128 * 2 ^ (7 * i) := by rw [Nat.mul_add, Nat.pow_add, Nat.mul_comm]
    simp only [rdGo] at h
    split at h
    · cases h
    · rename_i h1
      split at h
      · cases h
      · split at h
        · simp only [Except.ok.injEq, Prod.mk.injEq] at h
          rcases Nat.lt_or_ge i 9 with h9 | h9
          · have hm : (b.toNat + 1) * 2 ^ (7 * i) ≤ 128 * 2 ^ (7 * i) := Nat.mul_le_mul_right _ (by omega)
            have hp : 128 * 2 ^ (7 * i) ≤ 2 ^ 63 := by rw [← h7]; exact Nat.pow_le_pow_right (by decide) (by omega)
            rw [Nat.add_mul] at hm
            omega
          · obtain rfl : i = 9 := by omega
            have : b.toNat ≤ 1 := by omega
            have hm : b.toNat * 2 ^ (7 * 9) ≤ 1 * 2 ^ (7 * 9) := Nat.mul_le_mul_right _ this
            omega
        · rename_i h3
          have h9 : i < 9 := by
            rcases Nat.lt_or_ge i 9 with h9 | h9
            · exact h9
            · omega
          refine rdGo_bound r _ (i + 1) _ _ ?_ (by omega) h
          have hm : (b.toNat - 128 + 1) * 2 ^ (7 * i) ≤ 128 * 2 ^ (7 * i) := Nat.mul_le_mul_right _ (by omega)
          rw [Nat.add_mul] at hm
          omega
theorem rdShort_bound {l : List (BitVec 8)} {y n : Nat} (h : rdShort l = .ok (y, n)) : y < 2 ^ 64 := rdGo_bound l 0 0 y n (by decide) (by decide) h

/-- A piece, read. -/
def rdPiece (l : List (BitVec 8)) : Except Int (List (BitVec 8) × List (BitVec 8)) :=
  match rdShort l with
  | .error e => .error e
  | .ok (m, n) => if 1048576 < m then .error 3 else if l.length - n < m then .error 12 else .ok ((l.drop n).take m, (l.drop n).drop m)
def pieceB (p : List (BitVec 8)) : List (BitVec 8) := short p.length ++ p
theorem rdPiece_ok (p r : List (BitVec 8)) (h : p.length ≤ 1048576) : rdPiece (pieceB p ++ r) = .ok (p, r) := by
  unfold rdPiece pieceB
  rw [List.append_assoc, rdShort_short _ (by omega)]
  simp only
  rw [if_neg (by omega), if_neg (by simp)]
  rw [List.drop_left]
  simp
/-- A write: its kind, key and value. -/
abbrev Wr := Int × List (BitVec 8) × List (BitVec 8)
def writeB (x : Wr) : List (BitVec 8) := BitVec.ofInt 8 x.1 :: (pieceB x.2.1 ++ if x.1 = 1 then pieceB x.2.2 else [])
def rdWrite (l : List (BitVec 8)) : Except Int (Wr × List (BitVec 8)) :=
  match l with
  | [] => .error 12
  | k :: r =>
    if ¬ (k.toNat = 1 ∨ k.toNat = 2) then .error 4
    else match rdPiece r with
      | .error e => .error e
      | .ok (key, r1) =>
        if k.toNat = 1 then
          match rdPiece r1 with
          | .error e => .error e
          | .ok (val, r2) => .ok ((1, key, val), r2)
        else .ok ((2, key, []), r1)
/-- A write that may be, its lengths aside. -/
def fineW (x : Wr) : Prop := (x.1 = 1 ∨ x.1 = 2 ∧ x.2.2 = []) ∧ x.2.1 ≠ []
/-- So many writes, read. -/
def rdWrites : Nat → List (BitVec 8) → Except Int (List Wr × List (BitVec 8))
  | 0, l => .ok ([], l)
  | n + 1, l =>
    match rdWrite l with
    | .error e => .error e
    | .ok (x, r) =>
      match rdWrites n r with
      | .error e => .error e
      | .ok (xs, r') => .ok (x :: xs, r')
def writesB (xs : List Wr) : List (BitVec 8) := (xs.map writeB).flatten
def shortW (x : Wr) : Prop := x.2.1.length ≤ 1048576 ∧ x.2.2.length ≤ 1048576
/-- What Check answers, where all is short enough together. -/
def wrongW (x : Wr) : Bool := !(x.1 == 1 || x.1 == 2) || x.2.1.length == 0 || (x.1 == 2 && decide (0 < x.2.2.length))
def longW (x : Wr) : Bool := decide (4096 < x.2.1.length) || decide (65536 < x.2.2.length)
def chk (seq : Nat) (xs : List Wr) : Int :=
  if seq = 0 ∨ xs = [] ∨ xs.any wrongW = true then 2
  else if xs.any longW = true ∨ 72057594037927935 < seq ∨ 72057594037927935 < seq + xs.length - 1 then 3 else 0
theorem chk_fine {seq : Nat} {xs : List Wr} (h : chk seq xs = 0) : 0 < seq ∧ seq < 2 ^ 64 ∧ xs ≠ [] ∧ ∀ x ∈ xs, fineW x ∧ shortW x := by
  unfold chk at h
  split at h
  · cases h
  · rename_i h1
    split at h
    · cases h
    · rename_i h2
      refine ⟨by omega, by omega, fun e => h1 (.inr (.inl e)), fun x hx => ?_⟩
      have hw : wrongW x = false := by
        rcases hq : wrongW x
        · rfl
        · exact absurd (.inr (.inr (List.any_eq_true.2 ⟨x, hx, hq⟩))) h1
      have hl : longW x = false := by
        rcases hq : longW x
        · rfl
        · exact absurd (.inl (List.any_eq_true.2 ⟨x, hx, hq⟩)) h2
      simp only [wrongW, longW, Bool.or_eq_false_iff, Bool.and_eq_false_iff, Bool.not_eq_false', Bool.or_eq_true, beq_iff_eq, beq_eq_false_iff_ne, decide_eq_false_iff_not] at hw hl
      refine ⟨⟨?_, fun e => hw.1.2 (by simp [e])⟩, by unfold shortW; omega⟩
      rcases hw.1.1 with h | h
      · exact .inl h
      · rcases hw.2 with h' | h'
        · exact absurd h h'
        · exact .inr ⟨h, by simpa using h'⟩

/-- A batch's bytes. -/
def batchB (seq : Nat) (xs : List Wr) : List (BitVec 8) := short seq ++ (short xs.length ++ writesB xs)
/-- What Parse answers: an error, or a batch. -/
def parseB (l : List (BitVec 8)) : Except Int (Nat × List Wr) :=
  match rdShort l with
  | .error e => .error e
  | .ok (seq, n) =>
    match rdShort (l.drop n) with
    | .error e => .error e
    | .ok (m, n') =>
      match rdWrites m ((l.drop n).drop n') with
      | .error e => .error e
      | .ok (xs, r) => if r ≠ [] then .error 4 else if chk seq xs ≠ 0 then .error (chk seq xs) else .ok (seq, xs)
end Go.Proofs.YtjklbhdhjfifhaaGreat

/-
  Bloom filters, as plain mathematics: the hash, its probes, the bits of a filter.
-/
namespace Go.Proofs.YtjklbhdhjfifhaaGreat
def fnvStep (h : BitVec 64) (c : BitVec 8) : BitVec 64 := (h ^^^ BitVec.ofNat 64 c.toNat) * 1099511628211#64
def fnv (bs : List (BitVec 8)) : BitVec 64 := bs.foldl fnvStep 14695981039346656037#64
def mixA (h : BitVec 64) : BitVec 64 := (h ^^^ (h >>> 33)) * 18397679294719823053#64
def mixC (h : BitVec 64) : BitVec 64 := (h ^^^ (h >>> 33)) * 14181476777654086739#64
def mixB (h : BitVec 64) : BitVec 64 := mixC (mixA h) ^^^ (mixC (mixA h) >>> 33)
def hashB (bs : List (BitVec 8)) : BitVec 64 := mixB (fnv bs)
def stp (h : Nat) : Nat := h / 4294967296 ||| 1
def sumN (h i : Nat) : Nat := (h % 4294967296 + i * stp h) % 4294967296
def prb (h n i : Nat) : Nat := sumN h i % n
def probes (h n k : Nat) : List Nat := (List.range k).map (prb h n)
def setB (f : List (BitVec 8)) (p : Nat) : List (BitVec 8) := f.set (p / 8) (f.getD (p / 8) 0 ||| (1#8 <<< (p % 8)))
def bitOf (f : List (BitVec 8)) (p : Nat) : Bool := (f.getD (p / 8) 0).getLsbD (p % 8)
def setAll (f : List (BitVec 8)) (ps : List Nat) : List (BitVec 8) := ps.foldl setB f
def keyBits (n k : Nat) (keys : List (List (BitVec 8))) (f : List (BitVec 8)) : List (BitVec 8) := keys.foldl (fun f key => setAll f (probes (hashB key).toNat n k)) f
def nBits (m c : Nat) : Nat := (max (m * c) 64 + 7) / 8 * 8
def kOf (c : Nat) : Nat := min (max (c * 69 / 100) 1) 30
def zeros (n : Nat) : List (BitVec 8) := List.replicate n 0#8
/-- The filter of some keys. -/
def filt (keys : List (List (BitVec 8))) (c : Nat) : List (BitVec 8) := keyBits (nBits keys.length c) (kOf c) keys (zeros (nBits keys.length c / 8)) ++ [BitVec.ofNat 8 (kOf c)]
def lastB (f : List (BitVec 8)) : Nat := (f.getD (f.length - 1) 0).toNat
def hasB (f key : List (BitVec 8)) : Bool := decide (f.length < 2) || decide (1048577 < f.length) || decide (lastB f < 1) || decide (30 < lastB f) || (probes (hashB key).toNat ((f.length - 1) * 8) (lastB f)).all (bitOf f)

theorem sumN_zero (h : Nat) : sumN h 0 = h % 4294967296 := by unfold sumN; omega
theorem sumN_succ (h i : Nat) : sumN h (i + 1) = (sumN h i + stp h) % 4294967296 := by
  unfold sumN
  rw [Nat.mod_add_mod ((h % 4294967296 + i * stp h)), Nat.add_mul, Nat.one_mul, Nat.add_assoc]
theorem sumN_lt (h i : Nat) : sumN h i < 4294967296 := Nat.mod_lt _ (by decide)
theorem prb_lt (h n i : Nat) (hn : 0 < n) : prb h n i < n := Nat.mod_lt _ hn
theorem stp_lt (h : Nat) (hh : h < 18446744073709551616) : stp h < 4294967296 := by
  unfold stp
  have h1 : h / 4294967296 < 2 ^ 32 := by omega
  exact Nat.or_lt_two_pow h1 (by decide)
theorem mem_probes {h n k p : Nat} (hn : 0 < n) (hp : p ∈ probes h n k) : p < n := by
  obtain ⟨i, _, rfl⟩ := List.mem_map.1 hp
  exact prb_lt _ _ _ hn

theorem setB_length (f : List (BitVec 8)) (p : Nat) : (setB f p).length = f.length := by simp [setB]
theorem setAll_length : ∀ (ps : List Nat) (f : List (BitVec 8)), (setAll f ps).length = f.length
  | [], _ => rfl
  | p :: r, f => by
    show (setAll (setB f p) r).length = _
    rw [setAll_length r, setB_length]
theorem keyBits_length (n k : Nat) : ∀ (keys : List (List (BitVec 8))) (f : List (BitVec 8)), (keyBits n k keys f).length = f.length
  | [], _ => rfl
  | x :: r, f => by
    show (keyBits n k r (setAll f _)).length = _
    rw [keyBits_length n k r, setAll_length]
theorem bit_shift (q p : Nat) (hq : q < 8) (hp : p < 8) : (1#8 <<< q).getLsbD p = decide (p = q) := by
  have : ∀ q p : Fin 8, (1#8 <<< q.val).getLsbD p.val = decide (p.val = q.val) := by decide
  exact this ⟨q, hq⟩ ⟨p, hp⟩
theorem bitOf_set (f : List (BitVec 8)) (p q : Nat) (hp : p / 8 < f.length) : bitOf (setB f p) q = (bitOf f q || decide (q = p)) := by
  unfold bitOf setB
  by_cases e : q / 8 = p / 8
  · rw [e, List.getD_eq_getElem?_getD, List.getElem?_set_self hp, Option.getD_some, BitVec.getLsbD_or, bit_shift _ _ (by omega) (by omega)]
    congr 1
    rw [decide_eq_decide]
    omega
  · rw [List.getD_eq_getElem?_getD, List.getElem?_set_ne (Ne.symm e), ← List.getD_eq_getElem?_getD, decide_eq_false (by intro h; exact e (by rw [h])), Bool.or_false]
theorem bitOf_setAll : ∀ (ps : List Nat) (f : List (BitVec 8)) (q : Nat), (∀ p, p ∈ ps → p / 8 < f.length) → bitOf (setAll f ps) q = (bitOf f q || decide (q ∈ ps))
  | [], f, q, _ => by simp [setAll]
  | p :: r, f, q, h => by
    show bitOf (setAll (setB f p) r) q = _
    rw [bitOf_setAll r _ q (fun x hx => by rw [setB_length]; exact h x (List.mem_cons_of_mem _ hx)), bitOf_set f p q (h p (List.mem_cons_self ..)), Bool.or_assoc]
    congr 1
    simp [Bool.decide_or]
theorem bitOf_keyBits (n k : Nat) (hn : 0 < n) : ∀ (keys : List (List (BitVec 8))) (f : List (BitVec 8)) (q : Nat), n ≤ f.length * 8 → (bitOf f q = true ∨ ∃ key, key ∈ keys ∧ q ∈ probes (hashB key).toNat n k) → bitOf (keyBits n k keys f) q = true
  | [], f, q, _, h => by
    rcases h with h | ⟨_, h, _⟩
    · exact h
    · cases h
  | x :: r, f, q, hl, h => by
    refine bitOf_keyBits n k hn r _ q (by rw [setAll_length]; exact hl) ?_
    have hps : ∀ p, p ∈ probes (hashB x).toNat n k → p / 8 < f.length := fun p hp => by have := mem_probes hn hp; omega
    rw [bitOf_setAll _ _ _ hps]
    rcases h with h | ⟨key, hk, hq⟩
    · left; rw [h]; rfl
    · rcases List.mem_cons.1 hk with rfl | hk
      · left; rw [decide_eq_true hq, Bool.or_true]
      · right; exact ⟨key, hk, hq⟩
theorem getD_app (f g : List (BitVec 8)) {i : Nat} (h : i < f.length) : (f ++ g).getD i 0 = f.getD i 0 := by
  rw [List.getD_eq_getElem?_getD, List.getElem?_append_left h, ← List.getD_eq_getElem?_getD]
theorem bitOf_append (f g : List (BitVec 8)) (p : Nat) (hp : p / 8 < f.length) : bitOf (f ++ g) p = bitOf f p := by
  unfold bitOf
  rw [getD_app _ _ hp]
theorem setAll_snoc (f : List (BitVec 8)) (ps : List Nat) (p : Nat) : setAll f (ps ++ [p]) = setB (setAll f ps) p := by simp [setAll, List.foldl_append]
theorem keyBits_snoc (n k : Nat) (keys : List (List (BitVec 8))) (x : List (BitVec 8)) (f : List (BitVec 8)) : keyBits n k (keys ++ [x]) f = setAll (keyBits n k keys f) (probes (hashB x).toNat n k) := by simp [keyBits, List.foldl_append]
theorem kOf_bd (c : Nat) : 1 ≤ kOf c ∧ kOf c ≤ 30 := by unfold kOf; omega
theorem nBits_pos (m c : Nat) : 64 ≤ nBits m c ∧ nBits m c % 8 = 0 := by unfold nBits; omega
theorem nBits_le (m c : Nat) (h : m * c ≤ 8388608) : nBits m c ≤ 8388608 := by unfold nBits; omega
theorem filt_length (keys : List (List (BitVec 8))) (c : Nat) : (filt keys c).length = nBits keys.length c / 8 + 1 := by simp [filt, keyBits_length, zeros]
theorem filt_last (keys : List (List (BitVec 8))) (c : Nat) : lastB (filt keys c) = kOf c := by
  unfold lastB
  rw [filt_length, Nat.add_sub_cancel]
  unfold filt
  rw [List.getD_eq_getElem?_getD, List.getElem?_append_right (by simp [keyBits_length, zeros])]
  simp [keyBits_length, zeros]
  have := kOf_bd c
  omega
/-- Bits that are set in a filter, whatever else is set, tell its keys. -/
theorem has_keeps (keys : List (List (BitVec 8))) (c : Nat) (f : List (BitVec 8)) (hl : f.length = (filt keys c).length) (hlast : lastB f = kOf c) (hb : ∀ p, p < nBits keys.length c → bitOf (filt keys c) p = true → bitOf f p = true) (key : List (BitVec 8)) (hk : key ∈ keys) : hasB f key = true := by
  unfold hasB
  simp only [Bool.or_eq_true]
  right
  rw [List.all_eq_true]
  intro p hp
  have hn := nBits_pos keys.length c
  rw [hl, filt_length, hlast, Nat.add_sub_cancel, Nat.div_mul_cancel (Nat.dvd_of_mod_eq_zero hn.2)] at hp
  have hpn := mem_probes (by omega) hp
  refine hb p hpn ?_
  unfold filt
  rw [bitOf_append _ _ _ (by simp [keyBits_length, zeros]; omega)]
  exact bitOf_keyBits _ _ (by omega) keys _ p (by simp [zeros]; omega) (.inr ⟨key, hk, hp⟩)
end Go.Proofs.YtjklbhdhjfifhaaGreat

/-
  The hash, of the code and of the document's answer.
-/
namespace Go.Proofs.YtjklbhdhjfifhaaGreat
open Go.RowKit
set_option maxRecDepth 100000
set_option maxHeartbeats 1000000
theorem ofInt_q (x : BitVec 64) : BitVec.ofInt 64 (x.toNat : Int) = x := by
  have := x.isLt
  apply BitVec.eq_of_toNat_eq
  rw [BitVec.toNat_ofInt]
  omega
theorem wrap_q (x : BitVec 64) : IntKind.u64.wrap (x.toNat : Int) = x.toNat := by
  have := x.isLt
  simp [IntKind.wrap, IntKind.bits, IntKind.signed]
  omega
theorem xor_q (x y : BitVec 64) : bits .xor .u64 (x.toNat : Int) (y.toNat : Int) = ((x ^^^ y).toNat : Int) := by
  show IntKind.u64.wrap ((BitVec.ofInt 64 (x.toNat : Int) ^^^ BitVec.ofInt 64 (y.toNat : Int)).toNat : Int) = _
  rw [ofInt_q, ofInt_q, wrap_q]
theorem and_q (x y : BitVec 64) : bits .and .u64 (x.toNat : Int) (y.toNat : Int) = ((x &&& y).toNat : Int) := by
  show IntKind.u64.wrap ((BitVec.ofInt 64 (x.toNat : Int) &&& BitVec.ofInt 64 (y.toNat : Int)).toNat : Int) = _
  rw [ofInt_q, ofInt_q, wrap_q]
theorem or_q (x y : BitVec 64) : bits .or .u64 (x.toNat : Int) (y.toNat : Int) = ((x ||| y).toNat : Int) := by
  show IntKind.u64.wrap ((BitVec.ofInt 64 (x.toNat : Int) ||| BitVec.ofInt 64 (y.toNat : Int)).toNat : Int) = _
  rw [ofInt_q, ofInt_q, wrap_q]
theorem shr_q (x : BitVec 64) (n : Nat) : (x.toNat : Int) / ((2 ^ n : Nat) : Int) = ((x >>> n).toNat : Int) := by
  rw [BitVec.toNat_ushiftRight, Nat.shiftRight_eq_div_pow]
  rfl
theorem shr33_q (x : BitVec 64) : (x.toNat : Int) / (8589934592 : Int) = ((x >>> 33).toNat : Int) := shr_q x 33
theorem ret_int {k : IntKind} {a b : Int} (h : a = b) : Ending.returned (.int k a) = .returned (.int k b) := by rw [h]
theorem wmul_q (x y : BitVec 64) : IntKind.u64.wrap ((x.toNat : Int) * (y.toNat : Int)) = ((x * y).toNat : Int) := by
  rw [BitVec.toNat_mul]
  simp [IntKind.wrap, IntKind.bits, IntKind.signed]
theorem mixA_q (x : BitVec 64) : IntKind.u64.wrap (bits .xor .u64 (x.toNat : Int) ((x.toNat : Int) / 8589934592) * 18397679294719823053) = ((mixA x).toNat : Int) := by
  rw [shr33_q, xor_q]
  exact wmul_q _ 18397679294719823053#64
theorem mixC_q (x : BitVec 64) : IntKind.u64.wrap (bits .xor .u64 (x.toNat : Int) ((x.toNat : Int) / 8589934592) * 14181476777654086739) = ((mixC x).toNat : Int) := by
  rw [shr33_q, xor_q]
  exact wmul_q _ 14181476777654086739#64
theorem mixD_q (x : BitVec 64) : bits .xor .u64 (x.toNat : Int) ((x.toNat : Int) / 8589934592) = ((x ^^^ (x >>> 33)).toNat : Int) := by
  rw [shr33_q, xor_q]
theorem mix_any (x : BitVec 64) (w : World) : Calls Tryz.prog 129 #[.int .u64 x.toNat] w fun e w' => e = .returned (.int .u64 (mixB x).toNat) ∧ w' = w := by
  go_enter Tryz.func129, Tryz.ntmps129
  go_wp2_with fail
  go_ret
  exact ⟨ret_int (by rw [mixA_q, mixC_q, mixD_q]; rfl), rfl⟩
theorem fnv_snoc (bs : List (BitVec 8)) (k : Nat) (h : k < bs.length) : fnv (bs.take (k + 1)) = fnvStep (fnv (bs.take k)) (bs.getD k 0) := by
  unfold fnv
  rw [List.take_succ_eq_append_getElem h, List.foldl_append]
  simp [List.getD, h]
theorem fnv_q (x : BitVec 64) (b : BitVec 8) : IntKind.u64.wrap (bits .xor .u64 (x.toNat : Int) (b.toNat : Int) * 1099511628211) = ((fnvStep x b).toNat : Int) := by
  have hb : (b.toNat : Int) = ((BitVec.ofNat 64 b.toNat).toNat : Int) := by
    have := b.isLt
    rw [BitVec.toNat_ofNat]
    omega
  rw [hb, xor_q]
  exact wmul_q _ 1099511628211#64
theorem hash_any (a : Option Addr) (n c : Nat) (bs : List (BitVec 8)) (w : World) (h : Bytes w (.slice a n c) bs) (hn : n ≤ 1000000000) :
    Calls Tryz.prog 84 #[.slice a n c] w fun e w' => e = .returned (.int .u64 (hashB bs).toNat) ∧ w' = w := by
  have hl := h.len
  have H := hide h
  have HL := hide hl
  clear h hl
  go_enter Tryz.func84, Tryz.ntmps84
  go_wp2_with fail
  go_loop [3, 8] (fun x i => ∃ k : Nat, i = .int .i64 (k : Nat) ∧ k ≤ n ∧ x = .int .u64 (fnv (bs.take k)).toNat) (fun _ i => n - (intOf i).toNat)
  case atStart => exact ⟨0, rfl, Nat.zero_le _, rfl⟩
  case round =>
    obtain ⟨k, rfl, hk, rfl⟩ := hrel
    by_cases hkn : k < n
    · obtain ⟨b, off, rfl⟩ := H.out.addr (by omega)
      have hkx : k < bs.length := by have := HL.out; omega
      have h1 := H.out.at k hkx
      have HF := hide (fnv_snoc bs k hkx)
      have HQ := hide (fnv_q (fnv (bs.take k)) (bs.getD k 0))
      have hb := (bs.getD k 0).isLt
      generalize (bs.getD k 0) = bk at *
      have i1 : (k : Int) < (n : Int) := by omega
      have i0 : (0 : Int) ≤ (k : Int) := by omega
      go_wp2_with fail
      go_round
      case rel => exact ⟨k + 1, by go_num, by omega, by rw [HF.out, ← HQ.out]⟩
      case measure => simp [intOf]; omega
    · obtain rfl : k = n := by omega
      have HT := hide (show bs.take k = bs from List.take_of_length_le (by have := HL.out; omega))
      go_wp2_with (go_at_call 129; refine (mix_any _ _).mono ?_; rintro e w1 ⟨rfl, rfl⟩)
      go_ret
      exact ⟨ret_int (by rw [HT.out]; rfl), rfl⟩
end Go.Proofs.YtjklbhdhjfifhaaGreat

/-
  What may be a file's name: the code's answer and the document's, of any text.
-/
namespace Go.Proofs.YtjklbhdhjfifhaaGreat
open Go.RowKit

/-- May a byte be in a name? -/
def goodB (c : UInt8) : Bool := (97 ≤ c.toNat && c.toNat ≤ 122) || (48 ≤ c.toNat && c.toNat ≤ 57) || c.toNat == 45 || c.toNat == 46
/-- May a text be a name? -/
def goodN (s : ByteArray) : Bool := decide (1 ≤ s.size) && decide (s.size ≤ 64) && s.data.toList.all goodB

theorem ret_bool {b x : Bool} (h : b = x) : Ending.returned (.bool b) = .returned (.bool x) := by rw [h]

set_option maxRecDepth 100000 in
set_option maxHeartbeats 1000000 in
theorem stands_any (c : UInt8) (w : World) :
    Calls Tryz.prog 103 #[.int .u8 (c.toNat : Int)] w fun e w' => e = .returned (.bool (goodB c)) ∧ w' = w := by
  go_enter Tryz.func103, Tryz.ntmps103
  go_wp2
  all_goals
    go_ret
    refine ⟨ret_bool (x := goodB c) ?_, rfl⟩
    rw [Bool.eq_iff_iff]
    simp [goodB]
    try omega

theorem all_good (s : ByteArray) : s.data.toList.all goodB = true ↔ ∀ j (hj : j < s.size), goodB s[j] = true := by
  rw [List.all_eq_true]
  constructor
  · intro h j hj
    exact h _ (by rw [show s[j] = s.data[j] from rfl]; exact Array.mem_toList_iff.2 (Array.getElem_mem hj))
  · intro h x hx
    obtain ⟨j, hj, rfl⟩ := Array.mem_iff_getElem.1 (Array.mem_toList_iff.1 hx)
    exact h j hj

set_option maxRecDepth 100000 in
set_option maxHeartbeats 1000000 in
theorem name_any (s : ByteArray) (w : World) :
    Calls Tryz.prog 60 #[.string s] w fun e w' => e = .returned (.bool (goodN s)) ∧ w' = w := by
  by_cases hlen : 1 ≤ s.size ∧ s.size ≤ 64
  · obtain ⟨l1, l2⟩ := hlen
    have g1 : ¬ (s.size : Int) < 1 := by omega
    have g2 : ¬ (64 : Int) < (s.size : Int) := by omega
    have hgn : goodN s = s.data.toList.all goodB := by unfold goodN; rw [decide_eq_true l1, decide_eq_true l2]; rfl
    have HGN := hide hgn
    clear hgn
    go_enter Tryz.func60, Tryz.ntmps60
    go_wp2
    go_loopw [14] (fun iv wr => ∃ k : Nat, iv = .int .i64 (k : Nat) ∧ k ≤ s.size ∧ (∀ j (_ : j < s.size), j < k → goodB s[j] = true) ∧ wr = w) (fun iv _ => s.size - (intOf iv).toNat)
    case atStart => exact ⟨0, rfl, Nat.zero_le _, fun j _ hj => by omega, rfl⟩
    case round =>
      obtain ⟨k, rfl, hk, hall, rfl⟩ := hrel
      have HA := hide hall
      clear hall
      by_cases hkn : k < s.size
      · have i1 : (k : Int) < (s.size : Int) := by omega
        go_wp2_with fail
        refine (stands_any _ _).mono ?_
        rintro e w1 ⟨rfl, rfl⟩
        by_cases hg : goodB s[k] = true
        · rw [hg]
          go_wp2_with fail
          go_roundw
          case rel =>
            refine ⟨k + 1, by go_num, by omega, fun j hj hjk => ?_, by trivial⟩
            rcases Nat.lt_or_ge j k with h | h
            · exact HA.out j hj h
            · obtain rfl : j = k := by omega
              exact hg
          case measure => simp [intOf]; omega
        · rw [Bool.not_eq_true] at hg
          have HG := hide hg
          rw [hg]
          clear hg
          go_wp2_with fail
          go_ret
          refine ⟨ret_bool (x := goodN s) ?_, rfl⟩
          rw [HGN.out, eq_comm, Bool.eq_false_iff]
          intro h
          have := (all_good s).1 h k hkn
          rw [HG.out] at this
          cases this
      · obtain rfl : k = s.size := by omega
        go_wp2_with fail
        go_ret
        refine ⟨ret_bool (x := goodN s) ?_, rfl⟩
        rw [HGN.out, eq_comm]
        exact (all_good s).2 fun j hj => HA.out j hj hj
  · have hgn : goodN s = false := by
      unfold goodN
      rw [Bool.and_eq_false_iff, Bool.and_eq_false_iff]
      left
      rcases Nat.lt_or_ge s.size 1 with h | h
      · left
        exact decide_eq_false (by omega)
      · right
        exact decide_eq_false (by omega)
    have HGN := hide hgn
    clear hgn
    by_cases h1 : s.size < 1
    · have g1 : (s.size : Int) < 1 := by omega
      go_enter Tryz.func60, Tryz.ntmps60
      go_wp2
      go_ret
      exact ⟨by rw [HGN.out]; rfl, rfl⟩
    · have g1 : ¬ (s.size : Int) < 1 := by omega
      have g2 : (64 : Int) < (s.size : Int) := by omega
      go_enter Tryz.func60, Tryz.ntmps60
      go_wp2
      go_ret
      exact ⟨by rw [HGN.out]; rfl, rfl⟩

end Go.Proofs.YtjklbhdhjfifhaaGreat

/-
  How many bits a filter has, and how many probes; of the code and of the document's answer.
-/
namespace Go.Proofs.YtjklbhdhjfifhaaGreat
open Go.RowKit
set_option maxRecDepth 100000
set_option maxHeartbeats 1000000
theorem bytesFor_any (n : Nat) (hn : n ≤ 8388608) (w : World) : Calls Tryz.prog 157 #[.int .i64 (n : Nat)] w fun e w' => e = .returned (.int .i64 ((n + 7) / 8 : Nat)) ∧ w' = w := by
  go_enter Tryz.func157, Tryz.ntmps157
  go_wp2_with fail
  go_ret
  exact ⟨ret_int (by omega), rfl⟩
theorem probesFor_any (c : Nat) (h1 : 1 ≤ c) (h2 : c ≤ 64) (w : World) : Calls Tryz.prog 158 #[.int .i64 (c : Nat)] w fun e w' => e = .returned (.int .i64 (kOf c : Nat)) ∧ w' = w := by
  go_enter Tryz.func158, Tryz.ntmps158
  go_wp2_with fail
  all_goals
    go_ret
    exact ⟨ret_int (by unfold kOf; split at * <;> omega), rfl⟩
def mayB (k : Int) : Bool := decide (1 ≤ k ∧ k ≤ 30)
theorem mayProbe_any (k : Int) (w : World) : Calls Tryz.prog 82 #[.int .i64 k] w fun e w' => e = .returned (.bool (mayB k)) ∧ w' = w := by
  by_cases h1 : 1 ≤ k
  · by_cases h2 : k ≤ 30
    · have H := hide (show mayB k = true from decide_eq_true (And.intro h1 h2))
      go_enter Tryz.func82, Tryz.ntmps82
      go_wp2_with fail
      go_ret
      exact ⟨by rw [H.out]; rfl, rfl⟩
    · have H := hide (show mayB k = false from decide_eq_false (fun h : 1 ≤ k ∧ k ≤ 30 => h2 h.2))
      go_enter Tryz.func82, Tryz.ntmps82
      go_wp2_with fail
      go_ret
      exact ⟨by rw [H.out]; rfl, rfl⟩
  · have H := hide (show mayB k = false from decide_eq_false (fun h : 1 ≤ k ∧ k ≤ 30 => h1 h.1))
    go_enter Tryz.func82, Tryz.ntmps82
    go_wp2_with fail
    go_ret
    exact ⟨by rw [H.out]; rfl, rfl⟩
theorem bits_ok (m c : Nat) (h1 : 1 ≤ c) (h2 : c ≤ 64) (h : m * c ≤ 8388608) (w : World) : Calls Tryz.prog 112 #[.int .i64 (m : Nat), .int .i64 (c : Nat)] w fun e w' => e = .returned (.tuple #[.int .i64 (nBits m c : Nat), .int .i64 (kOf c : Nat), .int .i64 0]) ∧ w' = w := by
  have hI : (m : Int) * (c : Int) ≤ 8388608 := by omega
  have hI0 : (0 : Int) ≤ (m : Int) * (c : Int) := by have := Nat.zero_le (m * c); omega
  have h3 : ¬ (8388608 / (c : Int) < m) := fun x => by have := (Int.ediv_lt_iff_lt_mul (by omega)).1 x; omega
  have n1 : ¬ (m : Int) < 0 := by omega
  have n2 : ¬ (c : Int) < 1 := by omega
  have n3 : ¬ 64 < (c : Int) := by omega
  have n4 : ¬ (c : Int) = 0 := by omega
  have hm : m * c ≤ 8388608 := h
  by_cases h64 : (m : Int) * (c : Int) < 64
  · have HN := hide (show (nBits m c : Int) = 64 by have : m * c < 64 := (by omega); unfold nBits; omega)
    clear h hm
    go_enter Tryz.func112, Tryz.ntmps112
    go_wp2_with (first | (go_at_call 157; refine (bytesFor_any 64 (by decide) _).mono ?_; rintro e w1 ⟨rfl, rfl⟩) | (go_at_call 158; refine (probesFor_any _ h1 h2 _).mono ?_; rintro e w1 ⟨rfl, rfl⟩))
    exact bodyPost_ret (v := .tuple #[.int .i64 64, .int .i64 (kOf c : Nat), .int .i64 0]) (by simp [results, Tryz.results112, go_sem]) rfl ⟨by rw [HN.out], rfl⟩
  · have HB := hide (bytesFor_any (m * c) hm)
    have hq : (m * c + 7) / 8 ≤ 1048576 := by omega
    have HN := hide (show (nBits m c : Int) = (((m * c + 7) / 8 : Nat) : Int) * 8 by have : ¬ m * c < 64 := (by omega); unfold nBits; omega)
    rw [Int.natCast_mul] at HB
    generalize (m * c + 7) / 8 = q at *
    clear h hm
    go_enter Tryz.func112, Tryz.ntmps112
    go_wp2_with (first | (go_at_call 157; refine (HB.out _).mono ?_; rintro e w1 ⟨rfl, rfl⟩) | (go_at_call 158; refine (probesFor_any _ h1 h2 _).mono ?_; rintro e w1 ⟨rfl, rfl⟩))
    exact bodyPost_ret (v := .tuple #[.int .i64 ((q : Int) * 8), .int .i64 (kOf c : Nat), .int .i64 0]) (by simp [results, Tryz.results112, go_sem]) rfl ⟨by rw [HN.out], rfl⟩
end Go.Proofs.YtjklbhdhjfifhaaGreat
